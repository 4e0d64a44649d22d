/- The contracts of RangeAll, RangeOne and RangeFrom of the program and of RangeFrom of the model over this seat's translation: each makes a new row of the spans that the plain functions tell; nothing that was there before the call has changed. -/
import Derived.Test.YtmhamoeibkpnpaaSpone
import Derived.Test.YtmhamoeibkpnpaaGb
import Derived.Handy
namespace Go.Proofs.Ytmhamoeibkpnpaa
open Go.RowKit Go.Sort

/-- A range by value, in new memory. -/
def RP (L : List (Int × Int)) (w : World) (e : Ending) (w' : World) : Prop := ∃ u, e = .returned (.agg #[u]) ∧ SRes L w.heap.size u w' ∧ Below w.heap.size w w'
theorem RPost.rp {L : List (Int × Int)} {w : World} {e : Ending} {w' : World} (h : RPost L w e w') : RP L w e w' := by
  obtain ⟨v, rfl, ⟨a, cap, rfl, hr⟩, hb⟩ := h
  exact ⟨_, rfl, ⟨a, cap, rfl, hr⟩, hb⟩
theorem none_res (B : Nat) (w : World) : SRes [] B (.slice none 0 0) w := ⟨none, 0, rfl, .inl rfl⟩

def fromL (a b c d : Int) : List (Int × Int) := if vOk a b c d = true then [(vRank a b c d, if a = 0 then vRank 0 b 99 0 else vRank a 99 99 0)] else []

end Go.Proofs.Ytmhamoeibkpnpaa
