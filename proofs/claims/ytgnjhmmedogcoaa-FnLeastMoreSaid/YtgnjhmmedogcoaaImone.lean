/- The contracts of RangeAll, RangeOne and RangeFrom of the program and of RangeFrom of the model over this seat's translation: each makes a new row of the spans that the plain functions tell; nothing that was there before the call has changed. -/
import Derived.Test.YtgnjhmmedogcoaaSpone
import Derived.Test.YtgnjhmmedogcoaaGb
import Derived.Handy
namespace Go.Proofs.Ytgnjhmmedogcoaa
open Go.RowKit Go.Sort

/-- A range by value, in new memory. -/
def RP (L : List (Int × Int)) (w : World) (e : Ending) (w' : World) : Prop := ∃ u, e = .returned (.agg #[u]) ∧ SRes L w.heap.size u w' ∧ Below w.heap.size w w'
theorem RPost.rp {L : List (Int × Int)} {w : World} {e : Ending} {w' : World} (h : RPost L w e w') : RP L w e w' := by
  obtain ⟨v, rfl, ⟨a, cap, rfl, hr⟩, hb⟩ := h
  exact ⟨_, rfl, ⟨a, cap, rfl, hr⟩, hb⟩
theorem none_res (B : Nat) (w : World) : SRes [] B (.slice none 0 0) w := ⟨none, 0, rfl, .inl rfl⟩

def fromL (a b c d : Int) : List (Int × Int) := if vOk a b c d = true then [(vRank a b c d, if a = 0 then vRank 0 b 99 0 else vRank a 99 99 0)] else []

set_option maxHeartbeats 400000 in
theorem rangeOfSpan_any (x y : Int) (w : World) : Calls Try.prog 68 #[.int .i64 x, .int .i64 y] w (RP [(x, y)] w) := by
  have hs := one_span (w.alloc (.cells #[.slice (some ⟨w.heap.size + 1, 0, none⟩) 1 1] 57)) x y
  rw [show (w.alloc (.cells #[.slice (some ⟨w.heap.size + 1, 0, none⟩) 1 1] 57)).heap.size = w.heap.size + 1 from by simp] at hs
  go_enter Try.func68, Try.ntmps68
  go_wp2
  refine bodyPost_ret (v := .agg #[.slice (some ⟨w.heap.size + 1, 0, none⟩) 1 1]) (by simp [results, Try.results68, go_sem]) rfl ⟨_, rfl, ⟨_, _, rfl, .inr ⟨w.heap.size + 1, 1, rfl, ?_, by omega⟩⟩, ?_⟩
  · exact hs
  · go_grown

end Go.Proofs.Ytgnjhmmedogcoaa
