/- The contracts of RangeAll, RangeOne and RangeFrom of the program and of RangeFrom of the model over this seat's translation: each makes a new row of the spans that the plain functions tell; nothing that was there before the call has changed. -/
import Derived.Test.YtblecmmebmfhiaaSpone
import Derived.Test.YtblecmmebmfhiaaGb
import Derived.Handy
namespace Go.Proofs.Ytblecmmebmfhiaa
open Go.RowKit Go.Sort

/-- A range by value, in new memory. -/
def RP (L : List (Int × Int)) (w : World) (e : Ending) (w' : World) : Prop := ∃ u, e = .returned (.agg #[u]) ∧ SRes L w.heap.size u w' ∧ Below w.heap.size w w'
theorem RPost.rp {L : List (Int × Int)} {w : World} {e : Ending} {w' : World} (h : RPost L w e w') : RP L w e w' := by
  obtain ⟨v, rfl, ⟨a, cap, rfl, hr⟩, hb⟩ := h
  exact ⟨_, rfl, ⟨a, cap, rfl, hr⟩, hb⟩
theorem none_res (B : Nat) (w : World) : SRes [] B (.slice none 0 0) w := ⟨none, 0, rfl, .inl rfl⟩

def fromL (a b c d : Int) : List (Int × Int) := if vOk a b c d = true then [(vRank a b c d, if a = 0 then vRank 0 b 99 0 else vRank a 99 99 0)] else []

set_option maxHeartbeats 400000 in
theorem rangeOfSpan_any (x y : Int) (w : World) : Calls Try.prog 45 #[.int .i64 x, .int .i64 y] w (RP [(x, y)] w) := by
  have hs := one_span (w.alloc (.cells #[.slice (some ⟨w.heap.size + 1, 0, none⟩) 1 1] 36)) x y
  rw [show (w.alloc (.cells #[.slice (some ⟨w.heap.size + 1, 0, none⟩) 1 1] 36)).heap.size = w.heap.size + 1 from by simp] at hs
  go_enter Try.func45, Try.ntmps45
  go_wp2
  refine bodyPost_ret (v := .agg #[.slice (some ⟨w.heap.size + 1, 0, none⟩) 1 1]) (by simp [results, Try.results45, go_sem]) rfl ⟨_, rfl, ⟨_, _, rfl, .inr ⟨w.heap.size + 1, 1, rfl, ?_, by omega⟩⟩, ?_⟩
  · exact hs
  · go_grown

set_option maxHeartbeats 400000 in
theorem implAll_any (w : World) : Calls Try.prog 18 #[] w (RP [(0, 9999999)] w) := by
  go_enter Try.func18, Try.ntmps18
  go_wp2_with fail
  refine (rangeOfSpan_any _ _ _).mono ?_
  rintro e w1 ⟨u, rfl, hu, hb⟩
  obtain ⟨hc, hf⟩ := (show (∀ b o, b < w.heap.size + 1 → w1.cell? ⟨b, o, none⟩ = _) ∧ (∀ b o, b < w.heap.size + 1 → w1.frozen? ⟨b, o, none⟩ = _) from ⟨fun b o h => hb.cell (p := ⟨b, o, none⟩) (by simpa using h), fun b o h => hb.frozen (p := ⟨b, o, none⟩) (by simpa using h)⟩)
  have b1 := ((Below.refl w.heap.size w).alloc (Nat.le_refl _) (.cells #[.slice none 0 0] 36)).trans (hb.mono (by simp))
  have r4 : SRes [(0, 9999999)] w.heap.size u (w1.setCell ⟨w.heap.size, 0, none⟩ u) := (hu.kept fun g hg _ => Below.heap_setCell _ _ _ _ (by simp at hg; show g ≠ w.heap.size; omega)).mono (by simp)
  clear hb hu
  obtain ⟨a3, cap3, rfl, _⟩ := id r4
  go_wp2_with fail
  exact bodyPost_ret (v := .agg #[.slice a3 1 cap3]) (by simp [results, Try.results18, go_sem, hc]) rfl ⟨_, rfl, r4, by go_grown⟩

end Go.Proofs.Ytblecmmebmfhiaa
