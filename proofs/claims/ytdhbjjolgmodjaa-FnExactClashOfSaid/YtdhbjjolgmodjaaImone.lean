/- The contracts of RangeAll, RangeOne and RangeFrom of the program and of RangeFrom of the model over this seat's translation: each makes a new row of the spans that the plain functions tell; nothing that was there before the call has changed. -/
import Derived.Test.YtdhbjjolgmodjaaSpone
import Derived.Test.YtdhbjjolgmodjaaGb
import Derived.Handy
namespace Go.Proofs.Ytdhbjjolgmodjaa
open Go.RowKit Go.Sort

/-- A range by value, in new memory. -/
def RP (L : List (Int × Int)) (w : World) (e : Ending) (w' : World) : Prop := ∃ u, e = .returned (.agg #[u]) ∧ SRes L w.heap.size u w' ∧ Below w.heap.size w w'
theorem RPost.rp {L : List (Int × Int)} {w : World} {e : Ending} {w' : World} (h : RPost L w e w') : RP L w e w' := by
  obtain ⟨v, rfl, ⟨a, cap, rfl, hr⟩, hb⟩ := h
  exact ⟨_, rfl, ⟨a, cap, rfl, hr⟩, hb⟩
theorem none_res (B : Nat) (w : World) : SRes [] B (.slice none 0 0) w := ⟨none, 0, rfl, .inl rfl⟩

def fromL (a b c d : Int) : List (Int × Int) := if vOk a b c d = true then [(vRank a b c d, if a = 0 then vRank 0 b 99 0 else vRank a 99 99 0)] else []

set_option maxHeartbeats 400000 in
theorem rangeOfSpan_any (x y : Int) (w : World) : Calls Try.prog 158 #[.int .i64 x, .int .i64 y] w (RP [(x, y)] w) := by
  have hs := one_span (w.alloc (.cells #[.slice (some ⟨w.heap.size + 1, 0, none⟩) 1 1] 81)) x y
  rw [show (w.alloc (.cells #[.slice (some ⟨w.heap.size + 1, 0, none⟩) 1 1] 81)).heap.size = w.heap.size + 1 from by simp] at hs
  go_enter Try.func158, Try.ntmps158
  go_wp2
  refine bodyPost_ret (v := .agg #[.slice (some ⟨w.heap.size + 1, 0, none⟩) 1 1]) (by simp [results, Try.results158, go_sem]) rfl ⟨_, rfl, ⟨_, _, rfl, .inr ⟨w.heap.size + 1, 1, rfl, ?_, by omega⟩⟩, ?_⟩
  · exact hs
  · go_grown

set_option maxHeartbeats 1000000 in
theorem implOne_any (a b c d : Int) (w : World) : Calls Try.prog 136 #[ver a b c d] w (RP (oneL a b c d) w) := by
  have K := Lib.hid fun V => implOk_any a b c d V
  have R := Lib.hid fun a b c d V => implRank_any a b c d V
  have b0 := ((Below.refl w.heap.size w).alloc (Nat.le_refl _) (.cells #[.int .i64 a, .int .i64 b, .int .i64 c, .int .i64 d] 102)).alloc (by simp) (.cells #[.slice none 0 0] 81)
  have hB : w.heap.size + 2 ≤ ((w.alloc (.cells #[.int .i64 a, .int .i64 b, .int .i64 c, .int .i64 d] 102)).alloc (.cells #[.slice none 0 0] 81)).heap.size := by simp
  have hb := Below.refl (w.heap.size + 2) ((w.alloc (.cells #[.int .i64 a, .int .i64 b, .int .i64 c, .int .i64 d] 102)).alloc (.cells #[.slice none 0 0] 81))
  rcases hk : vOk a b c d
  · have HL := Lib.hid (show oneL a b c d = [] by simp [oneL, hk])
    rw [hk] at K
    clear hk R
    go_enter Try.func136, Try.ntmps136
    go_wp2_with fail
    refine (rel hB hb (K.out _)).mono ?_
    clear hb
    rintro e w1 ⟨rfl, hb⟩
    obtain ⟨hc, hf⟩ := (show (∀ b o, b < w.heap.size + 2 → w1.cell? ⟨b, o, none⟩ = _) ∧ (∀ b o, b < w.heap.size + 2 → w1.frozen? ⟨b, o, none⟩ = _) from ⟨fun b o h => hb.cell (p := ⟨b, o, none⟩) h, fun b o h => hb.frozen (p := ⟨b, o, none⟩) h⟩)
    have hbx := b0.trans (hb.mono (by omega))
    clear hb
    go_wp2_with fail
    exact bodyPost_ret (v := .agg #[.slice none 0 0]) (by simp [results, Try.results136, go_sem, hc]) rfl ⟨_, rfl, by rw [HL.out]; exact none_res _ _, by go_grown⟩
  · have HL := Lib.hid (show oneL a b c d = [(vRank a b c d, vRank a b c d)] by simp [oneL, vRank, hk])
    rw [hk] at K
    clear hk
    go_enter Try.func136, Try.ntmps136
    go_wp2_with fail
    refine (rel hB hb (K.out _)).mono ?_
    clear hb
    rintro e w1 ⟨rfl, hb⟩
    obtain ⟨hc, hf⟩ := (show (∀ b o, b < w.heap.size + 2 → w1.cell? ⟨b, o, none⟩ = _) ∧ (∀ b o, b < w.heap.size + 2 → w1.frozen? ⟨b, o, none⟩ = _) from ⟨fun b o h => hb.cell (p := ⟨b, o, none⟩) h, fun b o h => hb.frozen (p := ⟨b, o, none⟩) h⟩)
    go_wp2_with fail
    go_region_with (first
      | (go_at_call 144; refine (rel hB (by first | exact hb.drew | exact hb) (R.out _ _ _ _ _)).mono ?_; clear hc hf hb; rintro e w1 ⟨rfl, hb⟩; obtain ⟨hc, hf⟩ := (show (∀ b o, b < w.heap.size + 2 → w1.cell? ⟨b, o, none⟩ = _) ∧ (∀ b o, b < w.heap.size + 2 → w1.frozen? ⟨b, o, none⟩ = _) from ⟨fun b o h => hb.cell (p := ⟨b, o, none⟩) h, fun b o h => hb.frozen (p := ⟨b, o, none⟩) h⟩))
      | (go_at_call 158; refine (rangeOfSpan_any _ _ _).mono ?_; clear hc hf; rintro e w3 ⟨u, rfl, hu, hb3⟩; obtain ⟨a3, cap3, rfl, _⟩ := id hu; have hb4 := hb.trans (hb3.mono (by (have := hb.size; simp at this; omega))); have z1 : w.heap.size + 2 ≤ w1.heap.size := (by have := hb.size; simp at this; omega); clear hb; have hb := hb4; clear hb4; obtain ⟨hc, hf⟩ := (show (∀ b o, b < w.heap.size + 2 → w3.cell? ⟨b, o, none⟩ = _) ∧ (∀ b o, b < w.heap.size + 2 → w3.frozen? ⟨b, o, none⟩ = _) from ⟨fun b o h => hb.cell (p := ⟨b, o, none⟩) h, fun b o h => hb.frozen (p := ⟨b, o, none⟩) h⟩)))
    all_goals
      have hbx := b0.trans (hb.mono (by omega))
      have r4 : SRes (oneL a b c d) w.heap.size (.slice a3 1 cap3) (w3.setCell ⟨w.heap.size + 1, 0, none⟩ (.slice a3 1 cap3)) := by rw [HL.out]; exact (hu.kept fun g hg _ => Below.heap_setCell _ _ _ _ (by show g ≠ w.heap.size + 1; omega)).mono (by omega)
      clear hb hb3
      go_wp2_with fail
      exact bodyPost_ret (v := .agg #[.slice a3 1 cap3]) (by simp [results, Try.results136, go_sem, hc]) rfl ⟨_, rfl, r4, by go_grown⟩

end Go.Proofs.Ytdhbjjolgmodjaa
