/- The contracts of RangeFrom of the program and of the model over this seat's translation: each makes a new row of the span that the plain function tells; nothing that was there before the call has changed. -/
import Derived.Test.YtgnjhmmedogcoaaImone
import Derived.Deep.CutRange
namespace Go.Proofs.Ytgnjhmmedogcoaa
open Go.RowKit Go.Sort

set_option maxHeartbeats 1000000 in
theorem specRFrom_any (a b c d : Int) (w : World) : Calls Try.prog 101 #[ver a b c d] w (RP (fromL a b c d) w) := by
  have K := Lib.hid fun V => specOk_any a b c d V
  have R := Lib.hid fun a b c d V => specRank_any a b c d V
  have b0 := ((Below.refl w.heap.size w).alloc (Nat.le_refl _) (.cells #[.int .i64 a, .int .i64 b, .int .i64 c, .int .i64 d] 61)).alloc (by simp) (.cells #[.slice none 0 0] 57)
  have hB : w.heap.size + 2 ≤ ((w.alloc (.cells #[.int .i64 a, .int .i64 b, .int .i64 c, .int .i64 d] 61)).alloc (.cells #[.slice none 0 0] 57)).heap.size := by simp
  have hb := Below.refl (w.heap.size + 2) ((w.alloc (.cells #[.int .i64 a, .int .i64 b, .int .i64 c, .int .i64 d] 61)).alloc (.cells #[.slice none 0 0] 57))
  rcases hk : vOk a b c d
  · have HL := Lib.hid (show fromL a b c d = [] by simp [fromL, hk])
    rw [hk] at K
    clear hk R
    go_enter Try.func101, Try.ntmps101
    go_wp2_with fail
    refine (rel hB hb (K.out _)).mono ?_
    clear hb
    rintro e w1 ⟨rfl, hb⟩
    obtain ⟨hc, hf⟩ := (show (∀ b o, b < w.heap.size + 2 → w1.cell? ⟨b, o, none⟩ = _) ∧ (∀ b o, b < w.heap.size + 2 → w1.frozen? ⟨b, o, none⟩ = _) from ⟨fun b o h => hb.cell (p := ⟨b, o, none⟩) h, fun b o h => hb.frozen (p := ⟨b, o, none⟩) h⟩)
    have hbx := b0.trans (hb.mono (by omega))
    clear hb
    go_wp2_with fail
    exact bodyPost_ret (v := .agg #[.slice none 0 0]) (by simp [results, Try.results101, go_sem, hc]) rfl ⟨_, rfl, by rw [HL.out]; exact none_res _ _, by go_grown⟩
  · by_cases ha : a = 0
    · have HL := Lib.hid (show fromL a b c d = [(vRank a b c d, vRank 0 b 99 0)] by unfold fromL; rw [if_pos hk, if_pos ha])
      rw [hk] at K
      clear hk
      subst ha
      go_enter Try.func101, Try.ntmps101
      go_wp2_with fail
      refine (rel hB hb (K.out _)).mono ?_
      clear hb
      rintro e w1 ⟨rfl, hb⟩
      have hc := cells_of hb
      go_wp2_with fail
      refine (rel hB hb (R.out _ _ _ _ _)).mono ?_
      clear hb hc
      rintro e w2 ⟨rfl, hb⟩
      have hc := cells_of hb
      go_wp2_with fail
      refine (rel hB hb (R.out _ _ _ _ _)).mono ?_
      clear hb hc
      rintro e w3 ⟨rfl, hb⟩
      have hc := cells_of hb
      go_wp2_with fail
      refine (rel hB hb (R.out _ _ _ _ _)).mono ?_
      clear hb hc
      rintro e w4 ⟨rfl, hb⟩
      obtain ⟨hc, hf⟩ := (show (∀ b o, b < w.heap.size + 2 → w4.cell? ⟨b, o, none⟩ = _) ∧ (∀ b o, b < w.heap.size + 2 → w4.frozen? ⟨b, o, none⟩ = _) from ⟨fun b o h => hb.cell (p := ⟨b, o, none⟩) h, fun b o h => hb.frozen (p := ⟨b, o, none⟩) h⟩)
      have z1 : w.heap.size + 2 ≤ w4.heap.size := by have := hb.size; simp at this; omega
      have z2 : w.heap.size + 1 < w4.heap.size := by omega
      have hbx := b0.trans (hb.mono (by omega))
      clear hb
      go_wp2_with fail
      exact bodyPost_ret (v := .agg #[.slice (some ⟨w4.heap.size, 0, none⟩) 1 1]) (by simp [results, Try.results101, go_sem, hc, z2]) rfl ⟨_, rfl, by rw [HL.out]; exact ⟨_, _, rfl, .inr ⟨w4.heap.size, 1, rfl, one_span_set _ _ _ _ _, by omega⟩⟩, by go_grown⟩
    · have HL := Lib.hid (show fromL a b c d = [(vRank a b c d, vRank a 99 99 0)] by unfold fromL; rw [if_pos hk, if_neg ha])
      rw [hk] at K
      clear hk
      have hz : (a == 0) = false := by simp [ha]
      go_enter Try.func101, Try.ntmps101
      go_wp2_with fail
      refine (rel hB hb (K.out _)).mono ?_
      clear hb
      rintro e w1 ⟨rfl, hb⟩
      have hc := cells_of hb
      go_wp2_with fail
      refine (rel hB hb (R.out _ _ _ _ _)).mono ?_
      clear hb hc
      rintro e w2 ⟨rfl, hb⟩
      have hc := cells_of hb
      go_wp2_with fail
      refine (rel hB hb (R.out _ _ _ _ _)).mono ?_
      clear hb hc
      rintro e w4 ⟨rfl, hb⟩
      obtain ⟨hc, hf⟩ := (show (∀ b o, b < w.heap.size + 2 → w4.cell? ⟨b, o, none⟩ = _) ∧ (∀ b o, b < w.heap.size + 2 → w4.frozen? ⟨b, o, none⟩ = _) from ⟨fun b o h => hb.cell (p := ⟨b, o, none⟩) h, fun b o h => hb.frozen (p := ⟨b, o, none⟩) h⟩)
      have z1 : w.heap.size + 2 ≤ w4.heap.size := by have := hb.size; simp at this; omega
      have z2 : w.heap.size + 1 < w4.heap.size := by omega
      have hbx := b0.trans (hb.mono (by omega))
      clear hb
      go_wp2_with fail
      exact bodyPost_ret (v := .agg #[.slice (some ⟨w4.heap.size, 0, none⟩) 1 1]) (by simp [results, Try.results101, go_sem, hc, z2]) rfl ⟨_, rfl, by rw [HL.out]; exact ⟨_, _, rfl, .inr ⟨w4.heap.size, 1, rfl, one_span_set _ _ _ _ _, by omega⟩⟩, by go_grown⟩

end Go.Proofs.Ytgnjhmmedogcoaa
