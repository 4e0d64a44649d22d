/- The contracts of RangeFrom of the program and of the model over this seat's translation: each makes a new row of the span that the plain function tells; nothing that was there before the call has changed. -/
import Derived.Test.YtflmljgmmcdniaaImone
import Derived.Deep.CutRange
namespace Go.Proofs.Ytflmljgmmcdniaa
open Go.RowKit Go.Sort

set_option maxHeartbeats 1000000 in
theorem specFrom_any (a b c d : Int) (w : World) : Calls Try.prog 43 #[ver a b c d] w (RP (fromL a b c d) w) := by
  have K := Lib.hid fun V => specOk_any a b c d V
  have R := Lib.hid fun a b c d V => specRank_any a b c d V
  have b0 := ((Below.refl w.heap.size w).alloc (Nat.le_refl _) (.cells #[.int .i64 a, .int .i64 b, .int .i64 c, .int .i64 d] 43)).alloc (by simp) (.cells #[.slice none 0 0] 28)
  have hB : w.heap.size + 2 ≤ ((w.alloc (.cells #[.int .i64 a, .int .i64 b, .int .i64 c, .int .i64 d] 43)).alloc (.cells #[.slice none 0 0] 28)).heap.size := by simp
  have hb := Below.refl (w.heap.size + 2) ((w.alloc (.cells #[.int .i64 a, .int .i64 b, .int .i64 c, .int .i64 d] 43)).alloc (.cells #[.slice none 0 0] 28))
  rcases hk : vOk a b c d
  · have HL := Lib.hid (show fromL a b c d = [] by simp [fromL, hk])
    rw [hk] at K
    clear hk R
    go_enter Try.func43, Try.ntmps43
    go_wp2_with fail
    refine (rel hB hb (K.out _)).mono ?_
    clear hb
    rintro e w1 ⟨rfl, hb⟩
    obtain ⟨hc, hf⟩ := (show (∀ b o, b < w.heap.size + 2 → w1.cell? ⟨b, o, none⟩ = _) ∧ (∀ b o, b < w.heap.size + 2 → w1.frozen? ⟨b, o, none⟩ = _) from ⟨fun b o h => hb.cell (p := ⟨b, o, none⟩) h, fun b o h => hb.frozen (p := ⟨b, o, none⟩) h⟩)
    have hbx := b0.trans (hb.mono (by omega))
    clear hb
    go_wp2_with fail
    exact bodyPost_ret (v := .agg #[.slice none 0 0]) (by simp [results, Try.results43, go_sem, hc]) rfl ⟨_, rfl, by rw [HL.out]; exact none_res _ _, by go_grown⟩
  · by_cases ha : a = 0
    · have HL := Lib.hid (show fromL a b c d = [(vRank a b c d, vRank 0 b 99 0)] by unfold fromL; rw [if_pos hk, if_pos ha])
      rw [hk] at K
      clear hk
      subst ha
      go_enter Try.func43, Try.ntmps43
      go_wp2_with fail
      refine (rel hB hb (K.out _)).mono ?_
      clear hb
      rintro e w1 ⟨rfl, hb⟩
      have hc := cells_of hb
      go_wp2_with fail
      refine (rel hB hb (R.out _ _ _ _ _)).mono ?_
      clear hb hc
      rintro e w2 ⟨rfl, hb⟩
      have hc := cells_of hb
      go_wp2_with fail
      refine (rel hB hb (R.out _ _ _ _ _)).mono ?_
      clear hb hc
      rintro e w3 ⟨rfl, hb⟩
      have hc := cells_of hb
      go_wp2_with fail
      refine (rel hB hb (R.out _ _ _ _ _)).mono ?_
      clear hb hc
      rintro e w4 ⟨rfl, hb⟩
      obtain ⟨hc, hf⟩ := (show (∀ b o, b < w.heap.size + 2 → w4.cell? ⟨b, o, none⟩ = _) ∧ (∀ b o, b < w.heap.size + 2 → w4.frozen? ⟨b, o, none⟩ = _) from ⟨fun b o h => hb.cell (p := ⟨b, o, none⟩) h, fun b o h => hb.frozen (p := ⟨b, o, none⟩) h⟩)
      have z1 : w.heap.size + 2 ≤ w4.heap.size := by have := hb.size; simp at this; omega
      have z2 : w.heap.size + 1 < w4.heap.size := by omega
      have hbx := b0.trans (hb.mono (by omega))
      clear hb
      go_wp2_with fail
      exact bodyPost_ret (v := .agg #[.slice (some ⟨w4.heap.size, 0, none⟩) 1 1]) (by simp [results, Try.results43, go_sem, hc, z2]) rfl ⟨_, rfl, by rw [HL.out]; exact ⟨_, _, rfl, .inr ⟨w4.heap.size, 1, rfl, one_span_set _ _ _ _ _, by omega⟩⟩, by go_grown⟩
    · have HL := Lib.hid (show fromL a b c d = [(vRank a b c d, vRank a 99 99 0)] by unfold fromL; rw [if_pos hk, if_neg ha])
      rw [hk] at K
      clear hk
      have hz : (a == 0) = false := by simp [ha]
      go_enter Try.func43, Try.ntmps43
      go_wp2_with fail
      refine (rel hB hb (K.out _)).mono ?_
      clear hb
      rintro e w1 ⟨rfl, hb⟩
      have hc := cells_of hb
      go_wp2_with fail
      refine (rel hB hb (R.out _ _ _ _ _)).mono ?_
      clear hb hc
      rintro e w2 ⟨rfl, hb⟩
      have hc := cells_of hb
      go_wp2_with fail
      refine (rel hB hb (R.out _ _ _ _ _)).mono ?_
      clear hb hc
      rintro e w4 ⟨rfl, hb⟩
      obtain ⟨hc, hf⟩ := (show (∀ b o, b < w.heap.size + 2 → w4.cell? ⟨b, o, none⟩ = _) ∧ (∀ b o, b < w.heap.size + 2 → w4.frozen? ⟨b, o, none⟩ = _) from ⟨fun b o h => hb.cell (p := ⟨b, o, none⟩) h, fun b o h => hb.frozen (p := ⟨b, o, none⟩) h⟩)
      have z1 : w.heap.size + 2 ≤ w4.heap.size := by have := hb.size; simp at this; omega
      have z2 : w.heap.size + 1 < w4.heap.size := by omega
      have hbx := b0.trans (hb.mono (by omega))
      clear hb
      go_wp2_with fail
      exact bodyPost_ret (v := .agg #[.slice (some ⟨w4.heap.size, 0, none⟩) 1 1]) (by simp [results, Try.results43, go_sem, hc, z2]) rfl ⟨_, rfl, by rw [HL.out]; exact ⟨_, _, rfl, .inr ⟨w4.heap.size, 1, rfl, one_span_set _ _ _ _ _, by omega⟩⟩, by go_grown⟩

set_option maxHeartbeats 1000000 in
theorem implFrom_any (a b c d : Int) (w : World) : Calls Try.prog 42 #[ver a b c d] w (RP (fromL a b c d) w) := by
  have K := Lib.hid fun V => implOk_any a b c d V
  have R := Lib.hid fun a b c d V => implRank_any a b c d V
  have b0 := ((Below.refl w.heap.size w).alloc (Nat.le_refl _) (.cells #[.int .i64 a, .int .i64 b, .int .i64 c, .int .i64 d] 43)).alloc (by simp) (.cells #[.slice none 0 0] 28)
  have hB : w.heap.size + 2 ≤ ((w.alloc (.cells #[.int .i64 a, .int .i64 b, .int .i64 c, .int .i64 d] 43)).alloc (.cells #[.slice none 0 0] 28)).heap.size := by simp
  have hb := Below.refl (w.heap.size + 2) ((w.alloc (.cells #[.int .i64 a, .int .i64 b, .int .i64 c, .int .i64 d] 43)).alloc (.cells #[.slice none 0 0] 28))
  rcases hk : vOk a b c d
  · have HL := Lib.hid (show fromL a b c d = [] by simp [fromL, hk])
    rw [hk] at K
    clear hk R
    go_enter Try.func42, Try.ntmps42
    go_wp2_with fail
    refine (rel hB hb (K.out _)).mono ?_
    clear hb
    rintro e w1 ⟨rfl, hb⟩
    obtain ⟨hc, hf⟩ := (show (∀ b o, b < w.heap.size + 2 → w1.cell? ⟨b, o, none⟩ = _) ∧ (∀ b o, b < w.heap.size + 2 → w1.frozen? ⟨b, o, none⟩ = _) from ⟨fun b o h => hb.cell (p := ⟨b, o, none⟩) h, fun b o h => hb.frozen (p := ⟨b, o, none⟩) h⟩)
    have hbx := b0.trans (hb.mono (by omega))
    clear hb
    go_wp2_with fail
    exact bodyPost_ret (v := .agg #[.slice none 0 0]) (by simp [results, Try.results42, go_sem, hc]) rfl ⟨_, rfl, by rw [HL.out]; exact none_res _ _, by go_grown⟩
  · by_cases ha : a = 0
    · have HL := Lib.hid (show fromL a b c d = [(vRank a b c d, vRank 0 b 99 0)] by unfold fromL; rw [if_pos hk, if_pos ha])
      rw [hk] at K
      clear hk
      subst ha
      go_enter Try.func42, Try.ntmps42
      go_wp2_with fail
      refine (rel hB hb (K.out _)).mono ?_
      clear hb
      rintro e w1 ⟨rfl, hb⟩
      obtain ⟨hc, hf⟩ := (show (∀ b o, b < w.heap.size + 2 → w1.cell? ⟨b, o, none⟩ = _) ∧ (∀ b o, b < w.heap.size + 2 → w1.frozen? ⟨b, o, none⟩ = _) from ⟨fun b o h => hb.cell (p := ⟨b, o, none⟩) h, fun b o h => hb.frozen (p := ⟨b, o, none⟩) h⟩)
      have bw1 := b0.trans (hb.mono (by omega))
      have zw1 : w.heap.size + 2 ≤ w1.heap.size := by have := hb.size; simp at this; omega
      have z0 : w.heap.size < w1.heap.size := by omega
      have z1 : w.heap.size + 1 < w1.heap.size := by omega
      have z2 : w.heap.size < w1.heap.size + 1 := by omega
      have z3 : w.heap.size + 1 < w1.heap.size + 1 := by omega
      clear hb
      go_upto_region 6 with fail
      have hB2 : w1.heap.size + 1 ≤ (w1.alloc (.cells #[.int .i64 0, .int .i64 b, .int .i64 99, .int .i64 0] 43)).heap.size := by simp
      have hb := Below.refl (w1.heap.size + 1) (w1.alloc (.cells #[.int .i64 0, .int .i64 b, .int .i64 99, .int .i64 0] 43))
      have bw2 := bw1.alloc (by omega) (.cells #[.int .i64 0, .int .i64 b, .int .i64 99, .int .i64 0] 43)
      go_region_with (first
        | (go_at_call 65; refine (rel hB2 (by first | exact hb.drew | exact hb) (R.out _ _ _ _ _)).mono ?_; (try clear hc2 hf2); clear hb; rintro e w2 ⟨rfl, hb⟩; obtain ⟨hc2, hf2⟩ := (show (∀ b o, b < w1.heap.size + 1 → w2.cell? ⟨b, o, none⟩ = _) ∧ (∀ b o, b < w1.heap.size + 1 → w2.frozen? ⟨b, o, none⟩ = _) from ⟨fun b o h => hb.cell (p := ⟨b, o, none⟩) h, fun b o h => hb.frozen (p := ⟨b, o, none⟩) h⟩))
        | (go_at_call 61; refine (rangeOfSpan_any _ _ _).mono ?_; (try clear hc2 hf2); rintro e w3 ⟨u, rfl, hu, hb3⟩; obtain ⟨a3, cap3, rfl, _⟩ := id hu; have y1 : w1.heap.size + 1 ≤ w2.heap.size := (by have := hb.size; simp at this; omega); have hb4 := hb.trans (hb3.mono y1); clear hb; have hb := hb4; clear hb4; obtain ⟨hc2, hf2⟩ := (show (∀ b o, b < w1.heap.size + 1 → w3.cell? ⟨b, o, none⟩ = _) ∧ (∀ b o, b < w1.heap.size + 1 → w3.frozen? ⟨b, o, none⟩ = _) from ⟨fun b o h => hb.cell (p := ⟨b, o, none⟩) h, fun b o h => hb.frozen (p := ⟨b, o, none⟩) h⟩)))
      all_goals
        have hbx := bw2.trans (hb.mono (by omega))
        have r4 : SRes (fromL 0 b c d) w.heap.size (.slice a3 1 cap3) (w3.setCell ⟨w.heap.size + 1, 0, none⟩ (.slice a3 1 cap3)) := by rw [HL.out]; exact (hu.kept fun g hg _ => Below.heap_setCell _ _ _ _ (by show g ≠ w.heap.size + 1; omega)).mono (by omega)
        clear hb hb3
        go_wp2_with fail
        exact bodyPost_ret (v := .agg #[.slice a3 1 cap3]) (by simp [results, Try.results42, go_sem, hc, hc2, z1, z3]) rfl ⟨_, rfl, r4, by go_grown⟩
    · have HL := Lib.hid (show fromL a b c d = [(vRank a b c d, vRank a 99 99 0)] by unfold fromL; rw [if_pos hk, if_neg ha])
      rw [hk] at K
      clear hk
      have hz : (a == 0) = false := by simp [ha]
      go_enter Try.func42, Try.ntmps42
      go_wp2_with fail
      refine (rel hB hb (K.out _)).mono ?_
      clear hb
      rintro e w1 ⟨rfl, hb⟩
      obtain ⟨hc, hf⟩ := (show (∀ b o, b < w.heap.size + 2 → w1.cell? ⟨b, o, none⟩ = _) ∧ (∀ b o, b < w.heap.size + 2 → w1.frozen? ⟨b, o, none⟩ = _) from ⟨fun b o h => hb.cell (p := ⟨b, o, none⟩) h, fun b o h => hb.frozen (p := ⟨b, o, none⟩) h⟩)
      have bw1 := b0.trans (hb.mono (by omega))
      have zw1 : w.heap.size + 2 ≤ w1.heap.size := by have := hb.size; simp at this; omega
      have z0 : w.heap.size < w1.heap.size := by omega
      have z1 : w.heap.size + 1 < w1.heap.size := by omega
      have z2 : w.heap.size < w1.heap.size + 1 := by omega
      have z3 : w.heap.size + 1 < w1.heap.size + 1 := by omega
      clear hb
      go_upto_region 6 with fail
      have hB2 : w1.heap.size + 1 ≤ (w1.alloc (.cells #[.int .i64 a, .int .i64 99, .int .i64 99, .int .i64 0] 43)).heap.size := by simp
      have hb := Below.refl (w1.heap.size + 1) (w1.alloc (.cells #[.int .i64 a, .int .i64 99, .int .i64 99, .int .i64 0] 43))
      have bw2 := bw1.alloc (by omega) (.cells #[.int .i64 a, .int .i64 99, .int .i64 99, .int .i64 0] 43)
      go_region_with (first
        | (go_at_call 65; refine (rel hB2 (by first | exact hb.drew | exact hb) (R.out _ _ _ _ _)).mono ?_; (try clear hc2 hf2); clear hb; rintro e w2 ⟨rfl, hb⟩; obtain ⟨hc2, hf2⟩ := (show (∀ b o, b < w1.heap.size + 1 → w2.cell? ⟨b, o, none⟩ = _) ∧ (∀ b o, b < w1.heap.size + 1 → w2.frozen? ⟨b, o, none⟩ = _) from ⟨fun b o h => hb.cell (p := ⟨b, o, none⟩) h, fun b o h => hb.frozen (p := ⟨b, o, none⟩) h⟩))
        | (go_at_call 61; refine (rangeOfSpan_any _ _ _).mono ?_; (try clear hc2 hf2); rintro e w3 ⟨u, rfl, hu, hb3⟩; obtain ⟨a3, cap3, rfl, _⟩ := id hu; have y1 : w1.heap.size + 1 ≤ w2.heap.size := (by have := hb.size; simp at this; omega); have hb4 := hb.trans (hb3.mono y1); clear hb; have hb := hb4; clear hb4; obtain ⟨hc2, hf2⟩ := (show (∀ b o, b < w1.heap.size + 1 → w3.cell? ⟨b, o, none⟩ = _) ∧ (∀ b o, b < w1.heap.size + 1 → w3.frozen? ⟨b, o, none⟩ = _) from ⟨fun b o h => hb.cell (p := ⟨b, o, none⟩) h, fun b o h => hb.frozen (p := ⟨b, o, none⟩) h⟩)))
      all_goals
        have hbx := bw2.trans (hb.mono (by omega))
        have r4 : SRes (fromL a b c d) w.heap.size (.slice a3 1 cap3) (w3.setCell ⟨w.heap.size + 1, 0, none⟩ (.slice a3 1 cap3)) := by rw [HL.out]; exact (hu.kept fun g hg _ => Below.heap_setCell _ _ _ _ (by show g ≠ w.heap.size + 1; omega)).mono (by omega)
        clear hb hb3
        go_wp2_with fail
        exact bodyPost_ret (v := .agg #[.slice a3 1 cap3]) (by simp [results, Try.results42, go_sem, hc, hc2, z1, z3]) rfl ⟨_, rfl, r4, by go_grown⟩

end Go.Proofs.Ytflmljgmmcdniaa
