/- The contracts of the program's RangeAnd and RangeOr over this seat's translation: each answers as the plain functions of the spans tell. Nothing that was there before the call has changed. Condition: at most 1048576 spans. -/
import Derived.Test.YtdhbjjolgmodjaaImset
namespace Go.Proofs.Ytdhbjjolgmodjaa
open Go.RowKit Go.Sort

set_option maxHeartbeats 2000000 in
theorem implAnd_any (v v' : Value) (A B : Sps) (w : World) (hl : A.length ≤ 1048576) (hm : B.length ≤ 1048576) (h : SpAt w w.heap.size v A) (h' : SpAt w w.heap.size v' B) : Calls Try.prog 129 #[.agg #[v], .agg #[v']] w (TPost (andOk A B) (andR A B) w) := by
  have hh := h
  obtain ⟨a, cap, rfl, _⟩ := hh
  have hh := h'
  obtain ⟨a', cap', rfl, _⟩ := hh
  have K := Lib.hid fun V (hV : SpAt V V.heap.size (.slice a A.length cap) A) => implRangeOk_any a cap A V hl hV
  have K' := Lib.hid fun V (hV : SpAt V V.heap.size (.slice a' B.length cap') B) => implRangeOk_any a' cap' B V hm hV
  have b0 := (((Below.refl w.heap.size w).alloc (Nat.le_refl _) (.cells #[.slice a A.length cap] 81)).alloc (by simp) (.cells #[.slice a' B.length cap'] 81)).alloc (by simp; omega) (.cells #[.slice none 0 0] 81)
  have hB : w.heap.size + 3 ≤ (((w.alloc (.cells #[.slice a A.length cap] 81)).alloc (.cells #[.slice a' B.length cap'] 81)).alloc (.cells #[.slice none 0 0] 81)).heap.size := by simp
  have hb := Below.refl (w.heap.size + 3) (((w.alloc (.cells #[.slice a A.length cap] 81)).alloc (.cells #[.slice a' B.length cap'] 81)).alloc (.cells #[.slice none 0 0] 81))
  have hs := (h.below b0).mono b0.size
  rcases hk : spOk A
  · have HO := Lib.hid (show andOk A B = false by simp [andOk, hk])
    have HR := Lib.hid (show andR A B = [] by simp [andR, hk])
    rw [hk] at K
    clear hk h h' K'
    go_enter Try.func129, Try.ntmps129
    go_wp2_with fail
    refine (rel hB hb (K.out _ hs)).mono ?_
    clear hb hs
    rintro e w1 ⟨rfl, hb⟩
    obtain ⟨hc, hf⟩ := (show (∀ b o, b < w.heap.size + 3 → w1.cell? ⟨b, o, none⟩ = _) ∧ (∀ b o, b < w.heap.size + 3 → w1.frozen? ⟨b, o, none⟩ = _) from ⟨fun b o h => hb.cell (p := ⟨b, o, none⟩) h, fun b o h => hb.frozen (p := ⟨b, o, none⟩) h⟩)
    have b1 := b0.trans (hb.mono (by omega))
    clear hb b0
    go_wp2_with fail
    exact bodyPost_ret (v := .tuple #[.agg #[.slice none 0 0], .bool false]) (by simp [results, Try.results129, go_sem, hc]) rfl ⟨_, by rw [HO.out], by rw [HR.out]; exact res_nil _ _, by go_grown⟩
  rcases hk' : spOk B
  · have HO := Lib.hid (show andOk A B = false by simp [andOk, hk'])
    have HR := Lib.hid (show andR A B = [] by simp [andR, hk'])
    rw [hk] at K
    rw [hk'] at K'
    clear hk hk'
    go_enter Try.func129, Try.ntmps129
    go_wp2_with fail
    refine (rel hB hb (K.out _ hs)).mono ?_
    clear hb hs
    rintro e w1 ⟨rfl, hb⟩
    have hc := cells_of hb
    have b1 := b0.trans (hb.mono (by omega))
    have hs' := (h'.below b1).mono b1.size
    go_wp2_with fail
    refine (rel hB hb (K'.out _ hs')).mono ?_
    clear hb hc hs' b1
    rintro e w2 ⟨rfl, hb⟩
    obtain ⟨hc, hf⟩ := (show (∀ b o, b < w.heap.size + 3 → w2.cell? ⟨b, o, none⟩ = _) ∧ (∀ b o, b < w.heap.size + 3 → w2.frozen? ⟨b, o, none⟩ = _) from ⟨fun b o h => hb.cell (p := ⟨b, o, none⟩) h, fun b o h => hb.frozen (p := ⟨b, o, none⟩) h⟩)
    have b1 := b0.trans (hb.mono (by omega))
    clear hb b0
    go_wp2_with fail
    exact bodyPost_ret (v := .tuple #[.agg #[.slice none 0 0], .bool false]) (by simp [results, Try.results129, go_sem, hc]) rfl ⟨_, by rw [HO.out], by rw [HR.out]; exact res_nil _ _, by go_grown⟩
  · have oA := spOk_iff.1 hk
    have oB := spOk_iff.1 hk'
    have hlen : (andI A B).length ≤ 80 := Nat.le_trans (andI_len (A.length + B.length) (Nat.le_refl _)) (by omega)
    have HO := Lib.hid (show andOk A B = fitOk (andI A B) by simp [andOk, hk, hk'])
    have HR := Lib.hid (show andR A B = fitR (andI A B) by simp [andR, hk, hk'])
    rw [hk] at K
    rw [hk'] at K'
    clear hk hk' oA oB
    go_enter Try.func129, Try.ntmps129
    go_wp2_with fail
    refine (rel hB hb (K.out _ hs)).mono ?_
    clear hb hs
    rintro e w1 ⟨rfl, hb⟩
    have hc := cells_of hb
    have b1 := b0.trans (hb.mono (by omega))
    have hs' := (h'.below b1).mono b1.size
    go_wp2_with fail
    refine (rel hB hb (K'.out _ hs')).mono ?_
    clear hb hc hs' b1
    rintro e w2 ⟨rfl, hb⟩
    have hc := cells_of hb
    have z1 : w.heap.size + 3 ≤ w2.heap.size := by have := hb.size; simp at this; omega
    have b1 := b0.trans (hb.mono (by omega))
    go_wp2_with fail
    refine (spansAnd_any _ _ A B w2 hl hm ((h.below b1).mono b1.size) ((h'.below b1).mono b1.size)).mono ?_
    rintro e w3 ⟨v2, rfl, r2, hb2⟩
    have b2 := b1.trans (hb2.mono b1.size)
    have hbb := hb.trans (hb2.mono z1)
    clear hb hc
    go_wp2_with fail
    refine (rangeOfSpans_res _ _ _ w3 (by omega) r2).mono ?_
    rintro e w4 ⟨v3, rfl, r3, hb3⟩
    have b3 := b2.trans (hb3.mono b2.size)
    have hb := hbb.trans (hb3.mono (by have := hb2.size; omega))
    obtain ⟨hc, hf⟩ := (show (∀ b o, b < w.heap.size + 3 → w4.cell? ⟨b, o, none⟩ = _) ∧ (∀ b o, b < w.heap.size + 3 → w4.frozen? ⟨b, o, none⟩ = _) from ⟨fun b o h => hb.cell (p := ⟨b, o, none⟩) h, fun b o h => hb.frozen (p := ⟨b, o, none⟩) h⟩)
    have r4 : SRes (fitR (andI A B)) w.heap.size v3 (w4.setCell ⟨w.heap.size + 2, 0, none⟩ v3) := (r3.kept fun g hg _ => Below.heap_setCell _ _ _ _ (by show g ≠ w.heap.size + 2; omega)).mono (by have := b1.size; omega)
    clear hbb hb2 hb3 r2 r3 b2 b1 hb
    obtain ⟨a3, cap3, rfl, _⟩ := id r4
    go_wp2_with fail
    exact bodyPost_ret (v := .tuple #[.agg #[.slice a3 (fitR (andI A B)).length cap3], .bool (fitOk (andI A B))]) (by simp [results, Try.results129, go_sem, hc]) rfl ⟨_, by rw [HO.out], by rw [HR.out]; exact r4, by go_grown⟩

end Go.Proofs.Ytdhbjjolgmodjaa
