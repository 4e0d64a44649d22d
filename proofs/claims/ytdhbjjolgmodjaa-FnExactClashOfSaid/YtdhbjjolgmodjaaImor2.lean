/- The contract of the program's RangeOr over this seat's translation: it answers as the plain functions of the spans tell. Nothing that was there before the call has changed. Condition: at most 1048576 spans. -/
import Derived.Test.YtdhbjjolgmodjaaImset
namespace Go.Proofs.Ytdhbjjolgmodjaa
open Go.RowKit Go.Sort

set_option maxHeartbeats 2000000 in
theorem implOr_any (v v' : Value) (A B : Sps) (w : World) (hl : A.length ≤ 1048576) (hm : B.length ≤ 1048576) (h : SpAt w w.heap.size v A) (h' : SpAt w w.heap.size v' B) : Calls Try.prog 127 #[.agg #[v], .agg #[v']] w (TPost (orOk A B) (orR A B) w) := by
  have hh := h
  obtain ⟨a, cap, rfl, _⟩ := hh
  have hh := h'
  obtain ⟨a', cap', rfl, _⟩ := hh
  have K := Lib.hid fun V (hV : SpAt V V.heap.size (.slice a A.length cap) A) => implRangeOk_any a cap A V hl hV
  have K' := Lib.hid fun V (hV : SpAt V V.heap.size (.slice a' B.length cap') B) => implRangeOk_any a' cap' B V hm hV
  have b0 := (((Below.refl w.heap.size w).alloc (Nat.le_refl _) (.cells #[.slice a A.length cap] 81)).alloc (by simp) (.cells #[.slice a' B.length cap'] 81)).alloc (by simp; omega) (.cells #[.slice none 0 0] 81)
  have hB : w.heap.size + 3 ≤ (((w.alloc (.cells #[.slice a A.length cap] 81)).alloc (.cells #[.slice a' B.length cap'] 81)).alloc (.cells #[.slice none 0 0] 81)).heap.size := by simp
  have hb := Below.refl (w.heap.size + 3) (((w.alloc (.cells #[.slice a A.length cap] 81)).alloc (.cells #[.slice a' B.length cap'] 81)).alloc (.cells #[.slice none 0 0] 81))
  have hs := (h.below b0).mono b0.size
  rcases hk : spOk A
  · have HO := Lib.hid (show orOk A B = false by simp [orOk, hk])
    have HR := Lib.hid (show orR A B = [] by simp [orR, hk])
    rw [hk] at K
    clear hk h h' K'
    go_enter Try.func127, Try.ntmps127
    go_wp2_with fail
    refine (rel hB hb (K.out _ hs)).mono ?_
    clear hb hs
    rintro e w1 ⟨rfl, hb⟩
    obtain ⟨hc, hf⟩ := (show (∀ b o, b < w.heap.size + 3 → w1.cell? ⟨b, o, none⟩ = _) ∧ (∀ b o, b < w.heap.size + 3 → w1.frozen? ⟨b, o, none⟩ = _) from ⟨fun b o h => hb.cell (p := ⟨b, o, none⟩) h, fun b o h => hb.frozen (p := ⟨b, o, none⟩) h⟩)
    have b1 := b0.trans (hb.mono (by omega))
    clear hb b0
    go_wp2_with fail
    exact bodyPost_ret (v := .tuple #[.agg #[.slice none 0 0], .bool false]) (by simp [results, Try.results127, go_sem, hc]) rfl ⟨_, by rw [HO.out], by rw [HR.out]; exact res_nil _ _, by go_grown⟩
  rcases hk' : spOk B
  · have HO := Lib.hid (show orOk A B = false by simp [orOk, hk'])
    have HR := Lib.hid (show orR A B = [] by simp [orR, hk'])
    rw [hk] at K
    rw [hk'] at K'
    clear hk hk'
    go_enter Try.func127, Try.ntmps127
    go_wp2_with fail
    refine (rel hB hb (K.out _ hs)).mono ?_
    clear hb hs
    rintro e w1 ⟨rfl, hb⟩
    have hc := cells_of hb
    have b1 := b0.trans (hb.mono (by omega))
    have hs' := (h'.below b1).mono b1.size
    go_wp2_with fail
    refine (rel hB hb (K'.out _ hs')).mono ?_
    clear hb hc hs' b1
    rintro e w2 ⟨rfl, hb⟩
    obtain ⟨hc, hf⟩ := (show (∀ b o, b < w.heap.size + 3 → w2.cell? ⟨b, o, none⟩ = _) ∧ (∀ b o, b < w.heap.size + 3 → w2.frozen? ⟨b, o, none⟩ = _) from ⟨fun b o h => hb.cell (p := ⟨b, o, none⟩) h, fun b o h => hb.frozen (p := ⟨b, o, none⟩) h⟩)
    have b1 := b0.trans (hb.mono (by omega))
    clear hb b0
    go_wp2_with fail
    exact bodyPost_ret (v := .tuple #[.agg #[.slice none 0 0], .bool false]) (by simp [results, Try.results127, go_sem, hc]) rfl ⟨_, by rw [HO.out], by rw [HR.out]; exact res_nil _ _, by go_grown⟩
  · have oA := spOk_iff.1 hk
    have oB := spOk_iff.1 hk'
    have lA : (notL A).length ≤ 41 := Nat.le_trans notFrom_len (by omega)
    have lB : (notL B).length ≤ 41 := Nat.le_trans notFrom_len (by omega)
    have lN : (andI (notL A) (notL B)).length ≤ 82 := Nat.le_trans (andI_len ((notL A).length + (notL B).length) (Nat.le_refl _)) (by omega)
    have hlen : (orI A B).length ≤ 83 := Nat.le_trans notFrom_len (by omega)
    have hwN := andI_wf0 (notL_wf oA.1) (notL_wf oB.1)
    have HO := Lib.hid (show orOk A B = fitOk (orI A B) by simp [orOk, hk, hk'])
    have HR := Lib.hid (show orR A B = fitR (orI A B) by simp [orR, hk, hk'])
    have hA : Hid (∀ V, Below w.heap.size w V → Calls Try.prog 153 #[.slice a A.length cap] V (SPost (notL A) V)) := Lib.hid fun V hV => spansNot_any _ A V hl oA.1 ((h.below hV).mono hV.size)
    have hA' : Hid (∀ V, Below w.heap.size w V → Calls Try.prog 153 #[.slice a' B.length cap'] V (SPost (notL B) V)) := Lib.hid fun V hV => spansNot_any _ B V hm oB.1 ((h'.below hV).mono hV.size)
    obtain ⟨N, hN⟩ : ∃ N, andI (notL A) (notL B) = N := ⟨_, rfl⟩
    have HN := Lib.hid hN
    have KN : Hid (∀ u u' V, SpAt V V.heap.size u (notL A) → SpAt V V.heap.size u' (notL B) → Calls Try.prog 152 #[u, u'] V (SPost N V)) := Lib.hid fun u u' V k k' => by rw [← HN.out]; exact spansAnd_any u u' _ _ V (by omega) (by omega) k k'
    rw [hk] at K
    rw [hk'] at K'
    rw [hN] at hwN lN
    clear hk hk' oA oB hN lA lB
    go_enter Try.func127, Try.ntmps127
    go_wp2_with fail
    refine (rel hB hb (K.out _ hs)).mono ?_
    clear hb hs
    rintro e w1 ⟨rfl, hb⟩
    have hc := cells_of hb
    have b1 := b0.trans (hb.mono (by omega))
    have hs' := (h'.below b1).mono b1.size
    go_wp2_with fail
    refine (rel hB hb (K'.out _ hs')).mono ?_
    clear hb hc hs' b1
    rintro e w2 ⟨rfl, hb⟩
    have hc := cells_of hb
    have c2 : w2.cell? ⟨w.heap.size, 0, none⟩ = some (.slice a A.length cap) := (hc _ _ (by omega)).trans (by go_simp)
    have c3 : w2.cell? ⟨w.heap.size + 1, 0, none⟩ = some (.slice a' B.length cap') := (hc _ _ (by omega)).trans (by go_simp)
    have z1 : w.heap.size + 3 ≤ w2.heap.size := by have := hb.size; simp at this; omega
    have b1 := b0.trans (hb.mono (by omega))
    clear b0 hc
    go_upto_region 3 with fail
    go_cut [6] from 7 (fun p wx => SRes N w2.heap.size p wx ∧ Below w2.heap.size w2 wx)
    case first =>
      go_region_with (first
        | (go_at_call 153; (with_reducible refine (hA.out _ ?_).mono ?_); (focus go_grown); rintro e wA ⟨vA, rfl, rA, hbA⟩; have bA : Below w.heap.size w wA := (by first | exact b1.drew.trans (hbA.mono b1.size) | exact bB.trans (hbA.mono bB.size)); have c2 : wA.cell? ⟨w.heap.size, 0, none⟩ = some (.slice a A.length cap) := (by first | exact (hbA.cell (p := ⟨w.heap.size, 0, none⟩) (by show w.heap.size < w2.heap.size; omega)).trans c2 | exact (hbA.cell (p := ⟨w.heap.size, 0, none⟩) (by have := hbB.size; show w.heap.size < wB.heap.size; simp at this; omega)).trans c2); have c3 : wA.cell? ⟨w.heap.size + 1, 0, none⟩ = some (.slice a' B.length cap') := (by first | exact (hbA.cell (p := ⟨w.heap.size + 1, 0, none⟩) (by show w.heap.size + 1 < w2.heap.size; omega)).trans c3 | exact (hbA.cell (p := ⟨w.heap.size + 1, 0, none⟩) (by have := hbB.size; show w.heap.size + 1 < wB.heap.size; simp at this; omega)).trans c3))
        | (go_at_call 153; (with_reducible refine (hA'.out _ ?_).mono ?_); (focus go_grown); rintro e wB ⟨vB, rfl, rB, hbB⟩; have bB : Below w.heap.size w wB := (by first | exact b1.drew.trans (hbB.mono b1.size) | exact bA.trans (hbB.mono bA.size)); have c2 : wB.cell? ⟨w.heap.size, 0, none⟩ = some (.slice a A.length cap) := (by first | exact (hbB.cell (p := ⟨w.heap.size, 0, none⟩) (by show w.heap.size < w2.heap.size; omega)).trans c2 | exact (hbB.cell (p := ⟨w.heap.size, 0, none⟩) (by have := hbA.size; show w.heap.size < wA.heap.size; simp at this; omega)).trans c2); have c3 : wB.cell? ⟨w.heap.size + 1, 0, none⟩ = some (.slice a' B.length cap') := (by first | exact (hbB.cell (p := ⟨w.heap.size + 1, 0, none⟩) (by show w.heap.size + 1 < w2.heap.size; omega)).trans c3 | exact (hbB.cell (p := ⟨w.heap.size + 1, 0, none⟩) (by have := hbA.size; show w.heap.size + 1 < wA.heap.size; simp at this; omega)).trans c3))
        | (go_at_call 152; refine (KN.out _ _ _ (rA.below hbB).at rB.at).mono ?_; rintro e w3 ⟨v3, rfl, r3, hb3⟩)
        | (go_at_call 152; refine (KN.out _ _ _ rA.at (rB.below hbA).at).mono ?_; rintro e w3 ⟨v3, rfl, r3, hb3⟩))
      all_goals
        have s1 := hbA.size
        have s2 := hbB.size
        go_wp2_with fail
        go_meet
        case rel => exact ⟨r3.mono (by simp at s1 s2; omega), by first | exact ((Below.refl w2.heap.size w2).drew.trans hbA).trans ((hbB.mono s1).trans (hb3.mono (Nat.le_trans s1 s2))) | exact ((Below.refl w2.heap.size w2).drew.trans hbB).trans ((hbA.mono s2).trans (hb3.mono (Nat.le_trans s2 s1)))⟩
    case rest =>
      obtain ⟨r2, hb2⟩ := hcut
      clear c2 c3
      have b2 := b1.trans (hb2.mono b1.size)
      have hbb := hb.trans (hb2.mono z1)
      clear hb
      have hrr := r2.at
      obtain ⟨a2, cap2, rfl, _⟩ := id r2
      go_wp2_with fail
      refine (spansNot_any _ N wc (by omega) hwN hrr).mono ?_
      rintro e w4 ⟨v4, rfl, r4, hb4⟩
      have b4 := b2.trans (hb4.mono b2.size)
      have hbb4 := hbb.trans (hb4.mono (by have := hb2.size; omega))
      go_wp2_with fail
      refine (rangeOfSpans_res _ (notL N) _ w4 (by rw [← HN.out]; exact Nat.le_trans hlen (by omega)) r4).mono ?_
      rintro e w5 ⟨v5, rfl, r5, hb5⟩
      have b5 := b4.trans (hb5.mono b4.size)
      have hb := hbb4.trans (hb5.mono (by have := hb2.size; have := hb4.size; omega))
      obtain ⟨hc, hf⟩ := (show (∀ b o, b < w.heap.size + 3 → w5.cell? ⟨b, o, none⟩ = _) ∧ (∀ b o, b < w.heap.size + 3 → w5.frozen? ⟨b, o, none⟩ = _) from ⟨fun b o h => hb.cell (p := ⟨b, o, none⟩) h, fun b o h => hb.frozen (p := ⟨b, o, none⟩) h⟩)
      have r6 : SRes (fitR (notL N)) w.heap.size v5 (w5.setCell ⟨w.heap.size + 2, 0, none⟩ v5) := (r5.kept fun g hg _ => Below.heap_setCell _ _ _ _ (by have := hb2.size; show g ≠ w.heap.size + 2; omega)).mono (by have := b2.size; omega)
      have HO' := Lib.hid (show orOk A B = fitOk (notL N) by rw [HO.out, ← HN.out]; rfl)
      have HR' := Lib.hid (show orR A B = fitR (notL N) by rw [HR.out, ← HN.out]; rfl)
      clear hbb hbb4 hb2 hb4 hb5 r2 r4 r5 b2 b1 b4 hb hrr
      obtain ⟨a3, cap3, rfl, _⟩ := id r6
      go_wp2_with fail
      exact bodyPost_ret (v := .tuple #[.agg #[.slice a3 (fitR (notL N)).length cap3], .bool (fitOk (notL N))]) (by simp [results, Try.results127, go_sem, hc]) rfl ⟨_, by rw [HO'.out], by rw [HR'.out]; exact r6, by go_grown⟩

end Go.Proofs.Ytdhbjjolgmodjaa
