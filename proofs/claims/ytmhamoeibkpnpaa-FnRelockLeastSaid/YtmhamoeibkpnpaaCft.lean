/- The contract of the model's ChoiceFault, over this seat's translation, as the plain function faultF tells it; nothing that was there before the call has changed. Condition: at most 1048576 of each row and of what is in it. -/
import Derived.Test.YtmhamoeibkpnpaaCfs
namespace Go.Proofs.Ytmhamoeibkpnpaa
open Go.RowKit Go.Sort

namespace Cfa
open Foot Copy Nup Cpu Pkf
theorem there_at {S : List Rel} {x : Pk} (h : thereP S x = true) : ∃ i, ∃ h : i < S.length, shFind x.1 x.2 0 S = (i : Int) ∧ goneAt S x = S[i].2.2.1 ∧ ndsOf S x = S[i].2.2.2 := by
  have hp := of_decide_eq_true h
  rcases shFind_range x.1 x.2 S 0 with hf | ⟨j, hf, hj⟩
  · rw [hf] at hp; omega
  · rw [Nat.zero_add] at hf
    refine ⟨j, hj, hf, ?_, ?_⟩
    · unfold goneAt
      rw [hf, if_pos (by omega), Int.toNat_natCast, List.getElem?_eq_getElem hj]
    · unfold ndsOf
      rw [hf, if_pos (by omega), Int.toNat_natCast, List.getElem?_eq_getElem hj]
theorem exit_rel {α : Type} {L : List α} {p : α → Bool} (h : L.all p = (L.drop L.length).all p) : L.all p = true := by
  rw [h, List.drop_length]
  rfl

set_option maxRecDepth 100000 in
set_option maxHeartbeats 16000000 in
theorem specFault_any (v u y z : Value) (S : List Rel) (N : List Nd) (D C : List Pk) (w : World) (hl : S.length ≤ 1048576) (hq : ∀ q ∈ S, q.2.2.2.length ≤ 1048576 ∧ ∀ p ∈ q.2.2.2, p.2.length ≤ 1048576) (hN : N.length ≤ 1048576) (hNq : ∀ q ∈ N, q.2.length ≤ 1048576) (hD : D.length ≤ 1048576) (hC : C.length ≤ 1048576) (h : RlAt w w.heap.size v S) (h' : NdAt w w.heap.size u N) (h1 : PkAt w w.heap.size y D) (h2 : PkAt w w.heap.size z C) :
    Calls Try.prog 89 #[v, u, y, z] w fun e w' => e = .returned (.int .i64 (faultF S N D C)) ∧ Below w.heap.size w w' := by
  obtain ⟨sa, caps, rfl, hx⟩ := id h
  obtain ⟨na, ncap, rfl, n0⟩ := id h'
  obtain ⟨da, dc, rfl, hx1⟩ := id h1
  obtain ⟨pa, pc, rfl, h0⟩ := id h2
  clear hx1
  have H := Lib.hid h
  have HX := Lib.hid hx
  have H' := Lib.hid h'
  have H1 := Lib.hid h1
  have H2 := Lib.hid h2
  clear h h' h1 h2 hx
  have K1 : Hid (∀ V, RlAt V V.heap.size (.slice sa S.length caps) S → Calls Try.prog 51 #[.slice sa S.length caps] V fun e w' => e = .returned (.bool (shOk S)) ∧ Below V.heap.size V w') := Lib.hid fun V g => specShelfOk_any _ S V hl hq g
  have K2 : Hid (∀ V, NdAt V V.heap.size (.slice na N.length ncap) N → Calls Try.prog 52 #[.slice na N.length ncap] V fun e w' => e = .returned (.bool (ndOk N)) ∧ Below V.heap.size V w') := Lib.hid fun V g => specNeedsOk_any _ N V hN hNq g
  have K3 : Hid (∀ V, PkAt V V.heap.size (.slice da D.length dc) D → Calls Try.prog 42 #[.slice da D.length dc] V fun e w' => e = .returned (.bool (pkOk D)) ∧ Below V.heap.size V w') := Lib.hid fun V g => specPicksOk_any _ D V hD g
  have K4 : Hid (∀ V, PkAt V V.heap.size (.slice pa C.length pc) C → Calls Try.prog 42 #[.slice pa C.length pc] V fun e w' => e = .returned (.bool (pkOk C)) ∧ Below V.heap.size V w') := Lib.hid fun V g => specPicksOk_any _ C V hC g
  rcases g0 : shOk S
  · rw [g0] at K1
    have HE := Lib.hid (show faultF S N D C = 1 by unfold faultF; rw [g0]; rfl)
    clear g0
    go_enter Try.func89, Try.ntmps89
    go_wp2_with fail
    refine (K1.out _ (H.out.stepAt (by go_grown))).mono ?_
    rintro e w1 ⟨rfl, hb⟩
    have b1 := hb
    clear hb
    go_wp2_with fail
    go_ret
    exact ⟨by rw [HE.out]; rfl, b1⟩
  rw [g0] at K1
  rcases g1 : ndOk N
  · rw [g1] at K2
    have HE := Lib.hid (show faultF S N D C = 1 by unfold faultF; rw [g0, g1]; rfl)
    clear g0 g1
    go_enter Try.func89, Try.ntmps89
    go_wp2_with fail
    refine (K1.out _ (H.out.stepAt (by go_grown))).mono ?_
    rintro e w1 ⟨rfl, hb⟩
    have b1 := hb
    clear hb
    go_wp2_with fail
    refine (K2.out _ (H'.out.stepAt b1)).mono ?_
    rintro e w2 ⟨rfl, hb⟩
    have b2 := b1.trans (hb.mono b1.size)
    clear hb
    go_wp2_with fail
    go_ret
    exact ⟨by rw [HE.out]; rfl, b2⟩
  rw [g1] at K2
  rcases g2 : pkOk D
  · rw [g2] at K3
    have HE := Lib.hid (show faultF S N D C = 1 by unfold faultF; rw [g0, g1, g2]; rfl)
    clear g0 g1 g2
    go_enter Try.func89, Try.ntmps89
    go_wp2_with fail
    refine (K1.out _ (H.out.stepAt (by go_grown))).mono ?_
    rintro e w1 ⟨rfl, hb⟩
    have b1 := hb
    clear hb
    go_wp2_with fail
    refine (K2.out _ (H'.out.stepAt b1)).mono ?_
    rintro e w2 ⟨rfl, hb⟩
    have b2 := b1.trans (hb.mono b1.size)
    clear hb
    go_wp2_with fail
    refine (K3.out _ (H1.out.stepAt b2)).mono ?_
    rintro e w3 ⟨rfl, hb⟩
    have b3 := b2.trans (hb.mono b2.size)
    clear hb
    go_wp2_with fail
    go_ret
    exact ⟨by rw [HE.out]; rfl, b3⟩
  rw [g2] at K3
  rcases g3 : pkOk C
  · rw [g3] at K4
    have HE := Lib.hid (show faultF S N D C = 1 by unfold faultF; rw [g0, g1, g2, g3]; rfl)
    clear g0 g1 g2 g3
    go_enter Try.func89, Try.ntmps89
    go_wp2_with fail
    refine (K1.out _ (H.out.stepAt (by go_grown))).mono ?_
    rintro e w1 ⟨rfl, hb⟩
    have b1 := hb
    clear hb
    go_wp2_with fail
    refine (K2.out _ (H'.out.stepAt b1)).mono ?_
    rintro e w2 ⟨rfl, hb⟩
    have b2 := b1.trans (hb.mono b1.size)
    clear hb
    go_wp2_with fail
    refine (K3.out _ (H1.out.stepAt b2)).mono ?_
    rintro e w3 ⟨rfl, hb⟩
    have b3 := b2.trans (hb.mono b2.size)
    clear hb
    go_wp2_with fail
    refine (K4.out _ (H2.out.stepAt b3)).mono ?_
    rintro e w4 ⟨rfl, hb⟩
    have b4 := b3.trans (hb.mono b3.size)
    clear hb
    go_wp2_with fail
    go_ret
    exact ⟨by rw [HE.out]; rfl, b4⟩
  rw [g3] at K4
  have HER := Lib.hid (fault_rest g0 g1 g2 g3)
  have HOS := Lib.hid g0
  have HON := Lib.hid g1
  have HOD := Lib.hid g2
  have HOC := Lib.hid g3
  have hS30 := sh_len g0
  have hN5 := nd_len g1
  have hC8 := pk_len g3
  clear g0 g1 g2 g3
  go_enter Try.func89, Try.ntmps89
  go_wp2_with fail
  refine (K1.out _ (H.out.stepAt (by go_grown))).mono ?_
  rintro e w1 ⟨rfl, hb⟩
  have b1 := hb
  clear hb
  go_wp2_with fail
  refine (K2.out _ (H'.out.stepAt b1)).mono ?_
  rintro e w2 ⟨rfl, hb⟩
  have b2 := b1.trans (hb.mono b1.size)
  clear hb
  go_wp2_with fail
  refine (K3.out _ (H1.out.stepAt b2)).mono ?_
  rintro e w3 ⟨rfl, hb⟩
  have b3 := b2.trans (hb.mono b2.size)
  clear hb
  go_wp2_with fail
  refine (K4.out _ (H2.out.stepAt b3)).mono ?_
  rintro e w4 ⟨rfl, hb⟩
  have b4 := b3.trans (hb.mono b3.size)
  clear hb
  go_wp2_with fail
  go_loopw [9] (fun i wr => ∃ k : Nat, k ≤ C.length ∧ i = .int .i64 (k : Int) ∧ C.all (thereP S) = (C.drop k).all (thereP S) ∧ Below w.heap.size w wr) (fun i _ => C.length - (intOf i).toNat)
  case atStart => exact ⟨0, Nat.zero_le _, rfl, rfl, b4⟩
  case round =>
    obtain ⟨k, hk, rfl, he, hb⟩ := hrel
    have HE := Lib.hid he
    clear he
    by_cases hlt : k < C.length
    · rcases h0 with h0 | ⟨b, o, rfl, hB, hc⟩
      · subst h0
        exact absurd hlt (by simp)
      obtain ⟨x, a, b', c, d, hxy⟩ : ∃ x a b c d, C[k] = (x, a, b, c, d) := ⟨_, _, _, _, _, rfl⟩
      obtain ⟨r0, r1, r2, r3, r4⟩ := hc k hlt
      rw [hxy] at r0 r1 r2 r3 r4
      simp only at r0 r1 r2 r3 r4
      have e0 := (hb.cell (p := ⟨b, o + k * 5, none⟩) hB).trans r0
      have e1 := (hb.cell (p := ⟨b, o + k * 5 + 1, none⟩) hB).trans r1
      have e2 := (hb.cell (p := ⟨b, o + k * 5 + 2, none⟩) hB).trans r2
      have e3 := (hb.cell (p := ⟨b, o + k * 5 + 3, none⟩) hB).trans r3
      have e4 := (hb.cell (p := ⟨b, o + k * 5 + 4, none⟩) hB).trans r4
      have HXY := Lib.hid (show C[k]? = some (x, a, b', c, d) by rw [List.getElem?_eq_getElem hlt, hxy])
      have hxm : (x, a, b', c, d) ∈ C := by rw [← hxy]; exact List.getElem_mem hlt
      have bB : b < wr.heap.size := Nat.lt_of_lt_of_le hB hb.size
      have i0 : (0 : Int) ≤ (k : Int) := by omega
      have i1 : (k : Int) < (C.length : Int) := by omega
      have HSr := Lib.hid (H.out.stepAt hb)
      have KA : Hid (∀ V, RlAt V V.heap.size (.slice sa S.length caps) S → Calls Try.prog 107 #[.slice sa S.length caps, .int .i64 x, ver a b' c d] V fun e w' => e = .returned (.int .i64 (shFind x (a, b', c, d) 0 S)) ∧ Below V.heap.size V w') := Lib.hid fun V g => by
        have := specShelfAt_any _ S x a b' c d V (by omega) hq g
        rwa [show shAt S x (a, b', c, d) = shFind x (a, b', c, d) 0 S by unfold shAt; rw [HOS.out]; rfl] at this
      clear hxy r0 r1 r2 r3 r4 hc
      have t0 := cell_regrown e0
      have t1 := cell_regrown e1
      have t2 := cell_regrown e2
      have t3 := cell_regrown e3
      have t4 := cell_regrown e4
      have HST := Lib.hid (all_step (thereP S) HXY.out)
      rcases shFind_range x (a, b', c, d) S 0 with hf | ⟨j, hf, hj⟩
      · have HF := Lib.hid (show C.all (thereP S) = false by rw [HE.out, HST.out]; unfold thereP; simp only; rw [hf]; rfl)
        rw [hf] at KA
        clear hf e0 e1 e2 e3 e4
        go_wp2_with fail
        refine wp_region_quiet_below (by kernel_rfl) (by kernel_rfl) ?_
        repeat (any_goals (first | go_big_quiet_step ((go_at_call 107; exact Calls.regrown_of (KA.out _ (HSr.out.stepAt (below_regrown _ _ _))))) | quiet_step ((go_at_call 107; exact Calls.regrown_of (KA.out _ (HSr.out.stepAt (below_regrown _ _ _)))))))
        refine wpQuiet_nil ?_
        intro W2 hw2
        have nn := quiet_end hw2
        clear hw2 t0 t1 t2 t3 t4
        go_wp2_with fail
        go_ret
        exact ⟨by rw [HER.out, show restF S N D C = 2 by unfold restF; rw [HF.out]; rfl]; rfl, hb.trans (nn.mono hb.size)⟩
      · rw [Nat.zero_add] at hf
        have HT := Lib.hid (show thereP S (x, a, b', c, d) = true by unfold thereP; simp only; rw [hf]; exact decide_eq_true (by omega))
        rw [hf] at KA
        have jn : decide ((j : Int) < 0) = false := decide_eq_false (by omega)
        clear hf hj e0 e1 e2 e3 e4
        go_wp2_with fail
        refine wp_region_quiet_below (by kernel_rfl) (by kernel_rfl) ?_
        repeat (any_goals (first | go_big_quiet_step ((go_at_call 107; exact Calls.regrown_of (KA.out _ (HSr.out.stepAt (below_regrown _ _ _))))) | quiet_step ((go_at_call 107; exact Calls.regrown_of (KA.out _ (HSr.out.stepAt (below_regrown _ _ _)))))))
        refine wpQuiet_nil ?_
        intro W2 hw2
        have nn := quiet_end hw2
        clear hw2 t0 t1 t2 t3 t4
        have HR := Lib.hid (show ∃ k' : Nat, k' ≤ C.length ∧ Value.int .i64 ((k : Int) + 1) = .int .i64 (k' : Int) ∧ C.all (thereP S) = (C.drop k').all (thereP S) ∧ Below w.heap.size w W2 from ⟨k + 1, by omega, by go_num, by rw [HE.out, HST.out, HT.out]; rfl, hb.trans (nn.mono hb.size)⟩)
        go_wp2_with fail
        go_roundw
        case rel => exact HR.out
        case measure => simp [intOf]; omega
    · obtain rfl : k = C.length := by omega
      have HA1 := Lib.hid (exit_rel HE.out)
      go_wp2_with fail
      go_loopw [10] (fun i wr => ∃ k : Nat, k ≤ C.length ∧ i = .int .i64 (k : Int) ∧ C.all (allowP S D) = (C.drop k).all (allowP S D) ∧ Below w.heap.size w wr) (fun i _ => C.length - (intOf i).toNat)
      case atStart => exact ⟨0, Nat.zero_le _, rfl, rfl, hb⟩
      case round =>
        clear hb HE
        rename World => wr
        obtain ⟨k, hk, rfl, he, hb⟩ := hrel
        have HE := Lib.hid he
        clear he
        by_cases hlt : k < C.length
        · rcases h0 with h0 | ⟨b, o, rfl, hB, hc⟩
          · subst h0
            exact absurd hlt (by simp)
          obtain ⟨x, a, b', c, d, hxy⟩ : ∃ x a b c d, C[k] = (x, a, b, c, d) := ⟨_, _, _, _, _, rfl⟩
          obtain ⟨r0, r1, r2, r3, r4⟩ := hc k hlt
          rw [hxy] at r0 r1 r2 r3 r4
          simp only at r0 r1 r2 r3 r4
          have e0 := (hb.cell (p := ⟨b, o + k * 5, none⟩) hB).trans r0
          have e1 := (hb.cell (p := ⟨b, o + k * 5 + 1, none⟩) hB).trans r1
          have e2 := (hb.cell (p := ⟨b, o + k * 5 + 2, none⟩) hB).trans r2
          have e3 := (hb.cell (p := ⟨b, o + k * 5 + 3, none⟩) hB).trans r3
          have e4 := (hb.cell (p := ⟨b, o + k * 5 + 4, none⟩) hB).trans r4
          have HXY := Lib.hid (show C[k]? = some (x, a, b', c, d) by rw [List.getElem?_eq_getElem hlt, hxy])
          have hxm : (x, a, b', c, d) ∈ C := by rw [← hxy]; exact List.getElem_mem hlt
          have bB : b < wr.heap.size := Nat.lt_of_lt_of_le hB hb.size
          have i0 : (0 : Int) ≤ (k : Int) := by omega
          have i1 : (k : Int) < (C.length : Int) := by omega
          have HSr := Lib.hid (H.out.stepAt hb)
          have KA : Hid (∀ V, RlAt V V.heap.size (.slice sa S.length caps) S → Calls Try.prog 107 #[.slice sa S.length caps, .int .i64 x, ver a b' c d] V fun e w' => e = .returned (.int .i64 (shFind x (a, b', c, d) 0 S)) ∧ Below V.heap.size V w') := Lib.hid fun V g => by
            have := specShelfAt_any _ S x a b' c d V (by omega) hq g
            rwa [show shAt S x (a, b', c, d) = shFind x (a, b', c, d) 0 S by unfold shAt; rw [HOS.out]; rfl] at this
          clear hxy r0 r1 r2 r3 r4 hc
          have t0 := cell_regrown e0
          have t1 := cell_regrown e1
          have t2 := cell_regrown e2
          have t3 := cell_regrown e3
          have t4 := cell_regrown e4
          have HST := Lib.hid (all_step (allowP S D) HXY.out)
          have H1r := Lib.hid (H1.out.stepAt hb)
          have KP : Hid (∀ V, PkAt V V.heap.size (.slice da D.length dc) D → Calls Try.prog 44 #[.slice da D.length dc, pick x a b' c d] V fun e w' => e = .returned (.bool (heldP D (x, a, b', c, d))) ∧ Below V.heap.size V w') := Lib.hid fun V g => l4Held_any _ D x a b' c d V hD HOD.out g
          obtain ⟨j, hj, hf, hg, _⟩ := there_at (List.all_eq_true.1 HA1.out _ hxm)
          simp only at hf
          rw [hf] at KA
          obtain ⟨sb, so, hsa, hsB, hsc⟩ : ∃ b o, sa = some ⟨b, o, none⟩ ∧ b < w.heap.size ∧ ∀ i (h : i < S.length), RlC w w.heap.size b (o + i * 7) S[i] := by
            rcases HX.out with hh | hh
            · rw [hh] at hj; simp at hj
            · exact hh
          subst hsa
          obtain ⟨⟨_, _, _, _, _, r5⟩, _⟩ := hsc j hj
          rw [← hg] at r5
          have q5 := cell_regrown ((hb.cell (p := ⟨sb, so + j * 7 + 5, none⟩) hsB).trans r5)
          have j0 : (0 : Int) ≤ (j : Int) := by omega
          have j1 : (j : Int) < (S.length : Int) := by omega
          clear hf hsc hg r5 e0 e1 e2 e3 e4 hxm
          rcases hgo : goneAt S (x, a, b', c, d)
          · have HT := Lib.hid (show allowP S D (x, a, b', c, d) = true by unfold allowP; rw [hgo]; rfl)
            rw [hgo] at q5
            clear hgo KP
            go_wp2_with fail
            refine wp_region_quiet_below (by kernel_rfl) (by kernel_rfl) ?_
            repeat (any_goals (first | go_big_quiet_step ((go_at_call 107; exact Calls.regrown_of (KA.out _ (HSr.out.stepAt (below_regrown _ _ _))))) | quiet_step ((go_at_call 107; exact Calls.regrown_of (KA.out _ (HSr.out.stepAt (below_regrown _ _ _)))))))
            refine wpQuiet_nil ?_
            intro W2 hw2
            have nn := quiet_end hw2
            clear hw2 t0 t1 t2 t3 t4 q5
            have HR := Lib.hid (show ∃ k' : Nat, k' ≤ C.length ∧ Value.int .i64 ((k : Int) + 1) = .int .i64 (k' : Int) ∧ C.all (allowP S D) = (C.drop k').all (allowP S D) ∧ Below w.heap.size w W2 from ⟨k + 1, by omega, by go_num, by rw [HE.out, HST.out, HT.out]; rfl, hb.trans (nn.mono hb.size)⟩)
            go_wp2_with fail
            go_roundw
            case rel => exact HR.out
            case measure => simp [intOf]; omega
          · have HT := Lib.hid (show allowP S D (x, a, b', c, d) = heldP D (x, a, b', c, d) by unfold allowP; rw [hgo]; simp)
            rw [hgo] at q5
            clear hgo
            rcases hhe : heldP D (x, a, b', c, d)
            · rw [hhe] at KP HT
              clear hhe
              have HF := Lib.hid (show C.all (allowP S D) = false by rw [HE.out, HST.out, HT.out]; rfl)
              go_wp2_with fail
              refine wp_region_quiet_below (by kernel_rfl) (by kernel_rfl) ?_
              repeat (any_goals (first | go_big_quiet_step ((first | (go_at_call 107; exact Calls.regrown_of (KA.out _ (HSr.out.stepAt (below_regrown _ _ _)))) | (go_at_call 44; exact Calls.regrown_of (KP.out _ (H1r.out.stepAt (below_regrown _ _ _)))))) | quiet_step ((first | (go_at_call 107; exact Calls.regrown_of (KA.out _ (HSr.out.stepAt (below_regrown _ _ _)))) | (go_at_call 44; exact Calls.regrown_of (KP.out _ (H1r.out.stepAt (below_regrown _ _ _))))))))
              refine wpQuiet_nil ?_
              intro W2 hw2
              have nn := quiet_end hw2
              clear hw2 t0 t1 t2 t3 t4 q5
              go_wp2_with fail
              go_ret
              exact ⟨by rw [HER.out, show restF S N D C = 3 by unfold restF; rw [HA1.out, HF.out]; rfl]; rfl, hb.trans (nn.mono hb.size)⟩
            · rw [hhe] at KP HT
              clear hhe
              go_wp2_with fail
              refine wp_region_quiet_below (by kernel_rfl) (by kernel_rfl) ?_
              repeat (any_goals (first | go_big_quiet_step ((first | (go_at_call 107; exact Calls.regrown_of (KA.out _ (HSr.out.stepAt (below_regrown _ _ _)))) | (go_at_call 44; exact Calls.regrown_of (KP.out _ (H1r.out.stepAt (below_regrown _ _ _)))))) | quiet_step ((first | (go_at_call 107; exact Calls.regrown_of (KA.out _ (HSr.out.stepAt (below_regrown _ _ _)))) | (go_at_call 44; exact Calls.regrown_of (KP.out _ (H1r.out.stepAt (below_regrown _ _ _))))))))
              refine wpQuiet_nil ?_
              intro W2 hw2
              have nn := quiet_end hw2
              clear hw2 t0 t1 t2 t3 t4 q5
              have HR := Lib.hid (show ∃ k' : Nat, k' ≤ C.length ∧ Value.int .i64 ((k : Int) + 1) = .int .i64 (k' : Int) ∧ C.all (allowP S D) = (C.drop k').all (allowP S D) ∧ Below w.heap.size w W2 from ⟨k + 1, by omega, by go_num, by rw [HE.out, HST.out, HT.out]; rfl, hb.trans (nn.mono hb.size)⟩)
              go_wp2_with fail
              go_roundw
              case rel => exact HR.out
              case measure => simp [intOf]; omega
        · obtain rfl : k = C.length := by omega
          have HA2 := Lib.hid (exit_rel HE.out)
          go_wp2_with fail
          go_loopw [11] (fun i wr => ∃ k : Nat, k ≤ N.length ∧ i = .int .i64 (k : Int) ∧ N.all (metP C) = (N.drop k).all (metP C) ∧ Below w.heap.size w wr) (fun i _ => N.length - (intOf i).toNat)
          case atStart => exact ⟨0, Nat.zero_le _, rfl, rfl, hb⟩
          case round =>
            clear hb HE
            rename World => wr
            obtain ⟨k, hk, rfl, he, hb⟩ := hrel
            have HE := Lib.hid he
            clear he
            by_cases hlt : k < N.length
            · rcases n0 with n0 | ⟨b, o, rfl, hB, hc⟩
              · subst n0
                exact absurd hlt (by simp)
              obtain ⟨nm, L, hxy⟩ : ∃ nm L, N[k] = (nm, L) := ⟨_, _, rfl⟩
              obtain ⟨r0, la, lc, r1, hs⟩ := (hc k hlt).below hb hB
              rw [hxy] at r0 r1 hs
              simp only at r0 r1 hs
              have hL : L.length ≤ 1048576 := by have := hNq _ (List.getElem_mem hlt); rwa [hxy] at this
              have HST := Lib.hid (all_step (metP C) (show N[k]? = some (nm, L) by rw [List.getElem?_eq_getElem hlt, hxy]))
              have HS := Lib.hid (hs.mono hb.size)
              have i0 : (0 : Int) ≤ (k : Int) := by omega
              have i1 : (k : Int) < (N.length : Int) := by omega
              have KM : Hid (∀ V, PkAt V V.heap.size (.slice pa C.length pc) C → SpAt V V.heap.size (.slice la L.length lc) L → Calls Try.prog 115 #[.slice pa C.length pc, need nm (.slice la L.length lc)] V fun e w' => e = .returned (.bool (metP C (nm, L))) ∧ Below V.heap.size V w') := Lib.hid fun V g g' => l4Met_any _ C nm la lc L V hC HOC.out hL g g'
              have H2r := Lib.hid (H2.out.stepAt hb)
              clear hxy hc hs
              rcases hm : metP C (nm, L)
              · rw [hm] at KM HST
                clear hm
                have HF := Lib.hid (show N.all (metP C) = false by rw [HE.out, HST.out]; rfl)
                go_wp2_with fail
                refine (KM.out _ H2r.out HS.out).mono ?_
                rintro e w6 ⟨rfl, hb6⟩
                go_wp2_with fail
                go_ret
                exact ⟨by rw [HER.out, show restF S N D C = 4 by unfold restF; rw [HA1.out, HA2.out, HF.out]; rfl]; rfl, hb.trans (hb6.mono hb.size)⟩
              · rw [hm] at KM HST
                clear hm
                go_wp2_with fail
                refine (KM.out _ H2r.out HS.out).mono ?_
                rintro e w6 ⟨rfl, hb6⟩
                have HR := Lib.hid (show ∃ k' : Nat, k' ≤ N.length ∧ Value.int .i64 ((k : Int) + 1) = .int .i64 (k' : Int) ∧ N.all (metP C) = (N.drop k').all (metP C) ∧ Below w.heap.size w w6 from ⟨k + 1, by omega, by go_num, by rw [HE.out, HST.out]; rfl, hb.trans (hb6.mono hb.size)⟩)
                clear hb6
                go_wp2_with fail
                go_roundw
                case rel => exact HR.out
                case measure => simp [intOf]; omega
            · obtain rfl : k = N.length := by omega
              have HA3 := Lib.hid (exit_rel HE.out)
              go_wp2_with fail
              go_loopw [12] (fun i wr => ∃ k : Nat, k ≤ C.length ∧ i = .int .i64 (k : Int) ∧ C.all (innerP S C) = (C.drop k).all (innerP S C) ∧ Below w.heap.size w wr) (fun i _ => C.length - (intOf i).toNat)
              case atStart => exact ⟨0, Nat.zero_le _, rfl, rfl, hb⟩
              case round =>
                clear hb HE
                rename World => wr
                obtain ⟨k, hk, rfl, he, hb⟩ := hrel
                have HE := Lib.hid he
                clear he
                by_cases hlt : k < C.length
                · rcases h0 with h0 | ⟨b, o, rfl, hB, hc⟩
                  · subst h0
                    exact absurd hlt (by simp)
                  obtain ⟨x, a, b', c, d, hxy⟩ : ∃ x a b c d, C[k] = (x, a, b, c, d) := ⟨_, _, _, _, _, rfl⟩
                  obtain ⟨r0, r1, r2, r3, r4⟩ := hc k hlt
                  rw [hxy] at r0 r1 r2 r3 r4
                  simp only at r0 r1 r2 r3 r4
                  have e0 := (hb.cell (p := ⟨b, o + k * 5, none⟩) hB).trans r0
                  have e1 := (hb.cell (p := ⟨b, o + k * 5 + 1, none⟩) hB).trans r1
                  have e2 := (hb.cell (p := ⟨b, o + k * 5 + 2, none⟩) hB).trans r2
                  have e3 := (hb.cell (p := ⟨b, o + k * 5 + 3, none⟩) hB).trans r3
                  have e4 := (hb.cell (p := ⟨b, o + k * 5 + 4, none⟩) hB).trans r4
                  have HXY := Lib.hid (show C[k]? = some (x, a, b', c, d) by rw [List.getElem?_eq_getElem hlt, hxy])
                  have hxm : (x, a, b', c, d) ∈ C := by rw [← hxy]; exact List.getElem_mem hlt
                  have bB : b < wr.heap.size := Nat.lt_of_lt_of_le hB hb.size
                  have i0 : (0 : Int) ≤ (k : Int) := by omega
                  have i1 : (k : Int) < (C.length : Int) := by omega
                  have HSr := Lib.hid (H.out.stepAt hb)
                  have KA : Hid (∀ V, RlAt V V.heap.size (.slice sa S.length caps) S → Calls Try.prog 107 #[.slice sa S.length caps, .int .i64 x, ver a b' c d] V fun e w' => e = .returned (.int .i64 (shFind x (a, b', c, d) 0 S)) ∧ Below V.heap.size V w') := Lib.hid fun V g => by
                    have := specShelfAt_any _ S x a b' c d V (by omega) hq g
                    rwa [show shAt S x (a, b', c, d) = shFind x (a, b', c, d) 0 S by unfold shAt; rw [HOS.out]; rfl] at this
                  clear hxy r0 r1 r2 r3 r4 hc
                  have HST := Lib.hid (all_step (innerP S C) HXY.out)
                  obtain ⟨j, hj, hf, _, hnd⟩ := there_at (List.all_eq_true.1 HA1.out _ hxm)
                  simp only at hf
                  rw [hf] at KA
                  obtain ⟨sb, so, hsa, hsB, hsc⟩ : ∃ b o, sa = some ⟨b, o, none⟩ ∧ b < w.heap.size ∧ ∀ i (h : i < S.length), RlC w w.heap.size b (o + i * 7) S[i] := by
                    rcases HX.out with hh | hh
                    · rw [hh] at hj; simp at hj
                    · exact hh
                  subst hsa
                  obtain ⟨sx, sa1, sb1, sc1, sd1, sg, M, hsj⟩ : ∃ x a b c d f M, S[j] = (x, (a, b, c, d), f, M) := ⟨_, _, _, _, _, _, _, rfl⟩
                  obtain ⟨⟨s0, s1, s2, s3, s4, s5⟩, ad, cap, s6, hs6⟩ := hsc j hj
                  have hMq := hq _ (List.getElem_mem hj)
                  rw [hsj] at s0 s1 s2 s3 s4 s5 s6 hs6 hMq hnd
                  simp only at s0 s1 s2 s3 s4 s5 s6 hs6 hMq hnd
                  have HIN := Lib.hid (show innerP S C (x, a, b', c, d) = M.all (metP C) by unfold innerP; rw [hnd])
                  have HND := Lib.hid hs6
                  have sB : sb < wr.heap.size := Nat.lt_of_lt_of_le hsB hb.size
                  have f0 := (hb.cell (p := ⟨sb, so + j * 7, none⟩) hsB).trans s0
                  have f1 := (hb.cell (p := ⟨sb, so + j * 7 + 1, none⟩) hsB).trans s1
                  have f2 := (hb.cell (p := ⟨sb, so + j * 7 + 2, none⟩) hsB).trans s2
                  have f3 := (hb.cell (p := ⟨sb, so + j * 7 + 3, none⟩) hsB).trans s3
                  have f4 := (hb.cell (p := ⟨sb, so + j * 7 + 4, none⟩) hsB).trans s4
                  have f5 := (hb.cell (p := ⟨sb, so + j * 7 + 5, none⟩) hsB).trans s5
                  have f6 := (hb.cell (p := ⟨sb, so + j * 7 + 6, none⟩) hsB).trans s6
                  have j0 : (0 : Int) ≤ (j : Int) := by omega
                  have j1 : (j : Int) < (S.length : Int) := by omega
                  clear hf hsc hsj hs6 hxm hnd s0 s1 s2 s3 s4 s5 s6
                  go_wp2_with fail
                  go_cut [13] from 102 to 116 (fun t wx => ∃ p, t = .pointer (some ⟨p, 0, none⟩) ∧ p < wx.heap.size ∧ wx.cell? ⟨p, 6, none⟩ = some (.slice ad M.length cap) ∧ Below wr.heap.size wr wx)
                  case first =>
                    go_region_with (first
                      | (go_at_call 107; refine (KA.out _ (HSr.out.stepAt (by go_grown))).mono ?_; rintro e wu ⟨rfl, hbu⟩; have hz := hbu.size; simp at hz; replace hz : wr.heap.size < wu.heap.size := Nat.lt_of_succ_le hz; have nn : Below wr.heap.size wr wu := Below.step (by go_grown) hbu; have zu := hbu.size; (try simp at zu); have m0 := (nn.cell (p := ⟨sb, so + j * 7, none⟩) sB).trans f0; have m1 := (nn.cell (p := ⟨sb, so + j * 7 + 1, none⟩) sB).trans f1; have m2 := (nn.cell (p := ⟨sb, so + j * 7 + 2, none⟩) sB).trans f2; have m3 := (nn.cell (p := ⟨sb, so + j * 7 + 3, none⟩) sB).trans f3; have m4 := (nn.cell (p := ⟨sb, so + j * 7 + 4, none⟩) sB).trans f4; have m5 := (nn.cell (p := ⟨sb, so + j * 7 + 5, none⟩) sB).trans f5; have m6 := (nn.cell (p := ⟨sb, so + j * 7 + 6, none⟩) sB).trans f6; have sU : sb < wu.heap.size := Nat.lt_of_lt_of_le sB nn.size; have q0 : wu.cell? ⟨wr.heap.size, 0, none⟩ = some (.int .i64 0) := (hbu.cell (p := ⟨wr.heap.size, 0, none⟩) (by simp)).trans (by go_simp); have q1 : wu.cell? ⟨wr.heap.size, 1, none⟩ = some (.int .i64 0) := (hbu.cell (p := ⟨wr.heap.size, 1, none⟩) (by simp)).trans (by go_simp); have q2 : wu.cell? ⟨wr.heap.size, 2, none⟩ = some (.int .i64 0) := (hbu.cell (p := ⟨wr.heap.size, 2, none⟩) (by simp)).trans (by go_simp); have q3 : wu.cell? ⟨wr.heap.size, 3, none⟩ = some (.int .i64 0) := (hbu.cell (p := ⟨wr.heap.size, 3, none⟩) (by simp)).trans (by go_simp); have q4 : wu.cell? ⟨wr.heap.size, 4, none⟩ = some (.int .i64 0) := (hbu.cell (p := ⟨wr.heap.size, 4, none⟩) (by simp)).trans (by go_simp); have q5 : wu.cell? ⟨wr.heap.size, 5, none⟩ = some (.bool false) := (hbu.cell (p := ⟨wr.heap.size, 5, none⟩) (by simp)).trans (by go_simp); have q6 : wu.cell? ⟨wr.heap.size, 6, none⟩ = some (.slice none 0 0) := (hbu.cell (p := ⟨wr.heap.size, 6, none⟩) (by simp)).trans (by go_simp); have qf : ∀ o, wu.frozen? ⟨wr.heap.size, o, none⟩ = false := fun o => (hbu.frozen (p := ⟨wr.heap.size, o, none⟩) (by simp)).trans (by go_simp))
                      | (go_at_call 107; refine (KA.out _ (HSr.out.stepAt (by go_grown))).mono ?_; rintro e wu ⟨rfl, hbu⟩; have nn : Below wr.heap.size wr wu := Below.step (by go_grown) hbu; have zu := hbu.size; (try simp at zu); have m0 := (nn.cell (p := ⟨sb, so + j * 7, none⟩) sB).trans f0; have m1 := (nn.cell (p := ⟨sb, so + j * 7 + 1, none⟩) sB).trans f1; have m2 := (nn.cell (p := ⟨sb, so + j * 7 + 2, none⟩) sB).trans f2; have m3 := (nn.cell (p := ⟨sb, so + j * 7 + 3, none⟩) sB).trans f3; have m4 := (nn.cell (p := ⟨sb, so + j * 7 + 4, none⟩) sB).trans f4; have m5 := (nn.cell (p := ⟨sb, so + j * 7 + 5, none⟩) sB).trans f5; have m6 := (nn.cell (p := ⟨sb, so + j * 7 + 6, none⟩) sB).trans f6; have sU : sb < wu.heap.size := Nat.lt_of_lt_of_le sB nn.size))
                    all_goals
                      go_wp2_with fail
                      go_meet
                      case rel => exact ⟨_, rfl, by first | (simp; done) | (simp; omega), by go_simp, by go_grown⟩
                  case rest =>
                    rename World => wy
                    obtain ⟨p, rfl, hp, hp6, hby⟩ := hcut
                    have my := hb.trans (hby.mono hb.size)
                    have HMy := Lib.hid (HND.out.below my)
                    clear f0 f1 f2 f3 f4 f5 f6 e0 e1 e2 e3 e4 KA
                    go_wp2_with fail
                    go_loopw [14] (fun i wx => ∃ q : Nat, q ≤ M.length ∧ i = .int .i64 (q : Int) ∧ M.all (metP C) = (M.drop q).all (metP C) ∧ Below wy.heap.size wy wx) (fun i _ => M.length - (intOf i).toNat)
                    case atStart => exact ⟨0, Nat.zero_le _, rfl, rfl, Below.refl _ _⟩
                    case round =>
                      rename World => wx
                      obtain ⟨q, hqM, rfl, he, hbx⟩ := hrel
                      have HEM := Lib.hid he
                      have mx := my.trans (hbx.mono my.size)
                      have c6 := (hbx.cell (p := ⟨p, 6, none⟩) hp).trans hp6
                      clear he
                      by_cases hql : q < M.length
                      · obtain ⟨gb, go', had, hgB, hgc⟩ : ∃ b o, ad = some ⟨b, o, none⟩ ∧ b < w.heap.size ∧ ∀ i (h : i < M.length), NdC wy w.heap.size b (o + i * 2) M[i] := by
                          obtain ⟨a', c', e', hh⟩ := HMy.out
                          simp only [Value.slice.injEq] at e'
                          obtain ⟨rfl, _, _⟩ := e'
                          rcases hh with hh | hh
                          · rw [hh] at hql; simp at hql
                          · exact hh
                        subst had
                        obtain ⟨nm, L, hnl⟩ : ∃ nm L, M[q] = (nm, L) := ⟨_, _, rfl⟩
                        obtain ⟨d0, la, lc, d1, hs⟩ := (hgc q hql).below (hbx.mono my.size) hgB
                        rw [hnl] at d0 d1 hs
                        simp only at d0 d1 hs
                        have hL : L.length ≤ 1048576 := by have := hMq.2 _ (List.getElem_mem hql); rwa [hnl] at this
                        have HSM := Lib.hid (all_step (metP C) (show M[q]? = some (nm, L) by rw [List.getElem?_eq_getElem hql, hnl]))
                        have HS := Lib.hid (hs.mono mx.size)
                        have q0 : (0 : Int) ≤ (q : Int) := by omega
                        have q1 : (q : Int) < (M.length : Int) := by omega
                        have KM : Hid (∀ V, PkAt V V.heap.size (.slice (some ⟨b, o, none⟩) C.length pc) C → SpAt V V.heap.size (.slice la L.length lc) L → Calls Try.prog 115 #[.slice (some ⟨b, o, none⟩) C.length pc, need nm (.slice la L.length lc)] V fun e w' => e = .returned (.bool (metP C (nm, L))) ∧ Below V.heap.size V w') := Lib.hid fun V g g' => l4Met_any _ C nm la lc L V hC HOC.out hL g g'
                        have H2r := Lib.hid (H2.out.stepAt mx)
                        clear hnl hgc hs
                        rcases hm : metP C (nm, L)
                        · rw [hm] at KM HSM
                          clear hm
                          have HF := Lib.hid (show C.all (innerP S C) = false by rw [HE.out, HST.out, HIN.out, HEM.out, HSM.out]; rfl)
                          go_wp2_with fail
                          refine (KM.out _ H2r.out HS.out).mono ?_
                          rintro e w6 ⟨rfl, hb6⟩
                          go_wp2_with fail
                          go_ret
                          exact ⟨by rw [HER.out, show restF S N D C = 5 by unfold restF; rw [HA1.out, HA2.out, HA3.out, HF.out]; rfl]; rfl, mx.trans (hb6.mono mx.size)⟩
                        · rw [hm] at KM HSM
                          clear hm
                          go_wp2_with fail
                          refine (KM.out _ H2r.out HS.out).mono ?_
                          rintro e w6 ⟨rfl, hb6⟩
                          have HR := Lib.hid (show ∃ k' : Nat, k' ≤ M.length ∧ Value.int .i64 ((q : Int) + 1) = .int .i64 (k' : Int) ∧ M.all (metP C) = (M.drop k').all (metP C) ∧ Below wy.heap.size wy w6 from ⟨q + 1, by omega, by go_num, by rw [HEM.out, HSM.out]; rfl, hbx.trans (hb6.mono hbx.size)⟩)
                          clear hb6
                          go_wp2_with fail
                          go_roundw
                          case rel => exact HR.out
                          case measure => simp [intOf]; omega
                      · obtain rfl : q = M.length := by omega
                        have HR := Lib.hid (show ∃ k' : Nat, k' ≤ C.length ∧ Value.int .i64 ((k : Int) + 1) = .int .i64 (k' : Int) ∧ C.all (innerP S C) = (C.drop k').all (innerP S C) ∧ Below w.heap.size w wx from ⟨k + 1, by omega, by go_num, by rw [HE.out, HST.out, HIN.out, exit_rel HEM.out]; rfl, mx⟩)
                        go_wp2_with fail
                        go_roundw
                        case rel => exact HR.out
                        case measure => simp [intOf]; omega
                · obtain rfl : k = C.length := by omega
                  have HA4 := Lib.hid (exit_rel HE.out)
                  have HLN := Lib.hid (show (reachL S N C).length = (cameL C (endK S N C).1).length by unfold reachL trimL; rw [HOS.out, HON.out, HOC.out]; simp)
                  have HRE := Lib.hid (show restF S N D C = if (cameL C (endK S N C).1).length < C.length then 6 else 0 by unfold restF; rw [HA1.out, HA2.out, HA3.out, HA4.out]; rfl)
                  go_wp2_with fail
                  refine (specReach_any _ _ _ S N C _ hl hq hN hNq hC (H.out.stepAt hb) (H'.out.stepAt hb) (H2.out.stepAt hb)).mono ?_
                  rintro e w7 ⟨r, rfl, hr, hb7⟩
                  have m7 := hb.trans (hb7.mono hb.size)
                  obtain ⟨ra, rc, rfl, hrx⟩ := id hr
                  rw [HLN.out]
                  clear hr hrx hb7
                  generalize cameL C (endK S N C).1 = T at *
                  by_cases hlT : T.length < C.length
                  · have hz : ((T.length : Int) < (C.length : Int)) := by omega
                    have HQ := Lib.hid (HRE.out.trans (if_pos hlT))
                    clear hlT
                    go_wp2_with fail
                    go_ret
                    exact ⟨by rw [HER.out, HQ.out]; rfl, m7⟩
                  · have hz : ¬ ((T.length : Int) < (C.length : Int)) := by omega
                    have HQ := Lib.hid (HRE.out.trans (if_neg hlT))
                    clear hlT
                    go_wp2_with fail
                    go_ret
                    exact ⟨by rw [HER.out, HQ.out]; rfl, m7⟩
end Cfa
end Go.Proofs.Ytmhamoeibkpnpaa
