/- At every code the law FnSolveAll returns true: the program and the model tell the same choices; all are right, each is better than the next one, and the first one is the best. No condition. -/
import Derived.BigFrame
import Derived.Test.YtgenjbeamlffmaaDsw
import Derived.Test.YtgenjbeamlffmaaSav
import Derived.Test.YtgenjbeamlffmaaSamep
import Derived.Test.YtgenjbeamlffmaaGe
namespace Go.Proofs.Ytgenjbeamlffmaa
open Go.ChangeShapes Go.WideShapes Go.ChangeAt Go.RowKit Go.Joins Go.Sort

namespace Psa
open Foot Dsh Dpk Copy Nup Cpu Cfa Rch Svp Gof
theorem allL_fine {S : List Rel} {N : List Nd} {mo : Int} {L : List Pk} (h : L ∈ allL S N mo) : faultF S N [] L = 0 := by
  unfold allL at h
  by_cases hh : (shOk S && (ndOk N && inB mo 0 50)) = true
  · rw [if_pos hh] at h
    exact best_fine (List.mem_of_mem_take h)
  · rw [if_neg hh] at h; simp at h
theorem allL_sorted (S : List Rel) (N : List Nd) (mo : Int) : (allL S N mo).Pairwise fun A B => pkBetter A B = true := by
  unfold allL
  by_cases hh : (shOk S && (ndOk N && inB mo 0 50)) = true
  · rw [if_pos hh]
    simp only [Bool.and_eq_true] at hh
    exact (best_sorted N [] hh.1).sublist (List.take_sublist _ _)
  · rw [if_neg hh]; exact List.Pairwise.nil
theorem allL_head {S : List Rel} {N : List Nd} {mo : Int} (h0 : 1 ≤ mo) (h1 : mo ≤ 50) : (allL S N mo).head? = solveL S N [] := by
  have hi : inB mo 0 50 = true := inB_iff.2 (by omega)
  unfold allL solveL
  rw [hi, show pkOk ([] : List Pk) = true from rfl]
  by_cases hh : (shOk S && (ndOk N && true)) = true
  · rw [if_pos hh, if_pos hh, List.head?_take, if_neg (by omega)]
  · rw [if_neg hh, if_neg hh]; rfl
/-- The row at a place of a row of rows. -/
theorem LOwn.get {w : World} {B base k : Nat} {v : Value} {Ls : List (List Pk)} (h : LOwn w B base v Ls) (hk : k < Ls.length) : ∃ g cap a c, v = .slice (some ⟨g, 0, none⟩) Ls.length cap ∧ g < w.heap.size ∧ w.cell? ⟨g, k, none⟩ = some (.slice a Ls[k].length c) ∧ PkAt w w.heap.size (.slice a Ls[k].length c) Ls[k] := by
  obtain ⟨cs, ho, he⟩ := h
  obtain ⟨z, h1, h2⟩ := he k hk
  have hp := (KOwn.pb h2).at
  obtain ⟨a, c, rfl, _⟩ := id hp
  rcases ho.2 with ⟨_, h0⟩ | ⟨g, cap, cur, e, _, hg, _⟩
  · omega
  · refine ⟨g, cap, a, c, e, (Array.getElem?_eq_some_iff.1 hg).1, ?_, hp⟩
    have := World.ownsRow.cells ho (g := g) (by rw [e]; rfl) k _ h1
    have hadd : (⟨g, 0, none⟩ : Addr).add k = ⟨g, k, none⟩ := by unfold Addr.add; split <;> simp_all
    rw [hadd] at this
    exact this

set_option maxRecDepth 100000 in
set_option maxHeartbeats 8000000 in
theorem allP_short (a : Option Addr) (len cap : Nat) (w : World) (h : CodeIn w a len cap) (hl : len ≤ 1048576) :
    Calls Try.prog 12 #[.slice a len cap] w fun e w' => e = .returned (.bool true) ∧ Below w.heap.size w w' := by
  go_enter Try.func12, Try.ntmps12
  go_wp2_with fail
  refine (Dcr.DrawSolveAll_any a len cap w h).mono ?_
  rintro e w1 ⟨S, sa, caps, M, na, ncap, mo, rfl, hat1, hnd1, hl31, hsz, hM9, hM41, b1⟩
  have hl' : S.length ≤ 1048576 := by omega
  have hq := hsz.big
  have hm' : M.length ≤ 1048576 := by omega
  have hmq : ∀ q ∈ M, q.2.length ≤ 1048576 := fun q hq => by have := hM41 q hq; omega
  have KI : Hid (∀ V, RlAt V V.heap.size (.slice sa S.length caps) S → NdAt V V.heap.size (.slice na M.length ncap) M → Calls Try.prog 29 #[.slice sa S.length caps, .slice na M.length ncap, .int .i64 mo] V (BestPost V.heap.size (allL S M mo) V)) := Lib.hid fun V g g' => implAll_rows _ _ S M mo V hl' hq hm' hmq g g'
  have KS : Hid (∀ V, RlAt V V.heap.size (.slice sa S.length caps) S → NdAt V V.heap.size (.slice na M.length ncap) M → Calls Try.prog 28 #[.slice sa S.length caps, .slice na M.length ncap, .int .i64 mo] V (BestPost V.heap.size (allL S M mo) V)) := Lib.hid fun V g g' => specAll_rows _ _ S M mo V hl' hq hm' hmq g g'
  have KV : Hid (∀ V, RlAt V V.heap.size (.slice sa S.length caps) S → NdAt V V.heap.size (.slice na M.length ncap) M → Calls Try.prog 20 #[.slice sa S.length caps, .slice na M.length ncap, .slice none 0 0] V (SolvePost (solveL S M []) V)) := Lib.hid fun V g g' => implSolve_any _ _ _ S M [] V hl' hq hm' hmq (by simp) g g' ⟨_, _, rfl, .inl rfl⟩
  have HFIN := Lib.hid (fun L (hL : L ∈ allL S M mo) => allL_fine hL)
  have KF : Hid (∀ L ∈ allL S M mo, ∀ V u, RlAt V V.heap.size (.slice sa S.length caps) S → NdAt V V.heap.size (.slice na M.length ncap) M → PkAt V V.heap.size u L → Calls Try.prog 57 #[.slice sa S.length caps, .slice na M.length ncap, .slice none 0 0, u] V fun e w' => e = .returned (.int .i64 0) ∧ Below V.heap.size V w') := Lib.hid fun L hL V u g g' g3 => by
    have h0 := allL_fine hL
    have hL8 : L.length ≤ 8 := pk_len (Fine.of (.inr h0)).pk
    have := implFault_any _ _ (.slice none 0 0) u S M [] L V hl' hq hm' hmq (by simp) (by omega) g g' ⟨_, _, rfl, .inl rfl⟩ g3
    rwa [h0] at this
  have KE : Hid (∀ L ∈ allL S M mo, ∀ V u u', PkAt V V.heap.size u L → PkAt V V.heap.size u' L → Calls Try.prog 53 #[u, u'] V fun e w' => e = .returned (.bool true) ∧ Below V.heap.size V w') := Lib.hid fun L hL V u u' g g' => by
    have hL8 : L.length ≤ 8 := pk_len (Fine.of (.inr (allL_fine hL))).pk
    have := Smp.samePicks_any u u' L L V (by omega) (by omega) g g'
    rwa [decide_eq_true rfl] at this
  have KB : Hid (∀ L ∈ allL S M mo, ∀ L' ∈ allL S M mo, pkBetter L L' = true → ∀ V u u', PkAt V V.heap.size u L → PkAt V V.heap.size u' L' → Calls Try.prog 59 #[u, u'] V fun e w' => e = .returned (.bool true) ∧ Below V.heap.size V w') := Lib.hid fun L hL L' hL' hb V u u' g g' => by
    have h8 : L.length ≤ 8 := pk_len (Fine.of (.inr (allL_fine hL))).pk
    have h8' : L'.length ≤ 8 := pk_len (Fine.of (.inr (allL_fine hL'))).pk
    have := implBetter_any u u' L L' V (by omega) (by omega) g g'
    rwa [hb] at this
  have HSO := Lib.hid (allL_sorted S M mo)
  have HHD := Lib.hid (fun h0 h1 => allL_head (S := S) (N := M) (mo := mo) h0 h1)
  have hA50 := allL_len S M mo
  obtain ⟨A, hA⟩ : ∃ A, allL S M mo = A := ⟨_, rfl⟩
  obtain ⟨R, hR⟩ : ∃ R, solveL S M [] = R := ⟨_, rfl⟩
  rw [hA] at KI KS KF KE KB HSO HHD HFIN hA50
  rw [hR] at KV HHD
  have H := Lib.hid hat1
  have HN := Lib.hid hnd1
  clear hat1 hnd1 h hsz hM41 hq hmq hA hR
  go_wp2_with fail
  refine (KI.out _ H.out HN.out).mono ?_
  rintro e w2 ⟨v2, rfl, lo2, b2⟩
  have HL2 := Lib.hid lo2
  obtain ⟨la, lc, rfl⟩ := lo2.form
  clear lo2 KI
  go_wp2_with fail
  refine (KS.out _ (H.out.stepAt b2) (HN.out.stepAt b2)).mono ?_
  rintro e w3 ⟨v3, rfl, lo3, hb⟩
  have b3 := b2.trans (hb.mono b2.size)
  have HL3 := Lib.hid (HL2.out.below hb)
  have HW3 := Lib.hid lo3
  obtain ⟨ka, kc, rfl⟩ := lo3.form
  have H3 := Lib.hid (H.out.stepAt b3)
  have HN3 := Lib.hid (HN.out.stepAt b3)
  have hll : ((A.length : Int) != (A.length : Int)) = false := by simp
  clear lo3 KS HL2 hb
  go_wp2_with fail
  go_loopw [8] (fun i wr => ∃ k : Nat, k ≤ A.length ∧ i = .int .i64 (k : Int) ∧ Below w3.heap.size w3 wr) (fun i _ => A.length - (intOf i).toNat)
  case atStart => exact ⟨0, Nat.zero_le _, rfl, Below.refl _ _⟩
  case round =>
    obtain ⟨k, hk, rfl, hb⟩ := hrel
    by_cases hlt : k < A.length
    · obtain ⟨g, gc, pa, pc, he, hgl, hgc, hgp⟩ := LOwn.get (HL3.out.below hb) hlt
      obtain ⟨g', gc', pa', pc', he', hgl', hgc', hgp'⟩ := LOwn.get (HW3.out.below hb) hlt
      simp only [Value.slice.injEq, true_and] at he he'
      obtain ⟨rfl, rfl⟩ := he
      obtain ⟨rfl, rfl⟩ := he'
      have hmem : A[k] ∈ A := List.getElem_mem hlt
      have KFk : Hid (∀ V, RlAt V V.heap.size (.slice sa S.length caps) S → NdAt V V.heap.size (.slice na M.length ncap) M → PkAt V V.heap.size (.slice pa A[k].length pc) A[k] → Calls Try.prog 57 #[.slice sa S.length caps, .slice na M.length ncap, .slice none 0 0, .slice pa A[k].length pc] V fun e w' => e = .returned (.int .i64 0) ∧ Below V.heap.size V w') := Lib.hid fun V g1 g2 g3 => KF.out _ hmem V _ g1 g2 g3
      have KEk : Hid (∀ V, PkAt V V.heap.size (.slice pa A[k].length pc) A[k] → PkAt V V.heap.size (.slice pa' A[k].length pc') A[k] → Calls Try.prog 53 #[.slice pa A[k].length pc, .slice pa' A[k].length pc'] V fun e w' => e = .returned (.bool true) ∧ Below V.heap.size V w') := Lib.hid fun V g1 g2 => KE.out _ hmem V _ _ g1 g2
      have HP := Lib.hid hgp
      have HP' := Lib.hid hgp'
      have HR := Lib.hid (H3.out.stepAt hb)
      have HNr := Lib.hid (HN3.out.stepAt hb)
      have i0 : (0 : Int) ≤ (k : Int) := by omega
      have i1 : (k : Int) < (A.length : Int) := by omega
      rcases Nat.eq_zero_or_pos k with hkz | hkp
      · have hk0 : decide ((0 : Int) < (k : Int)) = false := decide_eq_false (by omega)
        have hk1 : decide (0 < k) = false := decide_eq_false (by omega)
        obtain ⟨L, hL⟩ : ∃ L, A[k] = L := ⟨_, rfl⟩
        rw [hL] at KFk KEk HP HP' hgc hgc'
        clear hgp hgp' hmem hL hkz
        have t0 := cell_regrown hgc
        have t1 := cell_regrown hgc'
        go_wp2_with fail
        refine wp_region_quiet_below (by kernel_rfl) (by kernel_rfl) ?_
        repeat (any_goals (first | go_big_quiet_step ((first | (go_at_call 53; exact Calls.regrown_of (KEk.out _ (HP.out.stepAt (below_regrown _ _ _)) (HP'.out.stepAt (below_regrown _ _ _)))) | (go_at_call 57; exact Calls.regrown_of (KFk.out _ (HR.out.stepAt (below_regrown _ _ _)) (HNr.out.stepAt (below_regrown _ _ _)) (HP.out.stepAt (below_regrown _ _ _)))))) | quiet_step ((first | (go_at_call 53; exact Calls.regrown_of (KEk.out _ (HP.out.stepAt (below_regrown _ _ _)) (HP'.out.stepAt (below_regrown _ _ _)))) | (go_at_call 57; exact Calls.regrown_of (KFk.out _ (HR.out.stepAt (below_regrown _ _ _)) (HNr.out.stepAt (below_regrown _ _ _)) (HP.out.stepAt (below_regrown _ _ _))))))))
        refine wpQuiet_nil ?_
        intro W2 hw
        have nn := quiet_end hw
        clear hw t0 t1
        have HRN := Lib.hid (show ∃ k' : Nat, k' ≤ A.length ∧ Value.int .i64 ((k : Int) + 1) = .int .i64 (k' : Int) ∧ Below w3.heap.size w3 W2 from ⟨k + 1, by omega, by go_num, hb.trans (nn.mono hb.size)⟩)
        go_wp2_with fail
        go_roundw
        case rel => exact HRN.out
        case measure => simp [intOf]; omega
      · obtain ⟨m, rfl⟩ : ∃ m, k = m + 1 := ⟨k - 1, by omega⟩
        have hlm : m < A.length := by omega
        obtain ⟨g2, gc2, pb, qc, he2, hgl2, hgc2, hgp2⟩ := LOwn.get (HL3.out.below hb) hlm
        simp only [Value.slice.injEq, Option.some.injEq, Addr.mk.injEq, and_true, true_and] at he2
        obtain ⟨rfl, rfl⟩ := he2
        have KBk : Hid (∀ V, PkAt V V.heap.size (.slice pb A[m].length qc) A[m] → PkAt V V.heap.size (.slice pa A[m + 1].length pc) A[m + 1] → Calls Try.prog 59 #[.slice pb A[m].length qc, .slice pa A[m + 1].length pc] V fun e w' => e = .returned (.bool true) ∧ Below V.heap.size V w') := Lib.hid fun V g1 g3 => KB.out _ (List.getElem_mem hlm) _ hmem (List.pairwise_iff_getElem.1 HSO.out m (m + 1) hlm hlt (by omega)) V _ _ g1 g3
        have HP2 := Lib.hid hgp2
        have j0 : (0 : Int) ≤ (m : Int) := by omega
        have j1 : (m : Int) < (A.length : Int) := by omega
        have hk0 : (0 : Int) < (m : Int) + 1 := by omega
        obtain ⟨L, hL⟩ : ∃ L, A[m + 1] = L := ⟨_, rfl⟩
        obtain ⟨L2, hL2⟩ : ∃ L, A[m] = L := ⟨_, rfl⟩
        rw [hL] at KFk KEk HP HP' hgc hgc' KBk
        rw [hL2] at KBk HP2 hgc2
        clear hgp hgp' hgp2 hmem hL hL2
        have t0 := cell_regrown hgc
        have t1 := cell_regrown hgc'
        have t2 := cell_regrown hgc2
        go_wp2_with fail
        refine wp_region_quiet_below (by kernel_rfl) (by kernel_rfl) ?_
        repeat (any_goals (first | go_big_quiet_step ((first | (go_at_call 53; exact Calls.regrown_of (KEk.out _ (HP.out.stepAt (below_regrown _ _ _)) (HP'.out.stepAt (below_regrown _ _ _)))) | (go_at_call 57; exact Calls.regrown_of (KFk.out _ (HR.out.stepAt (below_regrown _ _ _)) (HNr.out.stepAt (below_regrown _ _ _)) (HP.out.stepAt (below_regrown _ _ _)))) | (go_at_call 59; exact Calls.regrown_of (KBk.out _ (HP2.out.stepAt (below_regrown _ _ _)) (HP.out.stepAt (below_regrown _ _ _)))))) | quiet_step ((first | (go_at_call 53; exact Calls.regrown_of (KEk.out _ (HP.out.stepAt (below_regrown _ _ _)) (HP'.out.stepAt (below_regrown _ _ _)))) | (go_at_call 57; exact Calls.regrown_of (KFk.out _ (HR.out.stepAt (below_regrown _ _ _)) (HNr.out.stepAt (below_regrown _ _ _)) (HP.out.stepAt (below_regrown _ _ _)))) | (go_at_call 59; exact Calls.regrown_of (KBk.out _ (HP2.out.stepAt (below_regrown _ _ _)) (HP.out.stepAt (below_regrown _ _ _))))))))
        refine wpQuiet_nil ?_
        intro W2 hw
        have nn := quiet_end hw
        clear hw t0 t1 t2
        have HRN := Lib.hid (show ∃ k' : Nat, k' ≤ A.length ∧ Value.int .i64 ((m : Int) + 1 + 1) = .int .i64 (k' : Int) ∧ Below w3.heap.size w3 W2 from ⟨m + 1 + 1, by omega, by go_num, hb.trans (nn.mono hb.size)⟩)
        go_wp2_with fail
        go_roundw
        case rel => exact HRN.out
        case measure => simp [intOf]; omega
    · obtain rfl : k = A.length := by omega
      have HR := Lib.hid (H3.out.stepAt hb)
      have HNr := Lib.hid (HN3.out.stepAt hb)
      have HLr := Lib.hid (HL3.out.below hb)
      by_cases hm1 : mo < 1
      · have hmD : decide (mo < 1) = true := decide_eq_true hm1
        clear hm1
        go_wp2_with fail
        refine (KV.out _ HR.out HNr.out).mono ?_
        rintro e w5 ⟨v5, rfl, pb5, hb5⟩
        obtain ⟨ta, tc, rfl, hx⟩ := id pb5
        have m5 := hb.trans (hb5.mono hb.size)
        clear hx pb5 hb5
        go_wp2_with fail
        refine (alive_any _).mono ?_
        rintro e w9 ⟨rfl, hb9⟩
        have b9 := b3.trans ((m5.trans (hb9.mono m5.size)).mono b3.size)
        clear hb9
        go_wp2_with fail
        go_ret
        exact ⟨rfl, b1.trans (b9.mono b1.size)⟩
      by_cases hm5 : 50 < mo
      · have hmD : decide (mo < 1) = false := decide_eq_false hm1
        have hmE : decide (50 < mo) = true := decide_eq_true hm5
        clear hm1 hm5
        go_wp2_with fail
        refine (KV.out _ HR.out HNr.out).mono ?_
        rintro e w5 ⟨v5, rfl, pb5, hb5⟩
        obtain ⟨ta, tc, rfl, hx⟩ := id pb5
        have m5 := hb.trans (hb5.mono hb.size)
        clear hx pb5 hb5
        go_wp2_with fail
        refine (alive_any _).mono ?_
        rintro e w9 ⟨rfl, hb9⟩
        have b9 := b3.trans ((m5.trans (hb9.mono m5.size)).mono b3.size)
        clear hb9
        go_wp2_with fail
        go_ret
        exact ⟨rfl, b1.trans (b9.mono b1.size)⟩
      have hmD : decide (mo < 1) = false := decide_eq_false hm1
      have hmE : decide (50 < mo) = false := decide_eq_false hm5
      have hhd := HHD.out (by omega) (by omega)
      rcases A with _ | ⟨L, tl⟩
      · have hRn : R = none := hhd.symm
        subst hRn
        clear hhd hm1 hm5
        simp only [List.length_nil]
        go_wp2_with fail
        refine (KV.out _ HR.out HNr.out).mono ?_
        rintro e w5 ⟨v5, rfl, pb5, hb5⟩
        obtain ⟨ta, tc, rfl, hx⟩ := id pb5
        have m5 := hb.trans (hb5.mono hb.size)
        clear hx pb5 hb5
        go_wp2_with fail
        refine (alive_any _).mono ?_
        rintro e w9 ⟨rfl, hb9⟩
        have b9 := b3.trans ((m5.trans (hb9.mono m5.size)).mono b3.size)
        clear hb9
        go_wp2_with fail
        go_ret
        exact ⟨rfl, b1.trans (b9.mono b1.size)⟩
      · have hRs : R = some L := hhd.symm
        subst hRs
        obtain ⟨n, hn⟩ : ∃ n, (L :: tl).length = n := ⟨_, rfl⟩
        have hn0 : 0 < n := by rw [← hn]; simp
        obtain ⟨g, gc, pa, pc, he, hgl, hgc, hgp⟩ := LOwn.get (k := 0) HLr.out (by simp)
        simp only [Value.slice.injEq, true_and] at he
        obtain ⟨rfl, rfl⟩ := he
        have hgc0 : _ = some (Value.slice pa L.length pc) := hgc
        have hgp0 : PkAt _ _ (Value.slice pa L.length pc) L := hgp
        have KEk : Hid (∀ V u, PkAt V V.heap.size u L → PkAt V V.heap.size (.slice pa L.length pc) L → Calls Try.prog 53 #[u, .slice pa L.length pc] V fun e w' => e = .returned (.bool true) ∧ Below V.heap.size V w') := Lib.hid fun V u g1 g2 => KE.out L List.mem_cons_self V _ _ g1 g2
        have HP := Lib.hid hgp0
        have hni : (0 : Int) < (n : Int) := by omega
        have hnD : decide ((0 : Int) < (n : Int)) = true := decide_eq_true hni
        rw [hn]
        clear hhd hm1 hm5 hgp hgp0 hgc hn KF KE KB HSO HFIN HL3 HW3 HLr hA50 hk hll
        go_wp2_with fail
        refine (KV.out _ HR.out HNr.out).mono ?_
        rintro e w5 ⟨v5, rfl, pb5, hb5⟩
        have pb5' : PB L _ w5.heap.size v5 w5 := pb5
        obtain ⟨ta, tc, rfl, hx⟩ := id pb5'
        have m5 := hb.trans (hb5.mono hb.size)
        have J5 := Lib.hid pb5'.at
        have HP5 := Lib.hid (HP.out.stepAt hb5)
        have c5 := (hb5.cell (p := ⟨g, 0, none⟩) hgl).trans hgc0
        clear hx pb5 pb5' hb5 hgc0
        go_wp2_with fail
        refine (KEk.out _ _ J5.out HP5.out).mono ?_
        rintro e w6 ⟨rfl, hb6⟩
        have m6 := m5.trans (hb6.mono m5.size)
        go_wp2_with fail
        refine (alive_any _).mono ?_
        rintro e w9 ⟨rfl, hb9⟩
        have b9 := b3.trans ((m6.trans (hb9.mono m6.size)).mono b3.size)
        clear hb9
        go_wp2_with fail
        go_ret
        exact ⟨rfl, b1.trans (b9.mono b1.size)⟩

set_option maxRecDepth 100000 in
set_option maxHeartbeats 1000000 in
theorem allP_long (a : Option Addr) (len cap : Nat) (w : World) (hl : 1048576 < len) :
    Calls Try.prog 12 #[.slice a len cap] w fun e w' => e = .returned (.bool true) ∧ Below w.heap.size w w' := by
  go_enter Try.func12, Try.ntmps12
  go_wp2
  go_ret
  exact ⟨rfl, Below.refl _ _⟩

theorem allP_walk (a : Option Addr) (len cap : Nat) (w : World) (h : CodeIn w a len cap) :
    Calls Try.prog 12 #[.slice a len cap] w fun e w' => e = .returned (.bool true) ∧ Below w.heap.size w w' := by
  by_cases hl : len ≤ 1048576
  · exact allP_short a len cap w h hl
  · exact allP_long a len cap w (by omega)
end Psa

set_option maxRecDepth 100000 in
theorem solveAllP_holds : Rows.FnSolveAllSaid :=
  OpenClaim.holds_of_wide 12 Try.f12 rfl rfl rfl rfl rfl rfl rfl ⟨rfl, rfl, rfl, rfl, rfl⟩ rfl rfl rfl rfl rfl (by kernel_rfl) Try.func12 (by kernel_rfl)
    (of_decide_eq_true (by kernel_rfl)) (by unfold Func.isWrapper; rw [if_neg (by decide +kernel)]; exact ⟨rfl, rfl⟩)
    (fun os started H enc _ => law_lifted (s := Rows.fnSolveAllSpec) (tb := 4) own started laid (by kernel_rfl) Try.func12 rfl (by kernel_rfl) Try.underlying4 (by kernel_rfl)
      (fun ds h => by rw [Try.params12] at h; match ds, h with | [_], _ => rfl)
      (ChangeSpec.witness6 (enc := enc) (C := Try.checked) false ⟨#[], #[.slice none 0 0], []⟩ 8 (by kernel_rfl) (by kernel_rfl) (by kernel_rfl) (by kernel_rfl))
      (law_code Try.params12 Psa.allP_walk))
#print axioms solveAllP_holds

end Go.Proofs.Ytgenjbeamlffmaa
