/- At every code the law FnShelfNames returns true: the program and the model tell the same names for the drawn shelf and needs; where both are fine, each need's name is among them, and each name that a fitting release needs. No condition. -/
import Derived.BigFrame
import Derived.Test.YtigkfhgmnenplaaDnames
import Derived.Test.YtigkfhgmnenplaaInts
import Derived.Test.YtigkfhgmnenplaaNsf
import Derived.Test.YtigkfhgmnenplaaGe
namespace Go.Proofs.Ytigkfhgmnenplaa
open Go.ChangeShapes Go.WideShapes Go.ChangeAt Go.RowKit Go.Joins Go.Sort

namespace Psn
open Foot Dsh Nup
set_option maxRecDepth 100000 in
set_option maxHeartbeats 8000000 in
theorem namesP_short (a : Option Addr) (len cap : Nat) (w : World) (h : CodeIn w a len cap) (hl : len ≤ 1048576) :
    Calls Try.prog 12 #[.slice a len cap] w fun e w' => e = .returned (.bool true) ∧ Below w.heap.size w w' := by
  go_enter Try.func12, Try.ntmps12
  go_wp2_with fail
  refine (Dnm.DrawShelfNames_any a len cap w h).mono ?_
  rintro e w1 ⟨S, sa, caps, M, na, ncap, rfl, hat1, hnd1, hl31, hsz, hM9, hM41, b1⟩
  have hl' : S.length ≤ 1048576 := by omega
  have hq := hsz.big
  have hm' : M.length ≤ 1048576 := by omega
  have hmq : ∀ q ∈ M, q.2.length ≤ 1048576 := fun q hq => by have := hM41 q hq; omega
  have KI : Hid (∀ V, RlAt V V.heap.size (.slice sa S.length caps) S → NdAt V V.heap.size (.slice na M.length ncap) M → Calls Try.prog 32 #[.slice sa S.length caps, .slice na M.length ncap] V (IPost (snL S M) V)) := Lib.hid fun V g g' => implShelfNames_any _ _ S M V hl' hq hm' hmq g g'
  have KS : Hid (∀ V, RlAt V V.heap.size (.slice sa S.length caps) S → NdAt V V.heap.size (.slice na M.length ncap) M → Calls Try.prog 30 #[.slice sa S.length caps, .slice na M.length ncap] V (IPost (snL S M) V)) := Lib.hid fun V g g' => specShelfNames_any _ _ S M V hl' hq hm' hmq g g'
  have KO : Hid (∀ V, RlAt V V.heap.size (.slice sa S.length caps) S → Calls Try.prog 54 #[.slice sa S.length caps] V fun e w' => e = .returned (.bool (shOk S)) ∧ Below V.heap.size V w') := Lib.hid fun V g => implShelfOk_any _ S V hl' hq g
  have KM : Hid (∀ V, NdAt V V.heap.size (.slice na M.length ncap) M → Calls Try.prog 55 #[.slice na M.length ncap] V fun e w' => e = .returned (.bool (ndOk M)) ∧ Below V.heap.size V w') := Lib.hid fun V g => implNeedsOk_any _ M V hm' hmq g
  have KF : Hid (∀ V, RlAt V V.heap.size (.slice sa S.length caps) S → ∀ n u L, L.length ≤ 1048576 → SpAt V V.heap.size u L → Calls Try.prog 50 #[.slice sa S.length caps, need n u] V (IPost (shFits S n L) V)) := Lib.hid fun V g n u L hL g' => implShelfFits_any _ u S n L V hl' hq hL g g'
  have HFL := Lib.hid (show ∀ n L, (shFits S n L).length ≤ 1048576 from fun n L => Nat.le_trans (shFits_len S n L) hl')
  have H := Lib.hid hat1
  have HN := Lib.hid hnd1
  have HNL := Lib.hid (show (snL S M).length ≤ 1048576 from Nat.le_trans (snL_len S M) (by omega))
  have HNIL := Lib.hid (show (shOk S && ndOk M) = false → snL S M = [] from fun h => by unfold snL; rw [h]; rfl)
  have HCL := Lib.hid (sn_closed (S := S) (N := M))
  have HQ := Lib.hid hq
  have HMQ := Lib.hid hmq
  obtain ⟨N, hN⟩ : ∃ X, snL S M = X := ⟨_, rfl⟩
  rw [hN] at KI KS HNIL HCL HNL
  clear hN hat1 hnd1 h hsz hM41 hq hmq
  go_wp2_with fail
  refine (KI.out _ H.out HN.out).mono ?_
  rintro e w2 ⟨v2, rfl, ib2, b2⟩
  obtain ⟨ia, ic, rfl, hx⟩ := id ib2
  have IN2 := Lib.hid ib2.at
  clear hx ib2
  go_wp2_with fail
  refine (KS.out _ (H.out.stepAt b2) (HN.out.stepAt b2)).mono ?_
  rintro e w3 ⟨v3, rfl, ib3, hb⟩
  have b3 := b2.trans (hb.mono b2.size)
  obtain ⟨ja, jc, rfl, hx⟩ := id ib3
  have IN3 := Lib.hid (Its.stepAt IN2.out hb)
  have JN3 := Lib.hid ib3.at
  clear hx ib3 hb IN2 b2
  go_wp2_with fail
  refine (Its.sameInts_eq _ _ N _ HNL.out IN3.out JN3.out).mono ?_
  rintro e w4 ⟨rfl, hb⟩
  have b4 := b3.trans (hb.mono b3.size)
  have IN4 := Lib.hid (Its.stepAt IN3.out hb)
  clear hb IN3 JN3 b3 KI KS
  rcases ho2 : shOk S
  · rw [ho2] at KO
    have hN0 := HNIL.out (by rw [ho2]; rfl)
    clear HNIL HCL ho2 KM KF
    subst hN0
    go_wp2_with fail
    refine (KO.out _ (H.out.stepAt b4)).mono ?_
    rintro e w5 ⟨rfl, hb⟩
    have b5 := b4.trans (hb.mono b4.size)
    clear hb
    go_wp2_with fail
    refine (alive_any _).mono ?_
    rintro e w6 ⟨rfl, hb⟩
    have b6 := b5.trans (hb.mono b5.size)
    clear hb
    go_wp2_with fail
    go_ret
    exact ⟨rfl, b1.trans (b6.mono b1.size)⟩
  rcases ho3 : ndOk M
  · rw [ho2] at KO
    rw [ho3] at KM
    have hN0 := HNIL.out (by rw [ho3, Bool.and_false])
    clear HNIL HCL ho2 ho3 KF
    subst hN0
    go_wp2_with fail
    refine (KO.out _ (H.out.stepAt b4)).mono ?_
    rintro e w5 ⟨rfl, hb⟩
    have b5 := b4.trans (hb.mono b4.size)
    clear hb
    go_wp2_with fail
    refine (KM.out _ (HN.out.stepAt b5)).mono ?_
    rintro e w6 ⟨rfl, hb⟩
    have b6 := b5.trans (hb.mono b5.size)
    clear hb
    go_wp2_with fail
    refine (alive_any _).mono ?_
    rintro e w7 ⟨rfl, hb⟩
    have b7 := b6.trans (hb.mono b6.size)
    clear hb
    go_wp2_with fail
    go_ret
    exact ⟨rfl, b1.trans (b7.mono b1.size)⟩
  have HC1 := Lib.hid (HCL.out ho2 ho3).1
  have HC2 := Lib.hid (HCL.out ho2 ho3).2
  rw [ho2] at KO
  rw [ho3] at KM
  clear HNIL HCL ho2 ho3
  go_wp2_with fail
  refine (KO.out _ (H.out.stepAt b4)).mono ?_
  rintro e w5 ⟨rfl, hb⟩
  have b5 := b4.trans (hb.mono b4.size)
  have IN5 := Lib.hid (Its.stepAt IN4.out hb)
  clear hb
  go_wp2_with fail
  refine (KM.out _ (HN.out.stepAt b5)).mono ?_
  rintro e w6 ⟨rfl, hb⟩
  have b6 := b5.trans (hb.mono b5.size)
  have IN6 := Lib.hid (Its.stepAt IN5.out hb)
  have KL : Hid (∀ V x, x ∈ N → InAt V V.heap.size (.slice ia N.length ic) N → Calls Try.prog 58 #[.slice ia N.length ic, .int .i64 x] V fun e w' => e = .returned (.bool true) ∧ Below V.heap.size V w') := Lib.hid fun V x hx g => by
    have := Its.hasInt_any _ N x V HNL.out g
    rwa [decide_eq_true hx] at this
  clear hb IN4 IN5 b4 b5 KO KM
  go_wp2_with fail
  go_loopw [6] (fun i wr => ∃ k : Nat, k ≤ M.length ∧ i = .int .i64 (k : Int) ∧ Below w6.heap.size w6 wr) (fun i _ => M.length - (intOf i).toNat)
  case atStart => exact ⟨0, Nat.zero_le _, rfl, Below.refl _ _⟩
  case round =>
    obtain ⟨k, hk, rfl, hb⟩ := hrel
    have m1 := b6.trans (hb.mono b6.size)
    by_cases hlt : k < M.length
    · obtain ⟨gb, go', hna, hB, hc⟩ : ∃ b o, na = some ⟨b, o, none⟩ ∧ b < w1.heap.size ∧ ∀ i (h : i < M.length), NdC w1 w1.heap.size b (o + i * 2) M[i] := by
        obtain ⟨a', c', e, hh⟩ := HN.out
        simp only [Value.slice.injEq] at e
        obtain ⟨rfl, _, _⟩ := e
        rcases hh with hh | hh
        · rw [hh] at hlt; simp at hlt
        · exact hh
      subst hna
      obtain ⟨nm, L, hnl⟩ : ∃ nm L, M[k] = (nm, L) := ⟨_, _, rfl⟩
      have hmem : (nm, L) ∈ M := by rw [← hnl]; exact List.getElem_mem hlt
      obtain ⟨d0, la, lc, d1, hs⟩ := (hc k hlt).below m1 hB
      rw [hnl] at d0 d1 hs
      simp only at d0 d1 hs
      have HS := Lib.hid (hs.mono m1.size)
      have HLL := Lib.hid (show L.length ≤ 1048576 from HMQ.out _ hmem)
      have HIN := Lib.hid (HC1.out _ hmem)
      have HC := Lib.hid (HC2.out _ hmem)
      have IW := Lib.hid (Its.stepAt IN6.out hb)
      have j0 : (0 : Int) ≤ (k : Int) := by omega
      have j1 : (k : Int) < (M.length : Int) := by omega
      have hPL := Lib.hid (HFL.out nm L)
      have KF1 : Hid (∀ V, RlAt V V.heap.size (.slice sa S.length caps) S → ∀ u, SpAt V V.heap.size u L → Calls Try.prog 50 #[.slice sa S.length caps, need nm u] V (IPost (shFits S nm L) V)) := Lib.hid fun V g u g' => KF.out V g nm u L HLL.out g'
      replace HC := Lib.hid (show ∀ z ∈ shFits S nm L, _ from HC.out)
      generalize shFits S nm L = P at *
      have gB : gb < wr.heap.size := Nat.lt_of_lt_of_le hB m1.size
      clear hnl hc hs hmem
      go_wp2_with fail
      refine (KL.out _ _ HIN.out IW.out).mono ?_
      rintro e w7 ⟨rfl, hb7⟩
      have c0 := (hb7.cell (p := ⟨gb, go' + k * 2, none⟩) gB).trans d0
      have c1 := (hb7.cell (p := ⟨gb, go' + k * 2 + 1, none⟩) gB).trans d1
      have m7 := m1.trans (hb7.mono m1.size)
      have IW7 := Lib.hid (Its.stepAt IW.out hb7)
      have HS7 := Lib.hid ((HS.out.below hb7).mono hb7.size)
      have n7 := hb.trans (hb7.mono hb.size)
      clear hb7 d0 d1 IW HS
      go_wp2_with fail
      refine (KF1.out _ (H.out.stepAt m7) _ HS7.out).mono ?_
      rintro e w8 ⟨v8, rfl, ib8, hb8⟩
      obtain ⟨pa, pc, rfl, hx⟩ := id ib8
      have PN8 := Lib.hid ib8.at
      have m8 := m7.trans (hb8.mono m7.size)
      have IW8 := Lib.hid (Its.stepAt IW7.out hb8)
      have n8 := n7.trans (hb8.mono n7.size)
      clear hx ib8 hb8 c0 c1 IW7 HS7 KF1 n7 hb m1
      go_wp2_with fail
      go_loopw [8] (fun i wr => ∃ p : Nat, p ≤ P.length ∧ i = .int .i64 (p : Int) ∧ Below w8.heap.size w8 wr) (fun i _ => P.length - (intOf i).toNat)
      case atStart => exact ⟨0, Nat.zero_le _, rfl, Below.refl _ _⟩
      case round =>
        rename World => wx
        obtain ⟨p, hp, rfl, hb⟩ := hrel
        have mx := m8.trans (hb.mono m8.size)
        by_cases hpl : p < P.length
        · obtain ⟨pb, po, hpa, hpB, hpc⟩ : ∃ b o, pa = some ⟨b, o, none⟩ ∧ b < w8.heap.size ∧ ∀ i (h : i < P.length), w8.cell? ⟨b, o + i, none⟩ = some (.int .i64 P[i]) := by
            obtain ⟨a', c', e, hh⟩ := PN8.out
            simp only [Value.slice.injEq] at e
            obtain ⟨rfl, _, _⟩ := e
            rcases hh with rfl | hh
            · simp at hpl
            · exact hh
          subst hpa
          obtain ⟨m, hmS, hz, hQ⟩ := HC.out _ (List.getElem_mem hpl)
          have l0 := hpc p hpl
          rw [hz] at l0
          obtain ⟨sb, so, hsa, hsB, hsc⟩ : ∃ b o, sa = some ⟨b, o, none⟩ ∧ b < w1.heap.size ∧ ∀ i (h : i < S.length), RlC w1 w1.heap.size b (o + i * 7) S[i] := by
            obtain ⟨a', c', e, hh⟩ := H.out
            simp only [Value.slice.injEq] at e
            obtain ⟨rfl, _, _⟩ := e
            rcases hh with hh | hh
            · rw [hh] at hmS; simp at hmS
            · exact hh
          subst hsa
          obtain ⟨_, ad, cap', s6, hs6⟩ := hsc m hmS
          have HQs := Lib.hid hQ
          have HND := Lib.hid hs6
          have hQL : S[m].2.2.2.length ≤ 1048576 := (HQ.out _ (List.getElem_mem hmS)).1
          obtain ⟨Q, hQe⟩ : ∃ X, S[m].2.2.2 = X := ⟨_, rfl⟩
          rw [hQe] at HQs HND hQL s6
          have i0 : (0 : Int) ≤ (m : Int) := by omega
          have i1 : (m : Int) < (S.length : Int) := by omega
          have p0 : (0 : Int) ≤ (p : Int) := by omega
          have p1 : (p : Int) < (P.length : Int) := by omega
          clear hQ hsc hs6 hpc hz hQe
          go_wp2_with fail
          go_loopw [9] (fun i wr => ∃ q : Nat, q ≤ Q.length ∧ i = .int .i64 (q : Int) ∧ Below wx.heap.size wx wr) (fun i _ => Q.length - (intOf i).toNat)
          case atStart => exact ⟨0, Nat.zero_le _, rfl, Below.refl _ _⟩
          case round =>
            rename World => wy
            obtain ⟨q, hq, rfl, hbq⟩ := hrel
            have ny := hb.trans (hbq.mono hb.size)
            have my := mx.trans (hbq.mono mx.size)
            have f0 := (ny.cell (p := ⟨pb, po + p, none⟩) hpB).trans l0
            have f1 := (my.cell (p := ⟨sb, so + m * 7 + 6, none⟩) hsB).trans s6
            by_cases hql : q < Q.length
            · obtain ⟨qb, qo, had, hgB, hgc⟩ : ∃ b o, ad = some ⟨b, o, none⟩ ∧ b < w1.heap.size ∧ ∀ i (h : i < Q.length), NdC w1 w1.heap.size b (o + i * 2) Q[i] := by
                obtain ⟨a', c', e', hh⟩ := HND.out
                simp only [Value.slice.injEq] at e'
                obtain ⟨rfl, _, _⟩ := e'
                rcases hh with hh | hh
                · rw [hh] at hql; simp at hql
                · exact hh
              subst had
              obtain ⟨y, T, hyt⟩ : ∃ y T, Q[q] = (y, T) := ⟨_, _, rfl⟩
              obtain ⟨g0, _, _, _, _⟩ := (hgc q hql).below my hgB
              rw [hyt] at g0
              simp only at g0
              have HY := Lib.hid (HQs.out _ (List.getElem_mem hql))
              rw [hyt] at HY
              have IWy := Lib.hid (Its.stepAt IW8.out ny)
              have q0 : (0 : Int) ≤ (q : Int) := by omega
              have q1 : (q : Int) < (Q.length : Int) := by omega
              clear hyt hgc
              go_wp2_with fail
              refine (KL.out _ _ HY.out IWy.out).mono ?_
              rintro e w9 ⟨rfl, hb9⟩
              have HR := Lib.hid (hbq.trans (hb9.mono hbq.size))
              clear hb9 f0 f1 g0
              go_wp2_with fail
              go_roundw
              case rel => exact ⟨q + 1, by omega, by go_num, HR.out⟩
              case measure => simp [intOf]; omega
            · obtain rfl : q = Q.length := by omega
              have HR := Lib.hid ny
              have hPb := hPL.out
              go_wp2_with fail
              go_roundw
              case rel => exact ⟨p + 1, by omega, by go_num, HR.out⟩
              case measure => simp [intOf]; omega
        · obtain rfl : p = P.length := by omega
          have HR := Lib.hid (n8.trans (hb.mono n8.size))
          go_wp2_with fail
          go_roundw
          case rel => exact ⟨k + 1, by omega, by go_num, HR.out⟩
          case measure => simp [intOf]; omega
    · obtain rfl : k = M.length := by omega
      go_wp2_with fail
      refine (alive_any _).mono ?_
      rintro e w7 ⟨rfl, hb7⟩
      have b7 := m1.trans (hb7.mono m1.size)
      clear hb7
      go_wp2_with fail
      go_ret
      exact ⟨rfl, b1.trans (b7.mono b1.size)⟩

set_option maxRecDepth 100000 in
set_option maxHeartbeats 1000000 in
theorem namesP_long (a : Option Addr) (len cap : Nat) (w : World) (hl : 1048576 < len) :
    Calls Try.prog 12 #[.slice a len cap] w fun e w' => e = .returned (.bool true) ∧ Below w.heap.size w w' := by
  go_enter Try.func12, Try.ntmps12
  go_wp2
  go_ret
  exact ⟨rfl, Below.refl _ _⟩

theorem namesP_walk (a : Option Addr) (len cap : Nat) (w : World) (h : CodeIn w a len cap) :
    Calls Try.prog 12 #[.slice a len cap] w fun e w' => e = .returned (.bool true) ∧ Below w.heap.size w w' := by
  by_cases hl : len ≤ 1048576
  · exact namesP_short a len cap w h hl
  · exact namesP_long a len cap w (by omega)
end Psn

set_option maxRecDepth 100000 in
theorem shelfNamesP_holds : Rows.FnShelfNamesSaid :=
  OpenClaim.holds_of_wide 12 Try.f12 rfl rfl rfl rfl rfl rfl rfl ⟨rfl, rfl, rfl, rfl, rfl⟩ rfl rfl rfl rfl rfl (by kernel_rfl) Try.func12 (by kernel_rfl)
    (of_decide_eq_true (by kernel_rfl)) (by unfold Func.isWrapper; rw [if_neg (by decide +kernel)]; exact ⟨rfl, rfl⟩)
    (fun os started H enc _ => law_lifted (s := Rows.fnShelfNamesSpec) (tb := 4) own started laid (by kernel_rfl) Try.func12 rfl (by kernel_rfl) Try.underlying4 (by kernel_rfl)
      (fun ds h => by rw [Try.params12] at h; match ds, h with | [_], _ => rfl)
      (ChangeSpec.witness6 (enc := enc) (C := Try.checked) false ⟨#[], #[.slice none 0 0], []⟩ 8 (by kernel_rfl) (by kernel_rfl) (by kernel_rfl) (by kernel_rfl))
      (law_code Try.params12 Psn.namesP_walk))
#print axioms shelfNamesP_holds

end Go.Proofs.Ytigkfhgmnenplaa
