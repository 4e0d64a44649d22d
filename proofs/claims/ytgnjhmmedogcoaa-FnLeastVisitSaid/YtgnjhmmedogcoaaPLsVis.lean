/- At every code the law FnLeastVisit returns true: the program and the model tell the same places for the drawn shelf and needs; what each need, and each need of what comes up, asks for is among them; and where nothing is told there are none. No condition. -/
import Derived.BigFrame
import Derived.Deep.RegionHeld3
import Derived.Test.YtgnjhmmedogcoaaDlst
import Derived.Test.YtgnjhmmedogcoaaInts
import Derived.Test.YtgnjhmmedogcoaaLsw
namespace Go.Proofs.Ytgnjhmmedogcoaa
open Go.ChangeShapes Go.WideShapes Go.ChangeAt Go.RowKit Go.Joins Go.Sort

namespace Plv
open Foot Dsh Dfi Dnm Dls Nup Lst
theorem lv_closed {S : List Rel} {N : List Nd} (h : lvB S N = true) : (∀ q ∈ N, Lst.leastOf S q.1 q.2 ∈ lvL S N) ∧ ∀ z ∈ lvL S N, ∃ m : Nat, ∃ h : m < S.length, z = (m : Int) ∧ ∀ q ∈ S[m].2.2.2, Lst.leastOf S q.1 q.2 ∈ lvL S N := by
  obtain ⟨hS, hN, hz, hu⟩ := lv_yes h
  have ask : ∀ q, Up S N q → ndOk [q] = true → Lst.leastOf S q.1 q.2 ∈ lvL S N := fun q hq h1 => by
    obtain ⟨m, e1, e2, e3⟩ := hu q hq
    rw [leastOf_ask hS h1, e1, hz]
    exact ⟨m, rfl, e2, e3⟩
  refine ⟨fun q hq => ask q (.inl hq) (nd_one hN q hq).2.2, fun z hz' => ?_⟩
  obtain ⟨m, rfl, hm, hr⟩ := (hz z).1 hz'
  exact ⟨m, hm, rfl, fun q hq => ask q (.inr ⟨m, _, hr, List.getElem?_eq_getElem hm, hq⟩) (nd_one (sh_needs hS _ (List.getElem_mem hm)) q hq).2.2⟩
set_option maxRecDepth 100000 in
set_option maxHeartbeats 8000000 in
theorem lsvis_short (a : Option Addr) (len cap : Nat) (w : World) (h : CodeIn w a len cap) (hl : len ≤ 1048576) :
    Calls Try.prog 6 #[.slice a len cap] w fun e w' => e = .returned (.bool true) ∧ Below w.heap.size w w' := by
  go_enter Try.func6, Try.ntmps6
  go_wp2_with fail
  refine (DrawLeastVisit_any a len cap w h).mono ?_
  rintro e w1 ⟨S, sa, caps, M, na, ncap, rfl, hat1, hnd1, hl31, hsz, hM9, hM41, b1⟩
  have hl' : S.length ≤ 1048576 := by omega
  have hq := hsz.big
  have hm' : M.length ≤ 1048576 := by omega
  have hmq : ∀ q ∈ M, q.2.length ≤ 1048576 := fun q hq => by have := hM41 q hq; omega
  have KI : Hid (∀ V, RlAt V V.heap.size (.slice sa S.length caps) S → NdAt V V.heap.size (.slice na M.length ncap) M → Calls Try.prog 15 #[.slice sa S.length caps, .slice na M.length ncap] V (fun e w' => ∃ v, e = .returned (.tuple #[v, .bool (lvB S M)]) ∧ IB (lvL S M) V.heap.size w'.heap.size v w' ∧ Below V.heap.size V w')) := Lib.hid fun V g g' => implLeastVisit_any _ _ S M V hl' hq hm' hmq g g'
  have KS : Hid (∀ V, RlAt V V.heap.size (.slice sa S.length caps) S → NdAt V V.heap.size (.slice na M.length ncap) M → Calls Try.prog 12 #[.slice sa S.length caps, .slice na M.length ncap] V (fun e w' => ∃ v, e = .returned (.tuple #[v, .bool (lvB S M)]) ∧ IB (lvL S M) V.heap.size w'.heap.size v w' ∧ Below V.heap.size V w')) := Lib.hid fun V g g' => specLeastVisit_any _ _ S M V hl' hq hm' hmq g g'
  have KF : Hid (∀ V, RlAt V V.heap.size (.slice sa S.length caps) S → ∀ n u L, L.length ≤ 1048576 → SpAt V V.heap.size u L → Calls Try.prog 36 #[.slice sa S.length caps, need n u] V fun e w' => e = .returned (.int .i64 (Lst.leastOf S n L)) ∧ Below V.heap.size V w') := Lib.hid fun V g n u L hL g' => implLeastOf_any _ u S n L V hl' hq hL g g'
  have KV : Hid (∀ V, Calls Try.prog 37 #[] V fun e w' => e = .returned (.bool true) ∧ Below V.heap.size V w') := Lib.hid fun V => alive_any V
  have H := Lib.hid hat1
  have HN := Lib.hid hnd1
  have HQ := Lib.hid hq
  have HMQ := Lib.hid hmq
  have HNL := Lib.hid (show (lvL S M).length ≤ 1048576 from Nat.le_trans lvL_small (by omega))
  have hno := lvL_no (S := S) (N := M)
  have hcl := lv_closed (S := S) (N := M)
  obtain ⟨N, hN⟩ : ∃ X, lvL S M = X := ⟨_, rfl⟩
  obtain ⟨bf, hbf⟩ : ∃ X, lvB S M = X := ⟨_, rfl⟩
  rw [hN, hbf] at KI KS hno hcl
  rw [hN] at HNL
  have hbb : (bf != bf) = false := by simp
  clear hN hbf hat1 hnd1 h hsz hM41 hq hmq
  have HNO := Lib.hid hno
  have HCL := Lib.hid hcl
  clear hno hcl
  go_wp2_with fail
  refine (KI.out _ H.out HN.out).mono ?_
  rintro e w2 ⟨v2, rfl, ib2, b2⟩
  obtain ⟨ia, ic, rfl, hx⟩ := id ib2
  have IN2 := Lib.hid ib2.at
  clear hx ib2
  go_wp2_with fail
  refine (KS.out _ (H.out.stepAt b2) (HN.out.stepAt b2)).mono ?_
  rintro e w3 ⟨v3, rfl, ib3, hb⟩
  have b3 := b2.trans (hb.mono b2.size)
  obtain ⟨ja, jc, rfl, hx⟩ := id ib3
  have IN3 := Lib.hid (Its.stepAt IN2.out hb)
  have JN3 := Lib.hid ib3.at
  clear hx ib3 hb IN2 b2
  go_wp2_with fail
  refine (Its.sameInts_eq _ _ N _ HNL.out IN3.out JN3.out).mono ?_
  rintro e w4 ⟨rfl, hb⟩
  have b4 := b3.trans (hb.mono b3.size)
  have IN4 := Lib.hid (Its.stepAt IN3.out hb)
  clear hb IN3 JN3 b3 KI KS
  rcases bf
  · have hN0 := HNO.out rfl
    subst hN0
    clear HNO HCL KF
    go_wp2_with fail
    go_loopw [9] (fun i wr => i = .int .i64 0 ∧ Below w4.heap.size w4 wr) (fun _ _ => 0)
    case atStart => exact ⟨rfl, Below.refl _ _⟩
    case round =>
      obtain ⟨rfl, hb0⟩ := hrel
      go_wp2_with fail
      go_loopw [10] (fun i wx => i = .int .i64 0 ∧ Below w4.heap.size w4 wx) (fun _ _ => 0)
      case atStart => exact ⟨rfl, hb0⟩
      case round =>
        rename World => wx
        obtain ⟨rfl, hb1⟩ := hrel
        have b4x := b4.trans (hb1.mono b4.size)
        go_wp2_with fail
        refine (KV.out _).mono ?_
        rintro e w5 ⟨rfl, hb⟩
        have b5 := b4x.trans (hb.mono b4x.size)
        go_wp2_with fail
        go_ret
        exact ⟨rfl, b1.trans (b5.mono b1.size)⟩
  have HC1 := Lib.hid (HCL.out rfl).1
  have HC2 := Lib.hid (HCL.out rfl).2
  have KL : Hid (∀ V x, x ∈ N → InAt V V.heap.size (.slice ia N.length ic) N → Calls Try.prog 35 #[.slice ia N.length ic, .int .i64 x] V fun e w' => e = .returned (.bool true) ∧ Below V.heap.size V w') := Lib.hid fun V x hx g => by
    have := Its.hasInt_any _ N x V HNL.out g
    rwa [decide_eq_true hx] at this
  clear HNO HCL
  go_wp2_with fail
  go_loopw [9] (fun i wr => ∃ k : Nat, k ≤ M.length ∧ i = .int .i64 (k : Int) ∧ Below w4.heap.size w4 wr) (fun i _ => M.length - (intOf i).toNat)
  case atStart => exact ⟨0, Nat.zero_le _, rfl, Below.refl _ _⟩
  case round =>
    obtain ⟨k, hk, rfl, hb⟩ := hrel
    have m1 := b4.trans (hb.mono b4.size)
    by_cases hlt : k < M.length
    · obtain ⟨gb, go', hna, hB, hc⟩ : ∃ b o, na = some ⟨b, o, none⟩ ∧ b < w1.heap.size ∧ ∀ i (h : i < M.length), NdC w1 w1.heap.size b (o + i * 2) M[i] := by
        obtain ⟨a', c', e, hh⟩ := HN.out
        simp only [Value.slice.injEq] at e
        obtain ⟨rfl, _, _⟩ := e
        rcases hh with hh | hh
        · rw [hh] at hlt; simp at hlt
        · exact hh
      subst hna
      obtain ⟨nm, L, hnl⟩ : ∃ nm L, M[k] = (nm, L) := ⟨_, _, rfl⟩
      have hmem : (nm, L) ∈ M := by rw [← hnl]; exact List.getElem_mem hlt
      obtain ⟨d0, la, lc, d1, hs⟩ := (hc k hlt).below m1 hB
      rw [hnl] at d0 d1 hs
      simp only at d0 d1 hs
      have HS := Lib.hid (hs.mono m1.size)
      have hLL := HMQ.out _ hmem
      have HIN := Lib.hid (HC1.out _ hmem)
      have IW := Lib.hid (Its.stepAt IN4.out hb)
      have j0 : (0 : Int) ≤ (k : Int) := by omega
      have j1 : (k : Int) < (M.length : Int) := by omega
      have KF1 : Hid (∀ V, RlAt V V.heap.size (.slice sa S.length caps) S → ∀ u, SpAt V V.heap.size u L → Calls Try.prog 36 #[.slice sa S.length caps, need nm u] V fun e w' => e = .returned (.int .i64 (Lst.leastOf S nm L)) ∧ Below V.heap.size V w') := Lib.hid fun V g u g' => KF.out V g nm u L hLL g'
      simp only at HIN
      generalize Lst.leastOf S nm L = r at *
      clear hnl hc hs hmem
      go_wp2_with fail
      refine (KF1.out _ (H.out.stepAt m1) _ HS.out).mono ?_
      rintro e w5 ⟨rfl, hb5⟩
      have m5 := hb.trans (hb5.mono hb.size)
      have IW5 := Lib.hid (Its.stepAt IW.out hb5)
      clear hb5 d0 d1
      go_wp2_with fail
      refine (KL.out _ _ HIN.out IW5.out).mono ?_
      rintro e w6 ⟨rfl, hb6⟩
      have HR := Lib.hid (m5.trans (hb6.mono m5.size))
      clear hb6
      go_wp2_with fail
      go_roundw
      case rel => exact ⟨k + 1, by omega, by go_num, HR.out⟩
      case measure => simp [intOf]; omega
    · obtain rfl : k = M.length := by omega
      have IW := Lib.hid (Its.stepAt IN4.out hb)
      have hNb := HNL.out
      clear hb
      go_wp2_with fail
      go_loopw [10] (fun i wx => ∃ p : Nat, p ≤ N.length ∧ i = .int .i64 (p : Int) ∧ Below wr.heap.size wr wx) (fun i _ => N.length - (intOf i).toNat)
      case atStart => exact ⟨0, Nat.zero_le _, rfl, Below.refl _ _⟩
      case round =>
        rename World => wx
        obtain ⟨p, hp, rfl, hb⟩ := hrel
        have mx := m1.trans (hb.mono m1.size)
        by_cases hpl : p < N.length
        · obtain ⟨pb, po, hpa, hpB, hpc⟩ : ∃ b o, ia = some ⟨b, o, none⟩ ∧ b < wr.heap.size ∧ ∀ i (h : i < N.length), wr.cell? ⟨b, o + i, none⟩ = some (.int .i64 N[i]) := by
            obtain ⟨a', c', e, hh⟩ := IW.out
            simp only [Value.slice.injEq] at e
            obtain ⟨rfl, _, _⟩ := e
            rcases hh with rfl | hh
            · simp at hpl
            · exact hh
          subst hpa
          obtain ⟨m, hmS, hz, hQ⟩ := HC2.out _ (List.getElem_mem hpl)
          have l0 := hpc p hpl
          rw [hz] at l0
          obtain ⟨sb, so, hsa, hsB, hsc⟩ : ∃ b o, sa = some ⟨b, o, none⟩ ∧ b < w1.heap.size ∧ ∀ i (h : i < S.length), RlC w1 w1.heap.size b (o + i * 7) S[i] := by
            obtain ⟨a', c', e, hh⟩ := H.out
            simp only [Value.slice.injEq] at e
            obtain ⟨rfl, _, _⟩ := e
            rcases hh with hh | hh
            · rw [hh] at hmS; simp at hmS
            · exact hh
          subst hsa
          obtain ⟨_, ad, cap', s6, hs6⟩ := hsc m hmS
          have HQs := Lib.hid hQ
          have HND := Lib.hid hs6
          have hQL := HQ.out _ (List.getElem_mem hmS)
          obtain ⟨Q, hQe⟩ : ∃ X, S[m].2.2.2 = X := ⟨_, rfl⟩
          rw [hQe] at HQs HND hQL s6
          have hQl := hQL.1
          have HQL := Lib.hid hQL.2
          have i0 : (0 : Int) ≤ (m : Int) := by omega
          have i1 : (m : Int) < (S.length : Int) := by omega
          have p0 : (0 : Int) ≤ (p : Int) := by omega
          have p1 : (p : Int) < (N.length : Int) := by omega
          clear hQ hsc hs6 hpc hz hQe hQL
          go_wp2_with fail
          go_loopw [11] (fun i wy => ∃ q : Nat, q ≤ Q.length ∧ i = .int .i64 (q : Int) ∧ Below wx.heap.size wx wy) (fun i _ => Q.length - (intOf i).toNat)
          case atStart => exact ⟨0, Nat.zero_le _, rfl, Below.refl _ _⟩
          case round =>
            rename World => wy
            obtain ⟨q, hq, rfl, hbq⟩ := hrel
            have ny := hb.trans (hbq.mono hb.size)
            have my := mx.trans (hbq.mono mx.size)
            have f0 := (ny.cell (p := ⟨pb, po + p, none⟩) hpB).trans l0
            have f1 := (my.cell (p := ⟨sb, so + m * 7 + 6, none⟩) hsB).trans s6
            by_cases hql : q < Q.length
            · obtain ⟨qb, qo, had, hgB, hgc⟩ : ∃ b o, ad = some ⟨b, o, none⟩ ∧ b < w1.heap.size ∧ ∀ i (h : i < Q.length), NdC w1 w1.heap.size b (o + i * 2) Q[i] := by
                obtain ⟨a', c', e', hh⟩ := HND.out
                simp only [Value.slice.injEq] at e'
                obtain ⟨rfl, _, _⟩ := e'
                rcases hh with hh | hh
                · rw [hh] at hql; simp at hql
                · exact hh
              subst had
              obtain ⟨y, L, hyt⟩ : ∃ y T, Q[q] = (y, T) := ⟨_, _, rfl⟩
              obtain ⟨g0, la, lc, g1, hs⟩ := (hgc q hql).below my hgB
              rw [hyt] at g0 g1 hs
              simp only at g0 g1 hs
              have HS := Lib.hid (hs.mono my.size)
              have HY := Lib.hid (HQs.out _ (List.getElem_mem hql))
              have hLL := HQL.out _ (List.getElem_mem hql)
              rw [hyt] at HY hLL
              simp only at HY hLL
              have IWy := Lib.hid (Its.stepAt IW.out ny)
              have q0 : (0 : Int) ≤ (q : Int) := by omega
              have q1 : (q : Int) < (Q.length : Int) := by omega
              have KF1 : Hid (∀ V, RlAt V V.heap.size (.slice (some ⟨sb, so, none⟩) S.length caps) S → ∀ u, SpAt V V.heap.size u L → Calls Try.prog 36 #[.slice (some ⟨sb, so, none⟩) S.length caps, need y u] V fun e w' => e = .returned (.int .i64 (Lst.leastOf S y L)) ∧ Below V.heap.size V w') := Lib.hid fun V g u g' => KF.out V g y u L hLL g'
              generalize Lst.leastOf S y L = r at *
              clear hyt hgc hs
              go_wp2_with fail
              refine (KF1.out _ (H.out.stepAt my) _ HS.out).mono ?_
              rintro e w8 ⟨rfl, hb8⟩
              have m8 := hbq.trans (hb8.mono hbq.size)
              have IW8 := Lib.hid (Its.stepAt IWy.out hb8)
              clear hb8 f0 f1 g0 g1
              go_wp2_with fail
              refine (KL.out _ _ HY.out IW8.out).mono ?_
              rintro e w9 ⟨rfl, hb9⟩
              have HR := Lib.hid (m8.trans (hb9.mono m8.size))
              clear hb9
              go_wp2_with fail
              go_roundw
              case rel => exact ⟨q + 1, by omega, by go_num, HR.out⟩
              case measure => simp [intOf]; omega
            · obtain rfl : q = Q.length := by omega
              have HR := Lib.hid ny
              go_wp2_with fail
              go_roundw
              case rel => exact ⟨p + 1, by omega, by go_num, HR.out⟩
              case measure => simp [intOf]; omega
        · obtain rfl : p = N.length := by omega
          go_wp2_with fail
          refine (KV.out _).mono ?_
          rintro e w7 ⟨rfl, hb7⟩
          have b7 := mx.trans (hb7.mono mx.size)
          clear hb7
          go_wp2_with fail
          go_ret
          exact ⟨rfl, b1.trans (b7.mono b1.size)⟩

set_option maxRecDepth 100000 in
set_option maxHeartbeats 1000000 in
theorem lsvis_long (a : Option Addr) (len cap : Nat) (w : World) (hl : 1048576 < len) :
    Calls Try.prog 6 #[.slice a len cap] w fun e w' => e = .returned (.bool true) ∧ Below w.heap.size w w' := by
  go_enter Try.func6, Try.ntmps6
  go_wp2
  go_ret
  exact ⟨rfl, Below.refl _ _⟩

theorem lsvis_walk (a : Option Addr) (len cap : Nat) (w : World) (h : CodeIn w a len cap) :
    Calls Try.prog 6 #[.slice a len cap] w fun e w' => e = .returned (.bool true) ∧ Below w.heap.size w w' := by
  by_cases hl : len ≤ 1048576
  · exact lsvis_short a len cap w h hl
  · exact lsvis_long a len cap w (by omega)
end Plv

set_option maxRecDepth 100000 in
theorem leastVisitP_holds : Rows.FnLeastVisitSaid :=
  OpenClaim.holds_of_wide 6 Try.f6 rfl rfl rfl rfl rfl rfl rfl ⟨rfl, rfl, rfl, rfl, rfl⟩ rfl rfl rfl rfl rfl (by kernel_rfl) Try.func6 (by kernel_rfl)
    (of_decide_eq_true (by kernel_rfl)) (by unfold Func.isWrapper; rw [if_neg (by decide +kernel)]; exact ⟨rfl, rfl⟩)
    (fun os started H enc _ => law_lifted (s := Rows.fnLeastVisitSpec) (tb := 4) own started laid (by kernel_rfl) Try.func6 rfl (by kernel_rfl) Try.underlying4 (by kernel_rfl)
      (fun ds h => by rw [Try.params6] at h; match ds, h with | [_], _ => rfl)
      (ChangeSpec.witness6 (enc := enc) (C := Try.checked) false ⟨#[], #[.slice none 0 0], []⟩ 8 (by kernel_rfl) (by kernel_rfl) (by kernel_rfl) (by kernel_rfl))
      (law_code Try.params6 Plv.lsvis_walk))
#print axioms leastVisitP_holds

end Go.Proofs.Ytgnjhmmedogcoaa
