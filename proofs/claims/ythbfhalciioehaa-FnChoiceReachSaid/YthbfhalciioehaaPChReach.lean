/- At every code the law FnChoiceReach returns true: the program and the model tell the same names as needed; each of them is picked, and fewer needs need no more. No condition. -/
import Derived.BigFrame
import Derived.Test.YthbfhalciioehaaDcr
import Derived.Test.YthbfhalciioehaaCrf
import Derived.Test.YthbfhalciioehaaInts
import Derived.Test.YthbfhalciioehaaCps
import Derived.Test.YthbfhalciioehaaGe
namespace Go.Proofs.Ythbfhalciioehaa
open Go.ChangeShapes Go.WideShapes Go.ChangeAt Go.RowKit Go.Joins Go.Sort

namespace Pcr
open Foot Dsh Dpk Copy Nup Cpu Cfa Rch
theorem nd_take {w : World} {B k cap cap' : Nat} {a : Option Addr} {S : List Nd} (h : NdAt w B (.slice a S.length cap) S) (hk : k ≤ S.length) : NdAt w B (.slice a k cap') (S.take k) := by
  obtain ⟨a', c', e, h⟩ := h
  simp only [Value.slice.injEq] at e
  obtain ⟨rfl, _, _⟩ := e
  have hl : (S.take k).length = k := by simp; omega
  refine ⟨a, cap', by rw [hl], ?_⟩
  rcases h with rfl | ⟨b, o, e, hB, hc⟩
  · exact .inl (by simp)
  · refine .inr ⟨b, o, e, hB, fun i hi => ?_⟩
    rw [List.getElem_take]
    exact hc i (by omega)

set_option maxRecDepth 100000 in
set_option maxHeartbeats 8000000 in
theorem reachP_short (a : Option Addr) (len cap : Nat) (w : World) (h : CodeIn w a len cap) (hl : len ≤ 1048576) :
    Calls Try.prog 7 #[.slice a len cap] w fun e w' => e = .returned (.bool true) ∧ Below w.heap.size w w' := by
  go_enter Try.func7, Try.ntmps7
  go_wp2_with fail
  refine (Dcr.DrawChoiceReach_any a len cap w h).mono ?_
  rintro e w1 ⟨S, sa, caps, M, na, ncap, C, pa, pc, rfl, hat1, hnd1, hpk1, hl31, hsz, hM9, hM41, hC30, hMc, hCc, b1⟩
  have hl' : S.length ≤ 1048576 := by omega
  have hq := hsz.big
  have hm' : M.length ≤ 1048576 := by omega
  have hmq : ∀ q ∈ M, q.2.length ≤ 1048576 := fun q hq => by have := hM41 q hq; omega
  have hc' : C.length ≤ 1048576 := by omega
  have KI : Hid (∀ V u N, N.length ≤ 1048576 → (∀ q ∈ N, q.2.length ≤ 1048576) → RlAt V V.heap.size (.slice sa S.length caps) S → NdAt V V.heap.size u N → PkAt V V.heap.size (.slice pa C.length pc) C → Calls Try.prog 43 #[.slice sa S.length caps, u, .slice pa C.length pc] V (IPost (reachL S N C) V)) := Lib.hid fun V u N hN hNq g g' g2 => implReach_any _ u _ S N C V hl' hq hN hNq hc' g g' g2
  have KS : Hid (∀ V, RlAt V V.heap.size (.slice sa S.length caps) S → NdAt V V.heap.size (.slice na M.length ncap) M → PkAt V V.heap.size (.slice pa C.length pc) C → Calls Try.prog 45 #[.slice sa S.length caps, .slice na M.length ncap, .slice pa C.length pc] V (IPost (reachL S M C) V)) := Lib.hid fun V g g' g2 => specReach_any _ _ _ S M C V hl' hq hm' hmq hc' g g' g2
  have KP : Hid (∀ V n, PkAt V V.heap.size (.slice pa C.length pc) C → Calls Try.prog 46 #[.slice pa C.length pc, .int .i64 n] V fun e w' => e = .returned (got (pkOf C n)) ∧ Below V.heap.size V w') := Lib.hid fun V n g => implPickOf_any _ C n V hc' g
  have KM : Hid (∀ V, NdAt V V.heap.size (.slice na M.length ncap) M → Calls Try.prog 47 #[.slice na M.length ncap] V fun e w' => e = .returned (.bool (ndOk M)) ∧ Below V.heap.size V w') := Lib.hid fun V g => implNeedsOk_any _ M V hm' hmq g
  have H := Lib.hid hat1
  have HN := Lib.hid hnd1
  have HC := Lib.hid hpk1
  have HMQ := Lib.hid hmq
  have HLEN := Lib.hid (show ∀ N, (reachL S N C).length ≤ 1048576 from fun N => by
    unfold reachL
    rw [List.length_map]
    have := trimL_len S N C
    omega)
  have HPK := Lib.hid (show ∀ z ∈ reachL S M C, ∃ a b c d, pkOf C z = some (a, b, c, d) from fun z hz => reach_picked hz)
  have HLS := Lib.hid (show ∀ k z, ndOk M = true → z ∈ reachL S (M.take k) C → z ∈ reachL S M C from fun k z hN hz => reach_less k hN hz)
  obtain ⟨N, hN⟩ : ∃ X, reachL S M C = X := ⟨_, rfl⟩
  have HNL := Lib.hid (show N.length ≤ 1048576 by rw [← hN]; exact HLEN.out M)
  rw [hN] at KS HPK HLS
  have HEN := Lib.hid hN
  clear hN hat1 hnd1 hpk1 h hsz hM41 hq hmq
  go_wp2_with fail
  refine (KI.out _ _ M hm' HMQ.out H.out HN.out HC.out).mono ?_
  rw [HEN.out]
  rintro e w2 ⟨v2, rfl, ib2, b2⟩
  obtain ⟨ia, ic, rfl, hx⟩ := id ib2
  have IN2 := Lib.hid ib2.at
  clear hx ib2
  go_wp2_with fail
  refine (KS.out _ (H.out.stepAt b2) (HN.out.stepAt b2) (HC.out.stepAt b2)).mono ?_
  rintro e w3 ⟨v3, rfl, ib3, hb⟩
  have b3 := b2.trans (hb.mono b2.size)
  obtain ⟨ja, jc, rfl, hx⟩ := id ib3
  have IN3 := Lib.hid (Its.stepAt IN2.out hb)
  have JN3 := Lib.hid ib3.at
  clear hx ib3 hb IN2 b2
  go_wp2_with fail
  refine (Its.sameInts_eq _ _ N _ HNL.out IN3.out JN3.out).mono ?_
  rintro e w4 ⟨rfl, hb⟩
  have b4 := b3.trans (hb.mono b3.size)
  have IN4 := Lib.hid (Its.stepAt IN3.out hb)
  clear hb IN3 JN3 b3 KS
  have KL : Hid (∀ V x, x ∈ N → InAt V V.heap.size (.slice ia N.length ic) N → Calls Try.prog 48 #[.slice ia N.length ic, .int .i64 x] V fun e w' => e = .returned (.bool true) ∧ Below V.heap.size V w') := Lib.hid fun V x hx g => by
    have := Its.hasInt_any _ N x V HNL.out g
    rwa [decide_eq_true hx] at this
  go_wp2_with fail
  go_loopw [7] (fun i wr => ∃ k : Nat, k ≤ N.length ∧ i = .int .i64 (k : Int) ∧ Below w4.heap.size w4 wr) (fun i _ => N.length - (intOf i).toNat)
  case atStart => exact ⟨0, Nat.zero_le _, rfl, Below.refl _ _⟩
  case round =>
    obtain ⟨k, hk, rfl, hb⟩ := hrel
    have m1 := b4.trans (hb.mono b4.size)
    have INr := Lib.hid (Its.stepAt IN4.out hb)
    have hNl := HNL.out
    by_cases hlt : k < N.length
    · obtain ⟨gb, go', hia, hB, hc⟩ : ∃ b o, ia = some ⟨b, o, none⟩ ∧ b < wr.heap.size ∧ ∀ i (h : i < N.length), wr.cell? ⟨b, o + i, none⟩ = some (.int .i64 N[i]) := by
        obtain ⟨a', c', e, hh⟩ := INr.out
        simp only [Value.slice.injEq] at e
        obtain ⟨rfl, _, _⟩ := e
        rcases hh with hh | hh
        · rw [hh] at hlt; simp at hlt
        · exact hh
      subst hia
      obtain ⟨z, hz⟩ : ∃ z, N[k] = z := ⟨_, rfl⟩
      have c0 := hc k hlt
      rw [hz] at c0
      obtain ⟨va, vb, vc, vd, hpk⟩ := HPK.out z (by rw [← hz]; exact List.getElem_mem hlt)
      have KZ : Hid (∀ V, PkAt V V.heap.size (.slice pa C.length pc) C → Calls Try.prog 46 #[.slice pa C.length pc, .int .i64 z] V fun e w' => e = .returned (.tuple #[ver va vb vc vd, .bool true]) ∧ Below V.heap.size V w') := Lib.hid fun V g => by
        have := KP.out V z g
        rw [hpk] at this
        exact this
      have j0 : (0 : Int) ≤ (k : Int) := by omega
      have j1 : (k : Int) < (N.length : Int) := by omega
      clear hc hz hpk
      go_wp2_with fail
      refine (KZ.out _ (HC.out.stepAt m1)).mono ?_
      rintro e w5 ⟨rfl, hb5⟩
      have n5 := hb.trans (hb5.mono hb.size)
      clear c0 hb5 hb m1
      go_wp2_with fail
      go_roundw
      case rel => exact ⟨k + 1, by omega, by go_num, n5.alloc n5.size _⟩
      case measure => simp [intOf]; omega
    · obtain rfl : k = N.length := by omega
      clear KP HPK
      have IN5 := INr
      have b5 := m1
      clear INr m1 hb hk
      rename World => w5
      go_wp2_with fail
      go_loopw [10] (fun i wr => ∃ k : Nat, k ≤ M.length ∧ i = .int .i64 (k : Int) ∧ Below w5.heap.size w5 wr) (fun i _ => M.length - (intOf i).toNat)
      case atStart => exact ⟨0, Nat.zero_le _, rfl, Below.refl _ _⟩
      case round =>
        obtain ⟨k2, hk, rfl, hb⟩ := hrel
        have m1 := b5.trans (hb.mono b5.size)
        have INr := Lib.hid (Its.stepAt IN5.out hb)
        by_cases hlt : k2 < M.length
        · have j0 : (0 : Int) ≤ (k2 : Int) := by omega
          have j1 : (k2 : Int) < (M.length : Int) := by omega
          rcases ho : ndOk M
          · rw [ho] at KM
            clear HLS ho
            go_wp2_with fail
            refine (KM.out _ (HN.out.stepAt m1)).mono ?_
            rintro e w6 ⟨rfl, hb6⟩
            have b6 := m1.trans (hb6.mono m1.size)
            clear hb6
            go_wp2_with fail
            refine (alive_any _).mono ?_
            rintro e w7 ⟨rfl, hb7⟩
            have b7 := b6.trans (hb7.mono b6.size)
            clear hb7
            go_wp2_with fail
            go_ret
            exact ⟨rfl, b1.trans (b7.mono b1.size)⟩
          · rw [ho] at KM
            have HLK := Lib.hid (show ∀ z ∈ reachL S (M.take k2) C, z ∈ N from fun z hz => HLS.out k2 z ho hz)
            clear ho
            have HNT := Lib.hid (nd_take (cap' := ncap) HN.out (k := k2) (by omega))
            have hncap : (k2 : Int) ≤ (ncap : Int) := by omega
            have KT : Hid (∀ V, RlAt V V.heap.size (.slice sa S.length caps) S → NdAt V V.heap.size (.slice na k2 ncap) (M.take k2) → PkAt V V.heap.size (.slice pa C.length pc) C → Calls Try.prog 43 #[.slice sa S.length caps, .slice na k2 ncap, .slice pa C.length pc] V (IPost (reachL S (M.take k2) C) V)) := Lib.hid fun V g g' g2 => KI.out V _ (M.take k2) (by simp; omega) (fun q hq => HMQ.out q (List.mem_of_mem_take hq)) g g' g2
            have hTl := HLEN.out (M.take k2)
            generalize reachL S (M.take k2) C = T at KT hTl HLK
            go_wp2_with fail
            refine (KM.out _ (HN.out.stepAt m1)).mono ?_
            rintro e w6 ⟨rfl, hb6⟩
            have b6 := m1.trans (hb6.mono m1.size)
            have IN6 := Lib.hid (Its.stepAt INr.out hb6)
            have n6 := hb.trans (hb6.mono hb.size)
            clear hb6
            go_wp2_with fail
            refine (KT.out _ (H.out.stepAt b6) (HNT.out.stepAt b6) (HC.out.stepAt b6)).mono ?_
            rintro e w7 ⟨v7, rfl, ib7, hb7⟩
            obtain ⟨ta, tc, rfl, hx⟩ := id ib7
            have IN7 := Lib.hid (Its.stepAt IN6.out hb7)
            have TN7 := Lib.hid ib7.at
            have n7 := n6.trans (hb7.mono n6.size)
            clear hx ib7 hb7 IN6 n6 KT hb INr
            go_wp2_with fail
            go_loopw [12] (fun i wi => ∃ k : Nat, k ≤ T.length ∧ i = .int .i64 (k : Int) ∧ Below w7.heap.size w7 wi) (fun i _ => T.length - (intOf i).toNat)
            case atStart => exact ⟨0, Nat.zero_le _, rfl, Below.refl _ _⟩
            case round =>
              obtain ⟨k3, hk3, rfl, hb⟩ := hrel
              have nr := n7.trans (hb.mono n7.size)
              rename World => wi
              have INi := Lib.hid (Its.stepAt IN7.out hb)
              have TNi := Lib.hid (Its.stepAt TN7.out hb)
              by_cases hlt3 : k3 < T.length
              · obtain ⟨gb, go', hia, hB, hc⟩ : ∃ b o, ta = some ⟨b, o, none⟩ ∧ b < wi.heap.size ∧ ∀ i (h : i < T.length), wi.cell? ⟨b, o + i, none⟩ = some (.int .i64 T[i]) := by
                  obtain ⟨a', c', e, hh⟩ := TNi.out
                  simp only [Value.slice.injEq] at e
                  obtain ⟨rfl, _, _⟩ := e
                  rcases hh with hh | hh
                  · rw [hh] at hlt3; simp at hlt3
                  · exact hh
                subst hia
                obtain ⟨z, hz⟩ : ∃ z, T[k3] = z := ⟨_, rfl⟩
                have c0 := hc k3 hlt3
                rw [hz] at c0
                have hzN : z ∈ N := HLK.out z (by rw [← hz]; exact List.getElem_mem hlt3)
                have i0 : (0 : Int) ≤ (k3 : Int) := by omega
                have i1 : (k3 : Int) < (T.length : Int) := by omega
                clear hc hz
                go_wp2_with fail
                refine (KL.out _ z hzN INi.out).mono ?_
                rintro e w8 ⟨rfl, hb8⟩
                have n8 := hb.trans (hb8.mono hb.size)
                clear c0 hb8 hb nr
                go_wp2_with fail
                go_roundw
                case rel => exact ⟨k3 + 1, by omega, by go_num, n8⟩
                case measure => simp [intOf]; omega
              · obtain rfl : k3 = T.length := by omega
                go_wp2_with fail
                go_roundw
                case rel => exact ⟨k2 + 1, by omega, by go_num, nr⟩
                case measure => simp [intOf]; omega
        · obtain rfl : k2 = M.length := by omega
          go_wp2_with fail
          refine (alive_any _).mono ?_
          rintro e w7 ⟨rfl, hb7⟩
          have b7 := m1.trans (hb7.mono m1.size)
          clear hb7
          go_wp2_with fail
          go_ret
          exact ⟨rfl, b1.trans (b7.mono b1.size)⟩

set_option maxRecDepth 100000 in
set_option maxHeartbeats 1000000 in
theorem reachP_long (a : Option Addr) (len cap : Nat) (w : World) (hl : 1048576 < len) :
    Calls Try.prog 7 #[.slice a len cap] w fun e w' => e = .returned (.bool true) ∧ Below w.heap.size w w' := by
  go_enter Try.func7, Try.ntmps7
  go_wp2
  go_ret
  exact ⟨rfl, Below.refl _ _⟩

theorem reachP_walk (a : Option Addr) (len cap : Nat) (w : World) (h : CodeIn w a len cap) :
    Calls Try.prog 7 #[.slice a len cap] w fun e w' => e = .returned (.bool true) ∧ Below w.heap.size w w' := by
  by_cases hl : len ≤ 1048576
  · exact reachP_short a len cap w h hl
  · exact reachP_long a len cap w (by omega)
end Pcr

set_option maxRecDepth 100000 in
theorem choiceReachP_holds : Rows.FnChoiceReachSaid :=
  OpenClaim.holds_of_wide 7 Try.f7 rfl rfl rfl rfl rfl rfl rfl ⟨rfl, rfl, rfl, rfl, rfl⟩ rfl rfl rfl rfl rfl (by kernel_rfl) Try.func7 (by kernel_rfl)
    (of_decide_eq_true (by kernel_rfl)) (by unfold Func.isWrapper; rw [if_neg (by decide +kernel)]; exact ⟨rfl, rfl⟩)
    (fun os started H enc _ => law_lifted (s := Rows.fnChoiceReachSpec) (tb := 4) own started laid (by kernel_rfl) Try.func7 rfl (by kernel_rfl) Try.underlying4 (by kernel_rfl)
      (fun ds h => by rw [Try.params7] at h; match ds, h with | [_], _ => rfl)
      (ChangeSpec.witness6 (enc := enc) (C := Try.checked) false ⟨#[], #[.slice none 0 0], []⟩ 8 (by kernel_rfl) (by kernel_rfl) (by kernel_rfl) (by kernel_rfl))
      (law_code Try.params7 Pcr.reachP_walk))
#print axioms choiceReachP_holds

end Go.Proofs.Ythbfhalciioehaa
