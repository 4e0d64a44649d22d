/- At every argument the law FnExactLeastNeeds returns true: LeastNeeds of the program answers as LeastNeeds of the model, leaves its argument, and its answer owns its memory. No condition. -/
import Derived.Test.YtgnjhmmedogcoaaGg
import Derived.Test.YtgnjhmmedogcoaaGc
import Derived.Test.YtgnjhmmedogcoaaGt
import Derived.Test.YtgnjhmmedogcoaaPkmk
import Derived.Test.YtgnjhmmedogcoaaNdb
import Derived.Test.YtgnjhmmedogcoaaLsm
import Derived.Deep.RegionHeld3
namespace Go.Proofs.Ytgnjhmmedogcoaa
open Go.ChangeShapes Go.WideShapes Go.ChangeAt Go.RowKit Go.Joins Go.Sort

namespace Lln
open Foot Copy Cpu
theorem nd_small {M : List Nd} (h : ndSz M ≤ 1048576) : ∀ q ∈ M, q.2.length ≤ 1048576 := fun q hq => by
  obtain ⟨i, hi, rfl⟩ := List.getElem_of_mem hq
  have := ndSz_mem M i _ (List.getElem?_eq_getElem hi)
  omega
theorem eqNeedS_same {v v' : Value} {M : List Nd} {w : World} (hl : M.length ≤ 1048576) (hq : ∀ q ∈ M, q.2.length ≤ 1048576) (h : NdAt w w.heap.size v M) (h' : NdAt w w.heap.size v' M) :
    Calls Try.prog 18 #[v, v'] w fun e w' => e = .returned (.bool true) ∧ Below w.heap.size w w' := by
  have := eqNeedS_any v v' M M w hl hl hq hq h h'
  rwa [decide_eq_true rfl] at this
set_option maxRecDepth 100000 in
theorem toNeedS_in (v : Value) (M : List Nd) (w : World) (h : NdAt w w.heap.size v M) (hl : M.length ≤ 1048576) (hq : ∀ q ∈ M, q.2.length ≤ 1048576) :
    Calls Try.prog 14 #[v] w fun e w' => ∃ a c, e = .returned (.slice a M.length c) ∧ NIn M w.heap.size w'.heap.size (.slice a M.length c) w' ∧ Below w.heap.size w w' :=
  (toNeedS_ord v M w h hl hq).mono fun _ _ ⟨g, he, hk, hg, ho, hb⟩ => ⟨_, _, he, ⟨_, _, rfl, .inr ⟨g, _, rfl, hk, hg, ho⟩⟩, hb⟩
theorem NIn.out {M : List Nd} {lo hi lo' hi' : Nat} {v : Value} {w w' : World} (h : NIn M lo hi v w) (ho : Out lo' hi' w w') (hd : hi' ≤ lo) : NIn M lo hi v w' := h.kept fun k k1 k2 => ho.block k k2 (.inr (by omega))
set_option maxRecDepth 100000 in
set_option maxHeartbeats 4000000 in
theorem long (v0 : Value) (C : List Pk) (w : World) (hmC : C.length ≤ maxLen)  (h0 : PkAt w w.heap.size v0 C) (hl : 1048576 < C.length) :
    Calls Try.prog 5 #[v0] w fun e w' => e = .returned (.bool true) ∧ Below w.heap.size w w' := by
  obtain ⟨a0, c0, rfl, x0⟩ := id h0
  clear x0
  have H0 := Lib.hid h0
  clear h0
  have K0 : Hid (∀ V, PkAt V V.heap.size (.slice a0 C.length c0) C → Calls Try.prog 28 #[.slice a0 C.length c0, .int .i64 1048576] V fun e w' => e = .returned (.int .i64 (-1)) ∧ Below V.heap.size V w') := Lib.hid fun V g => by
    have := szPickS_any _ C 1048576 V (by omega) (by omega) hmC g
    rwa [show pleft 1048576 C.length = -1 by unfold pleft; rw [if_pos (by omega)]] at this
  clear hl 
  go_enter Try.func5, Try.ntmps5
  go_wp2_with fail
  refine (K0.out _ (H0.out.stepAt (by go_grown))).mono ?_
  rintro e w1 ⟨rfl, hb⟩
  have b1 := hb
  clear hb
  go_wp2_with fail
  go_ret
  exact ⟨rfl, b1⟩

set_option maxRecDepth 100000 in
set_option maxHeartbeats 16000000 in
theorem short (v0 : Value) (C : List Pk) (w : World)  (h0 : PkAt w w.heap.size v0 C) (hl : C.length ≤ 1048576) :
    Calls Try.prog 5 #[v0] w fun e w' => e = .returned (.bool true) ∧ Below w.heap.size w w' := by
  have hlC : C.length ≤ 1048576 := by omega
  have hmC : C.length ≤ maxLen := by unfold maxLen; omega
  obtain ⟨a0, c0, rfl, x0⟩ := id h0
  clear x0
  have H0 := Lib.hid h0
  clear h0
  obtain ⟨y1, f1, e1, n1⟩ : ∃ y : Int, pleft 1048576 C.length = y ∧ y = 1048576 - ((C.length : Nat) : Int) ∧ ¬ y < 0 := ⟨_, rfl, by unfold pleft; rw [if_neg (by omega)], by unfold pleft; rw [if_neg (by omega)]; omega⟩
  have K0 : Hid (∀ V, PkAt V V.heap.size (.slice a0 C.length c0) C → Calls Try.prog 28 #[.slice a0 C.length c0, .int .i64 1048576] V fun e w' => e = .returned (.int .i64 y1) ∧ Below V.heap.size V w') := Lib.hid fun V g => by
    have := szPickS_any _ C 1048576 V (by omega) (by omega) hmC g
    rwa [f1] at this
  clear f1
  clear e1 hmC
  have hA : (Lst.lnL C).length ≤ 1048576 := Nat.le_trans (Lst.lnL_len C) (by omega)
  have hAq : ∀ q ∈ Lst.lnL C, q.2.length ≤ 1048576 := fun q hq => by rw [Lst.lnL_sz C q hq]; omega
  have hAs : ndSz (Lst.lnL C) ≤ 1048576 := Nat.le_trans (nd_ones (Lst.lnL_sz C)) (Nat.le_trans (Lst.lnL_len C) (by omega))
  have KS : Hid (∀ V u0, PkAt V V.heap.size u0 C → Calls Try.prog 29 #[u0] V fun e w' => ∃ v, e = .returned v ∧ NdB (Lst.lnL C) V.heap.size w'.heap.size v w' ∧ Below V.heap.size V w') := Lib.hid fun V u0 g0 => (Lst.specLeastNeeds_any u0 C V hlC g0).mono fun _ _ ⟨v, _, he, hg, hb⟩ => ⟨v, he, NdB.of hg, hb⟩
  have KI : Hid (∀ V u0, PkAt V V.heap.size u0 C → Calls Try.prog 31 #[u0] V fun e w' => ∃ v, e = .returned v ∧ NdB (Lst.lnL C) V.heap.size w'.heap.size v w' ∧ Below V.heap.size V w') := Lib.hid fun V u0 g0 => (Lst.implLeastNeeds_any u0 C V hlC g0).mono fun _ _ ⟨v, _, he, hg, hb⟩ => ⟨v, he, NdB.of hg, hb⟩
  generalize Lst.lnL C = A at *
  clear hl
  obtain ⟨mm, hmm, hm0⟩ : ∃ mm : Int, nmkE 1 A = mm ∧ ¬ mm < 0 := ⟨_, rfl, by rw [nmkE_eq]; omega⟩
  have hm2 : (mm != mm) = false := by simp
  have KM : Hid (∀ V u lo hi, NdB A lo hi u V → Calls Try.prog 20 #[u, .int .i64 1] V fun e w' => e = .returned (.int .i64 mm) ∧ NdB (nmk 1 A) lo hi u w' ∧ Out lo hi V w') := Lib.hid fun V u lo hi g => by
    have := markNdB hA hAs g 1 (by omega) (by omega)
    rwa [hmm] at this
  have KH : Hid (∀ V u lo hi, NdB (nmk 1 A) lo hi u V → Calls Try.prog 32 #[u, .int .i64 1] V fun e w' => e = .returned (.int .i64 mm) ∧ Below V.heap.size V w') := Lib.hid fun V u lo hi g => by
    have := heldNdB hA hAs 1 (by omega) (by omega) g
    rwa [hmm] at this
  clear hmm
  go_enter Try.func5, Try.ntmps5
  go_wp2_with fail
  refine (K0.out _ (H0.out.stepAt (by go_grown))).mono ?_
  rintro e w1 ⟨rfl, hb⟩
  have zw1 : w.heap.size ≤ w1.heap.size := hb.size
  have bw1 := hb
  clear hb
  go_wp2_with fail
  refine (toPickS_any _ C _ (H0.out.stepAt bw1) hlC).mono ?_
  rintro e w2 ⟨gzw2, rfl, kzw2, hgz, hb⟩
  clear hgz
  have zw2 : w1.heap.size ≤ w2.heap.size := hb.size
  have bw2 := bw1.trans (hb.mono bw1.size)
  clear hb bw1
  go_wp2_with fail
  refine (KS.out _ _ kzw2.at).mono ?_
  rintro e w3 ⟨vvwa, rfl, hwa, hb⟩
  have zw3 : w2.heap.size ≤ w3.heap.size := hb.size
  have bw3 := bw2.trans (hb.mono bw2.size)
  have rw3_z0 := kzw2.below hb
  clear hb bw2 kzw2
  obtain ⟨sawa, scwa, rfl⟩ := hwa.shape
  clear rw3_z0
  go_wp2_with fail
  refine (toPickS_pb _ C _ (H0.out.stepAt bw3) hlC).mono ?_
  rintro e w4 ⟨xa0, xc0, rfl, hx0, hb⟩
  have zw4 : w3.heap.size ≤ w4.heap.size := hb.size
  have bw4 := bw3.trans (hb.mono bw3.size)
  have rw4_wa := hwa.below hb
  clear hb bw3 hwa
  go_wp2_with fail
  refine (KI.out _ _ hx0.at).mono ?_
  rintro e w5 ⟨vvg, rfl, hg, hb⟩
  have zw5 : w4.heap.size ≤ w5.heap.size := hb.size
  have bw5 := bw4.trans (hb.mono bw4.size)
  have rw5_wa := rw4_wa.below hb
  have rw5_x0 := hx0.below hb
  clear hb bw4 rw4_wa hx0
  obtain ⟨sag, scg, rfl⟩ := hg.shape
  go_wp2_with fail
  refine (eqNeedS_same hA hAq hg.at rw5_wa.at).mono ?_
  rintro e w6 ⟨rfl, hb⟩
  have zw6 : w5.heap.size ≤ w6.heap.size := hb.size
  have bw6 := bw5.trans (hb.mono bw5.size)
  have rw6_wa := rw5_wa.below hb
  have rw6_x0 := rw5_x0.below hb
  have rw6_g := hg.below hb
  clear hb bw5 rw5_wa rw5_x0 hg
  go_wp2_with fail
  refine (toPickS_any _ C _ (H0.out.stepAt bw6) hlC).mono ?_
  rintro e w7 ⟨gzw7, rfl, kzw7, hgz, hb⟩
  clear hgz
  have zw7 : w6.heap.size ≤ w7.heap.size := hb.size
  have bw7 := bw6.trans (hb.mono bw6.size)
  have rw7_wa := rw6_wa.below hb
  have rw7_x0 := rw6_x0.below hb
  have rw7_g := rw6_g.below hb
  clear hb bw6 rw6_wa rw6_x0 rw6_g
  go_wp2_with fail
  refine (eqPickS_same hlC rw7_x0.at kzw7.at).mono ?_
  rintro e w8 ⟨rfl, hb⟩
  have zw8 : w7.heap.size ≤ w8.heap.size := hb.size
  have bw8 := bw7.trans (hb.mono bw7.size)
  have rw8_wa := rw7_wa.below hb
  have rw8_x0 := rw7_x0.below hb
  have rw8_g := rw7_g.below hb
  have rw8_z0 := kzw7.below hb
  clear hb bw7 rw7_wa rw7_x0 rw7_g kzw7
  clear rw8_z0
  go_wp2_with fail
  refine (markPB hlC rw8_x0 1 (by omega) (by omega)).mono ?_
  rintro e w9 ⟨rfl, hpx, ho⟩
  clear hpx
  clear rw8_x0
  have zw9 : w8.heap.size ≤ w9.heap.size := ho.size
  have bw9 := ho.below bw8 (by omega) (by omega)
  have rw9_wa := rw8_wa.out ho (by omega)
  have rw9_g := rw8_g.out ho (by omega)
  clear ho bw8 rw8_wa rw8_g
  have hk2 : ¬ ((1 + 5 * (C.length : Int)) < 0) := by omega
  go_wp2_with fail
  refine (eqNeedS_same hA hAq rw9_g.at rw9_wa.at).mono ?_
  rintro e w10 ⟨rfl, hb⟩
  have zw10 : w9.heap.size ≤ w10.heap.size := hb.size
  have bw10 := bw9.trans (hb.mono bw9.size)
  have rw10_wa := rw9_wa.below hb
  have rw10_g := rw9_g.below hb
  clear hb bw9 rw9_wa rw9_g
  go_wp2_with fail
  refine (KM.out _ _ _ _ rw10_g).mono ?_
  rintro e w11 ⟨rfl, hg1, ho⟩
  clear rw10_g
  have zw11 : w10.heap.size ≤ w11.heap.size := ho.size
  have bw11 := ho.below bw10 (by omega) (by omega)
  have rw11_wa := rw10_wa.out ho (by omega)
  clear ho bw10 rw10_wa
  go_wp2_with fail
  refine (KH.out _ _ _ _ hg1).mono ?_
  rintro e w12 ⟨rfl, hb⟩
  have zw12 : w11.heap.size ≤ w12.heap.size := hb.size
  have bw12 := bw11.trans (hb.mono bw11.size)
  have rw12_wa := rw11_wa.below hb
  have rw12_g := hg1.below hb
  clear hb bw11 rw11_wa hg1
  go_wp2_with fail
  refine (toPickS_any _ C _ (H0.out.stepAt bw12) hlC).mono ?_
  rintro e w13 ⟨gzw13, rfl, kzw13, hgz, hb⟩
  clear hgz
  have zw13 : w12.heap.size ≤ w13.heap.size := hb.size
  have bw13 := bw12.trans (hb.mono bw12.size)
  have rw13_wa := rw12_wa.below hb
  have rw13_g := rw12_g.below hb
  clear hb bw12 rw12_wa rw12_g
  go_wp2_with fail
  refine (KI.out _ _ kzw13.at).mono ?_
  rintro e w14 ⟨vvwb, rfl, hwb, hb⟩
  have zw14 : w13.heap.size ≤ w14.heap.size := hb.size
  have bw14 := bw13.trans (hb.mono bw13.size)
  have rw14_wa := rw13_wa.below hb
  have rw14_g := rw13_g.below hb
  have rw14_z0 := kzw13.below hb
  clear hb bw13 rw13_wa rw13_g kzw13
  obtain ⟨sawb, scwb, rfl⟩ := hwb.shape
  clear rw14_z0
  go_wp2_with fail
  refine (eqNeedS_same hA hAq hwb.at rw14_wa.at).mono ?_
  rintro e w15 ⟨rfl, hb⟩
  have zw15 : w14.heap.size ≤ w15.heap.size := hb.size
  have bw15 := bw14.trans (hb.mono bw14.size)
  have rw15_wa := rw14_wa.below hb
  have rw15_g := rw14_g.below hb
  have rw15_wb := hwb.below hb
  clear hb bw14 rw14_wa rw14_g hwb
  go_wp2_with fail
  refine (KH.out _ _ _ _ rw15_g).mono ?_
  rintro e w16 ⟨rfl, hb⟩
  have zw16 : w15.heap.size ≤ w16.heap.size := hb.size
  have bw16 := bw15.trans (hb.mono bw15.size)
  have rw16_wa := rw15_wa.below hb
  have rw16_g := rw15_g.below hb
  have rw16_wb := rw15_wb.below hb
  clear hb bw15 rw15_wa rw15_g rw15_wb
  go_wp2_with fail
  go_ret
  exact ⟨rfl, bw16⟩

set_option maxRecDepth 100000 in
theorem law : LawWalk Try.prog 5 Try.f5 := by
  intro H enc W base args ds ps hval hA
  rw [Try.params5] at hA hval
  obtain ⟨v0, vs0, d0, es0, p0, q0, hargs, rfl, rfl, h0, r0⟩ := trodAll_cons hA
  obtain ⟨rfl, rfl, rfl⟩ := trodAll_nil r0
  obtain rfl : args = #[v0] := by cases args; simp_all
  obtain ⟨a0, c0, C, rfl, g0, m0⟩ := open_picks (hval 0 _ v0 rfl rfl) h0
  by_cases hl : C.length ≤ 1048576
  · exact short _ C W  g0 hl
  · exact long _ C W m0  g0 (by omega)
end Lln

set_option maxRecDepth 100000 in
theorem exactLeastNeeds_holds : Rows.FnExactLeastNeedsSaid :=
  OpenClaim.holds_of_wide 5 Try.f5 rfl rfl rfl rfl rfl rfl rfl ⟨rfl, rfl, rfl, rfl, rfl⟩ rfl rfl rfl rfl rfl (by kernel_rfl) Try.func5 (by kernel_rfl)
    (of_decide_eq_true (by kernel_rfl)) (by unfold Func.isWrapper; rw [if_neg (by decide +kernel)]; exact ⟨rfl, rfl⟩)
    (fun os started H enc _ => law_lifted (s := Rows.fnExactLeastNeedsSpec) (tb := 4) own started laid (by kernel_rfl) Try.func5 rfl (by kernel_rfl) Try.underlying4 (by kernel_rfl)
      (fun ds h => by rw [Try.params5] at h; match ds, h with | [_], _ => rfl)
      (ChangeSpec.witness6 (enc := enc) (C := Try.checked) false ⟨#[], #[.slice none 0 0], []⟩ 8 (by kernel_rfl) (by kernel_rfl) (by kernel_rfl) (by kernel_rfl))
      Lln.law)
#print axioms exactLeastNeeds_holds
end Go.Proofs.Ytgnjhmmedogcoaa
