/- At every argument the law FnExactLeast returns true: Least of the program answers as Least of the model, leaves its arguments, and its answer owns its memory. No condition. -/
import Derived.Test.YtgnjhmmedogcoaaGc
import Derived.Test.YtgnjhmmedogcoaaGg
import Derived.Test.YtgnjhmmedogcoaaGt
import Derived.Test.YtgnjhmmedogcoaaPkmk
import Derived.Test.YtgnjhmmedogcoaaLsy
import Derived.Deep.RegionHeld3
namespace Go.Proofs.Ytgnjhmmedogcoaa
open Go.ChangeShapes Go.WideShapes Go.ChangeAt Go.RowKit Go.Joins Go.Sort

namespace Lle
open Foot Copy Cpu
theorem nd_small {M : List Nd} (h : ndSz M ≤ 1048576) : ∀ q ∈ M, q.2.length ≤ 1048576 := fun q hq => by
  obtain ⟨i, hi, rfl⟩ := List.getElem_of_mem hq
  have := ndSz_mem M i _ (List.getElem?_eq_getElem hi)
  omega
theorem eqNeedS_same {v v' : Value} {M : List Nd} {w : World} (hl : M.length ≤ 1048576) (hq : ∀ q ∈ M, q.2.length ≤ 1048576) (h : NdAt w w.heap.size v M) (h' : NdAt w w.heap.size v' M) :
    Calls Try.prog 18 #[v, v'] w fun e w' => e = .returned (.bool true) ∧ Below w.heap.size w w' := by
  have := eqNeedS_any v v' M M w hl hl hq hq h h'
  rwa [decide_eq_true rfl] at this
set_option maxRecDepth 100000 in
theorem toNeedS_in (v : Value) (M : List Nd) (w : World) (h : NdAt w w.heap.size v M) (hl : M.length ≤ 1048576) (hq : ∀ q ∈ M, q.2.length ≤ 1048576) :
    Calls Try.prog 14 #[v] w fun e w' => ∃ a c, e = .returned (.slice a M.length c) ∧ NIn M w.heap.size w'.heap.size (.slice a M.length c) w' ∧ Below w.heap.size w w' :=
  (toNeedS_ord v M w h hl hq).mono fun _ _ ⟨g, he, hk, hg, ho, hb⟩ => ⟨_, _, he, ⟨_, _, rfl, .inr ⟨g, _, rfl, hk, hg, ho⟩⟩, hb⟩
theorem NIn.out {M : List Nd} {lo hi lo' hi' : Nat} {v : Value} {w w' : World} (h : NIn M lo hi v w) (ho : Out lo' hi' w w') (hd : hi' ≤ lo) : NIn M lo hi v w' := h.kept fun k k1 k2 => ho.block k k2 (.inr (by omega))
set_option maxRecDepth 100000 in
set_option maxHeartbeats 4000000 in
theorem long (v0 v1 : Value) (S : List Rel) (M : List Nd) (w : World) (hmS : S.length ≤ maxLen) (hqS : ∀ q ∈ S, q.2.2.2.length ≤ maxLen ∧ ∀ p ∈ q.2.2.2, p.2.length ≤ maxLen) (hmM : M.length ≤ maxLen) (hqM : ∀ q ∈ M, q.2.length ≤ maxLen)  (h0 : RlAt w w.heap.size v0 S) (h1 : NdAt w w.heap.size v1 M) (hl : 1048576 < (S.length + rlSz S) + (M.length + ndSz M)) :
    Calls Try.prog 4 #[v0, v1] w fun e w' => e = .returned (.bool true) ∧ Below w.heap.size w w' := by
  obtain ⟨a0, c0, rfl, x0⟩ := id h0
  obtain ⟨a1, c1, rfl, x1⟩ := id h1
  clear x0 x1
  have H0 := Lib.hid h0
  have H1 := Lib.hid h1
  clear h0 h1
  by_cases g0 : 1048576 < (((S.length + rlSz S) : Nat) : Int)
  · have K0 : Hid (∀ V, RlAt V V.heap.size (.slice a0 S.length c0) S → Calls Try.prog 10 #[.slice a0 S.length c0, .int .i64 1048576] V fun e w' => e = .returned (.int .i64 (-1)) ∧ Below V.heap.size V w') := Lib.hid fun V g => by
      have := szReleaseS_any _ S 1048576 V (by omega) (by omega) hmS hqS g
      rwa [show leftOf 1048576 (S.length + rlSz S) = -1 by unfold leftOf; rw [if_pos (by omega)]] at this
    clear hl 
    go_enter Try.func4, Try.ntmps4
    go_wp2_with fail
    refine (K0.out _ (H0.out.stepAt (by go_grown))).mono ?_
    rintro e w1 ⟨rfl, hb⟩
    have b1 := hb
    clear hb
    go_wp2_with fail
    go_ret
    exact ⟨rfl, b1⟩
  obtain ⟨y1, f1, e1, n1⟩ : ∃ y : Int, leftOf 1048576 (S.length + rlSz S) = y ∧ y = 1048576 - (((S.length + rlSz S) : Nat) : Int) ∧ ¬ y < 0 := ⟨_, rfl, by unfold leftOf; rw [if_neg (by omega)], by unfold leftOf; rw [if_neg (by omega)]; omega⟩
  have K0 : Hid (∀ V, RlAt V V.heap.size (.slice a0 S.length c0) S → Calls Try.prog 10 #[.slice a0 S.length c0, .int .i64 1048576] V fun e w' => e = .returned (.int .i64 y1) ∧ Below V.heap.size V w') := Lib.hid fun V g => by
    have := szReleaseS_any _ S 1048576 V (by omega) (by omega) hmS hqS g
    rwa [f1] at this
  clear f1
  have K1 : Hid (∀ V, NdAt V V.heap.size (.slice a1 M.length c1) M → Calls Try.prog 11 #[.slice a1 M.length c1, .int .i64 y1] V fun e w' => e = .returned (.int .i64 (-1)) ∧ Below V.heap.size V w') := Lib.hid fun V g => by
    have := szNeedS_any _ M y1 V (by omega) (by omega) hmM hqM g
    rwa [show leftOf y1 (M.length + ndSz M) = -1 by unfold leftOf; rw [if_pos (by omega)]] at this
  clear hl e1
  go_enter Try.func4, Try.ntmps4
  go_wp2_with fail
  refine (K0.out _ (H0.out.stepAt (by go_grown))).mono ?_
  rintro e w1 ⟨rfl, hb⟩
  have b1 := hb
  clear hb
  go_wp2_with fail
  refine (K1.out _ (H1.out.stepAt b1)).mono ?_
  rintro e w2 ⟨rfl, hb⟩
  have b2 := b1.trans (hb.mono b1.size)
  clear hb
  go_wp2_with fail
  go_ret
  exact ⟨rfl, b2⟩

set_option maxRecDepth 100000 in
set_option maxHeartbeats 16000000 in
theorem short (v0 v1 : Value) (S : List Rel) (M : List Nd) (w : World)  (h0 : RlAt w w.heap.size v0 S) (h1 : NdAt w w.heap.size v1 M) (hl : (S.length + rlSz S) + (M.length + ndSz M) ≤ 1048576) :
    Calls Try.prog 4 #[v0, v1] w fun e w' => e = .returned (.bool true) ∧ Below w.heap.size w w' := by
  have hlS : S.length ≤ 1048576 := by omega
  have hmS : S.length ≤ maxLen := by unfold maxLen; omega
  have hzS : rlSz S ≤ 1048576 := by omega
  have hrS := rl_each (M := S) hzS
  have hqS : ∀ q ∈ S, q.2.2.2.length ≤ maxLen ∧ ∀ p ∈ q.2.2.2, p.2.length ≤ maxLen := fun q h => ⟨by have := (hrS q h).1; unfold maxLen; omega, fun p hp => by have := (hrS q h).2 p hp; unfold maxLen; omega⟩
  have hlM : M.length ≤ 1048576 := by omega
  have hmM : M.length ≤ maxLen := by unfold maxLen; omega
  have hzM : ndSz M ≤ 1048576 := by omega
  have hrM := nd_small (M := M) hzM
  have hqM : ∀ q ∈ M, q.2.length ≤ maxLen := fun q h => by have := hrM q h; unfold maxLen; omega
  obtain ⟨a0, c0, rfl, x0⟩ := id h0
  obtain ⟨a1, c1, rfl, x1⟩ := id h1
  clear x0 x1
  have H0 := Lib.hid h0
  have H1 := Lib.hid h1
  clear h0 h1
  obtain ⟨y1, f1, e1, n1⟩ : ∃ y : Int, leftOf 1048576 (S.length + rlSz S) = y ∧ y = 1048576 - (((S.length + rlSz S) : Nat) : Int) ∧ ¬ y < 0 := ⟨_, rfl, by unfold leftOf; rw [if_neg (by omega)], by unfold leftOf; rw [if_neg (by omega)]; omega⟩
  have K0 : Hid (∀ V, RlAt V V.heap.size (.slice a0 S.length c0) S → Calls Try.prog 10 #[.slice a0 S.length c0, .int .i64 1048576] V fun e w' => e = .returned (.int .i64 y1) ∧ Below V.heap.size V w') := Lib.hid fun V g => by
    have := szReleaseS_any _ S 1048576 V (by omega) (by omega) hmS hqS g
    rwa [f1] at this
  clear f1
  obtain ⟨y2, f2, e2, n2⟩ : ∃ y : Int, leftOf y1 (M.length + ndSz M) = y ∧ y = y1 - (((M.length + ndSz M) : Nat) : Int) ∧ ¬ y < 0 := ⟨_, rfl, by unfold leftOf; rw [if_neg (by omega)], by unfold leftOf; rw [if_neg (by omega)]; omega⟩
  have K1 : Hid (∀ V, NdAt V V.heap.size (.slice a1 M.length c1) M → Calls Try.prog 11 #[.slice a1 M.length c1, .int .i64 y1] V fun e w' => e = .returned (.int .i64 y2) ∧ Below V.heap.size V w') := Lib.hid fun V g => by
    have := szNeedS_any _ M y1 V (by omega) (by omega) hmM hqM g
    rwa [f2] at this
  clear f2
  clear e1 e2 hmS hqS hmM hqM
  have hA : (Lst.leL S M).length ≤ 1048576 := Nat.le_trans (Lst.leL_len S M) (by omega)
  have KS : Hid (∀ V u0 u1, RlAt V V.heap.size u0 S → NdAt V V.heap.size u1 M → Calls Try.prog 23 #[u0, u1] V fun e w' => ∃ v, e = .returned (.tuple #[v, .bool (Lst.lvB S M)]) ∧ PB (Lst.leL S M) V.heap.size w'.heap.size v w' ∧ Below V.heap.size V w') := Lib.hid fun V u0 u1 g0 g1 => Lst.specLeast_any u0 u1 S M V hlS hrS hlM hrM g0 g1
  have KI : Hid (∀ V u0 u1, RlAt V V.heap.size u0 S → NdAt V V.heap.size u1 M → Calls Try.prog 24 #[u0, u1] V fun e w' => ∃ v, e = .returned (.tuple #[v, .bool (Lst.lvB S M)]) ∧ PB (Lst.leL S M) V.heap.size w'.heap.size v w' ∧ Below V.heap.size V w') := Lib.hid fun V u0 u1 g0 g1 => Lst.implLeast_any u0 u1 S M V hlS hrS hlM hrM g0 g1
  obtain ⟨bf, hbf⟩ : ∃ bf : Bool, Lst.lvB S M = bf := ⟨_, rfl⟩
  rw [hbf] at KS KI
  clear hbf
  have hbb : (bf != bf) = false := by simp
  generalize Lst.leL S M = A at *
  clear hl
  obtain ⟨mm, hmm, hm0⟩ : ∃ mm : Int, 1 + 5 * (A.length : Int) = mm ∧ ¬ mm < 0 := ⟨_, rfl, by omega⟩
  have hm2 : (mm != mm) = false := by simp
  have KM : Hid (∀ V u lo hi, PB A lo hi u V → Calls Try.prog 26 #[u, .int .i64 1] V fun e w' => e = .returned (.int .i64 mm) ∧ PB (pmarks 1 A.length) lo hi u w' ∧ Out lo hi V w') := Lib.hid fun V u lo hi g => by
    have := markPB hA g 1 (by omega) (by omega)
    rwa [hmm] at this
  have KH : Hid (∀ V u lo hi, PB (pmarks 1 A.length) lo hi u V → Calls Try.prog 27 #[u, .int .i64 1] V fun e w' => e = .returned (.int .i64 mm) ∧ Below V.heap.size V w') := Lib.hid fun V u lo hi g => by
    have := heldPB hA 1 (by omega) (by omega) g
    rwa [hmm] at this
  clear hmm
  go_enter Try.func4, Try.ntmps4
  go_wp2_with fail
  refine (K0.out _ (H0.out.stepAt (by go_grown))).mono ?_
  rintro e w1 ⟨rfl, hb⟩
  have zw1 : w.heap.size ≤ w1.heap.size := hb.size
  have bw1 := hb
  clear hb
  go_wp2_with fail
  refine (K1.out _ (H1.out.stepAt bw1)).mono ?_
  rintro e w2 ⟨rfl, hb⟩
  have zw2 : w1.heap.size ≤ w2.heap.size := hb.size
  have bw2 := bw1.trans (hb.mono bw1.size)
  clear hb bw1
  go_wp2_with fail
  refine (toReleaseS_any _ S _ (H0.out.stepAt bw2) hlS hrS).mono ?_
  rintro e w3 ⟨gzw3, rfl, kzw3, hgz, hb⟩
  clear hgz
  have zw3 : w2.heap.size ≤ w3.heap.size := hb.size
  have bw3 := bw2.trans (hb.mono bw2.size)
  clear hb bw2
  go_wp2_with fail
  refine (toNeedS_in _ M _ (H1.out.stepAt bw3) hlM hrM).mono ?_
  rintro e w4 ⟨gaw4, gcw4, rfl, kzw4, hb⟩
  have zw4 : w3.heap.size ≤ w4.heap.size := hb.size
  have bw4 := bw3.trans (hb.mono bw3.size)
  have rw4_z0 := kzw3.below hb
  clear hb bw3 kzw3
  go_wp2_with fail
  refine (KS.out _ _ _ rw4_z0.at kzw4.at).mono ?_
  rintro e w5 ⟨vvwa, rfl, hwa, hb⟩
  have zw5 : w4.heap.size ≤ w5.heap.size := hb.size
  have bw5 := bw4.trans (hb.mono bw4.size)
  have rw5_z0 := rw4_z0.below hb
  have rw5_z1 := kzw4.below hb
  clear hb bw4 rw4_z0 kzw4
  obtain ⟨sawa, scwa, rfl, exwa⟩ := id hwa
  clear exwa
  clear rw5_z0
  clear rw5_z1
  go_wp2_with fail
  refine (toReleaseS_ord _ S _ (H0.out.stepAt bw5) hlS hrS).mono ?_
  rintro e w6 ⟨ux0, rfl, hx0, hb⟩
  have zw6 : w5.heap.size ≤ w6.heap.size := hb.size
  have bw6 := bw5.trans (hb.mono bw5.size)
  have rw6_wa := hwa.below hb
  clear hb bw5 hwa
  obtain ⟨xa0, xc0, rfl, ee0⟩ := id hx0
  clear ee0
  go_wp2_with fail
  refine (toNeedS_in _ M _ (H1.out.stepAt bw6) hlM hrM).mono ?_
  rintro e w7 ⟨xa1, xc1, rfl, hx1, hb⟩
  have zw7 : w6.heap.size ≤ w7.heap.size := hb.size
  have bw7 := bw6.trans (hb.mono bw6.size)
  have rw7_wa := rw6_wa.below hb
  have rw7_x0 := hx0.below hb
  clear hb bw6 rw6_wa hx0
  go_wp2_with fail
  refine (KI.out _ _ _ rw7_x0.at hx1.at).mono ?_
  rintro e w8 ⟨vvg, rfl, hg, hb⟩
  have zw8 : w7.heap.size ≤ w8.heap.size := hb.size
  have bw8 := bw7.trans (hb.mono bw7.size)
  have rw8_wa := rw7_wa.below hb
  have rw8_x0 := rw7_x0.below hb
  have rw8_x1 := hx1.below hb
  clear hb bw7 rw7_wa rw7_x0 hx1
  obtain ⟨sag, scg, rfl, exg⟩ := id hg
  clear exg
  go_wp2_with fail
  refine (eqPickS_same hA hg.at rw8_wa.at).mono ?_
  rintro e w9 ⟨rfl, hb⟩
  have zw9 : w8.heap.size ≤ w9.heap.size := hb.size
  have bw9 := bw8.trans (hb.mono bw8.size)
  have rw9_wa := rw8_wa.below hb
  have rw9_x0 := rw8_x0.below hb
  have rw9_x1 := rw8_x1.below hb
  have rw9_g := hg.below hb
  clear hb bw8 rw8_wa rw8_x0 rw8_x1 hg
  go_wp2_with fail
  refine (toReleaseS_any _ S _ (H0.out.stepAt bw9) hlS hrS).mono ?_
  rintro e w10 ⟨gzw10, rfl, kzw10, hgz, hb⟩
  clear hgz
  have zw10 : w9.heap.size ≤ w10.heap.size := hb.size
  have bw10 := bw9.trans (hb.mono bw9.size)
  have rw10_wa := rw9_wa.below hb
  have rw10_x0 := rw9_x0.below hb
  have rw10_x1 := rw9_x1.below hb
  have rw10_g := rw9_g.below hb
  clear hb bw9 rw9_wa rw9_x0 rw9_x1 rw9_g
  go_wp2_with fail
  refine (eqReleaseS_same hlS hrS rw10_x0.at kzw10.at).mono ?_
  rintro e w11 ⟨rfl, hb⟩
  have zw11 : w10.heap.size ≤ w11.heap.size := hb.size
  have bw11 := bw10.trans (hb.mono bw10.size)
  have rw11_wa := rw10_wa.below hb
  have rw11_x0 := rw10_x0.below hb
  have rw11_x1 := rw10_x1.below hb
  have rw11_g := rw10_g.below hb
  have rw11_z0 := kzw10.below hb
  clear hb bw10 rw10_wa rw10_x0 rw10_x1 rw10_g kzw10
  clear rw11_z0
  go_wp2_with fail
  refine (toNeedS_in _ M _ (H1.out.stepAt bw11) hlM hrM).mono ?_
  rintro e w12 ⟨gaw12, gcw12, rfl, kzw12, hb⟩
  have zw12 : w11.heap.size ≤ w12.heap.size := hb.size
  have bw12 := bw11.trans (hb.mono bw11.size)
  have rw12_wa := rw11_wa.below hb
  have rw12_x0 := rw11_x0.below hb
  have rw12_x1 := rw11_x1.below hb
  have rw12_g := rw11_g.below hb
  clear hb bw11 rw11_wa rw11_x0 rw11_x1 rw11_g
  go_wp2_with fail
  refine (eqNeedS_same hlM hrM rw12_x1.at kzw12.at).mono ?_
  rintro e w13 ⟨rfl, hb⟩
  have zw13 : w12.heap.size ≤ w13.heap.size := hb.size
  have bw13 := bw12.trans (hb.mono bw12.size)
  have rw13_wa := rw12_wa.below hb
  have rw13_x0 := rw12_x0.below hb
  have rw13_x1 := rw12_x1.below hb
  have rw13_g := rw12_g.below hb
  have rw13_z1 := kzw12.below hb
  clear hb bw12 rw12_wa rw12_x0 rw12_x1 rw12_g kzw12
  clear rw13_z1
  go_wp2_with fail
  refine (markReleaseS_out hlS hzS rw13_x0 1 (by omega) (by omega)).mono ?_
  rintro e w14 ⟨⟨k0, rfl, kl0, ku0⟩, ho⟩
  clear rw13_x0
  have ry0_1 := NIn.out rw13_x1 ho (by omega)
  clear rw13_x1
  have zw14 : w13.heap.size ≤ w14.heap.size := ho.size
  have bw14 := ho.below bw13 (by omega) (by omega)
  have rw14_wa := rw13_wa.out ho (by omega)
  have rw14_g := rw13_g.out ho (by omega)
  clear ho bw13 rw13_wa rw13_g
  go_wp2_with fail
  refine (markNIn hlM hzM ry0_1 k0 (by omega) (by omega)).mono ?_
  rintro e w15 ⟨⟨k1, rfl, kl1, ku1⟩, ho⟩
  clear ry0_1
  have zw15 : w14.heap.size ≤ w15.heap.size := ho.size
  have bw15 := ho.below bw14 (by omega) (by omega)
  have rw15_wa := rw14_wa.out ho (by omega)
  have rw15_g := rw14_g.out ho (by omega)
  clear ho bw14 rw14_wa rw14_g
  have hk2 : ¬ (k1 < 0) := by omega
  go_wp2_with fail
  refine (eqPickS_same hA rw15_g.at rw15_wa.at).mono ?_
  rintro e w16 ⟨rfl, hb⟩
  have zw16 : w15.heap.size ≤ w16.heap.size := hb.size
  have bw16 := bw15.trans (hb.mono bw15.size)
  have rw16_wa := rw15_wa.below hb
  have rw16_g := rw15_g.below hb
  clear hb bw15 rw15_wa rw15_g
  go_wp2_with fail
  refine (KM.out _ _ _ _ rw16_g).mono ?_
  rintro e w17 ⟨rfl, hg1, ho⟩
  clear rw16_g
  have zw17 : w16.heap.size ≤ w17.heap.size := ho.size
  have bw17 := ho.below bw16 (by omega) (by omega)
  have rw17_wa := rw16_wa.out ho (by omega)
  clear ho bw16 rw16_wa
  go_wp2_with fail
  refine (KH.out _ _ _ _ hg1).mono ?_
  rintro e w18 ⟨rfl, hb⟩
  have zw18 : w17.heap.size ≤ w18.heap.size := hb.size
  have bw18 := bw17.trans (hb.mono bw17.size)
  have rw18_wa := rw17_wa.below hb
  have rw18_g := hg1.below hb
  clear hb bw17 rw17_wa hg1
  go_wp2_with fail
  refine (toReleaseS_any _ S _ (H0.out.stepAt bw18) hlS hrS).mono ?_
  rintro e w19 ⟨gzw19, rfl, kzw19, hgz, hb⟩
  clear hgz
  have zw19 : w18.heap.size ≤ w19.heap.size := hb.size
  have bw19 := bw18.trans (hb.mono bw18.size)
  have rw19_wa := rw18_wa.below hb
  have rw19_g := rw18_g.below hb
  clear hb bw18 rw18_wa rw18_g
  go_wp2_with fail
  refine (toNeedS_in _ M _ (H1.out.stepAt bw19) hlM hrM).mono ?_
  rintro e w20 ⟨gaw20, gcw20, rfl, kzw20, hb⟩
  have zw20 : w19.heap.size ≤ w20.heap.size := hb.size
  have bw20 := bw19.trans (hb.mono bw19.size)
  have rw20_wa := rw19_wa.below hb
  have rw20_g := rw19_g.below hb
  have rw20_z0 := kzw19.below hb
  clear hb bw19 rw19_wa rw19_g kzw19
  go_wp2_with fail
  refine (KI.out _ _ _ rw20_z0.at kzw20.at).mono ?_
  rintro e w21 ⟨vvwb, rfl, hwb, hb⟩
  have zw21 : w20.heap.size ≤ w21.heap.size := hb.size
  have bw21 := bw20.trans (hb.mono bw20.size)
  have rw21_wa := rw20_wa.below hb
  have rw21_g := rw20_g.below hb
  have rw21_z0 := rw20_z0.below hb
  have rw21_z1 := kzw20.below hb
  clear hb bw20 rw20_wa rw20_g rw20_z0 kzw20
  obtain ⟨sawb, scwb, rfl, exwb⟩ := id hwb
  clear exwb
  clear rw21_z0
  clear rw21_z1
  go_wp2_with fail
  refine (eqPickS_same hA hwb.at rw21_wa.at).mono ?_
  rintro e w22 ⟨rfl, hb⟩
  have zw22 : w21.heap.size ≤ w22.heap.size := hb.size
  have bw22 := bw21.trans (hb.mono bw21.size)
  have rw22_wa := rw21_wa.below hb
  have rw22_g := rw21_g.below hb
  have rw22_wb := hwb.below hb
  clear hb bw21 rw21_wa rw21_g hwb
  go_wp2_with fail
  refine (KH.out _ _ _ _ rw22_g).mono ?_
  rintro e w23 ⟨rfl, hb⟩
  have zw23 : w22.heap.size ≤ w23.heap.size := hb.size
  have bw23 := bw22.trans (hb.mono bw22.size)
  have rw23_wa := rw22_wa.below hb
  have rw23_g := rw22_g.below hb
  have rw23_wb := rw22_wb.below hb
  clear hb bw22 rw22_wa rw22_g rw22_wb
  go_wp2_with fail
  go_ret
  exact ⟨rfl, bw23⟩

set_option maxRecDepth 100000 in
theorem law : LawWalk Try.prog 4 Try.f4 := by
  intro H enc W base args ds ps hval hA
  rw [Try.params4] at hA hval
  obtain ⟨v0, vs0, d0, es0, p0, q0, hargs, rfl, rfl, h0, r0⟩ := trodAll_cons hA
  obtain ⟨v1, vs1, d1, es1, p1, q1, rfl, rfl, rfl, h1, r1⟩ := trodAll_cons r0
  obtain ⟨rfl, rfl, rfl⟩ := trodAll_nil r1
  obtain rfl : args = #[v0, v1] := by cases args; simp_all
  obtain ⟨a0, c0, S, rfl, g0, m0, q0x⟩ := open_rels (hval 0 _ v0 rfl rfl) h0
  obtain ⟨a1, c1, M, rfl, g1, m1, q1x⟩ := open_needs (hval 1 _ v1 rfl rfl) h1
  by_cases hl : (S.length + rlSz S) + (M.length + ndSz M) ≤ 1048576
  · exact short _ _ S M W  g0 g1 hl
  · exact long _ _ S M W m0 q0x m1 q1x  g0 g1 (by omega)
end Lle

set_option maxRecDepth 100000 in
theorem exactLeast_holds : Rows.FnExactLeastSaid :=
  OpenClaim.holds_of_wide 4 Try.f4 rfl rfl rfl rfl rfl rfl rfl ⟨rfl, rfl, rfl, rfl, rfl⟩ rfl rfl rfl rfl rfl (by kernel_rfl) Try.func4 (by kernel_rfl)
    (of_decide_eq_true (by kernel_rfl)) (by unfold Func.isWrapper; rw [if_neg (by decide +kernel)]; exact ⟨rfl, rfl⟩)
    (fun os started H enc _ => law_lifted (s := Rows.fnExactLeastSpec) (tb := 4) own started laid (by kernel_rfl) Try.func4 rfl (by kernel_rfl) Try.underlying4 (by kernel_rfl)
      (fun ds h => by rw [Try.params4] at h; match ds, h with | [_, _], _ => rfl)
      (ChangeSpec.witness6 (enc := enc) (C := Try.checked) false ⟨#[], #[.slice none 0 0, .slice none 0 0], []⟩ 8 (by kernel_rfl) (by kernel_rfl) (by kernel_rfl) (by kernel_rfl))
      Lle.law)
#print axioms exactLeast_holds
end Go.Proofs.Ytgnjhmmedogcoaa
