/- At every argument the law FnExactSolve returns true: Solve of the program answers as Solve of the model, leaves its arguments, and its answer owns its memory. No condition. -/
import Derived.Test.YtgenjbeamlffmaaGc
import Derived.Test.YtgenjbeamlffmaaGg
import Derived.Test.YtgenjbeamlffmaaMarkr
import Derived.Test.YtgenjbeamlffmaaPkmk
import Derived.Test.YtgenjbeamlffmaaSvu
import Derived.Deep.RegionHeld3
namespace Go.Proofs.Ytgenjbeamlffmaa
open Go.ChangeShapes Go.WideShapes Go.ChangeAt Go.RowKit Go.Joins Go.Sort

namespace Lsl
open Foot Copy Cpu
theorem nd_small {M : List Nd} (h : ndSz M ≤ 1048576) : ∀ q ∈ M, q.2.length ≤ 1048576 := fun q hq => by
  obtain ⟨i, hi, rfl⟩ := List.getElem_of_mem hq
  have := ndSz_mem M i _ (List.getElem?_eq_getElem hi)
  omega
theorem eqNeedS_same {v v' : Value} {M : List Nd} {w : World} (hl : M.length ≤ 1048576) (hq : ∀ q ∈ M, q.2.length ≤ 1048576) (h : NdAt w w.heap.size v M) (h' : NdAt w w.heap.size v' M) :
    Calls Try.prog 23 #[v, v'] w fun e w' => e = .returned (.bool true) ∧ Below w.heap.size w w' := by
  have := eqNeedS_any v v' M M w hl hl hq hq h h'
  rwa [decide_eq_true rfl] at this
set_option maxRecDepth 100000 in
theorem toNeedS_in (v : Value) (M : List Nd) (w : World) (h : NdAt w w.heap.size v M) (hl : M.length ≤ 1048576) (hq : ∀ q ∈ M, q.2.length ≤ 1048576) :
    Calls Try.prog 18 #[v] w fun e w' => ∃ a c, e = .returned (.slice a M.length c) ∧ NIn M w.heap.size w'.heap.size (.slice a M.length c) w' ∧ Below w.heap.size w w' :=
  (toNeedS_ord v M w h hl hq).mono fun _ _ ⟨g, he, hk, hg, ho, hb⟩ => ⟨_, _, he, ⟨_, _, rfl, .inr ⟨g, _, rfl, hk, hg, ho⟩⟩, hb⟩
theorem NIn.out {M : List Nd} {lo hi lo' hi' : Nat} {v : Value} {w w' : World} (h : NIn M lo hi v w) (ho : Out lo' hi' w w') (hd : hi' ≤ lo) : NIn M lo hi v w' := h.kept fun k k1 k2 => ho.block k k2 (.inr (by omega))
set_option maxRecDepth 100000 in
set_option maxHeartbeats 4000000 in
theorem long (v0 v1 v2 : Value) (S : List Rel) (M : List Nd) (D : List Pk) (w : World) (hmS : S.length ≤ maxLen) (hqS : ∀ q ∈ S, q.2.2.2.length ≤ maxLen ∧ ∀ p ∈ q.2.2.2, p.2.length ≤ maxLen) (hmM : M.length ≤ maxLen) (hqM : ∀ q ∈ M, q.2.length ≤ maxLen) (hmD : D.length ≤ maxLen) (h0 : RlAt w w.heap.size v0 S) (h1 : NdAt w w.heap.size v1 M) (h2 : PkAt w w.heap.size v2 D) (hl : 1048576 < (S.length + rlSz S) + (M.length + ndSz M) + D.length) :
    Calls Try.prog 3 #[v0, v1, v2] w fun e w' => e = .returned (.bool true) ∧ Below w.heap.size w w' := by
  obtain ⟨a0, c0, rfl, x0⟩ := id h0
  obtain ⟨a1, c1, rfl, x1⟩ := id h1
  obtain ⟨a2, c2, rfl, x2⟩ := id h2
  clear x0 x1 x2
  have H0 := Lib.hid h0
  have H1 := Lib.hid h1
  have H2 := Lib.hid h2
  clear h0 h1 h2
  by_cases g0 : 1048576 < (((S.length + rlSz S) : Nat) : Int)
  · have K0 : Hid (∀ V, RlAt V V.heap.size (.slice a0 S.length c0) S → Calls Try.prog 13 #[.slice a0 S.length c0, .int .i64 1048576] V fun e w' => e = .returned (.int .i64 (-1)) ∧ Below V.heap.size V w') := Lib.hid fun V g => by
      have := szReleaseS_any _ S 1048576 V (by omega) (by omega) hmS hqS g
      rwa [show leftOf 1048576 (S.length + rlSz S) = -1 by unfold leftOf; rw [if_pos (by omega)]] at this
    clear hl 
    go_enter Try.func3, Try.ntmps3
    go_wp2_with fail
    refine (K0.out _ (H0.out.stepAt (by go_grown))).mono ?_
    rintro e w1 ⟨rfl, hb⟩
    have b1 := hb
    clear hb
    go_wp2_with fail
    go_ret
    exact ⟨rfl, b1⟩
  obtain ⟨y1, f1, e1, n1⟩ : ∃ y : Int, leftOf 1048576 (S.length + rlSz S) = y ∧ y = 1048576 - (((S.length + rlSz S) : Nat) : Int) ∧ ¬ y < 0 := ⟨_, rfl, by unfold leftOf; rw [if_neg (by omega)], by unfold leftOf; rw [if_neg (by omega)]; omega⟩
  have K0 : Hid (∀ V, RlAt V V.heap.size (.slice a0 S.length c0) S → Calls Try.prog 13 #[.slice a0 S.length c0, .int .i64 1048576] V fun e w' => e = .returned (.int .i64 y1) ∧ Below V.heap.size V w') := Lib.hid fun V g => by
    have := szReleaseS_any _ S 1048576 V (by omega) (by omega) hmS hqS g
    rwa [f1] at this
  clear f1
  by_cases g1 : y1 < (((M.length + ndSz M) : Nat) : Int)
  · have K1 : Hid (∀ V, NdAt V V.heap.size (.slice a1 M.length c1) M → Calls Try.prog 14 #[.slice a1 M.length c1, .int .i64 y1] V fun e w' => e = .returned (.int .i64 (-1)) ∧ Below V.heap.size V w') := Lib.hid fun V g => by
      have := szNeedS_any _ M y1 V (by omega) (by omega) hmM hqM g
      rwa [show leftOf y1 (M.length + ndSz M) = -1 by unfold leftOf; rw [if_pos (by omega)]] at this
    clear hl e1
    go_enter Try.func3, Try.ntmps3
    go_wp2_with fail
    refine (K0.out _ (H0.out.stepAt (by go_grown))).mono ?_
    rintro e w1 ⟨rfl, hb⟩
    have b1 := hb
    clear hb
    go_wp2_with fail
    refine (K1.out _ (H1.out.stepAt b1)).mono ?_
    rintro e w2 ⟨rfl, hb⟩
    have b2 := b1.trans (hb.mono b1.size)
    clear hb
    go_wp2_with fail
    go_ret
    exact ⟨rfl, b2⟩
  obtain ⟨y2, f2, e2, n2⟩ : ∃ y : Int, leftOf y1 (M.length + ndSz M) = y ∧ y = y1 - (((M.length + ndSz M) : Nat) : Int) ∧ ¬ y < 0 := ⟨_, rfl, by unfold leftOf; rw [if_neg (by omega)], by unfold leftOf; rw [if_neg (by omega)]; omega⟩
  have K1 : Hid (∀ V, NdAt V V.heap.size (.slice a1 M.length c1) M → Calls Try.prog 14 #[.slice a1 M.length c1, .int .i64 y1] V fun e w' => e = .returned (.int .i64 y2) ∧ Below V.heap.size V w') := Lib.hid fun V g => by
    have := szNeedS_any _ M y1 V (by omega) (by omega) hmM hqM g
    rwa [f2] at this
  clear f2
  have K2 : Hid (∀ V, PkAt V V.heap.size (.slice a2 D.length c2) D → Calls Try.prog 15 #[.slice a2 D.length c2, .int .i64 y2] V fun e w' => e = .returned (.int .i64 (-1)) ∧ Below V.heap.size V w') := Lib.hid fun V g => by
    have := szPickS_any _ D y2 V (by omega) (by omega) hmD g
    rwa [show pleft y2 D.length = -1 by unfold pleft; rw [if_pos (by omega)]] at this
  clear hl e1 e2
  go_enter Try.func3, Try.ntmps3
  go_wp2_with fail
  refine (K0.out _ (H0.out.stepAt (by go_grown))).mono ?_
  rintro e w1 ⟨rfl, hb⟩
  have b1 := hb
  clear hb
  go_wp2_with fail
  refine (K1.out _ (H1.out.stepAt b1)).mono ?_
  rintro e w2 ⟨rfl, hb⟩
  have b2 := b1.trans (hb.mono b1.size)
  clear hb
  go_wp2_with fail
  refine (K2.out _ (H2.out.stepAt b2)).mono ?_
  rintro e w3 ⟨rfl, hb⟩
  have b3 := b2.trans (hb.mono b2.size)
  clear hb
  go_wp2_with fail
  go_ret
  exact ⟨rfl, b3⟩

set_option maxRecDepth 100000 in
set_option maxHeartbeats 16000000 in
theorem short (v0 v1 v2 : Value) (S : List Rel) (M : List Nd) (D : List Pk) (w : World) (h0 : RlAt w w.heap.size v0 S) (h1 : NdAt w w.heap.size v1 M) (h2 : PkAt w w.heap.size v2 D) (hl : (S.length + rlSz S) + (M.length + ndSz M) + D.length ≤ 1048576) :
    Calls Try.prog 3 #[v0, v1, v2] w fun e w' => e = .returned (.bool true) ∧ Below w.heap.size w w' := by
  have hlS : S.length ≤ 1048576 := by omega
  have hmS : S.length ≤ maxLen := by unfold maxLen; omega
  have hzS : rlSz S ≤ 1048576 := by omega
  have hrS := rl_each (M := S) hzS
  have hqS : ∀ q ∈ S, q.2.2.2.length ≤ maxLen ∧ ∀ p ∈ q.2.2.2, p.2.length ≤ maxLen := fun q h => ⟨by have := (hrS q h).1; unfold maxLen; omega, fun p hp => by have := (hrS q h).2 p hp; unfold maxLen; omega⟩
  have hlM : M.length ≤ 1048576 := by omega
  have hmM : M.length ≤ maxLen := by unfold maxLen; omega
  have hzM : ndSz M ≤ 1048576 := by omega
  have hrM := nd_small (M := M) hzM
  have hqM : ∀ q ∈ M, q.2.length ≤ maxLen := fun q h => by have := hrM q h; unfold maxLen; omega
  have hlD : D.length ≤ 1048576 := by omega
  have hmD : D.length ≤ maxLen := by unfold maxLen; omega
  obtain ⟨a0, c0, rfl, x0⟩ := id h0
  obtain ⟨a1, c1, rfl, x1⟩ := id h1
  obtain ⟨a2, c2, rfl, x2⟩ := id h2
  clear x0 x1 x2
  have H0 := Lib.hid h0
  have H1 := Lib.hid h1
  have H2 := Lib.hid h2
  clear h0 h1 h2
  obtain ⟨y1, f1, e1, n1⟩ : ∃ y : Int, leftOf 1048576 (S.length + rlSz S) = y ∧ y = 1048576 - (((S.length + rlSz S) : Nat) : Int) ∧ ¬ y < 0 := ⟨_, rfl, by unfold leftOf; rw [if_neg (by omega)], by unfold leftOf; rw [if_neg (by omega)]; omega⟩
  have K0 : Hid (∀ V, RlAt V V.heap.size (.slice a0 S.length c0) S → Calls Try.prog 13 #[.slice a0 S.length c0, .int .i64 1048576] V fun e w' => e = .returned (.int .i64 y1) ∧ Below V.heap.size V w') := Lib.hid fun V g => by
    have := szReleaseS_any _ S 1048576 V (by omega) (by omega) hmS hqS g
    rwa [f1] at this
  clear f1
  obtain ⟨y2, f2, e2, n2⟩ : ∃ y : Int, leftOf y1 (M.length + ndSz M) = y ∧ y = y1 - (((M.length + ndSz M) : Nat) : Int) ∧ ¬ y < 0 := ⟨_, rfl, by unfold leftOf; rw [if_neg (by omega)], by unfold leftOf; rw [if_neg (by omega)]; omega⟩
  have K1 : Hid (∀ V, NdAt V V.heap.size (.slice a1 M.length c1) M → Calls Try.prog 14 #[.slice a1 M.length c1, .int .i64 y1] V fun e w' => e = .returned (.int .i64 y2) ∧ Below V.heap.size V w') := Lib.hid fun V g => by
    have := szNeedS_any _ M y1 V (by omega) (by omega) hmM hqM g
    rwa [f2] at this
  clear f2
  obtain ⟨y3, f3, e3, n3⟩ : ∃ y : Int, pleft y2 D.length = y ∧ y = y2 - ((D.length : Nat) : Int) ∧ ¬ y < 0 := ⟨_, rfl, by unfold pleft; rw [if_neg (by omega)], by unfold pleft; rw [if_neg (by omega)]; omega⟩
  have K2 : Hid (∀ V, PkAt V V.heap.size (.slice a2 D.length c2) D → Calls Try.prog 15 #[.slice a2 D.length c2, .int .i64 y2] V fun e w' => e = .returned (.int .i64 y3) ∧ Below V.heap.size V w') := Lib.hid fun V g => by
    have := szPickS_any _ D y2 V (by omega) (by omega) hmD g
    rwa [f3] at this
  clear f3
  clear e1 e2 e3 hmS hqS hmM hqM hmD
  have hA : ((Svp.solveL S M D).getD []).length ≤ 1048576 := Nat.le_trans (Svp.solveL_len S M D) (by omega)
  have KS : Hid (∀ V u0 u1 u2, RlAt V V.heap.size u0 S → NdAt V V.heap.size u1 M → PkAt V V.heap.size u2 D → Calls Try.prog 16 #[u0, u1, u2] V fun e w' => ∃ v, e = .returned (.tuple #[v, .bool ((Svp.solveL S M D).isSome)]) ∧ PB ((Svp.solveL S M D).getD []) V.heap.size w'.heap.size v w' ∧ Below V.heap.size V w') := Lib.hid fun V u0 u1 u2 g0 g1 g2 => Svp.specSolve_any u0 u1 u2 S M D V hlS hrS hlM hrM hlD g0 g1 g2
  have KI : Hid (∀ V u0 u1 u2, RlAt V V.heap.size u0 S → NdAt V V.heap.size u1 M → PkAt V V.heap.size u2 D → Calls Try.prog 20 #[u0, u1, u2] V fun e w' => ∃ v, e = .returned (.tuple #[v, .bool ((Svp.solveL S M D).isSome)]) ∧ PB ((Svp.solveL S M D).getD []) V.heap.size w'.heap.size v w' ∧ Below V.heap.size V w') := Lib.hid fun V u0 u1 u2 g0 g1 g2 => Svp.implSolve_any u0 u1 u2 S M D V hlS hrS hlM hrM hlD g0 g1 g2
  obtain ⟨bf, hbf⟩ : ∃ bf : Bool, (Svp.solveL S M D).isSome = bf := ⟨_, rfl⟩
  rw [hbf] at KS KI
  clear hbf
  have hbb : (bf != bf) = false := by simp
  generalize (Svp.solveL S M D).getD [] = A at *
  clear hl
  obtain ⟨mm, hmm, hm0⟩ : ∃ mm : Int, 1 + 5 * (A.length : Int) = mm ∧ ¬ mm < 0 := ⟨_, rfl, by omega⟩
  have hm2 : (mm != mm) = false := by simp
  have KM : Hid (∀ V u lo hi, PB A lo hi u V → Calls Try.prog 26 #[u, .int .i64 1] V fun e w' => e = .returned (.int .i64 mm) ∧ PB (pmarks 1 A.length) lo hi u w' ∧ Out lo hi V w') := Lib.hid fun V u lo hi g => by
    have := markPB hA g 1 (by omega) (by omega)
    rwa [hmm] at this
  have KH : Hid (∀ V u lo hi, PB (pmarks 1 A.length) lo hi u V → Calls Try.prog 27 #[u, .int .i64 1] V fun e w' => e = .returned (.int .i64 mm) ∧ Below V.heap.size V w') := Lib.hid fun V u lo hi g => by
    have := heldPB hA 1 (by omega) (by omega) g
    rwa [hmm] at this
  clear hmm
  go_enter Try.func3, Try.ntmps3
  go_wp2_with fail
  refine (K0.out _ (H0.out.stepAt (by go_grown))).mono ?_
  rintro e w1 ⟨rfl, hb⟩
  have zw1 : w.heap.size ≤ w1.heap.size := hb.size
  have bw1 := hb
  clear hb
  go_wp2_with fail
  refine (K1.out _ (H1.out.stepAt bw1)).mono ?_
  rintro e w2 ⟨rfl, hb⟩
  have zw2 : w1.heap.size ≤ w2.heap.size := hb.size
  have bw2 := bw1.trans (hb.mono bw1.size)
  clear hb bw1
  go_wp2_with fail
  refine (K2.out _ (H2.out.stepAt bw2)).mono ?_
  rintro e w3 ⟨rfl, hb⟩
  have zw3 : w2.heap.size ≤ w3.heap.size := hb.size
  have bw3 := bw2.trans (hb.mono bw2.size)
  clear hb bw2
  go_wp2_with fail
  refine (toReleaseS_any _ S _ (H0.out.stepAt bw3) hlS hrS).mono ?_
  rintro e w4 ⟨gzw4, rfl, kzw4, hgz, hb⟩
  clear hgz
  have zw4 : w3.heap.size ≤ w4.heap.size := hb.size
  have bw4 := bw3.trans (hb.mono bw3.size)
  clear hb bw3
  go_wp2_with fail
  refine (toNeedS_in _ M _ (H1.out.stepAt bw4) hlM hrM).mono ?_
  rintro e w5 ⟨gaw5, gcw5, rfl, kzw5, hb⟩
  have zw5 : w4.heap.size ≤ w5.heap.size := hb.size
  have bw5 := bw4.trans (hb.mono bw4.size)
  have rw5_z0 := kzw4.below hb
  clear hb bw4 kzw4
  go_wp2_with fail
  refine (toPickS_any _ D _ (H2.out.stepAt bw5) hlD).mono ?_
  rintro e w6 ⟨gzw6, rfl, kzw6, hgz, hb⟩
  clear hgz
  have zw6 : w5.heap.size ≤ w6.heap.size := hb.size
  have bw6 := bw5.trans (hb.mono bw5.size)
  have rw6_z0 := rw5_z0.below hb
  have rw6_z1 := kzw5.below hb
  clear hb bw5 rw5_z0 kzw5
  go_wp2_with fail
  refine (KS.out _ _ _ _ rw6_z0.at rw6_z1.at kzw6.at).mono ?_
  rintro e w7 ⟨vvwa, rfl, hwa, hb⟩
  have zw7 : w6.heap.size ≤ w7.heap.size := hb.size
  have bw7 := bw6.trans (hb.mono bw6.size)
  have rw7_z0 := rw6_z0.below hb
  have rw7_z1 := rw6_z1.below hb
  have rw7_z2 := kzw6.below hb
  clear hb bw6 rw6_z0 rw6_z1 kzw6
  obtain ⟨sawa, scwa, rfl, exwa⟩ := id hwa
  clear exwa
  clear rw7_z0
  clear rw7_z1
  clear rw7_z2
  go_wp2_with fail
  refine (toReleaseS_ord _ S _ (H0.out.stepAt bw7) hlS hrS).mono ?_
  rintro e w8 ⟨ux0, rfl, hx0, hb⟩
  have zw8 : w7.heap.size ≤ w8.heap.size := hb.size
  have bw8 := bw7.trans (hb.mono bw7.size)
  have rw8_wa := hwa.below hb
  clear hb bw7 hwa
  obtain ⟨xa0, xc0, rfl, ee0⟩ := id hx0
  clear ee0
  go_wp2_with fail
  refine (toNeedS_in _ M _ (H1.out.stepAt bw8) hlM hrM).mono ?_
  rintro e w9 ⟨xa1, xc1, rfl, hx1, hb⟩
  have zw9 : w8.heap.size ≤ w9.heap.size := hb.size
  have bw9 := bw8.trans (hb.mono bw8.size)
  have rw9_wa := rw8_wa.below hb
  have rw9_x0 := hx0.below hb
  clear hb bw8 rw8_wa hx0
  go_wp2_with fail
  refine (toPickS_pb _ D _ (H2.out.stepAt bw9) hlD).mono ?_
  rintro e w10 ⟨xa2, xc2, rfl, hx2, hb⟩
  have zw10 : w9.heap.size ≤ w10.heap.size := hb.size
  have bw10 := bw9.trans (hb.mono bw9.size)
  have rw10_wa := rw9_wa.below hb
  have rw10_x0 := rw9_x0.below hb
  have rw10_x1 := hx1.below hb
  clear hb bw9 rw9_wa rw9_x0 hx1
  go_wp2_with fail
  refine (KI.out _ _ _ _ rw10_x0.at rw10_x1.at hx2.at).mono ?_
  rintro e w11 ⟨vvg, rfl, hg, hb⟩
  have zw11 : w10.heap.size ≤ w11.heap.size := hb.size
  have bw11 := bw10.trans (hb.mono bw10.size)
  have rw11_wa := rw10_wa.below hb
  have rw11_x0 := rw10_x0.below hb
  have rw11_x1 := rw10_x1.below hb
  have rw11_x2 := hx2.below hb
  clear hb bw10 rw10_wa rw10_x0 rw10_x1 hx2
  obtain ⟨sag, scg, rfl, exg⟩ := id hg
  clear exg
  go_wp2_with fail
  refine (eqPickS_same hA hg.at rw11_wa.at).mono ?_
  rintro e w12 ⟨rfl, hb⟩
  have zw12 : w11.heap.size ≤ w12.heap.size := hb.size
  have bw12 := bw11.trans (hb.mono bw11.size)
  have rw12_wa := rw11_wa.below hb
  have rw12_x0 := rw11_x0.below hb
  have rw12_x1 := rw11_x1.below hb
  have rw12_x2 := rw11_x2.below hb
  have rw12_g := hg.below hb
  clear hb bw11 rw11_wa rw11_x0 rw11_x1 rw11_x2 hg
  go_wp2_with fail
  refine (toReleaseS_any _ S _ (H0.out.stepAt bw12) hlS hrS).mono ?_
  rintro e w13 ⟨gzw13, rfl, kzw13, hgz, hb⟩
  clear hgz
  have zw13 : w12.heap.size ≤ w13.heap.size := hb.size
  have bw13 := bw12.trans (hb.mono bw12.size)
  have rw13_wa := rw12_wa.below hb
  have rw13_x0 := rw12_x0.below hb
  have rw13_x1 := rw12_x1.below hb
  have rw13_x2 := rw12_x2.below hb
  have rw13_g := rw12_g.below hb
  clear hb bw12 rw12_wa rw12_x0 rw12_x1 rw12_x2 rw12_g
  go_wp2_with fail
  refine (eqReleaseS_same hlS hrS rw13_x0.at kzw13.at).mono ?_
  rintro e w14 ⟨rfl, hb⟩
  have zw14 : w13.heap.size ≤ w14.heap.size := hb.size
  have bw14 := bw13.trans (hb.mono bw13.size)
  have rw14_wa := rw13_wa.below hb
  have rw14_x0 := rw13_x0.below hb
  have rw14_x1 := rw13_x1.below hb
  have rw14_x2 := rw13_x2.below hb
  have rw14_g := rw13_g.below hb
  have rw14_z0 := kzw13.below hb
  clear hb bw13 rw13_wa rw13_x0 rw13_x1 rw13_x2 rw13_g kzw13
  clear rw14_z0
  go_wp2_with fail
  refine (toNeedS_in _ M _ (H1.out.stepAt bw14) hlM hrM).mono ?_
  rintro e w15 ⟨gaw15, gcw15, rfl, kzw15, hb⟩
  have zw15 : w14.heap.size ≤ w15.heap.size := hb.size
  have bw15 := bw14.trans (hb.mono bw14.size)
  have rw15_wa := rw14_wa.below hb
  have rw15_x0 := rw14_x0.below hb
  have rw15_x1 := rw14_x1.below hb
  have rw15_x2 := rw14_x2.below hb
  have rw15_g := rw14_g.below hb
  clear hb bw14 rw14_wa rw14_x0 rw14_x1 rw14_x2 rw14_g
  go_wp2_with fail
  refine (eqNeedS_same hlM hrM rw15_x1.at kzw15.at).mono ?_
  rintro e w16 ⟨rfl, hb⟩
  have zw16 : w15.heap.size ≤ w16.heap.size := hb.size
  have bw16 := bw15.trans (hb.mono bw15.size)
  have rw16_wa := rw15_wa.below hb
  have rw16_x0 := rw15_x0.below hb
  have rw16_x1 := rw15_x1.below hb
  have rw16_x2 := rw15_x2.below hb
  have rw16_g := rw15_g.below hb
  have rw16_z1 := kzw15.below hb
  clear hb bw15 rw15_wa rw15_x0 rw15_x1 rw15_x2 rw15_g kzw15
  clear rw16_z1
  go_wp2_with fail
  refine (toPickS_any _ D _ (H2.out.stepAt bw16) hlD).mono ?_
  rintro e w17 ⟨gzw17, rfl, kzw17, hgz, hb⟩
  clear hgz
  have zw17 : w16.heap.size ≤ w17.heap.size := hb.size
  have bw17 := bw16.trans (hb.mono bw16.size)
  have rw17_wa := rw16_wa.below hb
  have rw17_x0 := rw16_x0.below hb
  have rw17_x1 := rw16_x1.below hb
  have rw17_x2 := rw16_x2.below hb
  have rw17_g := rw16_g.below hb
  clear hb bw16 rw16_wa rw16_x0 rw16_x1 rw16_x2 rw16_g
  go_wp2_with fail
  refine (eqPickS_same hlD rw17_x2.at kzw17.at).mono ?_
  rintro e w18 ⟨rfl, hb⟩
  have zw18 : w17.heap.size ≤ w18.heap.size := hb.size
  have bw18 := bw17.trans (hb.mono bw17.size)
  have rw18_wa := rw17_wa.below hb
  have rw18_x0 := rw17_x0.below hb
  have rw18_x1 := rw17_x1.below hb
  have rw18_x2 := rw17_x2.below hb
  have rw18_g := rw17_g.below hb
  have rw18_z2 := kzw17.below hb
  clear hb bw17 rw17_wa rw17_x0 rw17_x1 rw17_x2 rw17_g kzw17
  clear rw18_z2
  go_wp2_with fail
  refine (markReleaseS_out hlS hzS rw18_x0 1 (by omega) (by omega)).mono ?_
  rintro e w19 ⟨⟨k0, rfl, kl0, ku0⟩, ho⟩
  clear rw18_x0
  have ry0_1 := NIn.out rw18_x1 ho (by omega)
  clear rw18_x1
  have zw19 : w18.heap.size ≤ w19.heap.size := ho.size
  have bw19 := ho.below bw18 (by omega) (by omega)
  have rw19_wa := rw18_wa.out ho (by omega)
  have rw19_x2 := rw18_x2.out ho (by omega)
  have rw19_g := rw18_g.out ho (by omega)
  clear ho bw18 rw18_wa rw18_x2 rw18_g
  go_wp2_with fail
  refine (markNIn hlM hzM ry0_1 k0 (by omega) (by omega)).mono ?_
  rintro e w20 ⟨⟨k1, rfl, kl1, ku1⟩, ho⟩
  clear ry0_1
  have zw20 : w19.heap.size ≤ w20.heap.size := ho.size
  have bw20 := ho.below bw19 (by omega) (by omega)
  have rw20_wa := rw19_wa.out ho (by omega)
  have rw20_x2 := rw19_x2.out ho (by omega)
  have rw20_g := rw19_g.out ho (by omega)
  clear ho bw19 rw19_wa rw19_x2 rw19_g
  go_wp2_with fail
  refine (markPB hlD rw20_x2 k1 (by omega) (by omega)).mono ?_
  rintro e w21 ⟨rfl, hpx, ho⟩
  clear hpx
  clear rw20_x2
  have zw21 : w20.heap.size ≤ w21.heap.size := ho.size
  have bw21 := ho.below bw20 (by omega) (by omega)
  have rw21_wa := rw20_wa.out ho (by omega)
  have rw21_g := rw20_g.out ho (by omega)
  clear ho bw20 rw20_wa rw20_g
  have hk2 : ¬ ((k1 + 5 * (D.length : Int)) < 0) := by omega
  go_wp2_with fail
  refine (eqPickS_same hA rw21_g.at rw21_wa.at).mono ?_
  rintro e w22 ⟨rfl, hb⟩
  have zw22 : w21.heap.size ≤ w22.heap.size := hb.size
  have bw22 := bw21.trans (hb.mono bw21.size)
  have rw22_wa := rw21_wa.below hb
  have rw22_g := rw21_g.below hb
  clear hb bw21 rw21_wa rw21_g
  go_wp2_with fail
  refine (KM.out _ _ _ _ rw22_g).mono ?_
  rintro e w23 ⟨rfl, hg1, ho⟩
  clear rw22_g
  have zw23 : w22.heap.size ≤ w23.heap.size := ho.size
  have bw23 := ho.below bw22 (by omega) (by omega)
  have rw23_wa := rw22_wa.out ho (by omega)
  clear ho bw22 rw22_wa
  go_wp2_with fail
  refine (KH.out _ _ _ _ hg1).mono ?_
  rintro e w24 ⟨rfl, hb⟩
  have zw24 : w23.heap.size ≤ w24.heap.size := hb.size
  have bw24 := bw23.trans (hb.mono bw23.size)
  have rw24_wa := rw23_wa.below hb
  have rw24_g := hg1.below hb
  clear hb bw23 rw23_wa hg1
  go_wp2_with fail
  refine (toReleaseS_any _ S _ (H0.out.stepAt bw24) hlS hrS).mono ?_
  rintro e w25 ⟨gzw25, rfl, kzw25, hgz, hb⟩
  clear hgz
  have zw25 : w24.heap.size ≤ w25.heap.size := hb.size
  have bw25 := bw24.trans (hb.mono bw24.size)
  have rw25_wa := rw24_wa.below hb
  have rw25_g := rw24_g.below hb
  clear hb bw24 rw24_wa rw24_g
  go_wp2_with fail
  refine (toNeedS_in _ M _ (H1.out.stepAt bw25) hlM hrM).mono ?_
  rintro e w26 ⟨gaw26, gcw26, rfl, kzw26, hb⟩
  have zw26 : w25.heap.size ≤ w26.heap.size := hb.size
  have bw26 := bw25.trans (hb.mono bw25.size)
  have rw26_wa := rw25_wa.below hb
  have rw26_g := rw25_g.below hb
  have rw26_z0 := kzw25.below hb
  clear hb bw25 rw25_wa rw25_g kzw25
  go_wp2_with fail
  refine (toPickS_any _ D _ (H2.out.stepAt bw26) hlD).mono ?_
  rintro e w27 ⟨gzw27, rfl, kzw27, hgz, hb⟩
  clear hgz
  have zw27 : w26.heap.size ≤ w27.heap.size := hb.size
  have bw27 := bw26.trans (hb.mono bw26.size)
  have rw27_wa := rw26_wa.below hb
  have rw27_g := rw26_g.below hb
  have rw27_z0 := rw26_z0.below hb
  have rw27_z1 := kzw26.below hb
  clear hb bw26 rw26_wa rw26_g rw26_z0 kzw26
  go_wp2_with fail
  refine (KI.out _ _ _ _ rw27_z0.at rw27_z1.at kzw27.at).mono ?_
  rintro e w28 ⟨vvwb, rfl, hwb, hb⟩
  have zw28 : w27.heap.size ≤ w28.heap.size := hb.size
  have bw28 := bw27.trans (hb.mono bw27.size)
  have rw28_wa := rw27_wa.below hb
  have rw28_g := rw27_g.below hb
  have rw28_z0 := rw27_z0.below hb
  have rw28_z1 := rw27_z1.below hb
  have rw28_z2 := kzw27.below hb
  clear hb bw27 rw27_wa rw27_g rw27_z0 rw27_z1 kzw27
  obtain ⟨sawb, scwb, rfl, exwb⟩ := id hwb
  clear exwb
  clear rw28_z0
  clear rw28_z1
  clear rw28_z2
  go_wp2_with fail
  refine (eqPickS_same hA hwb.at rw28_wa.at).mono ?_
  rintro e w29 ⟨rfl, hb⟩
  have zw29 : w28.heap.size ≤ w29.heap.size := hb.size
  have bw29 := bw28.trans (hb.mono bw28.size)
  have rw29_wa := rw28_wa.below hb
  have rw29_g := rw28_g.below hb
  have rw29_wb := hwb.below hb
  clear hb bw28 rw28_wa rw28_g hwb
  go_wp2_with fail
  refine (KH.out _ _ _ _ rw29_g).mono ?_
  rintro e w30 ⟨rfl, hb⟩
  have zw30 : w29.heap.size ≤ w30.heap.size := hb.size
  have bw30 := bw29.trans (hb.mono bw29.size)
  have rw30_wa := rw29_wa.below hb
  have rw30_g := rw29_g.below hb
  have rw30_wb := rw29_wb.below hb
  clear hb bw29 rw29_wa rw29_g rw29_wb
  go_wp2_with fail
  go_ret
  exact ⟨rfl, bw30⟩

set_option maxRecDepth 100000 in
theorem law : LawWalk Try.prog 3 Try.f3 := by
  intro H enc W base args ds ps hval hA
  rw [Try.params3] at hA hval
  obtain ⟨v0, vs0, d0, es0, p0, q0, hargs, rfl, rfl, h0, r0⟩ := trodAll_cons hA
  obtain ⟨v1, vs1, d1, es1, p1, q1, rfl, rfl, rfl, h1, r1⟩ := trodAll_cons r0
  obtain ⟨v2, vs2, d2, es2, p2, q2, rfl, rfl, rfl, h2, r2⟩ := trodAll_cons r1
  obtain ⟨rfl, rfl, rfl⟩ := trodAll_nil r2
  obtain rfl : args = #[v0, v1, v2] := by cases args; simp_all
  obtain ⟨a0, c0, S, rfl, g0, m0, q0x⟩ := open_rels (hval 0 _ v0 rfl rfl) h0
  obtain ⟨a1, c1, M, rfl, g1, m1, q1x⟩ := open_needs (hval 1 _ v1 rfl rfl) h1
  obtain ⟨a2, c2, D, rfl, g2, m2⟩ := open_picks (hval 2 _ v2 rfl rfl) h2
  by_cases hl : (S.length + rlSz S) + (M.length + ndSz M) + D.length ≤ 1048576
  · exact short _ _ _ S M D W g0 g1 g2 hl
  · exact long _ _ _ S M D W m0 q0x m1 q1x m2 g0 g1 g2 (by omega)
end Lsl

set_option maxRecDepth 100000 in
theorem exactSolve_holds : Rows.FnExactSolveSaid :=
  OpenClaim.holds_of_wide 3 Try.f3 rfl rfl rfl rfl rfl rfl rfl ⟨rfl, rfl, rfl, rfl, rfl⟩ rfl rfl rfl rfl rfl (by kernel_rfl) Try.func3 (by kernel_rfl)
    (of_decide_eq_true (by kernel_rfl)) (by unfold Func.isWrapper; rw [if_neg (by decide +kernel)]; exact ⟨rfl, rfl⟩)
    (fun os started H enc _ => law_lifted (s := Rows.fnExactSolveSpec) (tb := 4) own started laid (by kernel_rfl) Try.func3 rfl (by kernel_rfl) Try.underlying4 (by kernel_rfl)
      (fun ds h => by rw [Try.params3] at h; match ds, h with | [_, _, _], _ => rfl)
      (ChangeSpec.witness6 (enc := enc) (C := Try.checked) false ⟨#[], #[.slice none 0 0, .slice none 0 0, .slice none 0 0], []⟩ 8 (by kernel_rfl) (by kernel_rfl) (by kernel_rfl) (by kernel_rfl))
      Lsl.law)
#print axioms exactSolve_holds
end Go.Proofs.Ytgenjbeamlffmaa
