/- At every argument the law FnExactClashHits returns true: ClashHits of the program answers as ClashHits of the model, and leaves its arguments. No condition. -/
import Derived.Test.YtgenjbeamlffmaaTmopen
import Derived.Test.YtgenjbeamlffmaaGg
import Derived.Test.YtgenjbeamlffmaaTmto
import Derived.Test.YtgenjbeamlffmaaTmsz
import Derived.Test.YtgenjbeamlffmaaTmeq
import Derived.Test.YtgenjbeamlffmaaPkmk
import Derived.Test.YtgenjbeamlffmaaTmhit
import Derived.Deep.RegionHeld3
namespace Go.Proofs.Ytgenjbeamlffmaa
open Go.ChangeShapes Go.WideShapes Go.ChangeAt Go.RowKit Go.Joins Go.Sort

namespace Lth
open Foot Copy Cpu
theorem tm_small {M : List Tm} (h : tmSz M ≤ 1048576) : ∀ q ∈ M, q.2.1.length ≤ 1048576 := fun q hq => by
  obtain ⟨i, hi, rfl⟩ := List.getElem_of_mem hq
  have := tmSz_mem M i _ (List.getElem?_eq_getElem hi)
  omega
theorem eqTermS_same {v v' : Value} {M : List Tm} {w : World} (hl : M.length ≤ 1048576) (hq : ∀ q ∈ M, q.2.1.length ≤ 1048576) (h : TmAt w w.heap.size v M) (h' : TmAt w w.heap.size v' M) :
    Calls Try.prog 37 #[v, v'] w fun e w' => e = .returned (.bool true) ∧ Below w.heap.size w w' := by
  have := eqTermS_any v v' M M w hl hl hq hq h h'
  rwa [decide_eq_true rfl] at this
set_option maxRecDepth 100000 in
set_option maxHeartbeats 4000000 in
theorem long (v0 v1 : Value) (X : List Tm) (C : List Pk) (w : World) (hmX : X.length ≤ maxLen) (hqX : ∀ q ∈ X, q.2.1.length ≤ maxLen) (hmC : C.length ≤ maxLen) (h0 : TmAt w w.heap.size v0 X) (h1 : PkAt w w.heap.size v1 C) (hl : 1048576 < (X.length + tmSz X) + C.length) :
    Calls Try.prog 6 #[v0, v1] w fun e w' => e = .returned (.bool true) ∧ Below w.heap.size w w' := by
  obtain ⟨a0, c0, rfl, x0⟩ := id h0
  obtain ⟨a1, c1, rfl, x1⟩ := id h1
  clear x0 x1
  have H0 := Lib.hid h0
  have H1 := Lib.hid h1
  clear h0 h1
  by_cases g0 : 1048576 < (((X.length + tmSz X) : Nat) : Int)
  · have K0 : Hid (∀ V, TmAt V V.heap.size (.slice a0 X.length c0) X → Calls Try.prog 33 #[.slice a0 X.length c0, .int .i64 1048576] V fun e w' => e = .returned (.int .i64 (-1)) ∧ Below V.heap.size V w') := Lib.hid fun V g => by
      have := szTermS_any _ X 1048576 V (by omega) (by omega) hmX hqX g
      rwa [show leftOf 1048576 (X.length + tmSz X) = -1 by unfold leftOf; rw [if_pos (by omega)]] at this
    clear hl 
    go_enter Try.func6, Try.ntmps6
    go_wp2_with fail
    refine (K0.out _ (H0.out.stepAt (by go_grown))).mono ?_
    rintro e w1 ⟨rfl, hb⟩
    have b1 := hb
    clear hb
    go_wp2_with fail
    go_ret
    exact ⟨rfl, b1⟩
  obtain ⟨y1, f1, e1, n1⟩ : ∃ y : Int, leftOf 1048576 (X.length + tmSz X) = y ∧ y = 1048576 - (((X.length + tmSz X) : Nat) : Int) ∧ ¬ y < 0 := ⟨_, rfl, by unfold leftOf; rw [if_neg (by omega)], by unfold leftOf; rw [if_neg (by omega)]; omega⟩
  have K0 : Hid (∀ V, TmAt V V.heap.size (.slice a0 X.length c0) X → Calls Try.prog 33 #[.slice a0 X.length c0, .int .i64 1048576] V fun e w' => e = .returned (.int .i64 y1) ∧ Below V.heap.size V w') := Lib.hid fun V g => by
    have := szTermS_any _ X 1048576 V (by omega) (by omega) hmX hqX g
    rwa [f1] at this
  clear f1
  have K1 : Hid (∀ V, PkAt V V.heap.size (.slice a1 C.length c1) C → Calls Try.prog 15 #[.slice a1 C.length c1, .int .i64 y1] V fun e w' => e = .returned (.int .i64 (-1)) ∧ Below V.heap.size V w') := Lib.hid fun V g => by
    have := szPickS_any _ C y1 V (by omega) (by omega) hmC g
    rwa [show pleft y1 C.length = -1 by unfold pleft; rw [if_pos (by omega)]] at this
  clear hl e1
  go_enter Try.func6, Try.ntmps6
  go_wp2_with fail
  refine (K0.out _ (H0.out.stepAt (by go_grown))).mono ?_
  rintro e w1 ⟨rfl, hb⟩
  have b1 := hb
  clear hb
  go_wp2_with fail
  refine (K1.out _ (H1.out.stepAt b1)).mono ?_
  rintro e w2 ⟨rfl, hb⟩
  have b2 := b1.trans (hb.mono b1.size)
  clear hb
  go_wp2_with fail
  go_ret
  exact ⟨rfl, b2⟩

set_option maxRecDepth 100000 in
set_option maxHeartbeats 16000000 in
theorem short (v0 v1 : Value) (X : List Tm) (C : List Pk) (w : World) (h0 : TmAt w w.heap.size v0 X) (h1 : PkAt w w.heap.size v1 C) (hl : (X.length + tmSz X) + C.length ≤ 1048576) :
    Calls Try.prog 6 #[v0, v1] w fun e w' => e = .returned (.bool true) ∧ Below w.heap.size w w' := by
  have hlX : X.length ≤ 1048576 := by omega
  have hmX : X.length ≤ maxLen := by unfold maxLen; omega
  have hzX : tmSz X ≤ 1048576 := by omega
  have hrX := tm_small (M := X) hzX
  have hqX : ∀ q ∈ X, q.2.1.length ≤ maxLen := fun q h => by have := hrX q h; unfold maxLen; omega
  have hlC : C.length ≤ 1048576 := by omega
  have hmC : C.length ≤ maxLen := by unfold maxLen; omega
  obtain ⟨a0, c0, rfl, x0⟩ := id h0
  obtain ⟨a1, c1, rfl, x1⟩ := id h1
  clear x0 x1
  have H0 := Lib.hid h0
  have H1 := Lib.hid h1
  clear h0 h1
  obtain ⟨y1, f1, e1, n1⟩ : ∃ y : Int, leftOf 1048576 (X.length + tmSz X) = y ∧ y = 1048576 - (((X.length + tmSz X) : Nat) : Int) ∧ ¬ y < 0 := ⟨_, rfl, by unfold leftOf; rw [if_neg (by omega)], by unfold leftOf; rw [if_neg (by omega)]; omega⟩
  have K0 : Hid (∀ V, TmAt V V.heap.size (.slice a0 X.length c0) X → Calls Try.prog 33 #[.slice a0 X.length c0, .int .i64 1048576] V fun e w' => e = .returned (.int .i64 y1) ∧ Below V.heap.size V w') := Lib.hid fun V g => by
    have := szTermS_any _ X 1048576 V (by omega) (by omega) hmX hqX g
    rwa [f1] at this
  clear f1
  obtain ⟨y2, f2, e2, n2⟩ : ∃ y : Int, pleft y1 C.length = y ∧ y = y1 - ((C.length : Nat) : Int) ∧ ¬ y < 0 := ⟨_, rfl, by unfold pleft; rw [if_neg (by omega)], by unfold pleft; rw [if_neg (by omega)]; omega⟩
  have K1 : Hid (∀ V, PkAt V V.heap.size (.slice a1 C.length c1) C → Calls Try.prog 15 #[.slice a1 C.length c1, .int .i64 y1] V fun e w' => e = .returned (.int .i64 y2) ∧ Below V.heap.size V w') := Lib.hid fun V g => by
    have := szPickS_any _ C y1 V (by omega) (by omega) hmC g
    rwa [f2] at this
  clear f2
  clear e1 e2 hmX hqX hmC
  have KS : Hid (∀ V u0 u1, TmAt V V.heap.size u0 X → PkAt V V.heap.size u1 C → Calls Try.prog 38 #[u0, u1] V fun e w' => e = .returned (.bool (Tmh.hitsP X C)) ∧ Below V.heap.size V w') := Lib.hid fun V u0 u1 g0 g1 => Tmh.specHits_any u0 u1 X C V hlX hrX hlC g0 g1
  have KI : Hid (∀ V u0 u1, TmAt V V.heap.size u0 X → PkAt V V.heap.size u1 C → Calls Try.prog 39 #[u0, u1] V fun e w' => e = .returned (.bool (Tmh.hitsP X C)) ∧ Below V.heap.size V w') := Lib.hid fun V u0 u1 g0 g1 => Tmh.implHits_any u0 u1 X C V hlX hrX hlC g0 g1
  generalize Tmh.hitsP X C = A at *
  clear hl
  have hAA : (A != A) = false := by simp
  go_enter Try.func6, Try.ntmps6
  go_wp2_with fail
  refine (K0.out _ (H0.out.stepAt (by go_grown))).mono ?_
  rintro e w1 ⟨rfl, hb⟩
  have zw1 : w.heap.size ≤ w1.heap.size := hb.size
  have bw1 := hb
  clear hb
  go_wp2_with fail
  refine (K1.out _ (H1.out.stepAt bw1)).mono ?_
  rintro e w2 ⟨rfl, hb⟩
  have zw2 : w1.heap.size ≤ w2.heap.size := hb.size
  have bw2 := bw1.trans (hb.mono bw1.size)
  clear hb bw1
  go_wp2_with fail
  refine (toTermS_any _ X _ (H0.out.stepAt bw2) hlX hrX).mono ?_
  rintro e w3 ⟨gzw3, rfl, kzw3, hgz, hb⟩
  clear hgz
  have zw3 : w2.heap.size ≤ w3.heap.size := hb.size
  have bw3 := bw2.trans (hb.mono bw2.size)
  clear hb bw2
  go_wp2_with fail
  refine (toPickS_any _ C _ (H1.out.stepAt bw3) hlC).mono ?_
  rintro e w4 ⟨gzw4, rfl, kzw4, hgz, hb⟩
  clear hgz
  have zw4 : w3.heap.size ≤ w4.heap.size := hb.size
  have bw4 := bw3.trans (hb.mono bw3.size)
  have rw4_z0 := kzw3.below hb
  clear hb bw3 kzw3
  go_wp2_with fail
  refine (KS.out _ _ _ rw4_z0.at kzw4.at).mono ?_
  rintro e w5 ⟨rfl, hb⟩
  have zw5 : w4.heap.size ≤ w5.heap.size := hb.size
  have bw5 := bw4.trans (hb.mono bw4.size)
  have rw5_z0 := rw4_z0.below hb
  have rw5_z1 := kzw4.below hb
  clear hb bw4 rw4_z0 kzw4
  clear rw5_z0
  clear rw5_z1
  go_wp2_with fail
  refine (toTermS_any _ X _ (H0.out.stepAt bw5) hlX hrX).mono ?_
  rintro e w6 ⟨xg0, rfl, hx0, hgx0, hb⟩
  clear hgx0
  have zw6 : w5.heap.size ≤ w6.heap.size := hb.size
  have bw6 := bw5.trans (hb.mono bw5.size)
  clear hb bw5
  go_wp2_with fail
  refine (toPickS_pb _ C _ (H1.out.stepAt bw6) hlC).mono ?_
  rintro e w7 ⟨xa1, xc1, rfl, hx1, hb⟩
  have zw7 : w6.heap.size ≤ w7.heap.size := hb.size
  have bw7 := bw6.trans (hb.mono bw6.size)
  have rw7_x0 := hx0.below hb
  clear hb bw6 hx0
  go_wp2_with fail
  refine (KI.out _ _ _ rw7_x0.at hx1.at).mono ?_
  rintro e w8 ⟨rfl, hb⟩
  have zw8 : w7.heap.size ≤ w8.heap.size := hb.size
  have bw8 := bw7.trans (hb.mono bw7.size)
  have rw8_x0 := rw7_x0.below hb
  have rw8_x1 := hx1.below hb
  clear hb bw7 rw7_x0 hx1
  go_wp2_with fail
  refine (toTermS_any _ X _ (H0.out.stepAt bw8) hlX hrX).mono ?_
  rintro e w9 ⟨gzw9, rfl, kzw9, hgz, hb⟩
  clear hgz
  have zw9 : w8.heap.size ≤ w9.heap.size := hb.size
  have bw9 := bw8.trans (hb.mono bw8.size)
  have rw9_x0 := rw8_x0.below hb
  have rw9_x1 := rw8_x1.below hb
  clear hb bw8 rw8_x0 rw8_x1
  go_wp2_with fail
  refine (eqTermS_same hlX hrX rw9_x0.at kzw9.at).mono ?_
  rintro e w10 ⟨rfl, hb⟩
  have zw10 : w9.heap.size ≤ w10.heap.size := hb.size
  have bw10 := bw9.trans (hb.mono bw9.size)
  have rw10_x0 := rw9_x0.below hb
  have rw10_x1 := rw9_x1.below hb
  have rw10_z0 := kzw9.below hb
  clear hb bw9 rw9_x0 rw9_x1 kzw9
  clear rw10_z0
  go_wp2_with fail
  refine (toPickS_any _ C _ (H1.out.stepAt bw10) hlC).mono ?_
  rintro e w11 ⟨gzw11, rfl, kzw11, hgz, hb⟩
  clear hgz
  have zw11 : w10.heap.size ≤ w11.heap.size := hb.size
  have bw11 := bw10.trans (hb.mono bw10.size)
  have rw11_x0 := rw10_x0.below hb
  have rw11_x1 := rw10_x1.below hb
  clear hb bw10 rw10_x0 rw10_x1
  go_wp2_with fail
  refine (eqPickS_same hlC rw11_x1.at kzw11.at).mono ?_
  rintro e w12 ⟨rfl, hb⟩
  have zw12 : w11.heap.size ≤ w12.heap.size := hb.size
  have bw12 := bw11.trans (hb.mono bw11.size)
  have rw12_x0 := rw11_x0.below hb
  have rw12_x1 := rw11_x1.below hb
  have rw12_z1 := kzw11.below hb
  clear hb bw11 rw11_x0 rw11_x1 kzw11
  clear rw12_z1
  go_wp2_with fail
  go_ret
  exact ⟨rfl, bw12⟩

set_option maxRecDepth 100000 in
theorem law : LawWalk Try.prog 6 Try.f6 := by
  intro H enc W base args ds ps hval hA
  rw [Try.params6] at hA hval
  obtain ⟨v0, vs0, d0, es0, p0, q0, hargs, rfl, rfl, h0, r0⟩ := trodAll_cons hA
  obtain ⟨v1, vs1, d1, es1, p1, q1, rfl, rfl, rfl, h1, r1⟩ := trodAll_cons r0
  obtain ⟨rfl, rfl, rfl⟩ := trodAll_nil r1
  obtain rfl : args = #[v0, v1] := by cases args; simp_all
  obtain ⟨a0, c0, X, rfl, g0, m0, q0x⟩ := open_terms (hval 0 _ v0 rfl rfl) h0
  obtain ⟨a1, c1, C, rfl, g1, m1⟩ := open_picks (hval 1 _ v1 rfl rfl) h1
  by_cases hl : (X.length + tmSz X) + C.length ≤ 1048576
  · exact short _ _ X C W g0 g1 hl
  · exact long _ _ X C W m0 q0x m1 g0 g1 (by omega)
end Lth

set_option maxRecDepth 100000 in
theorem exactClashHits_holds : Rows.FnExactClashHitsSaid :=
  OpenClaim.holds_of_wide 6 Try.f6 rfl rfl rfl rfl rfl rfl rfl ⟨rfl, rfl, rfl, rfl, rfl⟩ rfl rfl rfl rfl rfl (by kernel_rfl) Try.func6 (by kernel_rfl)
    (of_decide_eq_true (by kernel_rfl)) (by unfold Func.isWrapper; rw [if_neg (by decide +kernel)]; exact ⟨rfl, rfl⟩)
    (fun os started H enc _ => law_lifted (s := Rows.fnExactClashHitsSpec) (tb := 4) own started laid (by kernel_rfl) Try.func6 rfl (by kernel_rfl) Try.underlying4 (by kernel_rfl)
      (fun ds h => by rw [Try.params6] at h; match ds, h with | [_, _], _ => rfl)
      (ChangeSpec.witness6 (enc := enc) (C := Try.checked) false ⟨#[], #[.slice none 0 0, .slice none 0 0], []⟩ 8 (by kernel_rfl) (by kernel_rfl) (by kernel_rfl) (by kernel_rfl))
      Lth.law)
#print axioms exactClashHits_holds
end Go.Proofs.Ytgenjbeamlffmaa
