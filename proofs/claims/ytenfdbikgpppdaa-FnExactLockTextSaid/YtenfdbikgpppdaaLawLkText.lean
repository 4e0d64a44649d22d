/- At every argument the law FnExactLockText returns true: LockText of the program answers as LockText of the model, and leaves its argument. No condition. -/
import Derived.Test.YtenfdbikgpppdaaGg
import Derived.Test.YtenfdbikgpppdaaPkmk
import Derived.Test.YtenfdbikgpppdaaLkt
import Derived.Deep.RegionHeld3
namespace Go.Proofs.Ytenfdbikgpppdaa
open Go.ChangeShapes Go.WideShapes Go.ChangeAt Go.RowKit Go.Joins Go.Sort

namespace Llt
open Cpu
set_option maxRecDepth 100000 in
set_option maxHeartbeats 4000000 in
theorem long (v0 : Value) (C : List Pk) (w : World) (hmC : C.length ≤ maxLen) (h0 : PkAt w w.heap.size v0 C) (hl : 1048576 < C.length) :
    Calls Try.prog 4 #[v0] w fun e w' => e = .returned (.bool true) ∧ Below w.heap.size w w' := by
  obtain ⟨a0, c0, rfl, x0⟩ := id h0
  clear x0
  have H0 := Lib.hid h0
  clear h0
  have K0 : Hid (∀ V, PkAt V V.heap.size (.slice a0 C.length c0) C → Calls Try.prog 10 #[.slice a0 C.length c0, .int .i64 1048576] V fun e w' => e = .returned (.int .i64 (-1)) ∧ Below V.heap.size V w') := Lib.hid fun V g => by
    have := szPickS_any _ C 1048576 V (by omega) (by omega) hmC g
    rwa [show pleft 1048576 C.length = -1 by unfold pleft; rw [if_pos (by omega)]] at this
  clear hl 
  go_enter Try.func4, Try.ntmps4
  go_wp2_with fail
  refine (K0.out _ (H0.out.stepAt (by go_grown))).mono ?_
  rintro e w1 ⟨rfl, hb⟩
  have b1 := hb
  clear hb
  go_wp2_with fail
  go_ret
  exact ⟨rfl, b1⟩

set_option maxRecDepth 100000 in
set_option maxHeartbeats 16000000 in
theorem short (v0 : Value) (C : List Pk) (w : World) (h0 : PkAt w w.heap.size v0 C) (hl : C.length ≤ 1048576) :
    Calls Try.prog 4 #[v0] w fun e w' => e = .returned (.bool true) ∧ Below w.heap.size w w' := by
  have hlC : C.length ≤ 1048576 := by omega
  have hmC : C.length ≤ maxLen := by unfold maxLen; omega
  obtain ⟨a0, c0, rfl, x0⟩ := id h0
  clear x0
  have H0 := Lib.hid h0
  clear h0
  obtain ⟨y1, f1, e1, n1⟩ : ∃ y : Int, pleft 1048576 C.length = y ∧ y = 1048576 - ((C.length : Nat) : Int) ∧ ¬ y < 0 := ⟨_, rfl, by unfold pleft; rw [if_neg (by omega)], by unfold pleft; rw [if_neg (by omega)]; omega⟩
  have K0 : Hid (∀ V, PkAt V V.heap.size (.slice a0 C.length c0) C → Calls Try.prog 10 #[.slice a0 C.length c0, .int .i64 1048576] V fun e w' => e = .returned (.int .i64 y1) ∧ Below V.heap.size V w') := Lib.hid fun V g => by
    have := szPickS_any _ C 1048576 V (by omega) (by omega) hmC g
    rwa [f1] at this
  clear f1
  clear e1 hmC
  have KS : Hid (∀ V u0, PkAt V V.heap.size u0 C → Calls Try.prog 17 #[u0] V fun e w' => e = .returned (.string (Lk.lockT C)) ∧ Below V.heap.size V w') := Lib.hid fun V u0 g0 => Lk.specLockText_any u0 C V hlC g0
  have KI : Hid (∀ V u0, PkAt V V.heap.size u0 C → Calls Try.prog 18 #[u0] V fun e w' => e = .returned (.string (Lk.lockT C)) ∧ Below V.heap.size V w') := Lib.hid fun V u0 g0 => Lk.implLockText_any u0 C V hlC g0
  generalize Lk.lockT C = A at *
  clear hl
  have hAA : (A.toList != A.toList) = false := by simp
  go_enter Try.func4, Try.ntmps4
  go_wp2_with fail
  refine (K0.out _ (H0.out.stepAt (by go_grown))).mono ?_
  rintro e w1 ⟨rfl, hb⟩
  have zw1 : w.heap.size ≤ w1.heap.size := hb.size
  have bw1 := hb
  clear hb
  go_wp2_with fail
  refine (toPickS_any _ C _ (H0.out.stepAt bw1) hlC).mono ?_
  rintro e w2 ⟨gzw2, rfl, kzw2, hgz, hb⟩
  clear hgz
  have zw2 : w1.heap.size ≤ w2.heap.size := hb.size
  have bw2 := bw1.trans (hb.mono bw1.size)
  clear hb bw1
  go_wp2_with fail
  refine (KS.out _ _ kzw2.at).mono ?_
  rintro e w3 ⟨rfl, hb⟩
  have zw3 : w2.heap.size ≤ w3.heap.size := hb.size
  have bw3 := bw2.trans (hb.mono bw2.size)
  have rw3_z0 := kzw2.below hb
  clear hb bw2 kzw2
  clear rw3_z0
  go_wp2_with fail
  refine (toPickS_pb _ C _ (H0.out.stepAt bw3) hlC).mono ?_
  rintro e w4 ⟨xa0, xc0, rfl, hx0, hb⟩
  have zw4 : w3.heap.size ≤ w4.heap.size := hb.size
  have bw4 := bw3.trans (hb.mono bw3.size)
  clear hb bw3
  go_wp2_with fail
  refine (KI.out _ _ hx0.at).mono ?_
  rintro e w5 ⟨rfl, hb⟩
  have zw5 : w4.heap.size ≤ w5.heap.size := hb.size
  have bw5 := bw4.trans (hb.mono bw4.size)
  have rw5_x0 := hx0.below hb
  clear hb bw4 hx0
  go_wp2_with fail
  refine (toPickS_any _ C _ (H0.out.stepAt bw5) hlC).mono ?_
  rintro e w6 ⟨gzw6, rfl, kzw6, hgz, hb⟩
  clear hgz
  have zw6 : w5.heap.size ≤ w6.heap.size := hb.size
  have bw6 := bw5.trans (hb.mono bw5.size)
  have rw6_x0 := rw5_x0.below hb
  clear hb bw5 rw5_x0
  go_wp2_with fail
  refine (eqPickS_same hlC rw6_x0.at kzw6.at).mono ?_
  rintro e w7 ⟨rfl, hb⟩
  have zw7 : w6.heap.size ≤ w7.heap.size := hb.size
  have bw7 := bw6.trans (hb.mono bw6.size)
  have rw7_x0 := rw6_x0.below hb
  have rw7_z0 := kzw6.below hb
  clear hb bw6 rw6_x0 kzw6
  clear rw7_z0
  go_wp2_with fail
  go_ret
  exact ⟨rfl, bw7⟩

set_option maxRecDepth 100000 in
theorem law : LawWalk Try.prog 4 Try.f4 := by
  intro H enc W base args ds ps hval hA
  rw [Try.params4] at hA hval
  obtain ⟨v0, vs0, d0, es0, p0, q0, hargs, rfl, rfl, h0, r0⟩ := trodAll_cons hA
  obtain ⟨rfl, rfl, rfl⟩ := trodAll_nil r0
  obtain rfl : args = #[v0] := by cases args; simp_all
  obtain ⟨a0, c0, C, rfl, g0, m0⟩ := open_picks (hval 0 _ v0 rfl rfl) h0
  by_cases hl : C.length ≤ 1048576
  · exact short _ C W g0 hl
  · exact long _ C W m0 g0 (by omega)
end Llt

set_option maxRecDepth 100000 in
theorem exactLockText_holds : Rows.FnExactLockTextSaid :=
  OpenClaim.holds_of_wide 4 Try.f4 rfl rfl rfl rfl rfl rfl rfl ⟨rfl, rfl, rfl, rfl, rfl⟩ rfl rfl rfl rfl rfl (by kernel_rfl) Try.func4 (by kernel_rfl)
    (of_decide_eq_true (by kernel_rfl)) (by unfold Func.isWrapper; rw [if_neg (by decide +kernel)]; exact ⟨rfl, rfl⟩)
    (fun os started H enc _ => law_lifted (s := Rows.fnExactLockTextSpec) (tb := 4) own started laid (by kernel_rfl) Try.func4 rfl (by kernel_rfl) Try.underlying4 (by kernel_rfl)
      (fun ds h => by rw [Try.params4] at h; match ds, h with | [_], _ => rfl)
      (ChangeSpec.witness6 (enc := enc) (C := Try.checked) false ⟨#[], #[.slice none 0 0], []⟩ 8 (by kernel_rfl) (by kernel_rfl) (by kernel_rfl) (by kernel_rfl))
      Llt.law)
#print axioms exactLockText_holds
end Go.Proofs.Ytenfdbikgpppdaa
