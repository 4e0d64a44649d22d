/- At every argument the law FnExactScriptOk returns true: ScriptOk of the program answers as ScriptOk of the model, and leaves its argument. No condition. -/
import Derived.Test.YtfmidekffcjbgaaGa
import Derived.Test.YtfmidekffcjbgaaLnto
import Derived.Test.YtfmidekffcjbgaaRxt
import Derived.Deep.RegionHeld3
namespace Go.Proofs.Ytfmidekffcjbgaa
open Go.ChangeShapes Go.WideShapes Go.ChangeAt Go.RowKit Go.Joins Go.Sort

namespace Lxs
set_option maxRecDepth 100000 in
set_option maxHeartbeats 4000000 in
theorem long (v0 : Value) (S : List Ln) (ins : Int) (w : World) (hmS : S.length ≤ maxLen) (hqS : ∀ q ∈ S, q.2.2.2.size ≤ maxLen)  (h0 : LnAt w w.heap.size v0 S) (hl : 1048576 < (S.length + lnSz S)) :
    Calls Try.prog 7 #[v0, .int .i64 ins] w fun e w' => e = .returned (.bool true) ∧ Below w.heap.size w w' := by
  obtain ⟨a0, c0, rfl, x0⟩ := id h0
  clear x0
  have H0 := Lib.hid h0
  clear h0
  have K0 : Hid (∀ V, LnAt V V.heap.size (.slice a0 S.length c0) S → Calls Try.prog 24 #[.slice a0 S.length c0, .int .i64 1048576] V fun e w' => e = .returned (.int .i64 (-1)) ∧ Below V.heap.size V w') := Lib.hid fun V g => by
    have := Lnt.szLineS_any _ S 1048576 V (by omega) (by omega) hmS hqS g
    rwa [show Obt.oleft 1048576 (S.length + lnSz S) = -1 by unfold Obt.oleft; rw [if_pos (by omega)]] at this
  clear hl 
  go_enter Try.func7, Try.ntmps7
  go_wp2_with fail
  refine (K0.out _ (H0.out.stepAt (by go_grown))).mono ?_
  rintro e w1 ⟨rfl, hb⟩
  have b1 := hb
  clear hb
  go_wp2_with fail
  go_ret
  exact ⟨rfl, b1⟩

set_option maxRecDepth 100000 in
set_option maxHeartbeats 16000000 in
theorem short (v0 : Value) (S : List Ln) (ins : Int) (w : World)  (h0 : LnAt w w.heap.size v0 S) (hl : (S.length + lnSz S) ≤ 1048576) :
    Calls Try.prog 7 #[v0, .int .i64 ins] w fun e w' => e = .returned (.bool true) ∧ Below w.heap.size w w' := by
  have hlS : S.length ≤ 1048576 := by omega
  have hmS : S.length ≤ maxLen := by unfold maxLen; omega
  have hzS : lnSz S ≤ 1048576 := by omega
  have hrS : ∀ q ∈ S, q.2.2.2.size ≤ 1048576 := fun q h => Nat.le_trans (lnSz_mem h) hzS
  have hqS : ∀ q ∈ S, q.2.2.2.size ≤ maxLen := fun q h => by have := hrS q h; unfold maxLen; omega
  obtain ⟨a0, c0, rfl, x0⟩ := id h0
  clear x0
  have H0 := Lib.hid h0
  clear h0
  obtain ⟨y1, f1, e1, n1⟩ : ∃ y : Int, Obt.oleft 1048576 (S.length + lnSz S) = y ∧ y = 1048576 - (((S.length + lnSz S) : Nat) : Int) ∧ ¬ y < 0 := ⟨_, rfl, by unfold Obt.oleft; rw [if_neg (by omega)], by unfold Obt.oleft; rw [if_neg (by omega)]; omega⟩
  have K0 : Hid (∀ V, LnAt V V.heap.size (.slice a0 S.length c0) S → Calls Try.prog 24 #[.slice a0 S.length c0, .int .i64 1048576] V fun e w' => e = .returned (.int .i64 y1) ∧ Below V.heap.size V w') := Lib.hid fun V g => by
    have := Lnt.szLineS_any _ S 1048576 V (by omega) (by omega) hmS hqS g
    rwa [f1] at this
  clear f1
  clear e1 hmS hqS
  have KS : Hid (∀ V u0, LnAt V V.heap.size u0 S → Calls Try.prog 12 #[u0, .int .i64 ins] V fun e w' => e = .returned (.bool (Rx.scOk S ins)) ∧ Below V.heap.size V w') := Lib.hid fun V u0 g0 => Rx.specScriptOk_any u0 S ins V hlS hrS g0
  have KI : Hid (∀ V u0, LnAt V V.heap.size u0 S → Calls Try.prog 11 #[u0, .int .i64 ins] V fun e w' => e = .returned (.bool (Rx.scOk S ins)) ∧ Below V.heap.size V w') := Lib.hid fun V u0 g0 => Rx.implScriptOk_any u0 S ins V hlS hrS g0
  generalize Rx.scOk S ins = A at *
  clear hl
  have hAA : (A != A) = false := by simp
  go_enter Try.func7, Try.ntmps7
  go_wp2_with fail
  refine (K0.out _ (H0.out.stepAt (by go_grown))).mono ?_
  rintro e w1 ⟨rfl, hb⟩
  have zw1 : w.heap.size ≤ w1.heap.size := hb.size
  have bw1 := hb
  clear hb
  go_wp2_with fail
  refine (Lnt.toLineS_lb _ S _ (H0.out.stepAt bw1) hlS).mono ?_
  rintro e w2 ⟨gaw2, gcw2, rfl, kzw2, hb⟩
  have zw2 : w1.heap.size ≤ w2.heap.size := hb.size
  have bw2 := bw1.trans (hb.mono bw1.size)
  clear hb bw1
  go_wp2_with fail
  refine (KS.out _ _ kzw2.at).mono ?_
  rintro e w3 ⟨rfl, hb⟩
  have zw3 : w2.heap.size ≤ w3.heap.size := hb.size
  have bw3 := bw2.trans (hb.mono bw2.size)
  have rw3_z0 := kzw2.below hb
  clear hb bw2 kzw2
  clear rw3_z0
  go_wp2_with fail
  refine (Lnt.toLineS_lb _ S _ (H0.out.stepAt bw3) hlS).mono ?_
  rintro e w4 ⟨xa0, xc0, rfl, hx0, hb⟩
  have zw4 : w3.heap.size ≤ w4.heap.size := hb.size
  have bw4 := bw3.trans (hb.mono bw3.size)
  clear hb bw3
  go_wp2_with fail
  refine (KI.out _ _ hx0.at).mono ?_
  rintro e w5 ⟨rfl, hb⟩
  have zw5 : w4.heap.size ≤ w5.heap.size := hb.size
  have bw5 := bw4.trans (hb.mono bw4.size)
  have rw5_x0 := hx0.below hb
  clear hb bw4 hx0
  go_wp2_with fail
  refine (Lnt.toLineS_lb _ S _ (H0.out.stepAt bw5) hlS).mono ?_
  rintro e w6 ⟨gaw6, gcw6, rfl, kzw6, hb⟩
  have zw6 : w5.heap.size ≤ w6.heap.size := hb.size
  have bw6 := bw5.trans (hb.mono bw5.size)
  have rw6_x0 := rw5_x0.below hb
  clear hb bw5 rw5_x0
  go_wp2_with fail
  refine (Lnt.eqLineS_same hlS rw6_x0.at kzw6.at).mono ?_
  rintro e w7 ⟨rfl, hb⟩
  have zw7 : w6.heap.size ≤ w7.heap.size := hb.size
  have bw7 := bw6.trans (hb.mono bw6.size)
  have rw7_x0 := rw6_x0.below hb
  have rw7_z0 := kzw6.below hb
  clear hb bw6 rw6_x0 kzw6
  clear rw7_z0
  go_wp2_with fail
  go_ret
  exact ⟨rfl, bw7⟩

set_option maxRecDepth 100000 in
theorem law : LawWalk Try.prog 7 Try.f7 := by
  intro H enc W base args ds ps hval hA
  rw [Try.params7] at hA hval
  obtain ⟨v0, vs0, d0, es0, p0, q0, hargs, rfl, rfl, h0, r0⟩ := trodAll_cons hA
  obtain ⟨v1, vs1, d1, es1, p1, q1, rfl, rfl, rfl, h1, r1⟩ := trodAll_cons r0
  obtain ⟨rfl, rfl, rfl⟩ := trodAll_nil r1
  obtain rfl : args = #[v0, v1] := by cases args; simp_all
  obtain ⟨a0, c0, S, rfl, g0, m0, q0x⟩ := Lnt.open_lines (hval 0 _ v0 rfl rfl) h0
  obtain ⟨ins, rfl⟩ := okWide_int Try.underlying3 (hval 1 _ v1 rfl rfl)
  by_cases hl : (S.length + lnSz S) ≤ 1048576
  · exact short _ S ins W  g0 hl
  · exact long _ S ins W m0 q0x  g0 (by omega)
end Lxs

set_option maxRecDepth 100000 in
theorem exactScriptOk_holds : Rows.FnExactScriptOkSaid :=
  OpenClaim.holds_of_wide 7 Try.f7 rfl rfl rfl rfl rfl rfl rfl ⟨rfl, rfl, rfl, rfl, rfl⟩ rfl rfl rfl rfl rfl (by kernel_rfl) Try.func7 (by kernel_rfl)
    (of_decide_eq_true (by kernel_rfl)) (by unfold Func.isWrapper; rw [if_neg (by decide +kernel)]; exact ⟨rfl, rfl⟩)
    (fun os started H enc _ => law_lifted (s := Rows.fnExactScriptOkSpec) (tb := 4) own started laid (by kernel_rfl) Try.func7 rfl (by kernel_rfl) Try.underlying4 (by kernel_rfl)
      (fun ds h => by rw [Try.params7] at h; match ds, h with | [_, _], _ => rfl)
      (ChangeSpec.witness6 (enc := enc) (C := Try.checked) false ⟨#[], #[.slice none 0 0, .int .i64 0], []⟩ 8 (by kernel_rfl) (by kernel_rfl) (by kernel_rfl) (by kernel_rfl))
      Lxs.law)
#print axioms exactScriptOk_holds
end Go.Proofs.Ytfmidekffcjbgaa
