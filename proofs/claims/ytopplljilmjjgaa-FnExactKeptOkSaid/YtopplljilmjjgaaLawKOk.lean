/- At every argument the law FnExactKeptOk returns true: KeptOk of the program answers as KeptOk of the model, and leaves its argument. No condition. -/
import Derived.Test.YtopplljilmjjgaaEnto
import Derived.Test.YtopplljilmjjgaaKok
import Derived.Deep.RegionHeld3
namespace Go.Proofs.Ytopplljilmjjgaa
open Go.ChangeShapes Go.WideShapes Go.ChangeAt Go.RowKit Go.Joins Go.Sort

namespace Lko
theorem pen_each {S : List Ent} (h : En.enSz S ≤ 1048576) : ∀ q ∈ S, Kf.Pen q := fun q hq => by
  have h1 := En.enSz_mem hq
  unfold En.sz1 at h1
  exact ⟨by omega, by omega, fun p hp => by have := lnSz_mem hp; omega, by omega, fun p hp => by have := Obt.stSz_mem hp; omega⟩
theorem fits_ofE {S : List Ent} (h : ∀ q ∈ S, Kf.Pen q) : ∀ q ∈ S, Enn.Fits q := fun q hq => ⟨(h q hq).2.1, (h q hq).2.2.2.1⟩
theorem mea_ofE {S : List Ent} (h : ∀ q ∈ S, Kf.Pen q) : ∀ q ∈ S, Enn.Mea q := fun q hq => by
  obtain ⟨h1, h2, h3, h4, h5⟩ := h q hq
  unfold Enn.Mea maxLen
  exact ⟨by omega, by omega, fun p hp => by have := h3 p hp; omega, by omega, fun p hp => by have := h5 p hp; omega⟩
set_option maxRecDepth 100000 in
set_option maxHeartbeats 4000000 in
theorem long (v0 : Value) (S : List Ent) (w : World) (hmS : S.length ≤ maxLen) (hqS : ∀ q ∈ S, Enn.Mea q)  (h0 : En.EnAt w w.heap.size v0 S) (hl : 1048576 < (S.length + En.enSz S)) :
    Calls Try.prog 4 #[v0] w fun e w' => e = .returned (.bool true) ∧ Below w.heap.size w w' := by
  obtain ⟨a0, c0, rfl, x0⟩ := id h0
  clear x0
  have H0 := Lib.hid h0
  clear h0
  have K0 : Hid (∀ V, En.EnAt V V.heap.size (.slice a0 S.length c0) S → Calls Try.prog 15 #[.slice a0 S.length c0, .int .i64 1048576] V fun e w' => e = .returned (.int .i64 (-1)) ∧ Below V.heap.size V w') := Lib.hid fun V g => by
    have := Enn.szEntryS_any _ S 1048576 V (by omega) (by omega) hmS hqS g
    rwa [show Obt.oleft 1048576 (S.length + En.enSz S) = -1 by unfold Obt.oleft; rw [if_pos (by omega)]] at this
  clear hl 
  go_enter Try.func4, Try.ntmps4
  go_wp2_with fail
  refine (K0.out _ (H0.out.stepAt (by go_grown))).mono ?_
  rintro e w1 ⟨rfl, hb⟩
  have b1 := hb
  clear hb
  go_wp2_with fail
  go_ret
  exact ⟨rfl, b1⟩

set_option maxRecDepth 100000 in
set_option maxHeartbeats 16000000 in
theorem short (v0 : Value) (S : List Ent) (w : World)  (h0 : En.EnAt w w.heap.size v0 S) (hl : (S.length + En.enSz S) ≤ 1048576) :
    Calls Try.prog 4 #[v0] w fun e w' => e = .returned (.bool true) ∧ Below w.heap.size w w' := by
  have hlS : S.length ≤ 1048576 := by omega
  have hmS : S.length ≤ maxLen := by unfold maxLen; omega
  have hzS : En.enSz S ≤ 1048576 := by omega
  have hrS := pen_each (S := S) hzS
  have hfS := fits_ofE hrS
  have hqS := mea_ofE hrS
  obtain ⟨a0, c0, rfl, x0⟩ := id h0
  clear x0
  have H0 := Lib.hid h0
  clear h0
  obtain ⟨y1, f1, e1, n1⟩ : ∃ y : Int, Obt.oleft 1048576 (S.length + En.enSz S) = y ∧ y = 1048576 - (((S.length + En.enSz S) : Nat) : Int) ∧ ¬ y < 0 := ⟨_, rfl, by unfold Obt.oleft; rw [if_neg (by omega)], by unfold Obt.oleft; rw [if_neg (by omega)]; omega⟩
  have K0 : Hid (∀ V, En.EnAt V V.heap.size (.slice a0 S.length c0) S → Calls Try.prog 15 #[.slice a0 S.length c0, .int .i64 1048576] V fun e w' => e = .returned (.int .i64 y1) ∧ Below V.heap.size V w') := Lib.hid fun V g => by
    have := Enn.szEntryS_any _ S 1048576 V (by omega) (by omega) hmS hqS g
    rwa [f1] at this
  clear f1
  clear e1 hmS hqS
  have KS : Hid (∀ V u0, En.EnAt V V.heap.size u0 S → Calls Try.prog 26 #[u0] V fun e w' => e = .returned (.bool (Kf.koL S)) ∧ Below V.heap.size V w') := Lib.hid fun V u0 g0 => Kf.specKeptOk_any u0 S V hlS hrS g0
  have KI : Hid (∀ V u0, En.EnAt V V.heap.size u0 S → Calls Try.prog 27 #[u0] V fun e w' => e = .returned (.bool (Kf.koL S)) ∧ Below V.heap.size V w') := Lib.hid fun V u0 g0 => Kf.implKeptOk_any u0 S V hlS hrS g0
  generalize Kf.koL S = A at *
  clear hl
  have hAA : (A != A) = false := by simp
  go_enter Try.func4, Try.ntmps4
  go_wp2_with fail
  refine (K0.out _ (H0.out.stepAt (by go_grown))).mono ?_
  rintro e w1 ⟨rfl, hb⟩
  have zw1 : w.heap.size ≤ w1.heap.size := hb.size
  have bw1 := hb
  clear hb
  go_wp2_with fail
  refine (Enn.toEntryS_tb _ S _ (H0.out.stepAt bw1) hlS hfS).mono ?_
  rintro e w2 ⟨gaw2, gcw2, rfl, kzw2, hb⟩
  have zw2 : w1.heap.size ≤ w2.heap.size := hb.size
  have bw2 := bw1.trans (hb.mono bw1.size)
  clear hb bw1
  go_wp2_with fail
  refine (KS.out _ _ kzw2.at).mono ?_
  rintro e w3 ⟨rfl, hb⟩
  have zw3 : w2.heap.size ≤ w3.heap.size := hb.size
  have bw3 := bw2.trans (hb.mono bw2.size)
  have rw3_z0 := kzw2.below hb
  clear hb bw2 kzw2
  clear rw3_z0
  go_wp2_with fail
  refine (Enn.toEntryS_tb _ S _ (H0.out.stepAt bw3) hlS hfS).mono ?_
  rintro e w4 ⟨xa0, xc0, rfl, hx0, hb⟩
  have zw4 : w3.heap.size ≤ w4.heap.size := hb.size
  have bw4 := bw3.trans (hb.mono bw3.size)
  clear hb bw3
  go_wp2_with fail
  refine (KI.out _ _ hx0.at).mono ?_
  rintro e w5 ⟨rfl, hb⟩
  have zw5 : w4.heap.size ≤ w5.heap.size := hb.size
  have bw5 := bw4.trans (hb.mono bw4.size)
  have rw5_x0 := hx0.below hb
  clear hb bw4 hx0
  go_wp2_with fail
  refine (Enn.toEntryS_tb _ S _ (H0.out.stepAt bw5) hlS hfS).mono ?_
  rintro e w6 ⟨gaw6, gcw6, rfl, kzw6, hb⟩
  have zw6 : w5.heap.size ≤ w6.heap.size := hb.size
  have bw6 := bw5.trans (hb.mono bw5.size)
  have rw6_x0 := rw5_x0.below hb
  clear hb bw5 rw5_x0
  go_wp2_with fail
  refine (Enn.eqEntryS_same hlS hfS rw6_x0.at kzw6.at).mono ?_
  rintro e w7 ⟨rfl, hb⟩
  have zw7 : w6.heap.size ≤ w7.heap.size := hb.size
  have bw7 := bw6.trans (hb.mono bw6.size)
  have rw7_x0 := rw6_x0.below hb
  have rw7_z0 := kzw6.below hb
  clear hb bw6 rw6_x0 kzw6
  clear rw7_z0
  go_wp2_with fail
  go_ret
  exact ⟨rfl, bw7⟩

set_option maxRecDepth 100000 in
theorem law : LawWalk Try.prog 4 Try.f4 := by
  intro H enc W base args ds ps hval hA
  rw [Try.params4] at hA hval
  obtain ⟨v0, vs0, d0, es0, p0, q0, hargs, rfl, rfl, h0, r0⟩ := trodAll_cons hA
  obtain ⟨rfl, rfl, rfl⟩ := trodAll_nil r0
  obtain rfl : args = #[v0] := by cases args; simp_all
  obtain ⟨a0, c0, S, rfl, g0, m0, q0x⟩ := Enn.open_entries (hval 0 _ v0 rfl rfl) h0
  by_cases hl : (S.length + En.enSz S) ≤ 1048576
  · exact short _ S W  g0 hl
  · exact long _ S W m0 q0x  g0 (by omega)
end Lko

set_option maxRecDepth 100000 in
theorem exactKeptOk_holds : Rows.FnExactKeptOkSaid :=
  OpenClaim.holds_of_wide 4 Try.f4 rfl rfl rfl rfl rfl rfl rfl ⟨rfl, rfl, rfl, rfl, rfl⟩ rfl rfl rfl rfl rfl (by kernel_rfl) Try.func4 (by kernel_rfl)
    (of_decide_eq_true (by kernel_rfl)) (by unfold Func.isWrapper; rw [if_neg (by decide +kernel)]; exact ⟨rfl, rfl⟩)
    (fun os started H enc _ => law_lifted (s := Rows.fnExactKeptOkSpec) (tb := 4) own started laid (by kernel_rfl) Try.func4 rfl (by kernel_rfl) Try.underlying4 (by kernel_rfl)
      (fun ds h => by rw [Try.params4] at h; match ds, h with | [_], _ => rfl)
      (ChangeSpec.witness6 (enc := enc) (C := Try.checked) false ⟨#[], #[.slice none 0 0], []⟩ 8 (by kernel_rfl) (by kernel_rfl) (by kernel_rfl) (by kernel_rfl))
      Lko.law)
#print axioms exactKeptOk_holds
end Go.Proofs.Ytopplljilmjjgaa
