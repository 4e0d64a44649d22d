/- At every argument the law FnExactWorldPart returns true: WorldPart of the program answers as WorldPart of the model, leaves its arguments, and its answer owns its memory. No condition. -/
import Derived.Test.YtopplljilmjjgaaTgto
import Derived.Test.YtopplljilmjjgaaTgh
import Derived.Test.YtopplljilmjjgaaWps
import Derived.Test.YtopplljilmjjgaaLpz
import Derived.Deep.RegionHeld3
namespace Go.Proofs.Ytopplljilmjjgaa
open Go.ChangeShapes Go.WideShapes Go.ChangeAt Go.RowKit Go.Joins Go.Sort

namespace Lwp
theorem par_each {S : List Tgt} (h : Tg.tgSz S ≤ 1048576) : ∀ q ∈ S, Wl.Par q := fun q hq => by
  have h1 := Tg.tgSz_mem hq
  unfold Tg.sz1 at h1
  exact ⟨by omega, by omega, fun p hp => by have := lnSz_mem hp; omega, by omega⟩
theorem fits_of {S : List Tgt} (h : ∀ q ∈ S, Wl.Par q) : ∀ q ∈ S, Tgn.Fits q := fun q hq => ⟨(h q hq).2.1, (h q hq).2.2.2⟩
theorem mea_of {S : List Tgt} (h : ∀ q ∈ S, Wl.Par q) : ∀ q ∈ S, Tgn.Mea q := fun q hq => by
  obtain ⟨h1, h2, h3, h4⟩ := h q hq
  unfold Tgn.Mea maxLen
  exact ⟨by omega, by omega, fun p hp => by have := h3 p hp; omega, by omega⟩
set_option maxRecDepth 100000 in
set_option maxHeartbeats 4000000 in
theorem long (v0 : Value) (S : List Tgt) (ak : Int) (w : World) (hmS : S.length ≤ maxLen) (hqS : ∀ q ∈ S, Tgn.Mea q)  (h0 : Tg.TgAt w w.heap.size v0 S) (hl : 1048576 < (S.length + Tg.tgSz S)) :
    Calls Try.prog 7 #[v0, .int .i64 ak] w fun e w' => e = .returned (.bool true) ∧ Below w.heap.size w w' := by
  obtain ⟨a0, c0, rfl, x0⟩ := id h0
  clear x0
  have H0 := Lib.hid h0
  clear h0
  have K0 : Hid (∀ V, Tg.TgAt V V.heap.size (.slice a0 S.length c0) S → Calls Try.prog 28 #[.slice a0 S.length c0, .int .i64 1048576] V fun e w' => e = .returned (.int .i64 (-1)) ∧ Below V.heap.size V w') := Lib.hid fun V g => by
    have := Tgn.szTargetS_any _ S 1048576 V (by omega) (by omega) hmS hqS g
    rwa [show Obt.oleft 1048576 (S.length + Tg.tgSz S) = -1 by unfold Obt.oleft; rw [if_pos (by omega)]] at this
  clear hl 
  go_enter Try.func7, Try.ntmps7
  go_wp2_with fail
  refine (K0.out _ (H0.out.stepAt (by go_grown))).mono ?_
  rintro e w1 ⟨rfl, hb⟩
  have b1 := hb
  clear hb
  go_wp2_with fail
  go_ret
  exact ⟨rfl, b1⟩

set_option maxRecDepth 100000 in
set_option maxHeartbeats 16000000 in
theorem short (v0 : Value) (S : List Tgt) (ak : Int) (w : World)  (h0 : Tg.TgAt w w.heap.size v0 S) (hl : (S.length + Tg.tgSz S) ≤ 1048576) :
    Calls Try.prog 7 #[v0, .int .i64 ak] w fun e w' => e = .returned (.bool true) ∧ Below w.heap.size w w' := by
  have hlS : S.length ≤ 1048576 := by omega
  have hmS : S.length ≤ maxLen := by unfold maxLen; omega
  have hzS : Tg.tgSz S ≤ 1048576 := by omega
  have hrS := par_each (S := S) hzS
  have hfS := fits_of hrS
  have hqS := mea_of hrS
  obtain ⟨a0, c0, rfl, x0⟩ := id h0
  clear x0
  have H0 := Lib.hid h0
  clear h0
  obtain ⟨y1, f1, e1, n1⟩ : ∃ y : Int, Obt.oleft 1048576 (S.length + Tg.tgSz S) = y ∧ y = 1048576 - (((S.length + Tg.tgSz S) : Nat) : Int) ∧ ¬ y < 0 := ⟨_, rfl, by unfold Obt.oleft; rw [if_neg (by omega)], by unfold Obt.oleft; rw [if_neg (by omega)]; omega⟩
  have K0 : Hid (∀ V, Tg.TgAt V V.heap.size (.slice a0 S.length c0) S → Calls Try.prog 28 #[.slice a0 S.length c0, .int .i64 1048576] V fun e w' => e = .returned (.int .i64 y1) ∧ Below V.heap.size V w') := Lib.hid fun V g => by
    have := Tgn.szTargetS_any _ S 1048576 V (by omega) (by omega) hmS hqS g
    rwa [f1] at this
  clear f1
  clear e1 hmS hqS
  have hA : (Wp.partL S ak).length ≤ 1048576 := by rw [Wp.part_len]; exact Nat.le_trans (Wn.needsL_len S ak) hlS
  have hAq : ∀ q ∈ Wp.partL S ak, Tgn.Fits q := Lpz.part_fits hrS
  have hAs : Tg.tgSz (Wp.partL S ak) ≤ 1048576 := Nat.le_trans (Lpz.part_sz S ak) hzS
  have KS : Hid (∀ V u0, Tg.TgAt V V.heap.size u0 S → Calls Try.prog 48 #[u0, .int .i64 ak] V fun e w' => ∃ v, e = .returned v ∧ Tg.TgB (Wp.partL S ak) V.heap.size w'.heap.size v w' ∧ Below V.heap.size V w') := Lib.hid fun V u0 g0 => Wp.specPart_any u0 S ak V hlS hrS g0
  have KI : Hid (∀ V u0, Tg.TgAt V V.heap.size u0 S → Calls Try.prog 49 #[u0, .int .i64 ak] V fun e w' => ∃ v, e = .returned v ∧ Tg.TgB (Wp.partL S ak) V.heap.size w'.heap.size v w' ∧ Below V.heap.size V w') := Lib.hid fun V u0 g0 => Wp.implPart_any u0 S ak V hlS hrS g0
  generalize Wp.partL S ak = A at *
  clear hl
  obtain ⟨mm, hmm, hm0⟩ : ∃ mm : Int, Tgm.tgkE 1 A = mm ∧ ¬ mm < 0 := ⟨_, rfl, by have := Tgm.tgkE_le A 1; omega⟩
  have hm2 : (mm != mm) = false := by simp
  have KM : Hid (∀ V u lo hi, Tg.TgB A lo hi u V → Calls Try.prog 35 #[u, .int .i64 1] V fun e w' => e = .returned (.int .i64 mm) ∧ Tg.TgB (Tgm.tgk 1 A) lo hi u w' ∧ Out lo hi V w') := Lib.hid fun V u lo hi g => by
    have := Tgm.markTgB hA hAs g 1 (by omega) (by omega)
    rwa [hmm] at this
  have KH : Hid (∀ V u lo hi, Tg.TgB (Tgm.tgk 1 A) lo hi u V → Calls Try.prog 50 #[u, .int .i64 1] V fun e w' => e = .returned (.int .i64 mm) ∧ Below V.heap.size V w') := Lib.hid fun V u lo hi g => by
    have := Tgm.heldTgB hA hAs 1 (by omega) (by omega) g
    rwa [hmm] at this
  clear hmm
  go_enter Try.func7, Try.ntmps7
  go_wp2_with fail
  refine (K0.out _ (H0.out.stepAt (by go_grown))).mono ?_
  rintro e w1 ⟨rfl, hb⟩
  have zw1 : w.heap.size ≤ w1.heap.size := hb.size
  have bw1 := hb
  clear hb
  go_wp2_with fail
  refine (Tgn.toTargetS_tb _ S _ (H0.out.stepAt bw1) hlS hfS).mono ?_
  rintro e w2 ⟨gaw2, gcw2, rfl, kzw2, hb⟩
  have zw2 : w1.heap.size ≤ w2.heap.size := hb.size
  have bw2 := bw1.trans (hb.mono bw1.size)
  clear hb bw1
  go_wp2_with fail
  refine (KS.out _ _ kzw2.at).mono ?_
  rintro e w3 ⟨vvwa, rfl, hwa, hb⟩
  have zw3 : w2.heap.size ≤ w3.heap.size := hb.size
  have bw3 := bw2.trans (hb.mono bw2.size)
  have rw3_z0 := kzw2.below hb
  clear hb bw2 kzw2
  obtain ⟨sawa, scwa, rfl, exwa⟩ := id hwa
  clear exwa
  clear rw3_z0
  go_wp2_with fail
  refine (Tgn.toTargetS_tb _ S _ (H0.out.stepAt bw3) hlS hfS).mono ?_
  rintro e w4 ⟨xa0, xc0, rfl, hx0, hb⟩
  have zw4 : w3.heap.size ≤ w4.heap.size := hb.size
  have bw4 := bw3.trans (hb.mono bw3.size)
  have rw4_wa := hwa.below hb
  clear hb bw3 hwa
  go_wp2_with fail
  refine (KI.out _ _ hx0.at).mono ?_
  rintro e w5 ⟨vvg, rfl, hg, hb⟩
  have zw5 : w4.heap.size ≤ w5.heap.size := hb.size
  have bw5 := bw4.trans (hb.mono bw4.size)
  have rw5_wa := rw4_wa.below hb
  have rw5_x0 := hx0.below hb
  clear hb bw4 rw4_wa hx0
  obtain ⟨sag, scg, rfl, exg⟩ := id hg
  clear exg
  go_wp2_with fail
  refine (Tgn.eqTargetS_same hA hAq hg.at rw5_wa.at).mono ?_
  rintro e w6 ⟨rfl, hb⟩
  have zw6 : w5.heap.size ≤ w6.heap.size := hb.size
  have bw6 := bw5.trans (hb.mono bw5.size)
  have rw6_wa := rw5_wa.below hb
  have rw6_x0 := rw5_x0.below hb
  have rw6_g := hg.below hb
  clear hb bw5 rw5_wa rw5_x0 hg
  go_wp2_with fail
  refine (Tgn.toTargetS_tb _ S _ (H0.out.stepAt bw6) hlS hfS).mono ?_
  rintro e w7 ⟨gaw7, gcw7, rfl, kzw7, hb⟩
  have zw7 : w6.heap.size ≤ w7.heap.size := hb.size
  have bw7 := bw6.trans (hb.mono bw6.size)
  have rw7_wa := rw6_wa.below hb
  have rw7_x0 := rw6_x0.below hb
  have rw7_g := rw6_g.below hb
  clear hb bw6 rw6_wa rw6_x0 rw6_g
  go_wp2_with fail
  refine (Tgn.eqTargetS_same hlS hfS rw7_x0.at kzw7.at).mono ?_
  rintro e w8 ⟨rfl, hb⟩
  have zw8 : w7.heap.size ≤ w8.heap.size := hb.size
  have bw8 := bw7.trans (hb.mono bw7.size)
  have rw8_wa := rw7_wa.below hb
  have rw8_x0 := rw7_x0.below hb
  have rw8_g := rw7_g.below hb
  have rw8_z0 := kzw7.below hb
  clear hb bw7 rw7_wa rw7_x0 rw7_g kzw7
  clear rw8_z0
  go_wp2_with fail
  refine (Tgm.markTargetS_out hlS hzS rw8_x0 1 (by omega) (by omega)).mono ?_
  rintro e w9 ⟨⟨k0, rfl, kl0, ku0⟩, hpx, ho⟩
  clear hpx
  clear rw8_x0
  have zw9 : w8.heap.size ≤ w9.heap.size := ho.size
  have bw9 := ho.below bw8 (by omega) (by omega)
  have rw9_wa := rw8_wa.out ho (by omega)
  have rw9_g := rw8_g.out ho (by omega)
  clear ho bw8 rw8_wa rw8_g
  have hk2 : ¬ (k0 < 0) := by omega
  go_wp2_with fail
  refine (Tgn.eqTargetS_same hA hAq rw9_g.at rw9_wa.at).mono ?_
  rintro e w10 ⟨rfl, hb⟩
  have zw10 : w9.heap.size ≤ w10.heap.size := hb.size
  have bw10 := bw9.trans (hb.mono bw9.size)
  have rw10_wa := rw9_wa.below hb
  have rw10_g := rw9_g.below hb
  clear hb bw9 rw9_wa rw9_g
  go_wp2_with fail
  refine (KM.out _ _ _ _ rw10_g).mono ?_
  rintro e w11 ⟨rfl, hg1, ho⟩
  clear rw10_g
  have zw11 : w10.heap.size ≤ w11.heap.size := ho.size
  have bw11 := ho.below bw10 (by omega) (by omega)
  have rw11_wa := rw10_wa.out ho (by omega)
  clear ho bw10 rw10_wa
  go_wp2_with fail
  refine (KH.out _ _ _ _ hg1).mono ?_
  rintro e w12 ⟨rfl, hb⟩
  have zw12 : w11.heap.size ≤ w12.heap.size := hb.size
  have bw12 := bw11.trans (hb.mono bw11.size)
  have rw12_wa := rw11_wa.below hb
  have rw12_g := hg1.below hb
  clear hb bw11 rw11_wa hg1
  go_wp2_with fail
  refine (Tgn.toTargetS_tb _ S _ (H0.out.stepAt bw12) hlS hfS).mono ?_
  rintro e w13 ⟨gaw13, gcw13, rfl, kzw13, hb⟩
  have zw13 : w12.heap.size ≤ w13.heap.size := hb.size
  have bw13 := bw12.trans (hb.mono bw12.size)
  have rw13_wa := rw12_wa.below hb
  have rw13_g := rw12_g.below hb
  clear hb bw12 rw12_wa rw12_g
  go_wp2_with fail
  refine (KI.out _ _ kzw13.at).mono ?_
  rintro e w14 ⟨vvwb, rfl, hwb, hb⟩
  have zw14 : w13.heap.size ≤ w14.heap.size := hb.size
  have bw14 := bw13.trans (hb.mono bw13.size)
  have rw14_wa := rw13_wa.below hb
  have rw14_g := rw13_g.below hb
  have rw14_z0 := kzw13.below hb
  clear hb bw13 rw13_wa rw13_g kzw13
  obtain ⟨sawb, scwb, rfl, exwb⟩ := id hwb
  clear exwb
  clear rw14_z0
  go_wp2_with fail
  refine (Tgn.eqTargetS_same hA hAq hwb.at rw14_wa.at).mono ?_
  rintro e w15 ⟨rfl, hb⟩
  have zw15 : w14.heap.size ≤ w15.heap.size := hb.size
  have bw15 := bw14.trans (hb.mono bw14.size)
  have rw15_wa := rw14_wa.below hb
  have rw15_g := rw14_g.below hb
  have rw15_wb := hwb.below hb
  clear hb bw14 rw14_wa rw14_g hwb
  go_wp2_with fail
  refine (KH.out _ _ _ _ rw15_g).mono ?_
  rintro e w16 ⟨rfl, hb⟩
  have zw16 : w15.heap.size ≤ w16.heap.size := hb.size
  have bw16 := bw15.trans (hb.mono bw15.size)
  have rw16_wa := rw15_wa.below hb
  have rw16_g := rw15_g.below hb
  have rw16_wb := rw15_wb.below hb
  clear hb bw15 rw15_wa rw15_g rw15_wb
  go_wp2_with fail
  go_ret
  exact ⟨rfl, bw16⟩

set_option maxRecDepth 100000 in
theorem law : LawWalk Try.prog 7 Try.f7 := by
  intro H enc W base args ds ps hval hA
  rw [Try.params7] at hA hval
  obtain ⟨v0, vs0, d0, es0, p0, q0, hargs, rfl, rfl, h0, r0⟩ := trodAll_cons hA
  obtain ⟨v1, vs1, d1, es1, p1, q1, rfl, rfl, rfl, h1, r1⟩ := trodAll_cons r0
  obtain ⟨rfl, rfl, rfl⟩ := trodAll_nil r1
  obtain rfl : args = #[v0, v1] := by cases args; simp_all
  obtain ⟨a0, c0, S, rfl, g0, m0, q0x⟩ := Tgn.open_targets (hval 0 _ v0 rfl rfl) h0
  obtain ⟨ak, rfl⟩ := okWide_int Try.underlying3 (hval 1 _ v1 rfl rfl)
  by_cases hl : (S.length + Tg.tgSz S) ≤ 1048576
  · exact short _ S ak W  g0 hl
  · exact long _ S ak W m0 q0x  g0 (by omega)
end Lwp

set_option maxRecDepth 100000 in
theorem exactWorldPart_holds : Rows.FnExactWorldPartSaid :=
  OpenClaim.holds_of_wide 7 Try.f7 rfl rfl rfl rfl rfl rfl rfl ⟨rfl, rfl, rfl, rfl, rfl⟩ rfl rfl rfl rfl rfl (by kernel_rfl) Try.func7 (by kernel_rfl)
    (of_decide_eq_true (by kernel_rfl)) (by unfold Func.isWrapper; rw [if_neg (by decide +kernel)]; exact ⟨rfl, rfl⟩)
    (fun os started H enc _ => law_lifted (s := Rows.fnExactWorldPartSpec) (tb := 4) own started laid (by kernel_rfl) Try.func7 rfl (by kernel_rfl) Try.underlying4 (by kernel_rfl)
      (fun ds h => by rw [Try.params7] at h; match ds, h with | [_, _], _ => rfl)
      (ChangeSpec.witness6 (enc := enc) (C := Try.checked) false ⟨#[], #[.slice none 0 0, .int .i64 0], []⟩ 8 (by kernel_rfl) (by kernel_rfl) (by kernel_rfl) (by kernel_rfl))
      Lwp.law)
#print axioms exactWorldPart_holds
end Go.Proofs.Ytopplljilmjjgaa
