/- At every code the law FnWorldPart returns true: the program and the model tell the same world of what the drawn target needs; in it each target comes to what it comes to in the whole world. No condition. -/
import Derived.Test.YtopplljilmjjgaaDwd
import Derived.Test.YtopplljilmjjgaaWps
import Derived.Test.YtopplljilmjjgaaWsa
import Derived.Test.YtopplljilmjjgaaMds
import Derived.Test.YtopplljilmjjgaaBlj
import Derived.BigQuiet
namespace Go.Proofs.Ytopplljilmjjgaa
open Go.ChangeShapes Go.WideShapes Go.ChangeAt Go.RowKit Go.Joins Go.Sort
namespace Pwq
open Drm Dtg Tg Wl Wn Wp Bl Md

theorem part_par {S : List Tgt} {k : Int} (h : ∀ q ∈ S, Par q) : ∀ q ∈ partL S k, Par q := fun q hq => by
  obtain ⟨i, hi, rfl⟩ := List.getElem_of_mem hq
  obtain ⟨z, x, _, hx, _, _, hp, _⟩ := part_at (List.getElem?_eq_getElem hi)
  rw [hp]
  obtain ⟨h1, h2, h3, h4⟩ := h x (List.mem_of_getElem? hx)
  exact ⟨h1, h2, h3, by simpa using h4⟩
theorem needs_ok {S : List Tgt} {k : Int} (h : needsL S k ≠ []) : wOk S = true := by
  unfold needsL at h
  by_cases hc : wOk S = true ∧ 0 ≤ k ∧ k < (S.length : Int)
  · exact hc.1
  · rw [if_neg hc] at h
    exact absurd rfl h

set_option maxRecDepth 100000 in
set_option maxHeartbeats 8000000 in
theorem short (a : Option Addr) (len cap : Nat) (w : World) (h : CodeIn w a len cap) (hl : len ≤ 1048576) :
    Calls Try.prog 8 #[.slice a len cap] w fun e w' => e = .returned (.bool true) ∧ Below w.heap.size w w' := by
  go_enter Try.func8, Try.ntmps8
  go_wp2_with fail
  refine (DrawWorldPart_any a len cap w h).mono ?_
  rintro e w1 ⟨S, va, vc, k, rfl, _, hat, hlS, hsm, hb1⟩
  have hp := sm_par hsm
  have KI := Lib.hid (fun V (g : Below w1.heap.size w1 V) => implPart_any _ S k V (by omega) hp (hat.stepAt g))
  have KS := Lib.hid (fun V (g : Below w1.heap.size w1 V) => specPart_any _ S k V (by omega) hp (hat.stepAt g))
  have KB := Lib.hid (fun V (g : Below w1.heap.size w1 V) => implBuild_any _ S V (by omega) hp (hat.stepAt g))
  have KN := Lib.hid (fun V (g : Below w1.heap.size w1 V) => implNeeds_any _ S k V (by omega) hp (hat.stepAt g))
  have KA := Lib.hid alive_any
  have HB1 := Lib.hid hb1
  have HPL := Lib.hid (part_len S k)
  have HRL := Lib.hid (needsL_len S k)
  have HPP := Lib.hid (part_par (k := k) hp)
  have HPO := Lib.hid (part_ok (k := k) (show S.length ≤ 12 by omega))
  have HOK := Lib.hid (fun (h : needsL S k ≠ []) => needs_ok h)
  have HPB := Lib.hid (fun (h : wOk S = true) => part_build h k)
  have HPA := Lib.hid fun (j : Nat) (p : Tgt) (h : (partL S k)[j]? = some p) => part_at h
  clear hat hsm hp hb1
  obtain ⟨P, hP⟩ : ∃ P, partL S k = P := ⟨_, rfl⟩
  obtain ⟨R, hR⟩ : ∃ R, needsL S k = R := ⟨_, rfl⟩
  rw [hP] at KI KS HPL HPP HPO HPB HPA
  unfold WnPost at KN
  rw [hR] at KN HPL HRL HOK HPB HPA
  clear hP hR
  have hlP : P.length ≤ 1048576 := by have := HPL.out; have := HRL.out; omega
  have hlR : R.length ≤ 1048576 := by have := HRL.out; omega
  have HPF := Lib.hid (show ∀ q ∈ P, Tgn.Fits q from fun q hq => ⟨(HPP.out q hq).2.1, (HPP.out q hq).2.2.2⟩)
  go_wp2_with fail
  refine (KI.out _ (Below.refl _ _)).mono ?_
  rintro e w2 ⟨v2, rfl, ht2, hb2⟩
  obtain ⟨ga, gc, rfl⟩ := ht2.shape
  have HT2 := Lib.hid ht2
  clear ht2
  go_wp2_with fail
  refine (KS.out _ hb2).mono ?_
  rintro e w3 ⟨v3, rfl, ht3, hb3⟩
  obtain ⟨ha, hc, rfl⟩ := ht3.shape
  have HT23 := Lib.hid (HT2.out.below hb3)
  have HT3 := Lib.hid ht3
  have b3 := hb2.trans (hb3.mono hb2.size)
  clear ht3 hb2 hb3 HT2
  go_wp2_with fail
  refine (Wsa.sameWorld_same hlP HPF.out HT23.out.at HT3.out.at).mono ?_
  rintro e w4 ⟨rfl, hb4⟩
  have HT4 := Lib.hid (HT23.out.below hb4)
  have b4 := b3.trans (hb4.mono b3.size)
  clear hb4 b3 HT3 HT23
  rcases Nat.eq_zero_or_pos P.length with hn | hn
  · obtain rfl : P = [] := List.eq_nil_of_length_eq_zero hn
    clear hn
    go_wp2_with fail
    refine (KA.out _).mono ?_
    rintro e w6 ⟨rfl, hb6⟩
    have b7 := Lib.hid (HB1.out.trans ((b4.trans (hb6.mono b4.size)).mono HB1.out.size))
    clear b4 hb6
    go_wp2_with fail
    go_ret
    exact ⟨rfl, b7.out⟩
  have hw := HOK.out (fun e => by have h9 := HPL.out; rw [e, List.length_nil] at h9; omega)
  have HPB2 := Lib.hid (HPB.out hw)
  have HBS := Lib.hid (build_len hw)
  have HBP := Lib.hid (build_len HPO.out)
  have KBP := Lib.hid (fun V (g : Below w4.heap.size w4 V) => implBuild_any _ P V hlP HPP.out (HT4.out.at.stepAt g))
  have KW := Lib.hid (fun V (g : Below w4.heap.size w4 V) => by
    have := implWorldOk_any _ P V hlP HPP.out (HT4.out.at.stepAt g)
    rwa [HPO.out] at this)
  have HNE := Lib.hid (show P.length = R.length from HPL.out)
  have hz0 : ((P.length : Int) == 0) = false := by rw [beq_eq_false_iff_ne]; omega
  have hz1 : ((P.length : Int) == (R.length : Int)) = true := by have := HNE.out; rw [beq_iff_eq]; omega
  clear hn hw HPB HOK HPL KI KS HT4
  go_wp2_with fail
  refine (KB.out _ b4).mono ?_
  rintro e w5 ⟨v5, rfl, hm5, hb5⟩
  obtain ⟨da, dc, rfl⟩ := hm5.shape
  have HM5 := Lib.hid hm5
  have HB5 := Lib.hid hb5
  clear hm5 hb5
  go_wp2_with fail
  refine (KBP.out _ HB5.out).mono ?_
  rintro e w6 ⟨v6, rfl, hm6, hb6⟩
  obtain ⟨ea, ec, rfl⟩ := hm6.shape
  have HM56 := Lib.hid (HM5.out.below hb6)
  have HM6 := Lib.hid hm6
  have HB6 := Lib.hid (HB5.out.trans (hb6.mono HB5.out.size))
  clear hm6 hb6 HM5 HB5
  go_wp2_with fail
  refine (KN.out _ (b4.trans (HB6.out.mono b4.size))).mono ?_
  rintro e w7 ⟨v7, rfl, hi7, hb7⟩
  obtain ⟨fa, fc, rfl, xx⟩ := id hi7
  have HM57 := Lib.hid ((HM56.out.below hb7).at)
  have HM67 := Lib.hid ((HM6.out.below hb7).at)
  have HI7 := Lib.hid hi7.at
  have HB7 := Lib.hid (HB6.out.trans (hb7.mono HB6.out.size))
  have B4 := Lib.hid b4
  clear hi7 xx hb7 HM56 HM6 HB6 b4 KN KB KBP
  generalize hD1 : buildL S = D1 at *
  generalize hD2 : buildL P = D2 at *
  clear hD1 hD2
  go_wp2_with fail
  go_loopw [9] (fun i wr => ∃ j : Nat, j ≤ R.length ∧ i = .int .i64 (j : Int) ∧ Below w7.heap.size w7 wr) (fun i _ => R.length - (intOf i).toNat)
  case atStart => exact ⟨0, Nat.zero_le _, rfl, Below.refl _ _⟩
  case round =>
    obtain ⟨j, hj, rfl, hb⟩ := hrel
    by_cases hlt : j < R.length
    · obtain ⟨z, hz⟩ : ∃ z, R[j] = z := ⟨_, rfl⟩
      have HZ := Lib.hid (show R[j]? = some z by rw [List.getElem?_eq_getElem hlt, hz])
      have hjP : j < P.length := by have := HNE.out; omega
      obtain ⟨z', x, hz2, hx, h0, xr⟩ := HPA.out j P[j] (List.getElem?_eq_getElem hjP)
      rw [HZ.out] at hz2
      obtain rfl := Option.some.inj hz2
      have hzS := (List.getElem?_eq_some_iff.1 hx).1
      have hpb := HPB2.out j z HZ.out
      clear hx hz2 xr
      obtain ⟨n, rfl⟩ := Int.eq_ofNat_of_zero_le h0
      rw [Int.toNat_natCast] at hpb hzS
      have l1 : n < D1.length := by have := HBS.out; omega
      have l2 : j < D2.length := by have := HBP.out; omega
      rw [List.getElem?_eq_getElem l1, List.getElem?_eq_getElem l2] at hpb
      replace hpb := Option.some.inj hpb
      obtain ⟨m, t, hmt⟩ : ∃ m t, D1[n] = (m, t) := ⟨_, _, rfl⟩
      rw [hmt] at hpb
      obtain ⟨a1, c1, e1, hS1⟩ := HM57.out
      simp only [Value.slice.injEq] at e1
      obtain ⟨rfl, _, rfl⟩ := e1
      rcases hS1 with hx | ⟨b1, o1, rfl, hB1, hc1⟩
      · rw [hx] at l1
        exact absurd l1 (by simp)
      obtain ⟨a2, c2, e2, hS2⟩ := HM67.out
      simp only [Value.slice.injEq] at e2
      obtain ⟨rfl, _, rfl⟩ := e2
      rcases hS2 with hx | ⟨b2, o2, rfl, hB2, hc2⟩
      · rw [hx] at l2
        exact absurd l2 (by simp)
      obtain ⟨a3, c3, e3, hS3⟩ := HI7.out
      simp only [Value.slice.injEq] at e3
      obtain ⟨rfl, _, rfl⟩ := e3
      rcases hS3 with hx | ⟨b3, o3, rfl, hB3, hc3⟩
      · rw [hx] at hlt
        exact absurd hlt (by simp)
      have k1 := (hc1 n l1).below hb hB1
      have k2 := (hc2 j l2).below hb hB2
      have k3 := (hb.cell (p := ⟨b3, o3 + j, none⟩) hB3).trans (hc3 j hlt)
      rw [hmt] at k1
      rw [hpb] at k2
      rw [hz] at k3
      obtain ⟨k10, k11⟩ := k1
      obtain ⟨k20, k21⟩ := k2
      simp only at k10 k11 k20 k21
      have t0 := cell_regrown k10
      have t1 := cell_regrown k11
      have t2 := cell_regrown k20
      have t3 := cell_regrown k21
      have t4 := cell_regrown k3
      have hne := mdeN_alike m t
      have i0 : (0 : Int) ≤ (j : Int) := by omega
      have i1 : (j : Int) < (R.length : Int) := by omega
      have i2 : (j : Int) < (D2.length : Int) := by omega
      have i3 : (0 : Int) ≤ (n : Int) := by omega
      have i4 : (n : Int) < (D1.length : Int) := by omega
      have HHB := Lib.hid hb
      clear hb hc1 hc2 hc3 hmt hpb hz hzS h0 l1 l2 hjP
      go_wp2_with fail
      refine wp_region_quiet_below (by kernel_rfl) (by kernel_rfl) ?_
      repeat (any_goals (first | go_big_quiet_step (fail) | quiet_step (fail)))
      refine wpQuiet_nil ?_
      intro W2 hw
      have nn := quiet_end hw
      have HP := Lib.hid (HHB.out.trans (nn.mono HHB.out.size))
      clear hw nn t0 t1 t2 t3 t4 hne
      go_wp2_with fail
      go_roundw
      case rel => exact ⟨j + 1, by omega, by go_num, HP.out⟩
      case measure => simp [intOf]; omega
    · obtain rfl : j = R.length := by omega
      have HHB := Lib.hid (HB7.out.trans (hb.mono HB7.out.size))
      clear hb
      go_wp2_with fail
      refine (KW.out _ HHB.out).mono ?_
      rintro e w8 ⟨rfl, hb8⟩
      have b8 := HHB.out.trans (hb8.mono HHB.out.size)
      have b9 := Lib.hid (HB1.out.trans ((B4.out.trans (b8.mono B4.out.size)).mono HB1.out.size))
      clear b8 hb8
      go_wp2_with fail
      go_ret
      exact ⟨rfl, b9.out⟩

set_option maxHeartbeats 1000000 in
theorem long (a : Option Addr) (len cap : Nat) (w : World) (hl : 1048576 < len) :
    Calls Try.prog 8 #[.slice a len cap] w fun e w' => e = .returned (.bool true) ∧ Below w.heap.size w w' := by
  go_enter Try.func8, Try.ntmps8
  go_wp2
  go_ret
  exact ⟨rfl, Below.refl _ _⟩
theorem walk (a : Option Addr) (len cap : Nat) (w : World) (h : CodeIn w a len cap) :
    Calls Try.prog 8 #[.slice a len cap] w fun e w' => e = .returned (.bool true) ∧ Below w.heap.size w w' := by
  by_cases hl : len ≤ 1048576
  · exact short a len cap w h hl
  · exact long a len cap w (by omega)
end Pwq

set_option maxRecDepth 100000 in
theorem partP_holds : Rows.FnWorldPartSaid :=
  OpenClaim.holds_of_wide 8 Try.f8 rfl rfl rfl rfl rfl rfl rfl ⟨rfl, rfl, rfl, rfl, rfl⟩ rfl rfl rfl rfl rfl (by kernel_rfl) Try.func8 (by kernel_rfl)
    (of_decide_eq_true (by kernel_rfl)) (by unfold Func.isWrapper; rw [if_neg (by decide +kernel)]; exact ⟨rfl, rfl⟩)
    (fun os started H enc _ => law_lifted (s := Rows.fnWorldPartSpec) (tb := 4) own started laid (by kernel_rfl) Try.func8 rfl (by kernel_rfl) Try.underlying4 (by kernel_rfl)
      (fun ds h => by rw [Try.params8] at h; match ds, h with | [_], _ => rfl)
      (ChangeSpec.witness6 (enc := enc) (C := Try.checked) false ⟨#[], #[.slice none 0 0], []⟩ 8 (by kernel_rfl) (by kernel_rfl) (by kernel_rfl) (by kernel_rfl))
      (law_code Try.params8 Pwq.walk))
#print axioms partP_holds
end Go.Proofs.Ytopplljilmjjgaa
