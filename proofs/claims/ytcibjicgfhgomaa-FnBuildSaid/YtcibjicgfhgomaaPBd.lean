/- At every code the law FnBuild returns true: the program and the model agree on what each drawn target comes to; each source comes to its text, nothing is too long, and what was not made has no text. No condition. -/
import Derived.Test.YtcibjicgfhgomaaDwd
import Derived.Test.YtcibjicgfhgomaaBlk
import Derived.Test.YtcibjicgfhgomaaMds
import Derived.BigQuiet
namespace Go.Proofs.Ytcibjicgfhgomaa
open Go.ChangeShapes Go.WideShapes Go.ChangeAt Go.RowKit Go.Joins Go.Sort
namespace Pbd
open Drm Dtg Tg Wl Bl Md

set_option maxRecDepth 100000 in
set_option maxHeartbeats 8000000 in
theorem short (a : Option Addr) (len cap : Nat) (w : World) (h : CodeIn w a len cap) (hl : len ≤ 1048576) :
    Calls Try.prog 8 #[.slice a len cap] w fun e w' => e = .returned (.bool true) ∧ Below w.heap.size w w' := by
  go_enter Try.func8, Try.ntmps8
  go_wp2_with fail
  refine (DrawBuild_any a len cap w h).mono ?_
  rintro e w1 ⟨S, va, vc, rfl, _, hat, hlS, hsm, hb1⟩
  have hp := sm_par hsm
  have KI := Lib.hid (fun V (g : Below w1.heap.size w1 V) => implBuild_any _ S V (by omega) hp (hat.stepAt g))
  have KS := Lib.hid (fun V (g : Below w1.heap.size w1 V) => Bm.specBuild_any _ S V (by omega) hp (hat.stepAt g))
  have KW := Lib.hid (fun V (g : Below w1.heap.size w1 V) => implWorldOk_any _ S V (by omega) hp (hat.stepAt g))
  have KA := Lib.hid alive_any
  have HAT := Lib.hid hat
  have HB1 := Lib.hid hb1
  have hBl := Nat.le_trans (buildL_len S) hlS
  clear hat hsm hp hb1
  go_wp2_with fail
  refine (KI.out _ (Below.refl _ _)).mono ?_
  rintro e w2 ⟨v2, rfl, hm2, hb2⟩
  obtain ⟨ga, gc, rfl⟩ := hm2.shape
  have HM2 := Lib.hid hm2
  clear hm2
  go_wp2_with fail
  refine (KS.out _ hb2).mono ?_
  rintro e w3 ⟨v3, rfl, hm3, hb3⟩
  obtain ⟨ha, hc, rfl⟩ := hm3.shape
  have HM23 := Lib.hid (HM2.out.below hb3)
  have HM3 := Lib.hid hm3
  have b3 := hb2.trans (hb3.mono hb2.size)
  clear hm3 hb2 hb3 HM2
  go_wp2_with fail
  refine (sameMade_same (by omega) HM23.out.at HM3.out.at).mono ?_
  rintro e w4 ⟨rfl, hb4⟩
  have HM4 := Lib.hid (HM23.out.below hb4)
  have b4 := b3.trans (hb4.mono b3.size)
  clear hb4 b3 HM3 HM23
  obtain ⟨bk, hbk⟩ : ∃ bk, wOk S = bk := ⟨_, rfl⟩
  rw [hbk] at KW
  rcases bk
  · have hE := build_no hbk
    rw [hE] at HM4 ⊢
    go_wp2_with fail
    refine (KW.out _ b4).mono ?_
    rintro e w5 ⟨rfl, hb5⟩
    have b5 := b4.trans (hb5.mono b4.size)
    clear b4 hb5
    go_wp2_with fail
    refine (KA.out _).mono ?_
    rintro e w6 ⟨rfl, hb6⟩
    have b6 := Lib.hid (HB1.out.trans ((b5.trans (hb6.mono b5.size)).mono HB1.out.size))
    clear b5 hb6
    go_wp2_with fail
    go_ret
    exact ⟨rfl, b6.out⟩
  have hE := build_len hbk
  have HE := Lib.hid hE
  have HK := Lib.hid hbk
  have HBL : Hid (∃ B : List Mde, buildL S = B ∧ B.length = S.length ∧ ∀ (k : Nat) (x : Tgt), S[k]? = some x → ∃ r : Mde, B[k]? = some r ∧ (x.1 = false → r = (true, x.2.1)) ∧ r.2.size ≤ 40 ∧ (r.1 = false → r.2 = ⟨#[]⟩)) := Lib.hid ⟨_, rfl, hE, fun k x hx => build_at hbk hx⟩
  obtain ⟨B, hBe, hBlen, hBat⟩ := HBL.out
  rw [hBe] at HM4 hBl ⊢
  have HBA := Lib.hid hBat
  clear hE hbk hBe hBat HBL
  rw [hBlen]
  go_wp2_with fail
  refine (KW.out _ b4).mono ?_
  rintro e w5 ⟨rfl, hb5⟩
  have HM5 := Lib.hid (HM4.out.below hb5)
  have b5 := b4.trans (hb5.mono b4.size)
  have HMA := Lib.hid HM5.out.at
  have HAT5 := Lib.hid (HAT.out.stepAt b5)
  clear b4 hb5 HM4
  have HB5 := Lib.hid b5
  have HL := Lib.hid hBlen
  clear hBlen b5
  go_wp2_with fail
  go_loopw [5] (fun i wr => ∃ k : Nat, k ≤ S.length ∧ i = .int .i64 (k : Int) ∧ Below w5.heap.size w5 wr) (fun i _ => S.length - (intOf i).toNat)
  case atStart => exact ⟨0, Nat.zero_le _, rfl, Below.refl _ _⟩
  case round =>
    obtain ⟨k, hk, rfl, hb⟩ := hrel
    by_cases hlt : k < S.length
    · obtain ⟨a1, c1, e1, hS⟩ := HAT5.out
      simp only [Value.slice.injEq] at e1
      obtain ⟨rfl, _, rfl⟩ := e1
      rcases hS with hx | ⟨b, o, rfl, hB, hc1⟩
      · subst hx
        exact absurd hlt (by simp)
      obtain ⟨a2, c2, e2, hM⟩ := HMA.out
      simp only [Value.slice.injEq] at e2
      obtain ⟨rfl, _, rfl⟩ := e2
      have hlB : k < B.length := by have := HL.out; omega
      rcases hM with hx | ⟨b', o', rfl, hB', hc2⟩
      · subst hx
        exact absurd hlB (by simp)
      obtain ⟨m, t, L, N, hxy⟩ : ∃ m t L N, S[k] = (m, t, L, N) := ⟨_, _, _, _, rfl⟩
      have cc := (hc1 k hlt).below hb hB
      rw [hxy] at cc
      obtain ⟨⟨k0, k1⟩, _⟩ := cc
      obtain ⟨r, hr, hr1, hr2, hr3⟩ := HBA.out k _ (show S[k]? = some (m, t, L, N) by rw [List.getElem?_eq_getElem hlt, hxy])
      have hBk : B[k] = r := by rw [List.getElem?_eq_getElem hlB] at hr; exact Option.some.inj hr
      have dd := (hc2 k hlB).below hb hB'
      rw [hBk] at dd
      obtain ⟨l0, l1⟩ := dd
      obtain ⟨r1, r2⟩ := r
      simp only at k0 k1 l0 l1 hr1 hr2 hr3
      have HBB := Lib.hid hb
      have HLB := Lib.hid hlB
      have jI0 : (0 : Int) ≤ (k : Int) := by omega
      have jI1 : (k : Int) < (S.length : Int) := by omega
      have hsz : ¬ (40 : Int) < (r2.size : Int) := by omega
      have hsz1 : decide ((40 : Int) < (r2.size : Int)) = false := decide_eq_false hsz
      clear hc1 hc2 hxy hr hBk hb hlB
      rcases m
      · have hr1 := hr1 rfl
        simp only [Prod.mk.injEq] at hr1
        obtain ⟨rfl, rfl⟩ := hr1
        have hne := mdeN_alike true r2
        have t0 := cell_regrown k0
        have t1 := cell_regrown k1
        have u0 := cell_regrown l0
        have u1 := cell_regrown l1
        clear hr3 hr2
        go_wp2_with fail
        refine wp_region_quiet_below (by kernel_rfl) (by kernel_rfl) ?_
        repeat (any_goals (first | go_big_quiet_step (fail) | quiet_step (fail)))
        refine wpQuiet_nil ?_
        intro W2 hw
        have nn := quiet_end hw
        have HP := Lib.hid (HBB.out.trans (nn.mono HBB.out.size))
        clear hw nn
        go_wp2_with fail
        go_roundw
        case rel => exact ⟨k + 1, by omega, by go_num, HP.out⟩
        case measure => simp [intOf]; omega
      rcases r1
      · obtain rfl := hr3 rfl
        have t0 := cell_regrown k0
        have u0 := cell_regrown l0
        have u1 := cell_regrown l1
        clear hr1 hr2 hr3
        go_wp2_with fail
        refine wp_region_quiet_below (by kernel_rfl) (by kernel_rfl) ?_
        repeat (any_goals (first | go_big_quiet_step (fail) | quiet_step (fail)))
        refine wpQuiet_nil ?_
        intro W2 hw
        have nn := quiet_end hw
        have HP := Lib.hid (HBB.out.trans (nn.mono HBB.out.size))
        clear hw nn
        go_wp2_with fail
        go_roundw
        case rel => exact ⟨k + 1, by omega, by go_num, HP.out⟩
        case measure => simp [intOf]; omega
      have t0 := cell_regrown k0
      have u0 := cell_regrown l0
      have u1 := cell_regrown l1
      clear hr1 hr2 hr3
      go_wp2_with fail
      refine wp_region_quiet_below (by kernel_rfl) (by kernel_rfl) ?_
      repeat (any_goals (first | go_big_quiet_step (fail) | quiet_step (fail)))
      refine wpQuiet_nil ?_
      intro W2 hw
      have nn := quiet_end hw
      have HP := Lib.hid (HBB.out.trans (nn.mono HBB.out.size))
      clear hw nn
      go_wp2_with fail
      go_roundw
      case rel => exact ⟨k + 1, by omega, by go_num, HP.out⟩
      case measure => simp [intOf]; omega
    · obtain rfl : k = S.length := by omega
      have hz : ((S.length : Int) == (S.length : Int)) = true := by simp
      have b6 := HB5.out.trans (hb.mono HB5.out.size)
      clear hb
      go_wp2_with fail
      refine (KA.out _).mono ?_
      rintro e w6 ⟨rfl, hb6⟩
      have b7 := Lib.hid (HB1.out.trans ((b6.trans (hb6.mono b6.size)).mono HB1.out.size))
      clear b6 hb6
      go_wp2_with fail
      go_ret
      exact ⟨rfl, b7.out⟩

set_option maxHeartbeats 1000000 in
theorem long (a : Option Addr) (len cap : Nat) (w : World) (hl : 1048576 < len) :
    Calls Try.prog 8 #[.slice a len cap] w fun e w' => e = .returned (.bool true) ∧ Below w.heap.size w w' := by
  go_enter Try.func8, Try.ntmps8
  go_wp2
  go_ret
  exact ⟨rfl, Below.refl _ _⟩
theorem walk (a : Option Addr) (len cap : Nat) (w : World) (h : CodeIn w a len cap) :
    Calls Try.prog 8 #[.slice a len cap] w fun e w' => e = .returned (.bool true) ∧ Below w.heap.size w w' := by
  by_cases hl : len ≤ 1048576
  · exact short a len cap w h hl
  · exact long a len cap w (by omega)
end Pbd

set_option maxRecDepth 100000 in
theorem buildP_holds : Rows.FnBuildSaid :=
  OpenClaim.holds_of_wide 8 Try.f8 rfl rfl rfl rfl rfl rfl rfl ⟨rfl, rfl, rfl, rfl, rfl⟩ rfl rfl rfl rfl rfl (by kernel_rfl) Try.func8 (by kernel_rfl)
    (of_decide_eq_true (by kernel_rfl)) (by unfold Func.isWrapper; rw [if_neg (by decide +kernel)]; exact ⟨rfl, rfl⟩)
    (fun os started H enc _ => law_lifted (s := Rows.fnBuildSpec) (tb := 4) own started laid (by kernel_rfl) Try.func8 rfl (by kernel_rfl) Try.underlying4 (by kernel_rfl)
      (fun ds h => by rw [Try.params8] at h; match ds, h with | [_], _ => rfl)
      (ChangeSpec.witness6 (enc := enc) (C := Try.checked) false ⟨#[], #[.slice none 0 0], []⟩ 8 (by kernel_rfl) (by kernel_rfl) (by kernel_rfl) (by kernel_rfl))
      (law_code Try.params8 Pbd.walk))
#print axioms buildP_holds
end Go.Proofs.Ytcibjicgfhgomaa
