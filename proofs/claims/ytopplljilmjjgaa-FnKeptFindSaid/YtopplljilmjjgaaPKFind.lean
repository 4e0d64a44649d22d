/- At every code the law FnKeptFind returns true: the program and the model find the same entry for the drawn script and texts; what is found has the script and the texts. No condition. -/
import Derived.Test.YtopplljilmjjgaaDkp
import Derived.Test.YtopplljilmjjgaaWsa
namespace Go.Proofs.Ytopplljilmjjgaa
open Go.ChangeShapes Go.WideShapes Go.ChangeAt Go.RowKit Go.Joins Go.Sort Go.Deep
namespace Pkf
open Drm Dtg En Kf Kb Rx

set_option maxRecDepth 100000 in
set_option maxHeartbeats 4000000 in
theorem sameTextsL_any (v v' : Value) (D D' : List ByteArray) (w : World) (hl : D.length ≤ 1048576) (hl' : D'.length ≤ 1048576) (h : Obl.StAt w w.heap.size v D) (h' : Obl.StAt w w.heap.size v' D') :
    Calls Try.prog 60 #[v, v'] w fun e w' => e = .returned (.bool (decide (D = D'))) ∧ Below w.heap.size w w' := by
  obtain ⟨a, cap, rfl, hc⟩ := h
  obtain ⟨a', cap', rfl, hc'⟩ := h'
  have H := Lib.hid hc
  have H' := Lib.hid hc'
  clear hc hc'
  obtain ⟨n, hn⟩ : ∃ n, D.length = n := ⟨_, rfl⟩
  obtain ⟨n', hn'⟩ : ∃ n, D'.length = n := ⟨_, rfl⟩
  have HN := Lib.hid hn
  have HN' := Lib.hid hn'
  rw [hn] at hl ⊢
  rw [hn'] at hl' ⊢
  clear hn hn'
  by_cases e : n = n'
  rotate_left
  · have hz : ((n : Int) != (n' : Int)) = true := by simp; omega
    have HE := Lib.hid (show decide (D = D') = false from decide_eq_false fun h => by subst h; exact e (HN.out.symm.trans HN'.out))
    go_enter Try.func60, Try.ntmps60
    go_wp2
    go_ret
    exact ⟨by rw [HE.out]; rfl, Below.refl _ _⟩
  subst e
  have hz : ((n : Int) != (n : Int)) = false := by simp
  go_enter Try.func60, Try.ntmps60
  go_wp2
  go_loopw [5] (fun i wr => ∃ k : Nat, k ≤ n ∧ i = .int .i64 (k : Int) ∧ D.take k = D'.take k ∧ Below w.heap.size w wr) (fun i _ => n - (intOf i).toNat)
  case atStart => exact ⟨0, Nat.zero_le _, rfl, by simp, Below.refl _ _⟩
  case round =>
    obtain ⟨k, hk, rfl, htk, hb⟩ := hrel
    have HT := Lib.hid htk
    clear htk
    by_cases hlt : k < n
    · have k0 : k < D.length := by have := HN.out; omega
      have k0' : k < D'.length := by have := HN'.out; omega
      rcases H.out with h1 | ⟨b, o, rfl, hB, hc⟩
      · subst h1
        exact absurd k0 (by simp)
      rcases H'.out with h2 | ⟨b', o', rfl, hB', hc'⟩
      · subst h2
        exact absurd k0' (by simp)
      obtain ⟨t, hxy⟩ : ∃ t, D[k] = t := ⟨_, rfl⟩
      obtain ⟨t', hxy'⟩ : ∃ t, D'[k] = t := ⟨_, rfl⟩
      have e0 := (hb.cell (p := ⟨b, o + k, none⟩) hB).trans (hc k k0)
      have l0 := (hb.cell (p := ⟨b', o' + k, none⟩) hB').trans (hc' k k0')
      rw [hxy] at e0
      rw [hxy'] at l0
      have HX := Lib.hid (show D[k]? = some t by rw [List.getElem?_eq_getElem k0, hxy])
      have HX' := Lib.hid (show D'[k]? = some t' by rw [List.getElem?_eq_getElem k0', hxy'])
      clear hc hc' hxy hxy' k0 k0'
      have i0 : (0 : Int) ≤ (k : Int) := by omega
      have i1 : (k : Int) < (n : Int) := by omega
      have t0 := cell_regrown e0
      have u0 := cell_regrown l0
      by_cases he : t = t'
      · have hne : (t.toList != t'.toList) = false := by rw [he]; simp
        have hqq : (t.toList == t'.toList) = true := by rw [he]; simp
        have HP2 := Lib.hid (take_snoc HX.out HX'.out he HT.out)
        clear he
        go_wp2_with fail
        refine wp_region_quiet_below (by kernel_rfl) (by kernel_rfl) ?_
        repeat (any_goals (first | go_big_quiet_step (fail) | quiet_step (fail)))
        refine wpQuiet_nil ?_
        intro W2 hw
        have nn := quiet_end hw
        clear hw t0 u0
        have HP := Lib.hid (hb.trans (nn.mono hb.size))
        go_wp2_with fail
        go_roundw
        case rel => exact ⟨k + 1, by omega, by go_num, HP2.out, HP.out⟩
        case measure => simp [intOf]; omega
      · have hne : (t.toList != t'.toList) = true := by rw [bne_iff_ne]; exact fun h => he (txt_eq h)
        have hqq : (t.toList == t'.toList) = false := by rw [beq_eq_false_iff_ne]; exact fun h => he (txt_eq h)
        have HE := Lib.hid (show decide (D = D') = false from decide_eq_false (ne_at HX.out HX'.out he))
        clear he
        go_wp2_with fail
        refine wp_region_quiet_below (by kernel_rfl) (by kernel_rfl) ?_
        repeat (any_goals (first | go_big_quiet_step (fail) | quiet_step (fail)))
        refine wpQuiet_nil ?_
        intro W2 hw
        have nn := quiet_end hw
        clear hw t0 u0
        have HP := Lib.hid (hb.trans (nn.mono hb.size))
        go_wp2_with fail
        go_ret
        exact ⟨by rw [HE.out]; rfl, HP.out⟩
    · obtain rfl : k = n := by omega
      have HE := Lib.hid (show decide (D = D') = true from decide_eq_true (by have := HT.out; rwa [List.take_of_length_le (by have := HN.out; omega), List.take_of_length_le (by have := HN'.out; omega)] at this))
      go_wp2_with fail
      go_ret
      exact ⟨by rw [HE.out]; rfl, hb⟩

set_option maxRecDepth 100000 in
set_option maxHeartbeats 8000000 in
theorem short (a : Option Addr) (len cap : Nat) (w : World) (h : CodeIn w a len cap) (hl : len ≤ 1048576) :
    Calls Try.prog 10 #[.slice a len cap] w fun e w' => e = .returned (.bool true) ∧ Below w.heap.size w w' := by
  go_enter Try.func10, Try.ntmps10
  go_wp2_with fail
  refine (DrawKeptFind_any a len cap w h).mono ?_
  rintro e w1 ⟨E, L, N, va, vc, s, u, rfl, hat, hle, hsm, hL, hL10, hN, hN12, hb1⟩
  obtain ⟨la, lc, rfl, xx⟩ := id hL
  obtain ⟨na, nc, rfl, yy⟩ := id hN
  have hq : ∀ q ∈ E, q.2.2.1.length ≤ 1048576 ∧ q.2.2.2.length ≤ 1048576 := fun q hq => ⟨(hsm q hq).pen.2.1, (hsm q hq).pen.2.2.2.1⟩
  have KI := Lib.hid (fun V (g : Below w1.heap.size w1 V) => implFind_any (.slice va E.length vc) (.slice la L.length lc) (.slice na N.length nc) E L N V (by omega) hq (by omega) (by omega) (hat.stepAt g) (hL.stepAt g) (hN.stepAt g))
  have KS := Lib.hid (fun V (g : Below w1.heap.size w1 V) => specFind_any (.slice va E.length vc) (.slice la L.length lc) (.slice na N.length nc) E L N V (by omega) hq (by omega) (by omega) (hat.stepAt g) (hL.stepAt g) (hN.stepAt g))
  have KA := Lib.hid alive_any
  have HB1 := Lib.hid hb1
  have HAT := Lib.hid hat
  have HSL := Lib.hid hL
  have HSN := Lib.hid hN
  have HFC := Lib.hid (find_cases E L N)
  clear hat hsm hq hL hN xx yy hb1
  obtain ⟨z, hz⟩ : ∃ z, findL E L N = z := ⟨_, rfl⟩
  rw [hz] at KI KS HFC
  clear hz
  go_wp2_with fail
  refine (KI.out _ (Below.refl _ _)).mono ?_
  rintro e w2 ⟨rfl, hb2⟩
  have HB2 := Lib.hid hb2
  clear hb2
  rcases HFC.out with ⟨rfl, _⟩ | ⟨j, x, rfl, hx, hh, _⟩
  · go_wp2_with fail
    refine (KS.out _ HB2.out).mono ?_
    rintro e w3 ⟨rfl, hb3⟩
    have b3 := HB2.out.trans (hb3.mono HB2.out.size)
    clear hb3
    go_wp2_with fail
    refine (KA.out _).mono ?_
    rintro e w6 ⟨rfl, hb6⟩
    have b7 := Lib.hid (HB1.out.trans ((b3.trans (hb6.mono b3.size)).mono HB1.out.size))
    clear b3 hb6
    go_wp2_with fail
    go_ret
    exact ⟨rfl, b7.out⟩
  · obtain ⟨hj, rfl⟩ := List.getElem?_eq_some_iff.1 hx
    obtain ⟨hhl, hht⟩ := hit_iff.1 hh
    obtain ⟨a1, c1, e1, _, hS⟩ := HAT.out
    simp only [Value.slice.injEq] at e1
    obtain ⟨rfl, _, rfl⟩ := e1
    rcases hS with hx2 | ⟨b, o, rfl, hB, hc⟩
    · rw [hx2] at hj
      simp at hj
    obtain ⟨m, t, L', N', hxy⟩ : ∃ m t L N, E[j] = (m, t, L, N) := ⟨_, _, _, _, rfl⟩
    have cc := hc j hj
    rw [hxy] at cc hhl hht
    simp only at hhl hht
    subst hhl
    subst hht
    obtain ⟨_, a2, c2, a3, c3, e0, e1, h1, h2⟩ := cc
    simp only at e0 e1 h1 h2
    have C0 := Lib.hid fun V (g : Below w1.heap.size w1 V) => (g.cell (p := ⟨b, o + j * 4, none⟩) hB).trans e0
    have C1 := Lib.hid fun V (g : Below w1.heap.size w1 V) => (g.cell (p := ⟨b, o + j * 4 + 1, none⟩) hB).trans e1
    have KL := Lib.hid fun V (g : Below w1.heap.size w1 V) => Wsa.sameLines_same (w := V) (v := .slice a2 L'.length c2) (v' := .slice la L'.length lc) (D := L') (by omega) (h1.stepAt g) (HSL.out.stepAt g)
    have KT := Lib.hid fun V (g : Below w1.heap.size w1 V) => by
      have := sameTextsL_any (.slice a3 N'.length c3) (.slice na N'.length nc) N' N' V (by omega) (by omega) (h2.stepAt g) (HSN.out.stepAt g)
      rwa [decide_eq_true rfl] at this
    have j1 : (j : Int) < (E.length : Int) := by omega
    clear hc hxy hx hh h1 h2 e0 e1
    go_wp2_with fail
    refine (KS.out _ HB2.out).mono ?_
    rintro e w3 ⟨rfl, hb3⟩
    have B3 := Lib.hid (HB2.out.trans (hb3.mono HB2.out.size))
    have f0 := C0.out _ B3.out
    clear hb3
    go_wp2_with fail
    refine (KL.out _ B3.out).mono ?_
    rintro e w4 ⟨rfl, hb4⟩
    have B4 := Lib.hid (B3.out.trans (hb4.mono B3.out.size))
    have f1 := C1.out _ B4.out
    clear hb4 f0
    go_wp2_with fail
    refine (KT.out _ B4.out).mono ?_
    rintro e w5 ⟨rfl, hb5⟩
    have b5 := B4.out.trans (hb5.mono B4.out.size)
    clear hb5 f1
    go_wp2_with fail
    refine (KA.out _).mono ?_
    rintro e w6 ⟨rfl, hb6⟩
    have b7 := Lib.hid (HB1.out.trans ((b5.trans (hb6.mono b5.size)).mono HB1.out.size))
    clear b5 hb6
    go_wp2_with fail
    go_ret
    exact ⟨rfl, b7.out⟩

set_option maxHeartbeats 1000000 in
theorem long (a : Option Addr) (len cap : Nat) (w : World) (hl : 1048576 < len) :
    Calls Try.prog 10 #[.slice a len cap] w fun e w' => e = .returned (.bool true) ∧ Below w.heap.size w w' := by
  go_enter Try.func10, Try.ntmps10
  go_wp2
  go_ret
  exact ⟨rfl, Below.refl _ _⟩
theorem walk (a : Option Addr) (len cap : Nat) (w : World) (h : CodeIn w a len cap) :
    Calls Try.prog 10 #[.slice a len cap] w fun e w' => e = .returned (.bool true) ∧ Below w.heap.size w w' := by
  by_cases hl : len ≤ 1048576
  · exact short a len cap w h hl
  · exact long a len cap w (by omega)
end Pkf

set_option maxRecDepth 100000 in
theorem keptFind_holds : Rows.FnKeptFindSaid :=
  OpenClaim.holds_of_wide 10 Try.f10 rfl rfl rfl rfl rfl rfl rfl ⟨rfl, rfl, rfl, rfl, rfl⟩ rfl rfl rfl rfl rfl (by kernel_rfl) Try.func10 (by kernel_rfl)
    (of_decide_eq_true (by kernel_rfl)) (by unfold Func.isWrapper; rw [if_neg (by decide +kernel)]; exact ⟨rfl, rfl⟩)
    (fun os started H enc _ => law_lifted (s := Rows.fnKeptFindSpec) (tb := 4) own started laid (by kernel_rfl) Try.func10 rfl (by kernel_rfl) Try.underlying4 (by kernel_rfl)
      (fun ds h => by rw [Try.params10] at h; match ds, h with | [_], _ => rfl)
      (ChangeSpec.witness6 (enc := enc) (C := Try.checked) false ⟨#[], #[.slice none 0 0], []⟩ 8 (by kernel_rfl) (by kernel_rfl) (by kernel_rfl) (by kernel_rfl))
      (law_code Try.params10 Pkf.walk))
#print axioms keptFind_holds
end Go.Proofs.Ytopplljilmjjgaa
