/- At every code the law FnWorldNeeds returns true: the program and the model tell the same of what the drawn target needs; what is needed needs nothing more, and the target itself is the last one. No condition. -/
import Derived.Test.YtcibjicgfhgomaaDwd
import Derived.Test.YtcibjicgfhgomaaWnf
import Derived.Test.YtcibjicgfhgomaaRxw
namespace Go.Proofs.Ytcibjicgfhgomaa
open Go.ChangeShapes Go.WideShapes Go.ChangeAt Go.RowKit Go.Joins Go.Sort
namespace Pwn
open Drm Dtg Tg Wl Wn Rxw

theorem in_step {N : List Int} {v : Value} {W W' : World} (h : InAt W W.heap.size v N) (hb : Below W.heap.size W W') : InAt W' W'.heap.size v N := by
  obtain ⟨a, c, rfl, hh⟩ := h
  refine ⟨a, c, rfl, ?_⟩
  rcases hh with hh | ⟨b, o, rfl, hB, hc⟩
  · exact .inl hh
  · exact .inr ⟨b, o, rfl, Nat.lt_of_lt_of_le hB hb.size, fun i hi => (hb.cell (p := ⟨b, o + i, none⟩) hB).trans (hc i hi)⟩

set_option maxRecDepth 100000 in
set_option maxHeartbeats 8000000 in
theorem short (a : Option Addr) (len cap : Nat) (w : World) (h : CodeIn w a len cap) (hl : len ≤ 1048576) :
    Calls Try.prog 9 #[.slice a len cap] w fun e w' => e = .returned (.bool true) ∧ Below w.heap.size w w' := by
  go_enter Try.func9, Try.ntmps9
  go_wp2_with fail
  refine (DrawWorldNeeds_any a len cap w h).mono ?_
  rintro e w1 ⟨S, va, vc, k, rfl, _, hat, hlS, hsm, hb1⟩
  have hp := sm_par hsm
  have KI := Lib.hid (fun V (x : Int) (g : Below w1.heap.size w1 V) => implNeeds_any _ S x V (by omega) hp (hat.stepAt g))
  have KS := Lib.hid (fun V (g : Below w1.heap.size w1 V) => specNeeds_any _ S k V (by omega) hp (hat.stepAt g))
  have KA := Lib.hid alive_any
  have HB1 := Lib.hid hb1
  have HNL := Lib.hid (fun x : Int => show (needsL S x).length ≤ 1048576 from Nat.le_trans (needsL_len S x) (by omega))
  have HTR := Lib.hid (fun (x y : Int) (hx : x ∈ needsL S k) (hy : y ∈ needsL S x) => needs_trans hx hy)
  have HLA := Lib.hid (fun (hne : needsL S k ≠ []) => needs_last hne)
  clear hat hsm hp hb1
  go_wp2_with fail
  refine (KI.out _ k (Below.refl _ _)).mono ?_
  rintro e w2 ⟨v2, rfl, hi2, hb2⟩
  obtain ⟨ga, gc, rfl, xx⟩ := id hi2
  have HM2 := Lib.hid hi2.at
  clear hi2 xx
  go_wp2_with fail
  refine (KS.out _ hb2).mono ?_
  rintro e w3 ⟨v3, rfl, hi3, hb3⟩
  obtain ⟨ha, hc, rfl, xx⟩ := id hi3
  have HM23 := Lib.hid (in_step HM2.out hb3)
  have HM3 := Lib.hid hi3.at
  have b3 := hb2.trans (hb3.mono hb2.size)
  clear hi3 xx hb2 hb3 HM2 KS
  go_wp2_with fail
  refine (sameInts_same (HNL.out k) HM23.out HM3.out).mono ?_
  rintro e w4 ⟨rfl, hb4⟩
  have HM4 := Lib.hid (in_step HM23.out hb4)
  have b4 := b3.trans (hb4.mono b3.size)
  clear hb4 b3 HM3 HM23
  have HLN : Hid (∃ N : List Int, needsL S k = N) := Lib.hid ⟨_, rfl⟩
  obtain ⟨N, hN⟩ := HLN.out
  have HNN := Lib.hid (show N.length ≤ 1048576 from by rw [← hN]; exact HNL.out k)
  have HL2 := Lib.hid (show N ≠ [] → ∃ X, N = X ++ [k] from fun hh => by rw [← hN] at hh ⊢; exact HLA.out hh)
  have HT2 := Lib.hid (show ∀ x y : Int, x ∈ N → y ∈ needsL S x → y ∈ N from fun x y hx hy => by rw [← hN] at hx ⊢; exact HTR.out x y hx hy)
  rw [hN] at HM4 ⊢
  clear hN HLN HLA HTR
  have KH : Hid (∀ V x, x ∈ N → InAt V V.heap.size (.slice ga N.length gc) N → Calls Try.prog 38 #[.slice ga N.length gc, .int .i64 x] V fun e w' => e = .returned (.bool true) ∧ Below V.heap.size V w') := Lib.hid fun V x hx g => by
    have := hasInt_any _ N x V HNN.out g
    rwa [decide_eq_true hx] at this
  have HB4 := Lib.hid b4
  have hNL : N.length ≤ 1048576 := HNN.out
  clear b4
  go_wp2_with fail
  go_loopw [6] (fun i wr => ∃ q : Nat, q ≤ N.length ∧ i = .int .i64 (q : Int) ∧ Below w4.heap.size w4 wr) (fun i _ => N.length - (intOf i).toNat)
  case atStart => exact ⟨0, Nat.zero_le _, rfl, Below.refl _ _⟩
  case round =>
    obtain ⟨q, hq, rfl, hb⟩ := hrel
    by_cases hlt : q < N.length
    · obtain ⟨a1, c1, e1, hS⟩ := HM4.out
      simp only [Value.slice.injEq] at e1
      obtain ⟨rfl, _, rfl⟩ := e1
      rcases hS with hx | ⟨b, o, rfl, hB, hc1⟩
      · subst hx
        exact absurd hlt (by simp)
      obtain ⟨x, hx⟩ : ∃ x, N[q] = x := ⟨_, rfl⟩
      have k0 := (hb.cell (p := ⟨b, o + q, none⟩) hB).trans (hc1 q hlt)
      rw [hx] at k0
      have HXM := Lib.hid (show x ∈ N from by rw [← hx]; exact List.getElem_mem hlt)
      clear hx hc1
      have bb := HB4.out.trans (hb.mono HB4.out.size)
      have jI0 : (0 : Int) ≤ (q : Int) := by omega
      have jI1 : (q : Int) < (N.length : Int) := by omega
      have KX := Lib.hid (KI.out wr x bb)
      have HHB := Lib.hid hb
      clear hb bb
      go_wp2_with fail
      refine KX.out.mono ?_
      rintro e w5 ⟨v5, rfl, hi5, hb5⟩
      obtain ⟨ia, ic, rfl, xx⟩ := id hi5
      have HI5 := Lib.hid hi5.at
      have HB5 := Lib.hid (HHB.out.trans (hb5.mono HHB.out.size))
      clear hi5 xx hb5 HHB k0 KX
      have HIN := Lib.hid (fun y (hy : y ∈ needsL S x) => HT2.out x y HXM.out hy)
      obtain ⟨P, hP⟩ : ∃ P, needsL S x = P := ⟨_, rfl⟩
      have hPL : P.length ≤ 1048576 := by rw [← hP]; exact HNL.out x
      rw [hP] at HI5 HIN ⊢
      clear hP
      obtain ⟨z5, hz5⟩ : ∃ z5, w5.heap.size = z5 := ⟨_, rfl⟩
      go_wp2_with fail
      go_loopw [8] (fun i wr => ∃ p : Nat, p ≤ P.length ∧ i = .int .i64 (p : Int) ∧ Below w5.heap.size w5 wr) (fun i _ => P.length - (intOf i).toNat)
      case atStart => exact ⟨0, Nat.zero_le _, rfl, Below.refl _ _⟩
      case round =>
        rename World => wx
        obtain ⟨p, hp, rfl, hb⟩ := hrel
        by_cases hpl : p < P.length
        · obtain ⟨a2, c2, e2, hS2⟩ := HI5.out
          simp only [Value.slice.injEq] at e2
          obtain ⟨rfl, _, rfl⟩ := e2
          rcases hS2 with hx | ⟨b2, o2, rfl, hB2, hc2⟩
          · subst hx
            exact absurd hpl (by simp)
          obtain ⟨y, hy⟩ : ∃ y, P[p] = y := ⟨_, rfl⟩
          have k1 := (hb.cell (p := ⟨b2, o2 + p, none⟩) hB2).trans (hc2 p hpl)
          rw [hy] at k1
          have HYM := Lib.hid (show y ∈ N from HIN.out y (by rw [← hy]; exact List.getElem_mem hpl))
          clear hy hc2
          have bb := HB5.out.trans (hb.mono HB5.out.size)
          have HIW := Lib.hid (in_step HM4.out bb)
          have HHB := Lib.hid hb
          have pI0 : (0 : Int) ≤ (p : Int) := by omega
          have pI1 : (p : Int) < (P.length : Int) := by omega
          clear hb bb
          go_wp2_with fail
          refine (KH.out _ y HYM.out HIW.out).mono ?_
          rintro e w6 ⟨rfl, hb6⟩
          have HB6 := Lib.hid (HHB.out.trans (hb6.mono HHB.out.size))
          clear hb6 HHB HIW
          go_wp2_with fail
          go_roundw
          case rel => exact ⟨p + 1, by omega, by go_num, HB6.out⟩
          case measure => simp [intOf]; omega
        · obtain rfl : p = P.length := by omega
          have HHB := Lib.hid (HB5.out.trans (hb.mono HB5.out.size))
          clear hb
          go_wp2_with fail
          go_roundw
          case rel => exact ⟨q + 1, by omega, by go_num, HHB.out⟩
          case measure => simp [intOf]; omega
    · obtain rfl : q = N.length := by omega
      have bb := HB4.out.trans (hb.mono HB4.out.size)
      have HHB := Lib.hid hb
      clear hb
      rcases N with _ | ⟨n0, N'⟩
      · clear HHB
        go_wp2_with fail
        refine (KA.out _).mono ?_
        rintro e w6 ⟨rfl, hb6⟩
        have b7 := Lib.hid (HB1.out.trans ((bb.trans (hb6.mono bb.size)).mono HB1.out.size))
        clear bb hb6
        go_wp2_with fail
        go_ret
        exact ⟨rfl, b7.out⟩
      · obtain ⟨X, hX⟩ := HL2.out (by simp)
        rw [hX] at HM4 ⊢
        obtain ⟨a1, c1, e1, hS⟩ := HM4.out
        simp only [Value.slice.injEq] at e1
        obtain ⟨rfl, _, rfl⟩ := e1
        rcases hS with hx | ⟨b, o, rfl, hB, hc1⟩
        · exact absurd hx (by simp)
        have k0 := (HHB.out.cell (p := ⟨b, o + X.length, none⟩) hB).trans (hc1 X.length (by simp))
        rw [List.getElem_append_right (Nat.le_refl _)] at k0
        simp only [Nat.sub_self, List.getElem_cons_zero] at k0
        have hlen : (X ++ [k]).length = X.length + 1 := by simp
        rw [hlen]
        have hz : (((X.length + 1 : Nat) : Int) == 0) = false := by rw [beq_eq_false_iff_ne]; omega
        have hXL : X.length ≤ 1048576 := by rw [hX] at hNL; omega
        have hs : (X.length : Int) + 1 - 1 = (X.length : Int) := by omega
        have hsw : wrap64 ((X.length : Int) + 1 - 1) = (X.length : Int) := by rw [hs]; unfold wrap64; omega
        have jI0 : (0 : Int) ≤ (X.length : Int) := by omega
        have jI1 : (X.length : Int) < (X.length : Int) + 1 := by omega
        clear HHB hc1
        go_wp2_with fail
        refine (KA.out _).mono ?_
        rintro e w6 ⟨rfl, hb6⟩
        have b7 := Lib.hid (HB1.out.trans ((bb.trans (hb6.mono bb.size)).mono HB1.out.size))
        clear bb hb6
        go_wp2_with fail
        go_ret
        exact ⟨rfl, b7.out⟩

set_option maxHeartbeats 1000000 in
theorem long (a : Option Addr) (len cap : Nat) (w : World) (hl : 1048576 < len) :
    Calls Try.prog 9 #[.slice a len cap] w fun e w' => e = .returned (.bool true) ∧ Below w.heap.size w w' := by
  go_enter Try.func9, Try.ntmps9
  go_wp2
  go_ret
  exact ⟨rfl, Below.refl _ _⟩
theorem walk (a : Option Addr) (len cap : Nat) (w : World) (h : CodeIn w a len cap) :
    Calls Try.prog 9 #[.slice a len cap] w fun e w' => e = .returned (.bool true) ∧ Below w.heap.size w w' := by
  by_cases hl : len ≤ 1048576
  · exact short a len cap w h hl
  · exact long a len cap w (by omega)
end Pwn

set_option maxRecDepth 100000 in
theorem needsP_holds : Rows.FnWorldNeedsSaid :=
  OpenClaim.holds_of_wide 9 Try.f9 rfl rfl rfl rfl rfl rfl rfl ⟨rfl, rfl, rfl, rfl, rfl⟩ rfl rfl rfl rfl rfl (by kernel_rfl) Try.func9 (by kernel_rfl)
    (of_decide_eq_true (by kernel_rfl)) (by unfold Func.isWrapper; rw [if_neg (by decide +kernel)]; exact ⟨rfl, rfl⟩)
    (fun os started H enc _ => law_lifted (s := Rows.fnWorldNeedsSpec) (tb := 4) own started laid (by kernel_rfl) Try.func9 rfl (by kernel_rfl) Try.underlying4 (by kernel_rfl)
      (fun ds h => by rw [Try.params9] at h; match ds, h with | [_], _ => rfl)
      (ChangeSpec.witness6 (enc := enc) (C := Try.checked) false ⟨#[], #[.slice none 0 0], []⟩ 8 (by kernel_rfl) (by kernel_rfl) (by kernel_rfl) (by kernel_rfl))
      (law_code Try.params9 Pwn.walk))
#print axioms needsP_holds
end Go.Proofs.Ytcibjicgfhgomaa
