/- At every code the law FnScriptOk returns true: the program and the model agree on the drawn script, no lines are a script for no inputs and none for fewer, and a script is one for one input more. No condition. -/
import Derived.Test.YtfmidekffcjbgaaDrd
namespace Go.Proofs.Ytfmidekffcjbgaa
open Go.ChangeShapes Go.WideShapes Go.ChangeAt Go.RowKit Go.Joins Go.Sort
namespace Psc
open Drm Rx
theorem lOk_more {x : Ln} {ins : Int} (h : lOk x ins = true) : lOk x (ins + 1) = true := by
  have h' : LOk x ins := of_decide_eq_true h
  apply decide_eq_true
  rcases h' with h | h | h | h | h
  · exact .inl ⟨h.1, h.2.1, by have := h.2.2.1; omega, h.2.2.2⟩
  · exact .inr (.inl h)
  · exact .inr (.inr (.inl ⟨h.1, h.2.1, by have := h.2.2.1; omega, h.2.2.2⟩))
  · exact .inr (.inr (.inr (.inl h)))
  · exact .inr (.inr (.inr (.inr h)))
theorem scOk_more {S : List Ln} {ins : Int} (h : scOk S ins = true) (h5 : ins < 5) : scOk S (ins + 1) = true := by
  unfold scOk at h ⊢
  simp only [Bool.and_eq_true, decide_eq_true_eq, List.all_eq_true] at h ⊢
  exact ⟨⟨h.1.1, by omega⟩, fun x hx => lOk_more (h.2 x hx)⟩

set_option maxRecDepth 100000 in
set_option maxHeartbeats 4000000 in
theorem short (a : Option Addr) (len cap : Nat) (w : World) (h : CodeIn w a len cap) (hl : len ≤ 1048576) :
    Calls Try.prog 3 #[.slice a len cap] w fun e w' => e = .returned (.bool true) ∧ Below w.heap.size w w' := by
  go_enter Try.func3, Try.ntmps3
  go_wp2_with fail
  refine (DrawScriptOk_any a len cap w h).mono ?_
  rintro e w1 ⟨S, ins, v, rfl, hat, hlS, hqS, hi0, hi1, hb1⟩
  have hq' : ∀ q ∈ S, q.2.2.2.size ≤ 1048576 := fun q hq => Nat.le_trans (hqS q hq) (by omega)
  have KI := Lib.hid (fun V (g : Below w1.heap.size w1 V) => implScriptOk_any v S ins V (by omega) hq' (hat.stepAt g))
  have KS := Lib.hid (fun V (g : Below w1.heap.size w1 V) => specScriptOk_any v S ins V (by omega) hq' (hat.stepAt g))
  have KM := Lib.hid (fun V (g : Below w1.heap.size w1 V) => implScriptOk_any v S (ins + 1) V (by omega) hq' (hat.stepAt g))
  have K0 : Hid (∀ V, Calls Try.prog 11 #[.slice none 0 0, .int .i64 0] V fun e w' => e = .returned (.bool true) ∧ Below V.heap.size V w') := Lib.hid fun V => implScriptOk_any _ [] 0 V (by simp) (by simp) ⟨none, 0, rfl, .inl rfl⟩
  have K1 : Hid (∀ V, Calls Try.prog 11 #[.slice none 0 0, .int .i64 (-1)] V fun e w' => e = .returned (.bool false) ∧ Below V.heap.size V w') := Lib.hid fun V => implScriptOk_any _ [] (-1) V (by simp) (by simp) ⟨none, 0, rfl, .inl rfl⟩
  obtain ⟨va, vc, rfl, xx⟩ := id hat
  have HM := Lib.hid (fun h1 h2 => scOk_more (S := S) (ins := ins) h1 h2)
  clear xx hat hqS hq'
  rcases hk : scOk S ins
  · rw [hk] at KI KS
    clear hk HM KM
    go_wp2_with fail
    refine (KI.out _ (Below.refl _ _)).mono ?_
    rintro e w2 ⟨rfl, hb2⟩
    go_wp2_with fail
    refine (KS.out _ hb2).mono ?_
    rintro e w3 ⟨rfl, hb3⟩
    have b3 := hb2.trans (hb3.mono hb2.size)
    clear hb2 hb3
    go_wp2_with fail
    refine (K0.out _).mono ?_
    rintro e w4 ⟨rfl, hb4⟩
    have b4 := b3.trans (hb4.mono b3.size)
    clear b3 hb4
    go_wp2_with fail
    refine (K1.out _).mono ?_
    rintro e w5 ⟨rfl, hb5⟩
    have b5 := hb1.trans ((b4.trans (hb5.mono b4.size)).mono hb1.size)
    clear b4 hb5
    go_wp2_with fail
    go_ret
    exact ⟨rfl, b5⟩
  · rw [hk] at KI KS
    by_cases h5 : 5 ≤ ins
    · clear hk HM KM
      go_wp2_with fail
      refine (KI.out _ (Below.refl _ _)).mono ?_
      rintro e w2 ⟨rfl, hb2⟩
      go_wp2_with fail
      refine (KS.out _ hb2).mono ?_
      rintro e w3 ⟨rfl, hb3⟩
      have b3 := hb2.trans (hb3.mono hb2.size)
      clear hb2 hb3
      go_wp2_with fail
      refine (K0.out _).mono ?_
      rintro e w4 ⟨rfl, hb4⟩
      have b4 := b3.trans (hb4.mono b3.size)
      clear b3 hb4
      go_wp2_with fail
      refine (K1.out _).mono ?_
      rintro e w5 ⟨rfl, hb5⟩
      have b5 := hb1.trans ((b4.trans (hb5.mono b4.size)).mono hb1.size)
      clear b4 hb5
      go_wp2_with fail
      go_ret
      exact ⟨rfl, b5⟩
    · rw [HM.out hk (by omega)] at KM
      clear hk HM
      go_wp2_with fail
      refine (KI.out _ (Below.refl _ _)).mono ?_
      rintro e w2 ⟨rfl, hb2⟩
      go_wp2_with fail
      refine (KS.out _ hb2).mono ?_
      rintro e w3 ⟨rfl, hb3⟩
      have b3 := hb2.trans (hb3.mono hb2.size)
      clear hb2 hb3
      go_wp2_with fail
      refine (K0.out _).mono ?_
      rintro e w4 ⟨rfl, hb4⟩
      have b4 := b3.trans (hb4.mono b3.size)
      clear b3 hb4
      go_wp2_with fail
      refine (K1.out _).mono ?_
      rintro e w5 ⟨rfl, hb5⟩
      have b5 := b4.trans (hb5.mono b4.size)
      clear b4 hb5
      go_wp2_with fail
      refine (KM.out _ b5).mono ?_
      rintro e w6 ⟨rfl, hb6⟩
      have b6 := hb1.trans ((b5.trans (hb6.mono b5.size)).mono hb1.size)
      clear b5 hb6
      go_wp2_with fail
      go_ret
      exact ⟨rfl, b6⟩

set_option maxHeartbeats 1000000 in
theorem long (a : Option Addr) (len cap : Nat) (w : World) (hl : 1048576 < len) :
    Calls Try.prog 3 #[.slice a len cap] w fun e w' => e = .returned (.bool true) ∧ Below w.heap.size w w' := by
  go_enter Try.func3, Try.ntmps3
  go_wp2
  go_ret
  exact ⟨rfl, Below.refl _ _⟩
theorem walk (a : Option Addr) (len cap : Nat) (w : World) (h : CodeIn w a len cap) :
    Calls Try.prog 3 #[.slice a len cap] w fun e w' => e = .returned (.bool true) ∧ Below w.heap.size w w' := by
  by_cases hl : len ≤ 1048576
  · exact short a len cap w h hl
  · exact long a len cap w (by omega)
end Psc

set_option maxRecDepth 100000 in
theorem scriptOk_holds : Rows.FnScriptOkSaid :=
  OpenClaim.holds_of_wide 3 Try.f3 rfl rfl rfl rfl rfl rfl rfl ⟨rfl, rfl, rfl, rfl, rfl⟩ rfl rfl rfl rfl rfl (by kernel_rfl) Try.func3 (by kernel_rfl)
    (of_decide_eq_true (by kernel_rfl)) (by unfold Func.isWrapper; rw [if_neg (by decide +kernel)]; exact ⟨rfl, rfl⟩)
    (fun os started H enc _ => law_lifted (s := Rows.fnScriptOkSpec) (tb := 4) own started laid (by kernel_rfl) Try.func3 rfl (by kernel_rfl) Try.underlying4 (by kernel_rfl)
      (fun ds h => by rw [Try.params3] at h; match ds, h with | [_], _ => rfl)
      (ChangeSpec.witness6 (enc := enc) (C := Try.checked) false ⟨#[], #[.slice none 0 0], []⟩ 8 (by kernel_rfl) (by kernel_rfl) (by kernel_rfl) (by kernel_rfl))
      (law_code Try.params3 Psc.walk))
#print axioms scriptOk_holds
end Go.Proofs.Ytfmidekffcjbgaa
