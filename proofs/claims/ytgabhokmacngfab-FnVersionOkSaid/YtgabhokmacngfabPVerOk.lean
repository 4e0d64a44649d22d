/- At every code the law FnVersionOk returns true: the program and the model agree on the drawn version, the greatest version is one, and one more of a number makes it none. No condition. -/
import Derived.Test.YtgabhokmacngfabDdraw
namespace Go.Proofs.Ytgabhokmacngfab
open Go.ChangeShapes Go.WideShapes Go.ChangeAt Go.RowKit Go.Joins Go.Sort

set_option maxHeartbeats 1000000 in
theorem versionOk_short (a : Option Addr) (len cap : Nat) (w : World) (h : CodeIn w a len cap) (hl : len ≤ 1048576) :
    Calls Try.prog 3 #[.slice a len cap] w fun e w' => e = .returned (.bool true) ∧ Below w.heap.size w w' := by
  go_enter Try.func3, Try.ntmps3
  go_wp2_with fail
  refine (DrawVersionOk_any a len cap w h).mono ?_
  rintro e w1 ⟨x, y, z, u, rfl, hb1⟩
  have z1 := hb1.size
  have A := Lib.hid fun V => implOk_any x y z u V
  have B := Lib.hid fun V => specOk_any x y z u V
  generalize vOk x y z u = k at *
  have C : Hid (∀ V, Calls Try.prog 10 #[ver 99 0 0 9] V fun e w' => e = .returned (.bool true) ∧ Below V.heap.size V w') := Lib.hid fun V => implOk_any 99 0 0 9 V
  have D : Hid (∀ V, Calls Try.prog 10 #[ver x y 100 u] V fun e w' => e = .returned (.bool false) ∧ Below V.heap.size V w') := Lib.hid fun V => by
    have := implOk_any x y 100 u V
    rwa [show vOk x y 100 u = false from by simp [vOk, inB]] at this
  have v1 := verAt_new w1 x y z u 24
  have v1' := v1.below ((Below.refl _ _).alloc (Nat.le_refl _) (.cells #[.int .i64 x, .int .i64 y, .int .i64 100, .int .i64 u] 24)) (by simp)
  have v2 := verAt_new (w1.alloc (.cells #[.int .i64 x, .int .i64 y, .int .i64 z, .int .i64 u] 24)) x y 100 u 24
  rw [show (w1.alloc (.cells #[.int .i64 x, .int .i64 y, .int .i64 z, .int .i64 u] 24)).heap.size = w1.heap.size + 1 from by simp] at v2
  obtain ⟨k0, k1, k2, k3⟩ := v1'.grown
  obtain ⟨l0, l1, l2, l3⟩ := v2.grown
  go_wp2_with fail
  refine wp_region_quiet_below (by kernel_rfl) (by kernel_rfl) ?_
  repeat (any_goals (first | go_big_quiet_step ((first | (go_at_call 11; exact Calls.regrown_of (B.out _)) | (go_at_call 10; with_reducible exact Calls.regrown_of (A.out _)) | (go_at_call 10; with_reducible exact Calls.regrown_of (C.out _)) | (go_at_call 10; with_reducible exact Calls.regrown_of (D.out _)))) | quiet_step ((first | (go_at_call 11; exact Calls.regrown_of (B.out _)) | (go_at_call 10; with_reducible exact Calls.regrown_of (A.out _)) | (go_at_call 10; with_reducible exact Calls.regrown_of (C.out _)) | (go_at_call 10; with_reducible exact Calls.regrown_of (D.out _))))))
  refine wpQuiet_nil ?_
  intro W2 hw
  have hb := quiet_end hw
  clear hw k0 k1 k2 k3 l0 l1 l2 l3
  go_wp2
  go_ret
  exact ⟨rfl, hb1.trans ((((Below.refl _ _).alloc z1 _).alloc (by simp; omega) _).trans (hb.mono (by simp; omega)))⟩

set_option maxHeartbeats 1000000 in
theorem versionOk_long (a : Option Addr) (len cap : Nat) (w : World) (hl : 1048576 < len) :
    Calls Try.prog 3 #[.slice a len cap] w fun e w' => e = .returned (.bool true) ∧ Below w.heap.size w w' := by
  go_enter Try.func3, Try.ntmps3
  go_wp2
  go_ret
  exact ⟨rfl, Below.refl _ _⟩

theorem versionOk_walk (a : Option Addr) (len cap : Nat) (w : World) (h : CodeIn w a len cap) :
    Calls Try.prog 3 #[.slice a len cap] w fun e w' => e = .returned (.bool true) ∧ Below w.heap.size w w' := by
  by_cases hl : len ≤ 1048576
  · exact versionOk_short a len cap w h hl
  · exact versionOk_long a len cap w (by omega)

theorem versionOk_holds : Rows.FnVersionOkSaid :=
  OpenClaim.holds_of_wide 3 Try.f3 rfl rfl rfl rfl rfl rfl rfl ⟨rfl, rfl, rfl, rfl, rfl⟩ rfl rfl rfl rfl rfl (by kernel_rfl) Try.func3 (by kernel_rfl)
    (of_decide_eq_true (by kernel_rfl)) (by unfold Func.isWrapper; rw [if_neg (by decide +kernel)]; exact ⟨rfl, rfl⟩)
    (fun os started H enc _ => law_lifted (s := Rows.fnVersionOkSpec) (tb := 4) own started laid (by kernel_rfl) Try.func3 rfl (by kernel_rfl) Try.underlying4 (by kernel_rfl)
      (fun ds h => by rw [Try.params3] at h; match ds, h with | [_], _ => rfl)
      (ChangeSpec.witness6 (enc := enc) (C := Try.checked) false ⟨#[], #[.slice none 0 0], []⟩ 8 (by kernel_rfl) (by kernel_rfl) (by kernel_rfl) (by kernel_rfl))
      (law_code Try.params3 versionOk_walk))
#print axioms versionOk_holds

end Go.Proofs.Ytgabhokmacngfab
