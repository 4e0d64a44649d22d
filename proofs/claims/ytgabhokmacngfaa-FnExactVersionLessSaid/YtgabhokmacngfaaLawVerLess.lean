/- At every two versions the law FnExactVersionLess returns true: VersionLess of the program answers as VersionLess of the model. No condition. -/
import Derived.Test.YtgabhokmacngfaaOpenVer
import Derived.Test.YtgabhokmacngfaaVless
namespace Go.Proofs.Ytgabhokmacngfaa
open Go.ChangeShapes Go.WideShapes Go.ChangeAt Go.RowKit Go.Joins

set_option maxHeartbeats 1000000 in
theorem exactVersionLess_walk (a b c d a' b' c' d' : Int) (w : World) :
    Calls Try.prog 6 #[ver a b c d, ver a' b' c' d'] w fun e w' => e = .returned (.bool true) ∧ Below w.heap.size w w' := by
  have v1 := (verAt_new w a b c d 23).below ((Below.refl _ _).alloc (Nat.le_refl _) (.cells #[.int .i64 a', .int .i64 b', .int .i64 c', .int .i64 d'] 23)) (by simp)
  have v2 := verAt_new (w.alloc (.cells #[.int .i64 a, .int .i64 b, .int .i64 c, .int .i64 d] 23)) a' b' c' d' 23
  rw [show (w.alloc (.cells #[.int .i64 a, .int .i64 b, .int .i64 c, .int .i64 d] 23)).heap.size = w.heap.size + 1 from by simp] at v2
  obtain ⟨k0, k1, k2, k3⟩ := v1.grown
  obtain ⟨l0, l1, l2, l3⟩ := v2.grown
  go_enter Try.func6, Try.ntmps6
  go_wp2_with fail
  refine wp_region_quiet_below (by kernel_rfl) (by kernel_rfl) ?_
  repeat (any_goals (first | go_big_quiet_step ((first | (go_at_call 10; exact Calls.regrown_of (toVersion_any _ _ _ _ _)) | (go_at_call 17; exact Calls.regrown_of (specLess_any _ _ _ _ _ _ _ _ _)))) | quiet_step ((first | (go_at_call 10; exact Calls.regrown_of (toVersion_any _ _ _ _ _)) | (go_at_call 17; exact Calls.regrown_of (specLess_any _ _ _ _ _ _ _ _ _))))))
  refine wpQuiet_nil ?_
  intro W1 hw
  have hb := quiet_end hw
  clear hw k0 k1 k2 k3 l0 l1 l2 l3
  have hz : w.heap.size + 2 ≤ W1.heap.size := by have := hb.size; simp at this; omega
  have w1 := v1.below hb (by simp; omega)
  have w2 := v2.below hb (by simp)
  obtain ⟨k0, k1, k2, k3⟩ := w1.grown
  obtain ⟨l0, l1, l2, l3⟩ := w2.grown
  go_wp2_with fail
  refine wp_region_quiet_below (by kernel_rfl) (by kernel_rfl) ?_
  repeat (any_goals (first | go_big_quiet_step ((first | (go_at_call 10; exact Calls.regrown_of (toVersion_any _ _ _ _ _)) | (go_at_call 18; exact Calls.regrown_of (implLess_any _ _ _ _ _ _ _ _ _)))) | quiet_step ((first | (go_at_call 10; exact Calls.regrown_of (toVersion_any _ _ _ _ _)) | (go_at_call 18; exact Calls.regrown_of (implLess_any _ _ _ _ _ _ _ _ _))))))
  refine wpQuiet_nil ?_
  intro W2 hw
  have hb2 := quiet_end hw
  clear hw k0 k1 k2 k3 l0 l1 l2 l3
  go_wp2
  go_ret
  exact ⟨rfl, (((Below.refl _ _).alloc (Nat.le_refl _) _).alloc (by simp) _).trans ((hb.mono (by simp; omega)).trans (hb2.mono (by omega)))⟩

theorem exactVersionLess_law : LawWalk Try.prog 6 Try.f6 := by
  intro H enc W base args ds ps hval hA
  rw [Try.params6] at hA hval
  obtain ⟨v0, vs, d0, es, p0, q0, hargs, rfl, rfl, h0, r0⟩ := trodAll_cons hA
  obtain ⟨v1, vs1, d1, es1, p1, q1, rfl, rfl, rfl, h1, r1⟩ := trodAll_cons r0
  obtain ⟨rfl, rfl, rfl⟩ := trodAll_nil r1
  obtain rfl : args = #[v0, v1] := by cases args; simp_all
  obtain ⟨a, b, c, d, rfl⟩ := open_ver (hval 0 _ v0 rfl rfl) h0
  obtain ⟨a', b', c', d', rfl⟩ := open_ver (hval 1 _ v1 rfl rfl) h1
  exact exactVersionLess_walk a b c d a' b' c' d' W

theorem exactVersionLess_holds : Rows.FnExactVersionLessSaid :=
  OpenClaim.holds_of_wide 6 Try.f6 rfl rfl rfl rfl rfl rfl rfl ⟨rfl, rfl, rfl, rfl, rfl⟩ rfl rfl rfl rfl rfl (by kernel_rfl) Try.func6 (by kernel_rfl)
    (of_decide_eq_true (by kernel_rfl)) (by unfold Func.isWrapper; rw [if_neg (by decide +kernel)]; exact ⟨rfl, rfl⟩)
    (fun os started H enc _ => law_lifted (s := Rows.fnExactVersionLessSpec) (tb := 4) own started laid (by kernel_rfl) Try.func6 rfl (by kernel_rfl) Try.underlying4 (by kernel_rfl)
      (fun ds h => by rw [Try.params6] at h; match ds, h with | [_, _], _ => rfl)
      (ChangeSpec.witness6 (enc := enc) (C := Try.checked) false ⟨#[], #[ver 0 0 0 0, ver 0 0 0 0], []⟩ 8 (by kernel_rfl) (by kernel_rfl) (by kernel_rfl) (by kernel_rfl))
      exactVersionLess_law)
#print axioms exactVersionLess_holds
end Go.Proofs.Ytgabhokmacngfaa
