/- At every version the law FnExactVersionText returns true: VersionText of the program answers as VersionText of the model. No condition. -/
import Derived.Test.YtgabhokmacngfaaOpenVer
import Derived.Test.YtgabhokmacngfaaVtext
import Derived.Test.YtgabhokmacngfaaVeq
namespace Go.Proofs.Ytgabhokmacngfaa
open Go.ChangeShapes Go.WideShapes Go.ChangeAt Go.RowKit Go.Joins

set_option maxHeartbeats 400000 in
theorem exactVersionText_walk (a b c d : Int) (w : World) :
    Calls Try.prog 7 #[ver a b c d] w fun e w' => e = .returned (.bool true) ∧ Below w.heap.size w w' := by
  have hB : w.heap.size + 1 ≤ (w.alloc (.cells #[.int .i64 a, .int .i64 b, .int .i64 c, .int .i64 d] 23)).heap.size := by simp
  have hb := Below.refl (w.heap.size + 1) (w.alloc (.cells #[.int .i64 a, .int .i64 b, .int .i64 c, .int .i64 d] 23))
  go_enter Try.func7, Try.ntmps7
  go_wp2_with (first | (go_at_call 10; refine (rel hB hb (toVersion_any _ _ _ _ _)).mono ?_; clear hb; rintro e w' ⟨rfl, hb⟩; have hc := cells_of hb) | (go_at_call 19; refine (rel hB hb (specText_any _ _ _ _ _)).mono ?_; clear hc hb; rintro e w' ⟨rfl, hb⟩; have hc := cells_of hb) | (go_at_call 20; refine (rel hB hb (implText_any _ _ _ _ _)).mono ?_; clear hc hb; rintro e w' ⟨rfl, hb⟩; have hc := cells_of hb))
  go_ret
  exact ⟨rfl, ((Below.refl _ _).alloc (Nat.le_refl _) _).trans (hb.mono (by simp))⟩

theorem exactVersionText_law : LawWalk Try.prog 7 Try.f7 := by
  intro H enc W base args ds ps hval hA
  rw [Try.params7] at hA hval
  obtain ⟨v0, vs, d0, es, p0, q0, hargs, rfl, rfl, h0, r0⟩ := trodAll_cons hA
  obtain ⟨rfl, rfl, rfl⟩ := trodAll_nil r0
  obtain rfl : args = #[v0] := by cases args; simp_all
  obtain ⟨a, b, c, d, rfl⟩ := open_ver (hval 0 _ v0 rfl rfl) h0
  exact exactVersionText_walk a b c d W

theorem exactVersionText_holds : Rows.FnExactVersionTextSaid :=
  OpenClaim.holds_of_wide 7 Try.f7 rfl rfl rfl rfl rfl rfl rfl ⟨rfl, rfl, rfl, rfl, rfl⟩ rfl rfl rfl rfl rfl (by kernel_rfl) Try.func7 (by kernel_rfl)
    (of_decide_eq_true (by kernel_rfl)) (by unfold Func.isWrapper; rw [if_neg (by decide +kernel)]; exact ⟨rfl, rfl⟩)
    (fun os started H enc _ => law_lifted (s := Rows.fnExactVersionTextSpec) (tb := 4) own started laid (by kernel_rfl) Try.func7 rfl (by kernel_rfl) Try.underlying4 (by kernel_rfl)
      (fun ds h => by rw [Try.params7] at h; match ds, h with | [_], _ => rfl)
      (ChangeSpec.witness6 (enc := enc) (C := Try.checked) false ⟨#[], #[ver 0 0 0 0], []⟩ 8 (by kernel_rfl) (by kernel_rfl) (by kernel_rfl) (by kernel_rfl))
      exactVersionText_law)
#print axioms exactVersionText_holds
end Go.Proofs.Ytgabhokmacngfaa
