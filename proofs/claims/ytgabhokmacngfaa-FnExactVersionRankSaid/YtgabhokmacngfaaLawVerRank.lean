/- At every version the law FnExactVersionRank returns true: VersionRank of the program answers as VersionRank of the model. No condition. -/
import Derived.Test.YtgabhokmacngfaaOpenVer
import Derived.Test.YtgabhokmacngfaaVeq
namespace Go.Proofs.Ytgabhokmacngfaa
open Go.ChangeShapes Go.WideShapes Go.ChangeAt Go.RowKit Go.Joins

set_option maxHeartbeats 400000 in
theorem exactVersionRank_walk (a b c d : Int) (w : World) :
    Calls Try.prog 4 #[ver a b c d] w fun e w' => e = .returned (.bool true) ∧ Below w.heap.size w w' := by
  have hB : w.heap.size + 1 ≤ (w.alloc (.cells #[.int .i64 a, .int .i64 b, .int .i64 c, .int .i64 d] 23)).heap.size := by simp
  have hb := Below.refl (w.heap.size + 1) (w.alloc (.cells #[.int .i64 a, .int .i64 b, .int .i64 c, .int .i64 d] 23))
  go_enter Try.func4, Try.ntmps4
  go_wp2_with (first | (go_at_call 10; refine (rel hB hb (toVersion_any _ _ _ _ _)).mono ?_; clear hb; rintro e w' ⟨rfl, hb⟩; have hc := cells_of hb) | (go_at_call 12; refine (rel hB hb (specRank_any _ _ _ _ _)).mono ?_; clear hc hb; rintro e w' ⟨rfl, hb⟩; have hc := cells_of hb) | (go_at_call 13; refine (rel hB hb (implRank_any _ _ _ _ _)).mono ?_; clear hc hb; rintro e w' ⟨rfl, hb⟩; have hc := cells_of hb))
  go_ret
  exact ⟨rfl, ((Below.refl _ _).alloc (Nat.le_refl _) _).trans (hb.mono (by simp))⟩

theorem exactVersionRank_law : LawWalk Try.prog 4 Try.f4 := by
  intro H enc W base args ds ps hval hA
  rw [Try.params4] at hA hval
  obtain ⟨v0, vs, d0, es, p0, q0, hargs, rfl, rfl, h0, r0⟩ := trodAll_cons hA
  obtain ⟨rfl, rfl, rfl⟩ := trodAll_nil r0
  obtain rfl : args = #[v0] := by cases args; simp_all
  obtain ⟨a, b, c, d, rfl⟩ := open_ver (hval 0 _ v0 rfl rfl) h0
  exact exactVersionRank_walk a b c d W

theorem exactVersionRank_holds : Rows.FnExactVersionRankSaid :=
  OpenClaim.holds_of_wide 4 Try.f4 rfl rfl rfl rfl rfl rfl rfl ⟨rfl, rfl, rfl, rfl, rfl⟩ rfl rfl rfl rfl rfl (by kernel_rfl) Try.func4 (by kernel_rfl)
    (of_decide_eq_true (by kernel_rfl)) (by unfold Func.isWrapper; rw [if_neg (by decide +kernel)]; exact ⟨rfl, rfl⟩)
    (fun os started H enc _ => law_lifted (s := Rows.fnExactVersionRankSpec) (tb := 4) own started laid (by kernel_rfl) Try.func4 rfl (by kernel_rfl) Try.underlying4 (by kernel_rfl)
      (fun ds h => by rw [Try.params4] at h; match ds, h with | [_], _ => rfl)
      (ChangeSpec.witness6 (enc := enc) (C := Try.checked) false ⟨#[], #[ver 0 0 0 0], []⟩ 8 (by kernel_rfl) (by kernel_rfl) (by kernel_rfl) (by kernel_rfl))
      exactVersionRank_law)
#print axioms exactVersionRank_holds
end Go.Proofs.Ytgabhokmacngfaa
