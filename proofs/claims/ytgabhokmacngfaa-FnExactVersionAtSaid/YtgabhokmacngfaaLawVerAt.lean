/- At every whole number the law FnExactVersionAt returns true: VersionAt of the program answers as VersionAt of the model. No condition. -/
import Derived.Test.YtgabhokmacngfaaOpenVer
import Derived.Test.YtgabhokmacngfaaVeq
namespace Go.Proofs.Ytgabhokmacngfaa
open Go.ChangeShapes Go.WideShapes Go.ChangeAt Go.RowKit Go.Joins

theorem vEq_same (a b c d : Int) : vEq a b c d a b c d = true := by simp [vEq]

/-- The four numbers and the word that VersionAt answers with. -/
theorem atR_is (r : Int) : ∃ a b c d : Int, ∃ o : Bool, atR r = .tuple #[ver a b c d, .bool o] := by
  unfold atR
  split
  · exact ⟨_, _, _, _, _, rfl⟩
  · exact ⟨_, _, _, _, _, rfl⟩

set_option maxHeartbeats 1000000 in
theorem exactVersionAt_walk (r : Int) (w : World) :
    Calls Try.prog 5 #[.int .i64 r] w fun e w' => e = .returned (.bool true) ∧ Below w.heap.size w w' := by
  obtain ⟨a, b, c, d, o, hr⟩ := atR_is r
  have H1 : ∀ V, Calls Try.prog 14 #[.int .i64 r] V fun e w' => e = .returned (.tuple #[ver a b c d, .bool o]) ∧ Below V.heap.size V w' := fun V => by rw [← hr]; exact specAt_any r V
  have H2 : ∀ V, Calls Try.prog 15 #[.int .i64 r] V fun e w' => e = .returned (.tuple #[ver a b c d, .bool o]) ∧ Below V.heap.size V w' := fun V => by rw [← hr]; exact implAt_any r V
  have H3 : ∀ V, Calls Try.prog 16 #[ver a b c d, ver a b c d] V fun e w' => e = .returned (.bool true) ∧ Below V.heap.size V w' := fun V => by rw [← vEq_same a b c d]; exact eqVersion_any a b c d a b c d V
  have K1 := Lib.hid H1
  have K2 := Lib.hid H2
  have K3 := Lib.hid H3
  clear H1 H2 H3 hr
  go_enter Try.func5, Try.ntmps5
  go_wp2_with (first | (go_at_call 14; refine (K1.out _).mono ?_; rintro e w1 ⟨rfl, hb1⟩; have hz1 := hb1.size) | (go_at_call 15; refine (K2.out _).mono ?_; rintro e w2 ⟨rfl, hb2⟩; have hc := old_cells hb2; have hz2 : w1.heap.size < w2.heap.size := by have := hb2.size; simp at this; omega) | (go_at_call 16; refine (K3.out _).mono ?_; rintro e w3 ⟨rfl, hb3⟩))
  go_ret
  exact ⟨rfl, hb1.trans ((((Below.refl _ _).alloc (by omega) _).trans (hb2.mono (by simp; omega))).trans (((Below.refl _ _).alloc (by omega) _).trans (hb3.mono (by simp; omega))))⟩

theorem exactVersionAt_law : LawWalk Try.prog 5 Try.f5 := by
  intro H enc W base args ds ps hval hA
  rw [Try.params5] at hA hval
  obtain ⟨v0, vs, d0, es, p0, q0, hargs, rfl, rfl, h0, r0⟩ := trodAll_cons hA
  obtain ⟨rfl, rfl, rfl⟩ := trodAll_nil r0
  obtain rfl : args = #[v0] := by cases args; simp_all
  obtain ⟨r, rfl, _, _, _⟩ := open_int Try.underlying3 (hval 0 _ v0 rfl rfl) h0
  exact exactVersionAt_walk r W

theorem exactVersionAt_holds : Rows.FnExactVersionAtSaid :=
  OpenClaim.holds_of_wide 5 Try.f5 rfl rfl rfl rfl rfl rfl rfl ⟨rfl, rfl, rfl, rfl, rfl⟩ rfl rfl rfl rfl rfl (by kernel_rfl) Try.func5 (by kernel_rfl)
    (of_decide_eq_true (by kernel_rfl)) (by unfold Func.isWrapper; rw [if_neg (by decide +kernel)]; exact ⟨rfl, rfl⟩)
    (fun os started H enc _ => law_lifted (s := Rows.fnExactVersionAtSpec) (tb := 4) own started laid (by kernel_rfl) Try.func5 rfl (by kernel_rfl) Try.underlying4 (by kernel_rfl)
      (fun ds h => by rw [Try.params5] at h; match ds, h with | [_], _ => rfl)
      (ChangeSpec.witness6 (enc := enc) (C := Try.checked) false ⟨#[], #[.int .i64 0], []⟩ 8 (by kernel_rfl) (by kernel_rfl) (by kernel_rfl) (by kernel_rfl))
      exactVersionAt_law)
#print axioms exactVersionAt_holds
end Go.Proofs.Ytgabhokmacngfaa
