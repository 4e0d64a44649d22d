/- At every text the law FnExactVersionFrom returns true: VersionFrom of the program answers as VersionFrom of the model. No condition. -/
import Derived.Test.YtgabhokmacngfaaOpenVer
import Derived.Test.YtgabhokmacngfaaVeq
import Derived.Test.YtgabhokmacngfaaVsfromC
namespace Go.Proofs.Ytgabhokmacngfaa
open Go.ChangeShapes Go.WideShapes Go.ChangeAt Go.RowKit Go.Joins

theorem vEq_self (a b c d : Int) : vEq a b c d a b c d = true := by simp [vEq]

/-- The four numbers and the word that VersionFrom answers with. -/
theorem ans_is (o : Option (Int × Int × Int × Int)) : ∃ a b c d : Int, ∃ k : Bool, ans o = .tuple #[ver a b c d, .bool k] := by
  match o with
  | some v => exact ⟨_, _, _, _, _, rfl⟩
  | none => exact ⟨_, _, _, _, _, rfl⟩

set_option maxHeartbeats 1000000 in
theorem exactVersionFrom_long (s : ByteArray) (w : World) (h : 1048576 < s.size) :
    Calls Try.prog 8 #[.string s] w fun e w' => e = .returned (.bool true) ∧ Below w.heap.size w w' := by
  go_enter Try.func8, Try.ntmps8
  go_wp2
  go_ret
  exact ⟨rfl, Below.refl _ _⟩

set_option maxHeartbeats 1000000 in
theorem exactVersionFrom_short (s : ByteArray) (w : World) (h : s.size ≤ 1048576) :
    Calls Try.prog 8 #[.string s] w fun e w' => e = .returned (.bool true) ∧ Below w.heap.size w w' := by
  obtain ⟨a, b, c, d, o, hr⟩ := ans_is (Parse.sp s.data.toList)
  have H1 : ∀ V, Calls Try.prog 21 #[.string s] V fun e w' => e = .returned (.tuple #[ver a b c d, .bool o]) ∧ Below V.heap.size V w' := fun V => by rw [← hr]; exact specFrom_any s V h
  have H2 : ∀ V, Calls Try.prog 22 #[.string s] V fun e w' => e = .returned (.tuple #[ver a b c d, .bool o]) ∧ Below V.heap.size V w' := fun V => by rw [← hr, ← Parse.im_sp]; exact implFrom_any s V h
  have H3 : ∀ V, Calls Try.prog 16 #[ver a b c d, ver a b c d] V fun e w' => e = .returned (.bool true) ∧ Below V.heap.size V w' := fun V => by rw [← vEq_self a b c d]; exact eqVersion_any a b c d a b c d V
  have K1 := Lib.hid H1
  have K2 := Lib.hid H2
  have K3 := Lib.hid H3
  clear H1 H2 H3 hr
  go_enter Try.func8, Try.ntmps8
  go_wp2_with (first | (go_at_call 21; refine (K1.out _).mono ?_; rintro e w1 ⟨rfl, hb1⟩; have hz1 := hb1.size) | (go_at_call 22; refine (K2.out _).mono ?_; rintro e w2 ⟨rfl, hb2⟩; have hc := old_cells hb2; have hz2 : w1.heap.size < w2.heap.size := by have := hb2.size; simp at this; omega) | (go_at_call 16; refine (K3.out _).mono ?_; rintro e w3 ⟨rfl, hb3⟩))
  go_ret
  exact ⟨rfl, hb1.trans ((((Below.refl _ _).alloc (by omega) _).trans (hb2.mono (by simp; omega))).trans (((Below.refl _ _).alloc (by omega) _).trans (hb3.mono (by simp; omega))))⟩

theorem exactVersionFrom_walk (s : ByteArray) (w : World) :
    Calls Try.prog 8 #[.string s] w fun e w' => e = .returned (.bool true) ∧ Below w.heap.size w w' := by
  by_cases h : s.size ≤ 1048576
  · exact exactVersionFrom_short s w h
  · exact exactVersionFrom_long s w (by omega)

theorem exactVersionFrom_law : LawWalk Try.prog 8 Try.f8 := by
  intro H enc W base args ds ps hval hA
  rw [Try.params8] at hA hval
  obtain ⟨v0, vs, d0, es, p0, q0, hargs, rfl, rfl, h0, r0⟩ := trodAll_cons hA
  obtain ⟨rfl, rfl, rfl⟩ := trodAll_nil r0
  obtain rfl : args = #[v0] := by cases args; simp_all
  obtain ⟨s, rfl, _, _, _⟩ := Go.ChangeMaps.open_string Try.underlying9 (hval 0 _ v0 rfl rfl) h0
  exact exactVersionFrom_walk s W

theorem exactVersionFrom_holds : Rows.FnExactVersionFromSaid :=
  OpenClaim.holds_of_wide 8 Try.f8 rfl rfl rfl rfl rfl rfl rfl ⟨rfl, rfl, rfl, rfl, rfl⟩ rfl rfl rfl rfl rfl (by kernel_rfl) Try.func8 (by kernel_rfl)
    (of_decide_eq_true (by kernel_rfl)) (by unfold Func.isWrapper; rw [if_neg (by decide +kernel)]; exact ⟨rfl, rfl⟩)
    (fun os started H enc _ => law_lifted (s := Rows.fnExactVersionFromSpec) (tb := 4) own started laid (by kernel_rfl) Try.func8 rfl (by kernel_rfl) Try.underlying4 (by kernel_rfl)
      (fun ds h => by rw [Try.params8] at h; match ds, h with | [_], _ => rfl)
      (ChangeSpec.witness6 (enc := enc) (C := Try.checked) false ⟨#[], #[.string ByteArray.empty], []⟩ 8 (by kernel_rfl) (by kernel_rfl) (by kernel_rfl) (by kernel_rfl))
      exactVersionFrom_law)
#print axioms exactVersionFrom_holds
end Go.Proofs.Ytgabhokmacngfaa
