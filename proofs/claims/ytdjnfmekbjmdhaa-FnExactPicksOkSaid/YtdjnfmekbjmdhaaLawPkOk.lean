/- At every row of picks the law FnExactPicksOk returns true: PicksOk of the program answers as PicksOk of the model and leaves its argument. No condition. -/
import Derived.Test.YtdjnfmekbjmdhaaPkopen
import Derived.Test.YtdjnfmekbjmdhaaPkeq
import Derived.Test.YtdjnfmekbjmdhaaPkok
namespace Go.Proofs.Ytdjnfmekbjmdhaa
open Go.ChangeShapes Go.WideShapes Go.ChangeAt Go.RowKit Go.Joins

set_option maxRecDepth 100000 in
set_option maxHeartbeats 1000000 in
theorem exactPicksOk_long (v : Value) (M : List Pk) (w : World) (hm : M.length ≤ maxLen) (h : PkAt w w.heap.size v M) (hl : 1048576 < M.length) :
    Calls Try.prog 7 #[v] w fun e w' => e = .returned (.bool true) ∧ Below w.heap.size w w' := by
  have K := szPickS_any v M 1048576 w (by omega) (by omega) hm h
  rw [show pleft 1048576 M.length = -1 by unfold pleft; rw [if_pos (by omega)]] at K
  obtain ⟨a, cap, rfl, _⟩ := h
  have HK := Lib.hid K
  clear K
  go_enter Try.func7, Try.ntmps7
  go_wp2_with fail
  refine HK.out.mono ?_
  rintro e w1 ⟨rfl, hb⟩
  go_wp2_with fail
  go_ret
  exact ⟨rfl, hb⟩

set_option maxRecDepth 100000 in
set_option maxHeartbeats 2000000 in
theorem exactPicksOk_short (v : Value) (M : List Pk) (w : World) (h : PkAt w w.heap.size v M) (hm : M.length ≤ 1048576) :
    Calls Try.prog 7 #[v] w fun e w' => e = .returned (.bool true) ∧ Below w.heap.size w w' := by
  have K := szPickS_any v M 1048576 w (by omega) (by omega) (by unfold maxLen; omega) h
  obtain ⟨r, hr, hr0⟩ : ∃ r : Int, pleft 1048576 M.length = r ∧ ¬ r < 0 := ⟨_, rfl, by unfold pleft; rw [if_neg (by omega)]; omega⟩
  rw [hr] at K
  clear hr
  have h' := h
  obtain ⟨a, cap, rfl, hx⟩ := h'
  clear hx
  have HK := Lib.hid K
  have H := Lib.hid h
  clear K h
  go_enter Try.func7, Try.ntmps7
  go_wp2_with fail
  refine HK.out.mono ?_
  rintro e w1 ⟨rfl, b1⟩
  go_wp2_with fail
  refine (toPickS_any _ M _ (H.out.stepAt b1) hm).mono ?_
  rintro e w2 ⟨g2, rfl, k2, _, hb⟩
  have b2 := b1.trans (hb.mono b1.size)
  clear hb
  go_wp2_with fail
  refine (specPicksOk_any _ M _ hm k2.at).mono ?_
  rintro e w3 ⟨rfl, hb⟩
  have b3 := b2.trans (hb.mono b2.size)
  clear hb k2
  go_wp2_with fail
  refine (toPickS_any _ M _ (H.out.stepAt b3) hm).mono ?_
  rintro e w4 ⟨g4, rfl, k4, _, hb⟩
  have b4 := b3.trans (hb.mono b3.size)
  clear hb
  go_wp2_with fail
  refine (implPicksOk_any _ M _ hm k4.at).mono ?_
  rintro e w5 ⟨rfl, hb⟩
  have b5 := b4.trans (hb.mono b4.size)
  have k5 := k4.below hb
  clear hb k4
  go_wp2_with fail
  refine (toPickS_any _ M _ (H.out.stepAt b5) hm).mono ?_
  rintro e w6 ⟨g6, rfl, k6, _, hb⟩
  have b6 := b5.trans (hb.mono b5.size)
  have k7 := k5.below hb
  clear hb k5
  go_wp2_with fail
  refine (eqPickS_same hm k7.at k6.at).mono ?_
  rintro e w7 ⟨rfl, hb⟩
  have b7 := b6.trans (hb.mono b6.size)
  go_wp2_with fail
  go_ret
  exact ⟨rfl, b7⟩

set_option maxRecDepth 100000 in
theorem exactPicksOk_law : LawWalk Try.prog 7 Try.f7 := by
  intro H enc W base args ds ps hval hA
  rw [Try.params7] at hA hval
  obtain ⟨v0, vs, d0, es, p0, q0, hargs, rfl, rfl, h0, r0⟩ := trodAll_cons hA
  obtain ⟨rfl, rfl, rfl⟩ := trodAll_nil r0
  obtain rfl : args = #[v0] := by cases args; simp_all
  obtain ⟨a, cap, M, rfl, hs, hm⟩ := open_picks (hval 0 _ v0 rfl rfl) h0
  by_cases hl : M.length ≤ 1048576
  · exact exactPicksOk_short _ M W hs hl
  · exact exactPicksOk_long _ M W hm hs (by omega)

set_option maxRecDepth 100000 in
theorem exactPicksOk_holds : Rows.FnExactPicksOkSaid :=
  OpenClaim.holds_of_wide 7 Try.f7 rfl rfl rfl rfl rfl rfl rfl ⟨rfl, rfl, rfl, rfl, rfl⟩ rfl rfl rfl rfl rfl (by kernel_rfl) Try.func7 (by kernel_rfl)
    (of_decide_eq_true (by kernel_rfl)) (by unfold Func.isWrapper; rw [if_neg (by decide +kernel)]; exact ⟨rfl, rfl⟩)
    (fun os started H enc _ => law_lifted (s := Rows.fnExactPicksOkSpec) (tb := 4) own started laid (by kernel_rfl) Try.func7 rfl (by kernel_rfl) Try.underlying4 (by kernel_rfl)
      (fun ds h => by rw [Try.params7] at h; match ds, h with | [_], _ => rfl)
      (ChangeSpec.witness6 (enc := enc) (C := Try.checked) false ⟨#[], #[.slice none 0 0], []⟩ 8 (by kernel_rfl) (by kernel_rfl) (by kernel_rfl) (by kernel_rfl))
      exactPicksOk_law)
#print axioms exactPicksOk_holds
end Go.Proofs.Ytdjnfmekbjmdhaa
