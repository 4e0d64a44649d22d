/- At every row of terms the law FnExactClashOk returns true: ClashOk of the program answers as ClashOk of the model and leaves its argument. No condition. -/
import Derived.Test.YtgenjbeamlffmaaTmopen
import Derived.Test.YtgenjbeamlffmaaTmto
import Derived.Test.YtgenjbeamlffmaaTmsz
import Derived.Test.YtgenjbeamlffmaaTmeq
import Derived.Test.YtgenjbeamlffmaaTmok
namespace Go.Proofs.Ytgenjbeamlffmaa
open Go.ChangeShapes Go.WideShapes Go.ChangeAt Go.RowKit Go.Joins

theorem tm_each {M : List Tm} (h : tmSz M ≤ 1048576) : ∀ q ∈ M, q.2.1.length ≤ 1048576 := fun q hq => by
  obtain ⟨i, hi, rfl⟩ := List.getElem_of_mem hq
  have := tmSz_mem M i _ (List.getElem?_eq_getElem hi)
  omega
theorem eqTermS_same {v v' : Value} {M : List Tm} {w : World} (hl : M.length ≤ 1048576) (hq : ∀ q ∈ M, q.2.1.length ≤ 1048576) (h : TmAt w w.heap.size v M) (h' : TmAt w w.heap.size v' M) :
    Calls Try.prog 37 #[v, v'] w fun e w' => e = .returned (.bool true) ∧ Below w.heap.size w w' := by
  have := eqTermS_any v v' M M w hl hl hq hq h h'
  rwa [decide_eq_true rfl] at this

set_option maxRecDepth 100000 in
set_option maxHeartbeats 1000000 in
theorem exactClashOk_long (v : Value) (M : List Tm) (w : World) (hm : M.length ≤ maxLen) (hq : ∀ q ∈ M, q.2.1.length ≤ maxLen) (h : TmAt w w.heap.size v M) (hl : 1048576 < M.length + tmSz M) :
    Calls Try.prog 5 #[v] w fun e w' => e = .returned (.bool true) ∧ Below w.heap.size w w' := by
  have K := szTermS_any v M 1048576 w (by omega) (by omega) hm hq h
  rw [show leftOf 1048576 (M.length + tmSz M) = -1 by unfold leftOf; rw [if_pos (by omega)]] at K
  obtain ⟨a, cap, rfl, _⟩ := h
  have HK := Lib.hid K
  clear K
  go_enter Try.func5, Try.ntmps5
  go_wp2_with fail
  refine HK.out.mono ?_
  rintro e w1 ⟨rfl, hb⟩
  go_wp2_with fail
  go_ret
  exact ⟨rfl, hb⟩

set_option maxRecDepth 100000 in
set_option maxHeartbeats 2000000 in
theorem exactClashOk_short (v : Value) (M : List Tm) (w : World) (h : TmAt w w.heap.size v M) (hl : M.length + tmSz M ≤ 1048576) :
    Calls Try.prog 5 #[v] w fun e w' => e = .returned (.bool true) ∧ Below w.heap.size w w' := by
  have hm : M.length ≤ 1048576 := by omega
  have hq := tm_each (M := M) (by omega)
  have K := szTermS_any v M 1048576 w (by omega) (by omega) (by unfold maxLen; omega) (fun q hq' => by have := hq q hq'; unfold maxLen; omega) h
  obtain ⟨r, hr, hr0⟩ : ∃ r : Int, leftOf 1048576 (M.length + tmSz M) = r ∧ ¬ r < 0 := ⟨_, rfl, by unfold leftOf; rw [if_neg (by omega)]; omega⟩
  rw [hr] at K
  clear hr
  have h' := h
  obtain ⟨a, cap, rfl, hx⟩ := h'
  clear hx
  have HK := Lib.hid K
  have H := Lib.hid h
  clear K h hl
  go_enter Try.func5, Try.ntmps5
  go_wp2_with fail
  refine HK.out.mono ?_
  rintro e w1 ⟨rfl, b1⟩
  go_wp2_with fail
  refine (toTermS_any _ M _ (H.out.stepAt b1) hm hq).mono ?_
  rintro e w2 ⟨g2, rfl, k2, _, hb⟩
  have b2 := b1.trans (hb.mono b1.size)
  clear hb
  go_wp2_with fail
  refine (specClashOk_any _ M _ hm hq k2.at).mono ?_
  rintro e w3 ⟨rfl, hb⟩
  have b3 := b2.trans (hb.mono b2.size)
  clear hb k2
  go_wp2_with fail
  refine (toTermS_any _ M _ (H.out.stepAt b3) hm hq).mono ?_
  rintro e w4 ⟨g4, rfl, k4, _, hb⟩
  have b4 := b3.trans (hb.mono b3.size)
  clear hb
  go_wp2_with fail
  refine (implClashOk_any _ M _ hm hq k4.at).mono ?_
  rintro e w5 ⟨rfl, hb⟩
  have b5 := b4.trans (hb.mono b4.size)
  have k5 := k4.below hb
  clear hb k4
  go_wp2_with fail
  refine (toTermS_any _ M _ (H.out.stepAt b5) hm hq).mono ?_
  rintro e w6 ⟨g6, rfl, k6, _, hb⟩
  have b6 := b5.trans (hb.mono b5.size)
  have k7 := k5.below hb
  clear hb k5
  go_wp2_with fail
  refine (eqTermS_same hm hq k7.at k6.at).mono ?_
  rintro e w7 ⟨rfl, hb⟩
  have b7 := b6.trans (hb.mono b6.size)
  go_wp2_with fail
  go_ret
  exact ⟨rfl, b7⟩

set_option maxRecDepth 100000 in
theorem exactClashOk_law : LawWalk Try.prog 5 Try.f5 := by
  intro H enc W base args ds ps hval hA
  rw [Try.params5] at hA hval
  obtain ⟨v0, vs, d0, es, p0, q0, hargs, rfl, rfl, h0, r0⟩ := trodAll_cons hA
  obtain ⟨rfl, rfl, rfl⟩ := trodAll_nil r0
  obtain rfl : args = #[v0] := by cases args; simp_all
  obtain ⟨a, cap, M, rfl, hs, hm, hq⟩ := open_terms (hval 0 _ v0 rfl rfl) h0
  by_cases hl : M.length + tmSz M ≤ 1048576
  · exact exactClashOk_short _ M W hs hl
  · exact exactClashOk_long _ M W hm hq hs (by omega)

set_option maxRecDepth 100000 in
theorem exactClashOk_holds : Rows.FnExactClashOkSaid :=
  OpenClaim.holds_of_wide 5 Try.f5 rfl rfl rfl rfl rfl rfl rfl ⟨rfl, rfl, rfl, rfl, rfl⟩ rfl rfl rfl rfl rfl (by kernel_rfl) Try.func5 (by kernel_rfl)
    (of_decide_eq_true (by kernel_rfl)) (by unfold Func.isWrapper; rw [if_neg (by decide +kernel)]; exact ⟨rfl, rfl⟩)
    (fun os started H enc _ => law_lifted (s := Rows.fnExactClashOkSpec) (tb := 4) own started laid (by kernel_rfl) Try.func5 rfl (by kernel_rfl) Try.underlying4 (by kernel_rfl)
      (fun ds h => by rw [Try.params5] at h; match ds, h with | [_], _ => rfl)
      (ChangeSpec.witness6 (enc := enc) (C := Try.checked) false ⟨#[], #[.slice none 0 0], []⟩ 8 (by kernel_rfl) (by kernel_rfl) (by kernel_rfl) (by kernel_rfl))
      exactClashOk_law)
#print axioms exactClashOk_holds
end Go.Proofs.Ytgenjbeamlffmaa
