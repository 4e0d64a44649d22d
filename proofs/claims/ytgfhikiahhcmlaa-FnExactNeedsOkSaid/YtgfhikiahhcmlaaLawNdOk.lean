/- At every row of needs the law FnExactNeedsOk returns true: NeedsOk of the program answers as NeedsOk of the model and leaves its argument. No condition. -/
import Derived.Test.YtgfhikiahhcmlaaNdopen
import Derived.Test.YtgfhikiahhcmlaaNdto
import Derived.Test.YtgfhikiahhcmlaaNdsz
import Derived.Test.YtgfhikiahhcmlaaNdeq
import Derived.Test.YtgfhikiahhcmlaaNdok
namespace Go.Proofs.Ytgfhikiahhcmlaa
open Go.ChangeShapes Go.WideShapes Go.ChangeAt Go.RowKit Go.Joins

theorem nd_each {M : List Nd} (h : ndSz M ≤ 1048576) : ∀ q ∈ M, q.2.length ≤ 1048576 := fun q hq => by
  obtain ⟨i, hi, rfl⟩ := List.getElem_of_mem hq
  have := ndSz_mem M i _ (List.getElem?_eq_getElem hi)
  omega
theorem eqNeedS_same {v v' : Value} {M : List Nd} {w : World} (hl : M.length ≤ 1048576) (hq : ∀ q ∈ M, q.2.length ≤ 1048576) (h : NdAt w w.heap.size v M) (h' : NdAt w w.heap.size v' M) :
    Calls Try.prog 17 #[v, v'] w fun e w' => e = .returned (.bool true) ∧ Below w.heap.size w w' := by
  have := eqNeedS_any v v' M M w hl hl hq hq h h'
  rwa [decide_eq_true rfl] at this

set_option maxRecDepth 100000 in
set_option maxHeartbeats 1000000 in
theorem exactNeedsOk_long (v : Value) (M : List Nd) (w : World) (hm : M.length ≤ maxLen) (hq : ∀ q ∈ M, q.2.length ≤ maxLen) (h : NdAt w w.heap.size v M) (hl : 1048576 < M.length + ndSz M) :
    Calls Try.prog 3 #[v] w fun e w' => e = .returned (.bool true) ∧ Below w.heap.size w w' := by
  have K := szNeedS_any v M 1048576 w (by omega) (by omega) hm hq h
  rw [show leftOf 1048576 (M.length + ndSz M) = -1 by unfold leftOf; rw [if_pos (by omega)]] at K
  obtain ⟨a, cap, rfl, _⟩ := h
  have HK := Lib.hid K
  clear K
  go_enter Try.func3, Try.ntmps3
  go_wp2_with fail
  refine HK.out.mono ?_
  rintro e w1 ⟨rfl, hb⟩
  go_wp2_with fail
  go_ret
  exact ⟨rfl, hb⟩

set_option maxRecDepth 100000 in
set_option maxHeartbeats 2000000 in
theorem exactNeedsOk_short (v : Value) (M : List Nd) (w : World) (h : NdAt w w.heap.size v M) (hl : M.length + ndSz M ≤ 1048576) :
    Calls Try.prog 3 #[v] w fun e w' => e = .returned (.bool true) ∧ Below w.heap.size w w' := by
  have hm : M.length ≤ 1048576 := by omega
  have hq := nd_each (M := M) (by omega)
  have K := szNeedS_any v M 1048576 w (by omega) (by omega) (by unfold maxLen; omega) (fun q hq' => by have := hq q hq'; unfold maxLen; omega) h
  obtain ⟨r, hr, hr0⟩ : ∃ r : Int, leftOf 1048576 (M.length + ndSz M) = r ∧ ¬ r < 0 := ⟨_, rfl, by unfold leftOf; rw [if_neg (by omega)]; omega⟩
  rw [hr] at K
  clear hr
  have h' := h
  obtain ⟨a, cap, rfl, hx⟩ := h'
  clear hx
  have HK := Lib.hid K
  have H := Lib.hid h
  clear K h hl
  go_enter Try.func3, Try.ntmps3
  go_wp2_with fail
  refine HK.out.mono ?_
  rintro e w1 ⟨rfl, b1⟩
  go_wp2_with fail
  refine (toNeedS_any _ M _ (H.out.stepAt b1) hm hq).mono ?_
  rintro e w2 ⟨g2, rfl, k2, _, hb⟩
  have b2 := b1.trans (hb.mono b1.size)
  clear hb
  go_wp2_with fail
  refine (specNeedsOk_any _ M _ hm hq k2.at).mono ?_
  rintro e w3 ⟨rfl, hb⟩
  have b3 := b2.trans (hb.mono b2.size)
  clear hb k2
  go_wp2_with fail
  refine (toNeedS_any _ M _ (H.out.stepAt b3) hm hq).mono ?_
  rintro e w4 ⟨g4, rfl, k4, _, hb⟩
  have b4 := b3.trans (hb.mono b3.size)
  clear hb
  go_wp2_with fail
  refine (implNeedsOk_any _ M _ hm hq k4.at).mono ?_
  rintro e w5 ⟨rfl, hb⟩
  have b5 := b4.trans (hb.mono b4.size)
  have k5 := k4.below hb
  clear hb k4
  go_wp2_with fail
  refine (toNeedS_any _ M _ (H.out.stepAt b5) hm hq).mono ?_
  rintro e w6 ⟨g6, rfl, k6, _, hb⟩
  have b6 := b5.trans (hb.mono b5.size)
  have k7 := k5.below hb
  clear hb k5
  go_wp2_with fail
  refine (eqNeedS_same hm hq k7.at k6.at).mono ?_
  rintro e w7 ⟨rfl, hb⟩
  have b7 := b6.trans (hb.mono b6.size)
  go_wp2_with fail
  go_ret
  exact ⟨rfl, b7⟩

set_option maxRecDepth 100000 in
theorem exactNeedsOk_law : LawWalk Try.prog 3 Try.f3 := by
  intro H enc W base args ds ps hval hA
  rw [Try.params3] at hA hval
  obtain ⟨v0, vs, d0, es, p0, q0, hargs, rfl, rfl, h0, r0⟩ := trodAll_cons hA
  obtain ⟨rfl, rfl, rfl⟩ := trodAll_nil r0
  obtain rfl : args = #[v0] := by cases args; simp_all
  obtain ⟨a, cap, M, rfl, hs, hm, hq⟩ := open_needs (hval 0 _ v0 rfl rfl) h0
  by_cases hl : M.length + ndSz M ≤ 1048576
  · exact exactNeedsOk_short _ M W hs hl
  · exact exactNeedsOk_long _ M W hm hq hs (by omega)

set_option maxRecDepth 100000 in
theorem exactNeedsOk_holds : Rows.FnExactNeedsOkSaid :=
  OpenClaim.holds_of_wide 3 Try.f3 rfl rfl rfl rfl rfl rfl rfl ⟨rfl, rfl, rfl, rfl, rfl⟩ rfl rfl rfl rfl rfl (by kernel_rfl) Try.func3 (by kernel_rfl)
    (of_decide_eq_true (by kernel_rfl)) (by unfold Func.isWrapper; rw [if_neg (by decide +kernel)]; exact ⟨rfl, rfl⟩)
    (fun os started H enc _ => law_lifted (s := Rows.fnExactNeedsOkSpec) (tb := 4) own started laid (by kernel_rfl) Try.func3 rfl (by kernel_rfl) Try.underlying4 (by kernel_rfl)
      (fun ds h => by rw [Try.params3] at h; match ds, h with | [_], _ => rfl)
      (ChangeSpec.witness6 (enc := enc) (C := Try.checked) false ⟨#[], #[.slice none 0 0], []⟩ 8 (by kernel_rfl) (by kernel_rfl) (by kernel_rfl) (by kernel_rfl))
      exactNeedsOk_law)
#print axioms exactNeedsOk_holds
end Go.Proofs.Ytgfhikiahhcmlaa
