/- At every row of picks and every name the law FnExactPickOf returns true: PickOf of the program answers as PickOf of the model and leaves its argument. No condition. -/
import Derived.Test.YtdjnfmekbjmdhaaPkopen
import Derived.Test.YtdjnfmekbjmdhaaPkeq
import Derived.Test.YtdjnfmekbjmdhaaPkbet
namespace Go.Proofs.Ytdjnfmekbjmdhaa
open Go.ChangeShapes Go.WideShapes Go.ChangeAt Go.RowKit Go.Joins

theorem vEq_self (a b c d : Int) : vEq a b c d a b c d = true := by simp [vEq]

set_option maxRecDepth 100000 in
set_option maxHeartbeats 1000000 in
theorem exactPickOf_long (v : Value) (M : List Pk) (n : Int) (w : World) (hm : M.length ≤ maxLen) (h : PkAt w w.heap.size v M) (hl : 1048576 < M.length) :
    Calls Try.prog 8 #[v, .int .i64 n] w fun e w' => e = .returned (.bool true) ∧ Below w.heap.size w w' := by
  have K := szPickS_any v M 1048576 w (by omega) (by omega) hm h
  rw [show pleft 1048576 M.length = -1 by unfold pleft; rw [if_pos (by omega)]] at K
  obtain ⟨a, cap, rfl, _⟩ := h
  have HK := Lib.hid K
  clear K
  go_enter Try.func8, Try.ntmps8
  go_wp2_with fail
  refine HK.out.mono ?_
  rintro e w1 ⟨rfl, hb⟩
  go_wp2_with fail
  go_ret
  exact ⟨rfl, hb⟩

set_option maxRecDepth 100000 in
set_option maxHeartbeats 2000000 in
theorem exactPickOf_short (v : Value) (M : List Pk) (n : Int) (w : World) (h : PkAt w w.heap.size v M) (hm : M.length ≤ 1048576) :
    Calls Try.prog 8 #[v, .int .i64 n] w fun e w' => e = .returned (.bool true) ∧ Below w.heap.size w w' := by
  have K := szPickS_any v M 1048576 w (by omega) (by omega) (by unfold maxLen; omega) h
  obtain ⟨r, hr, hr0⟩ : ∃ r : Int, pleft 1048576 M.length = r ∧ ¬ r < 0 := ⟨_, rfl, by unfold pleft; rw [if_neg (by omega)]; omega⟩
  rw [hr] at K
  clear hr
  have h' := h
  obtain ⟨a, cap, rfl, hx⟩ := h'
  clear hx
  have HK := Lib.hid K
  have H := Lib.hid h
  clear K h
  have KS : Hid (∀ V u, PkAt V V.heap.size u M → Calls Try.prog 45 #[u, .int .i64 n] V fun e w' => e = .returned (got (pkOf M n)) ∧ Below V.heap.size V w') := Lib.hid fun V u g => specPickOf_any u M n V hm g
  have KI : Hid (∀ V u, PkAt V V.heap.size u M → Calls Try.prog 46 #[u, .int .i64 n] V fun e w' => e = .returned (got (pkOf M n)) ∧ Below V.heap.size V w') := Lib.hid fun V u g => implPickOf_any u M n V hm g
  rcases hg : pkOf M n with _ | ⟨p, q, r', s⟩
  · rw [hg] at KS KI
    simp only [got] at KS KI
    clear hg
    go_enter Try.func8, Try.ntmps8
    go_wp2_with fail
    refine HK.out.mono ?_
    rintro e w1 ⟨rfl, b1⟩
    go_wp2_with fail
    refine (toPickS_any _ M _ (H.out.stepAt b1) hm).mono ?_
    rintro e w2 ⟨g2, rfl, k2, _, hb⟩
    have b2 := b1.trans (hb.mono b1.size)
    clear hb
    go_wp2_with fail
    refine (KS.out _ _ k2.at).mono ?_
    rintro e w3 ⟨rfl, hb⟩
    have b3 := b2.trans (hb.mono b2.size)
    clear hb k2
    have b3' : Below w.heap.size w (w3.alloc (.cells #[.int .i64 0, .int .i64 0, .int .i64 0, .int .i64 0] 29)) := b3.alloc b3.size _
    go_wp2_with fail
    refine (toPickS_any _ M _ (H.out.stepAt b3') hm).mono ?_
    rintro e w4 ⟨g4, rfl, k4, _, hb⟩
    have z4 : w3.heap.size + 1 ≤ w4.heap.size := by have := hb.size; simp at this; omega
    have q4 := VerBox w3 0 0 0 0 (hb.mono (by simp))
    have b4 := b3'.trans (hb.mono b3'.size)
    clear hb b3'
    go_wp2_with fail
    refine (KI.out _ _ k4.at).mono ?_
    rintro e w5 ⟨rfl, hb⟩
    have lt3 : w3.heap.size < w4.heap.size := by omega
    have e0 := (hb.cell (p := ⟨w3.heap.size, 0, none⟩) lt3).trans q4.1
    have e1 := (hb.cell (p := ⟨w3.heap.size, 1, none⟩) lt3).trans q4.2.1
    have e2 := (hb.cell (p := ⟨w3.heap.size, 2, none⟩) lt3).trans q4.2.2.1
    have e3 := (hb.cell (p := ⟨w3.heap.size, 3, none⟩) lt3).trans q4.2.2.2
    have z5 : w3.heap.size + 1 ≤ w5.heap.size := Nat.le_trans z4 hb.size
    have b5 := b4.trans (hb.mono b4.size)
    have k5 := k4.below hb
    clear hb k4 q4
    have b5' : Below w.heap.size w (w5.alloc (.cells #[.int .i64 0, .int .i64 0, .int .i64 0, .int .i64 0] 29)) := b5.alloc b5.size _
    have k5' := k5.below ((Below.refl _ _).alloc (Nat.le_refl _) (.cells #[.int .i64 0, .int .i64 0, .int .i64 0, .int .i64 0] 29))
    have l0 := cell_alloc e0 (.cells #[.int .i64 0, .int .i64 0, .int .i64 0, .int .i64 0] 29)
    have l1 := cell_alloc e1 (.cells #[.int .i64 0, .int .i64 0, .int .i64 0, .int .i64 0] 29)
    have l2 := cell_alloc e2 (.cells #[.int .i64 0, .int .i64 0, .int .i64 0, .int .i64 0] 29)
    have l3 := cell_alloc e3 (.cells #[.int .i64 0, .int .i64 0, .int .i64 0, .int .i64 0] 29)
    clear e0 e1 e2 e3
    go_wp2_with fail
    refine (eqVersion_any 0 0 0 0 0 0 0 0 _).mono ?_
    rintro e w5b ⟨rfl, hb⟩
    have b5b := b5'.trans (hb.mono b5'.size)
    have k5b := k5'.below hb
    clear hb k5 k5' l0 l1 l2 l3
    rw [vEq_self]
    go_wp2_with fail
    refine (toPickS_any _ M _ (H.out.stepAt b5b) hm).mono ?_
    rintro e w6 ⟨g6, rfl, k6, _, hb⟩
    have b6 := b5b.trans (hb.mono b5b.size)
    have k7 := k5b.below hb
    clear hb k5b
    go_wp2_with fail
    refine (eqPickS_same hm k7.at k6.at).mono ?_
    rintro e w7 ⟨rfl, hb⟩
    have b7 := b6.trans (hb.mono b6.size)
    go_wp2_with fail
    go_ret
    exact ⟨rfl, b7⟩
  · rw [hg] at KS KI
    simp only [got] at KS KI
    clear hg
    go_enter Try.func8, Try.ntmps8
    go_wp2_with fail
    refine HK.out.mono ?_
    rintro e w1 ⟨rfl, b1⟩
    go_wp2_with fail
    refine (toPickS_any _ M _ (H.out.stepAt b1) hm).mono ?_
    rintro e w2 ⟨g2, rfl, k2, _, hb⟩
    have b2 := b1.trans (hb.mono b1.size)
    clear hb
    go_wp2_with fail
    refine (KS.out _ _ k2.at).mono ?_
    rintro e w3 ⟨rfl, hb⟩
    have b3 := b2.trans (hb.mono b2.size)
    clear hb k2
    have b3' : Below w.heap.size w (w3.alloc (.cells #[.int .i64 p, .int .i64 q, .int .i64 r', .int .i64 s] 29)) := b3.alloc b3.size _
    go_wp2_with fail
    refine (toPickS_any _ M _ (H.out.stepAt b3') hm).mono ?_
    rintro e w4 ⟨g4, rfl, k4, _, hb⟩
    have z4 : w3.heap.size + 1 ≤ w4.heap.size := by have := hb.size; simp at this; omega
    have q4 := VerBox w3 p q r' s (hb.mono (by simp))
    have b4 := b3'.trans (hb.mono b3'.size)
    clear hb b3'
    go_wp2_with fail
    refine (KI.out _ _ k4.at).mono ?_
    rintro e w5 ⟨rfl, hb⟩
    have lt3 : w3.heap.size < w4.heap.size := by omega
    have e0 := (hb.cell (p := ⟨w3.heap.size, 0, none⟩) lt3).trans q4.1
    have e1 := (hb.cell (p := ⟨w3.heap.size, 1, none⟩) lt3).trans q4.2.1
    have e2 := (hb.cell (p := ⟨w3.heap.size, 2, none⟩) lt3).trans q4.2.2.1
    have e3 := (hb.cell (p := ⟨w3.heap.size, 3, none⟩) lt3).trans q4.2.2.2
    have z5 : w3.heap.size + 1 ≤ w5.heap.size := Nat.le_trans z4 hb.size
    have b5 := b4.trans (hb.mono b4.size)
    have k5 := k4.below hb
    clear hb k4 q4
    have b5' : Below w.heap.size w (w5.alloc (.cells #[.int .i64 p, .int .i64 q, .int .i64 r', .int .i64 s] 29)) := b5.alloc b5.size _
    have k5' := k5.below ((Below.refl _ _).alloc (Nat.le_refl _) (.cells #[.int .i64 p, .int .i64 q, .int .i64 r', .int .i64 s] 29))
    have l0 := cell_alloc e0 (.cells #[.int .i64 p, .int .i64 q, .int .i64 r', .int .i64 s] 29)
    have l1 := cell_alloc e1 (.cells #[.int .i64 p, .int .i64 q, .int .i64 r', .int .i64 s] 29)
    have l2 := cell_alloc e2 (.cells #[.int .i64 p, .int .i64 q, .int .i64 r', .int .i64 s] 29)
    have l3 := cell_alloc e3 (.cells #[.int .i64 p, .int .i64 q, .int .i64 r', .int .i64 s] 29)
    clear e0 e1 e2 e3
    go_wp2_with fail
    refine (eqVersion_any p q r' s p q r' s _).mono ?_
    rintro e w5b ⟨rfl, hb⟩
    have b5b := b5'.trans (hb.mono b5'.size)
    have k5b := k5'.below hb
    clear hb k5 k5' l0 l1 l2 l3
    rw [vEq_self]
    go_wp2_with fail
    refine (toPickS_any _ M _ (H.out.stepAt b5b) hm).mono ?_
    rintro e w6 ⟨g6, rfl, k6, _, hb⟩
    have b6 := b5b.trans (hb.mono b5b.size)
    have k7 := k5b.below hb
    clear hb k5b
    go_wp2_with fail
    refine (eqPickS_same hm k7.at k6.at).mono ?_
    rintro e w7 ⟨rfl, hb⟩
    have b7 := b6.trans (hb.mono b6.size)
    go_wp2_with fail
    go_ret
    exact ⟨rfl, b7⟩

set_option maxRecDepth 100000 in
theorem exactPickOf_law : LawWalk Try.prog 8 Try.f8 := by
  intro H enc W base args ds ps hval hA
  rw [Try.params8] at hA hval
  obtain ⟨v0, vs0, d0, es0, p0, q0, hargs, rfl, rfl, h0, r0⟩ := trodAll_cons hA
  obtain ⟨v1, vs1, d1, es1, p1, q1, rfl, rfl, rfl, h1, r1⟩ := trodAll_cons r0
  obtain ⟨rfl, rfl, rfl⟩ := trodAll_nil r1
  obtain rfl : args = #[v0, v1] := by cases args; simp_all
  obtain ⟨a, cap, M, rfl, hs, hm⟩ := open_picks (hval 0 _ v0 rfl rfl) h0
  obtain ⟨n, rfl⟩ := okWide_int Try.underlying3 (hval 1 _ v1 rfl rfl)
  by_cases hl : M.length ≤ 1048576
  · exact exactPickOf_short _ M n W hs hl
  · exact exactPickOf_long _ M n W hm hs (by omega)

set_option maxRecDepth 100000 in
theorem exactPickOf_holds : Rows.FnExactPickOfSaid :=
  OpenClaim.holds_of_wide 8 Try.f8 rfl rfl rfl rfl rfl rfl rfl ⟨rfl, rfl, rfl, rfl, rfl⟩ rfl rfl rfl rfl rfl (by kernel_rfl) Try.func8 (by kernel_rfl)
    (of_decide_eq_true (by kernel_rfl)) (by unfold Func.isWrapper; rw [if_neg (by decide +kernel)]; exact ⟨rfl, rfl⟩)
    (fun os started H enc _ => law_lifted (s := Rows.fnExactPickOfSpec) (tb := 4) own started laid (by kernel_rfl) Try.func8 rfl (by kernel_rfl) Try.underlying4 (by kernel_rfl)
      (fun ds h => by rw [Try.params8] at h; match ds, h with | [_, _], _ => rfl)
      (ChangeSpec.witness6 (enc := enc) (C := Try.checked) false ⟨#[], #[.slice none 0 0, .int .i64 0], []⟩ 8 (by kernel_rfl) (by kernel_rfl) (by kernel_rfl) (by kernel_rfl))
      exactPickOf_law)
#print axioms exactPickOf_holds
end Go.Proofs.Ytdjnfmekbjmdhaa
