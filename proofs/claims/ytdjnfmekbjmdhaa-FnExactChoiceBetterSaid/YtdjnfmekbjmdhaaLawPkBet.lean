/- At all rows of picks the law FnExactChoiceBetter returns true: ChoiceBetter of the program answers as ChoiceBetter of the model and leaves its arguments. No condition. -/
import Derived.Test.YtdjnfmekbjmdhaaPkopen
import Derived.Test.YtdjnfmekbjmdhaaPkeq
import Derived.Test.YtdjnfmekbjmdhaaPkbet
namespace Go.Proofs.Ytdjnfmekbjmdhaa
open Go.ChangeShapes Go.WideShapes Go.ChangeAt Go.RowKit Go.Joins

set_option maxRecDepth 100000 in
set_option maxHeartbeats 1000000 in
theorem exactBetter_long (u v : Value) (A B : List Pk) (w : World) (hm : A.length ≤ maxLen) (hm' : B.length ≤ maxLen) (h : PkAt w w.heap.size u A) (h' : PkAt w w.heap.size v B) (hl : 1048576 < A.length + B.length) :
    Calls Try.prog 12 #[u, v] w fun e w' => e = .returned (.bool true) ∧ Below w.heap.size w w' := by
  have K := szPickS_any u A 1048576 w (by omega) (by omega) hm h
  have HB := Lib.hid h'
  obtain ⟨xa, ca, rfl, _⟩ := h
  obtain ⟨xb, cb, rfl, _⟩ := h'
  by_cases ha : 1048576 < A.length
  · rw [show pleft 1048576 A.length = -1 by unfold pleft; rw [if_pos (by omega)]] at K
    have HK := Lib.hid K
    clear K
    go_enter Try.func12, Try.ntmps12
    go_wp2_with fail
    refine HK.out.mono ?_
    rintro e w1 ⟨rfl, hb⟩
    go_wp2_with fail
    go_ret
    exact ⟨rfl, hb⟩
  · obtain ⟨r, hr, hr0, hr1⟩ : ∃ r : Int, pleft 1048576 A.length = r ∧ 0 ≤ r ∧ r = 1048576 - (A.length : Int) := ⟨_, rfl, by unfold pleft; rw [if_neg (by omega)]; omega, by unfold pleft; rw [if_neg (by omega)]⟩
    rw [hr] at K
    clear hr
    have hrn : ¬ r < 0 := by omega
    have HK := Lib.hid K
    have K2 : Hid (∀ V, PkAt V V.heap.size (.slice xb B.length cb) B → Calls Try.prog 40 #[.slice xb B.length cb, .int .i64 r] V fun e w' => e = .returned (.int .i64 (-1)) ∧ Below V.heap.size V w') := Lib.hid fun V g => by
      have := szPickS_any _ B r V hr0 (by omega) hm' g
      rwa [show pleft r B.length = -1 by unfold pleft; rw [if_pos (by omega)]] at this
    clear K hr1
    go_enter Try.func12, Try.ntmps12
    go_wp2_with fail
    refine HK.out.mono ?_
    rintro e w1 ⟨rfl, b1⟩
    go_wp2_with fail
    refine (K2.out _ (HB.out.stepAt b1)).mono ?_
    rintro e w2 ⟨rfl, hb⟩
    have b2 := b1.trans (hb.mono b1.size)
    clear hb
    go_wp2_with fail
    go_ret
    exact ⟨rfl, b2⟩

set_option maxRecDepth 100000 in
set_option maxHeartbeats 4000000 in
theorem exactBetter_short (u v : Value) (A B : List Pk) (w : World) (h : PkAt w w.heap.size u A) (h' : PkAt w w.heap.size v B) (hl : A.length + B.length ≤ 1048576) :
    Calls Try.prog 12 #[u, v] w fun e w' => e = .returned (.bool true) ∧ Below w.heap.size w w' := by
  have hm : A.length ≤ 1048576 := by omega
  have hm' : B.length ≤ 1048576 := by omega
  have K := szPickS_any u A 1048576 w (by omega) (by omega) (by unfold maxLen; omega) h
  obtain ⟨r, hr, hr0, hr1⟩ : ∃ r : Int, pleft 1048576 A.length = r ∧ 0 ≤ r ∧ r = 1048576 - (A.length : Int) := ⟨_, rfl, by unfold pleft; rw [if_neg (by omega)]; omega, by unfold pleft; rw [if_neg (by omega)]⟩
  rw [hr] at K
  clear hr
  have hrn : ¬ r < 0 := by omega
  obtain ⟨r2, hr2, hr20⟩ : ∃ r2 : Int, pleft r B.length = r2 ∧ ¬ r2 < 0 := ⟨_, rfl, by unfold pleft; rw [if_neg (by omega)]; omega⟩
  have HA := Lib.hid h
  have HB := Lib.hid h'
  obtain ⟨xa, ca, rfl, hx⟩ := id h
  obtain ⟨xb, cb, rfl, hx'⟩ := id h'
  have K2 : Hid (∀ V, PkAt V V.heap.size (.slice xb B.length cb) B → Calls Try.prog 40 #[.slice xb B.length cb, .int .i64 r] V fun e w' => e = .returned (.int .i64 r2) ∧ Below V.heap.size V w') := Lib.hid fun V g => by
    have := szPickS_any _ B r V hr0 (by omega) (by unfold maxLen; omega) g
    rwa [hr2] at this
  have HK := Lib.hid K
  clear K h h' hx hx' hr1 hr2 hl
  go_enter Try.func12, Try.ntmps12
  go_wp2_with fail
  refine HK.out.mono ?_
  rintro e w1 ⟨rfl, b1⟩
  go_wp2_with fail
  refine (K2.out _ (HB.out.stepAt b1)).mono ?_
  rintro e w2 ⟨rfl, hb⟩
  have b2 := b1.trans (hb.mono b1.size)
  clear hb b1
  go_wp2_with fail
  refine (toPickS_any _ A _ (HA.out.stepAt b2) hm).mono ?_
  rintro e w3 ⟨g3, rfl, k3, _, hb⟩
  have b3 := b2.trans (hb.mono b2.size)
  clear hb b2
  go_wp2_with fail
  refine (toPickS_any _ B _ (HB.out.stepAt b3) hm').mono ?_
  rintro e w4 ⟨g4, rfl, k4, _, hb⟩
  have b4 := b3.trans (hb.mono b3.size)
  have m3 := k3.below hb
  clear hb b3 k3
  go_wp2_with fail
  refine (specBetter_any _ _ A B _ hm hm' m3.at k4.at).mono ?_
  rintro e w5 ⟨rfl, hb⟩
  have b5 := b4.trans (hb.mono b4.size)
  clear hb b4 m3 k4
  go_wp2_with fail
  refine (toPickS_any _ A _ (HA.out.stepAt b5) hm).mono ?_
  rintro e w6 ⟨g6, rfl, k6, _, hb⟩
  have b6 := b5.trans (hb.mono b5.size)
  clear hb b5
  go_wp2_with fail
  refine (toPickS_any _ B _ (HB.out.stepAt b6) hm').mono ?_
  rintro e w7 ⟨g7, rfl, k7, _, hb⟩
  have b7 := b6.trans (hb.mono b6.size)
  have m6 := k6.below hb
  clear hb b6 k6
  go_wp2_with fail
  refine (implBetter_any _ _ A B _ hm hm' m6.at k7.at).mono ?_
  rintro e w8 ⟨rfl, hb⟩
  have b8 := b7.trans (hb.mono b7.size)
  have m8 := m6.below hb
  have k8 := k7.below hb
  clear hb b7 m6 k7
  go_wp2_with fail
  refine (toPickS_any _ A _ (HA.out.stepAt b8) hm).mono ?_
  rintro e w9 ⟨g9, rfl, k9, _, hb⟩
  have b9 := b8.trans (hb.mono b8.size)
  have m9 := m8.below hb
  have n9 := k8.below hb
  clear hb b8 m8 k8
  go_wp2_with fail
  refine (eqPickS_same hm m9.at k9.at).mono ?_
  rintro e w10 ⟨rfl, hb⟩
  have b10 := b9.trans (hb.mono b9.size)
  have n10 := n9.below hb
  clear hb b9 m9 n9 k9
  go_wp2_with fail
  refine (toPickS_any _ B _ (HB.out.stepAt b10) hm').mono ?_
  rintro e w11 ⟨g11, rfl, k11, _, hb⟩
  have b11 := b10.trans (hb.mono b10.size)
  have n11 := n10.below hb
  clear hb b10 n10
  go_wp2_with fail
  refine (eqPickS_same hm' n11.at k11.at).mono ?_
  rintro e w12 ⟨rfl, hb⟩
  have b12 := b11.trans (hb.mono b11.size)
  go_wp2_with fail
  go_ret
  exact ⟨rfl, b12⟩

set_option maxRecDepth 100000 in
theorem exactChoiceBetter_law : LawWalk Try.prog 12 Try.f12 := by
  intro H enc W base args ds ps hval hA
  rw [Try.params12] at hA hval
  obtain ⟨v0, vs0, d0, es0, p0, q0, hargs, rfl, rfl, h0, r0⟩ := trodAll_cons hA
  obtain ⟨v1, vs1, d1, es1, p1, q1, rfl, rfl, rfl, h1, r1⟩ := trodAll_cons r0
  obtain ⟨rfl, rfl, rfl⟩ := trodAll_nil r1
  obtain rfl : args = #[v0, v1] := by cases args; simp_all
  obtain ⟨a, cap, A, rfl, hs, hm⟩ := open_picks (hval 0 _ v0 rfl rfl) h0
  obtain ⟨b, cap', B, rfl, hs', hm'⟩ := open_picks (hval 1 _ v1 rfl rfl) h1
  by_cases hl : A.length + B.length ≤ 1048576
  · exact exactBetter_short _ _ A B W hs hs' hl
  · exact exactBetter_long _ _ A B W hm hm' hs hs' (by omega)

set_option maxRecDepth 100000 in
theorem exactChoiceBetter_holds : Rows.FnExactChoiceBetterSaid :=
  OpenClaim.holds_of_wide 12 Try.f12 rfl rfl rfl rfl rfl rfl rfl ⟨rfl, rfl, rfl, rfl, rfl⟩ rfl rfl rfl rfl rfl (by kernel_rfl) Try.func12 (by kernel_rfl)
    (of_decide_eq_true (by kernel_rfl)) (by unfold Func.isWrapper; rw [if_neg (by decide +kernel)]; exact ⟨rfl, rfl⟩)
    (fun os started H enc _ => law_lifted (s := Rows.fnExactChoiceBetterSpec) (tb := 4) own started laid (by kernel_rfl) Try.func12 rfl (by kernel_rfl) Try.underlying4 (by kernel_rfl)
      (fun ds h => by rw [Try.params12] at h; match ds, h with | [_, _], _ => rfl)
      (ChangeSpec.witness6 (enc := enc) (C := Try.checked) false ⟨#[], #[.slice none 0 0, .slice none 0 0], []⟩ 8 (by kernel_rfl) (by kernel_rfl) (by kernel_rfl) (by kernel_rfl))
      exactChoiceBetter_law)
#print axioms exactChoiceBetter_holds
end Go.Proofs.Ytdjnfmekbjmdhaa
