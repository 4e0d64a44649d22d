/- At every row of releases, name and version the law FnExactShelfAt returns true: ShelfAt of the program answers as ShelfAt of the model and leaves its argument. No condition. -/
import Derived.Test.YtdjnfmekbjmdhaaRmopen
import Derived.Test.YtdjnfmekbjmdhaaRto
import Derived.Test.YtdjnfmekbjmdhaaRsz
import Derived.Test.YtdjnfmekbjmdhaaRlb
import Derived.Test.YtdjnfmekbjmdhaaRat
import Derived.Deep.RegionHeld3
namespace Go.Proofs.Ytdjnfmekbjmdhaa
open Go.ChangeShapes Go.WideShapes Go.ChangeAt Go.RowKit Go.Joins

set_option maxRecDepth 100000 in
set_option maxHeartbeats 1000000 in
theorem exactShelfAt_long (v : Value) (S : List Rel) (n p q r s : Int) (w : World) (hm : S.length ≤ maxLen) (hq : ∀ q ∈ S, q.2.2.2.length ≤ maxLen ∧ ∀ p ∈ q.2.2.2, p.2.length ≤ maxLen) (h : RlAt w w.heap.size v S) (hl : 1048576 < S.length + rlSz S) :
    Calls Try.prog 3 #[v, .int .i64 n, ver p q r s] w fun e w' => e = .returned (.bool true) ∧ Below w.heap.size w w' := by
  have K : Hid (∀ V, RlAt V V.heap.size v S → Calls Try.prog 15 #[v, .int .i64 1048576] V fun e w' => e = .returned (.int .i64 (-1)) ∧ Below V.heap.size V w') := Lib.hid fun V g => by
    have := szReleaseS_any v S 1048576 V (by omega) (by omega) hm hq g
    rwa [show leftOf 1048576 (S.length + rlSz S) = -1 by unfold leftOf; rw [if_pos (by omega)]] at this
  obtain ⟨a, cap, rfl, hx⟩ := id h
  have H := Lib.hid h
  have b0 := (Below.refl w.heap.size w).alloc (Nat.le_refl _) (.cells #[.int .i64 p, .int .i64 q, .int .i64 r, .int .i64 s] 24)
  clear hx h
  go_enter Try.func3, Try.ntmps3
  go_wp2_with fail
  refine (K.out _ (H.out.stepAt (by go_grown))).mono ?_
  rintro e w1 ⟨rfl, hb⟩
  go_wp2_with fail
  go_ret
  exact ⟨rfl, b0.trans (hb.mono b0.size)⟩

set_option maxRecDepth 100000 in
set_option maxHeartbeats 4000000 in
theorem exactShelfAt_short (v : Value) (S : List Rel) (n p q r s : Int) (w : World) (h : RlAt w w.heap.size v S) (hl : S.length + rlSz S ≤ 1048576) :
    Calls Try.prog 3 #[v, .int .i64 n, ver p q r s] w fun e w' => e = .returned (.bool true) ∧ Below w.heap.size w w' := by
  have hm : S.length ≤ 1048576 := by omega
  have hq := rl_each (M := S) (by omega)
  obtain ⟨y, hy, hy0⟩ : ∃ y : Int, leftOf 1048576 (S.length + rlSz S) = y ∧ ¬ y < 0 := ⟨_, rfl, by unfold leftOf; rw [if_neg (by omega)]; omega⟩
  have K : Hid (∀ V, RlAt V V.heap.size v S → Calls Try.prog 15 #[v, .int .i64 1048576] V fun e w' => e = .returned (.int .i64 y) ∧ Below V.heap.size V w') := Lib.hid fun V g => by
    have := szReleaseS_any v S 1048576 V (by omega) (by omega) (by unfold maxLen; omega) (fun q hq' => ⟨by have := (hq q hq').1; unfold maxLen; omega, fun p hp => by have := (hq q hq').2 p hp; unfold maxLen; omega⟩) g
    rwa [hy] at this
  clear hy hl
  obtain ⟨a, cap, rfl, hx⟩ := id h
  have H := Lib.hid h
  clear hx h
  have KS : Hid (∀ V u, RlAt V V.heap.size u S → Calls Try.prog 16 #[u, .int .i64 n, ver p q r s] V fun e w' => e = .returned (.int .i64 (shAt S n (p, q, r, s))) ∧ Below V.heap.size V w') := Lib.hid fun V u g => specShelfAt_any u S n p q r s V hm hq g
  have KI : Hid (∀ V u, RlAt V V.heap.size u S → Calls Try.prog 19 #[u, .int .i64 n, ver p q r s] V fun e w' => e = .returned (.int .i64 (shAt S n (p, q, r, s))) ∧ Below V.heap.size V w') := Lib.hid fun V u g => implShelfAt_any u S n p q r s V hm hq g
  generalize shAt S n (p, q, r, s) = z at *
  obtain ⟨w1, hw1⟩ : ∃ V : World, V = w.alloc (.cells #[.int .i64 p, .int .i64 q, .int .i64 r, .int .i64 s] 24) := ⟨_, rfl⟩
  have b1 : Below w.heap.size w w1 := by
    rw [hw1]
    exact (Below.refl w.heap.size w).alloc (Nat.le_refl _) _
  have s1 : w.heap.size + 1 ≤ w1.heap.size := by rw [hw1]; simp
  have y1_0 : w1.cell? ⟨w.heap.size, 0, none⟩ = some (.int .i64 p) := by rw [hw1]; go_simp
  have y1_1 : w1.cell? ⟨w.heap.size, 1, none⟩ = some (.int .i64 q) := by rw [hw1]; go_simp
  have y1_2 : w1.cell? ⟨w.heap.size, 2, none⟩ = some (.int .i64 r) := by rw [hw1]; go_simp
  have y1_3 : w1.cell? ⟨w.heap.size, 3, none⟩ = some (.int .i64 s) := by rw [hw1]; go_simp
  go_enter Try.func3, Try.ntmps3
  go_upto_region 1 with fail
  rw [← hw1]
  clear hw1
  go_wp2_with fail
  refine (K.out _ (H.out.stepAt b1)).mono ?_
  rintro e w2 ⟨rfl, hb⟩
  have b2 := b1.trans (hb.mono b1.size)
  have s2 : w.heap.size + 1 ≤ w2.heap.size := Nat.le_trans s1 hb.size
  have y2_0 := (hb.cell (p := ⟨w.heap.size, 0, none⟩) (by show w.heap.size < w1.heap.size; omega)).trans y1_0
  have y2_1 := (hb.cell (p := ⟨w.heap.size, 1, none⟩) (by show w.heap.size < w1.heap.size; omega)).trans y1_1
  have y2_2 := (hb.cell (p := ⟨w.heap.size, 2, none⟩) (by show w.heap.size < w1.heap.size; omega)).trans y1_2
  have y2_3 := (hb.cell (p := ⟨w.heap.size, 3, none⟩) (by show w.heap.size < w1.heap.size; omega)).trans y1_3
  clear hb y1_0 y1_1 y1_2 y1_3
  go_wp2_with fail
  go_cut [8] from 22 (fun t wx => t = .int .i64 z ∧ Below w2.heap.size w2 wx)
  case first =>
    go_region_held3 (fun V => V.cell? ⟨w.heap.size, 0, none⟩ = some (.int .i64 p) ∧ V.cell? ⟨w.heap.size, 1, none⟩ = some (.int .i64 q) ∧ V.cell? ⟨w.heap.size, 2, none⟩ = some (.int .i64 r) ∧ V.cell? ⟨w.heap.size, 3, none⟩ = some (.int .i64 s)) (go_keep)
      (first
      | (go_at_call 17; refine (toReleaseS_any _ S _ ((H.out.stepAt b2).stepAt (by go_grown)) hm hq).mono ?_; rintro e wu ⟨gu, rfl, ku, hgu, hbu⟩; have nn : Below w2.heap.size w2 wu := Below.step (by go_grown) hbu; clear hgu; have ku_0 := (nn.cell (p := ⟨w.heap.size, 0, none⟩) (by show w.heap.size < w2.heap.size; omega)).trans y2_0; have ku_1 := (nn.cell (p := ⟨w.heap.size, 1, none⟩) (by show w.heap.size < w2.heap.size; omega)).trans y2_1; have ku_2 := (nn.cell (p := ⟨w.heap.size, 2, none⟩) (by show w.heap.size < w2.heap.size; omega)).trans y2_2; have ku_3 := (nn.cell (p := ⟨w.heap.size, 3, none⟩) (by show w.heap.size < w2.heap.size; omega)).trans y2_3)
      | (go_at_call 18; refine (toVersion_any p q r s _).mono ?_; rintro e wv ⟨rfl, hbv⟩; have nn : Below w2.heap.size w2 wv := Below.step (by go_grown) hbv; have kv_0 := (nn.cell (p := ⟨w.heap.size, 0, none⟩) (by show w.heap.size < w2.heap.size; omega)).trans y2_0; have kv_1 := (nn.cell (p := ⟨w.heap.size, 1, none⟩) (by show w.heap.size < w2.heap.size; omega)).trans y2_1; have kv_2 := (nn.cell (p := ⟨w.heap.size, 2, none⟩) (by show w.heap.size < w2.heap.size; omega)).trans y2_2; have kv_3 := (nn.cell (p := ⟨w.heap.size, 3, none⟩) (by show w.heap.size < w2.heap.size; omega)).trans y2_3)
      | (go_at_call 16; refine (KS.out _ _ (ku.at.stepAt (by go_grown))).mono ?_; rintro e wx ⟨rfl, hbx⟩; have nn : Below w2.heap.size w2 wx := Below.step (by go_grown) hbx; have kx_0 := (nn.cell (p := ⟨w.heap.size, 0, none⟩) (by show w.heap.size < w2.heap.size; omega)).trans y2_0; have kx_1 := (nn.cell (p := ⟨w.heap.size, 1, none⟩) (by show w.heap.size < w2.heap.size; omega)).trans y2_1; have kx_2 := (nn.cell (p := ⟨w.heap.size, 2, none⟩) (by show w.heap.size < w2.heap.size; omega)).trans y2_2; have kx_3 := (nn.cell (p := ⟨w.heap.size, 3, none⟩) (by show w.heap.size < w2.heap.size; omega)).trans y2_3))
    all_goals
      go_wp2_with fail
      go_meet
      case rel => exact ⟨rfl, nn⟩
  case rest =>
    rename World => w3
    obtain ⟨rfl, hb⟩ := hcut
    have b3 := b2.trans (hb.mono b2.size)
    have s3 : w.heap.size + 1 ≤ w3.heap.size := Nat.le_trans s2 hb.size
    have y3_0 := (hb.cell (p := ⟨w.heap.size, 0, none⟩) (by show w.heap.size < w2.heap.size; omega)).trans y2_0
    have y3_1 := (hb.cell (p := ⟨w.heap.size, 1, none⟩) (by show w.heap.size < w2.heap.size; omega)).trans y2_1
    have y3_2 := (hb.cell (p := ⟨w.heap.size, 2, none⟩) (by show w.heap.size < w2.heap.size; omega)).trans y2_2
    have y3_3 := (hb.cell (p := ⟨w.heap.size, 3, none⟩) (by show w.heap.size < w2.heap.size; omega)).trans y2_3
    clear hb y2_0 y2_1 y2_2 y2_3
    go_wp2_with fail
    refine (toReleaseS_any _ S _ (H.out.stepAt b3) hm hq).mono ?_
    rintro e w4 ⟨g4, rfl, k4, hg4, hb⟩
    have b4 := b3.trans (hb.mono b3.size)
    have s4 : w.heap.size + 1 ≤ w4.heap.size := Nat.le_trans s3 hb.size
    have y4_0 := (hb.cell (p := ⟨w.heap.size, 0, none⟩) (by show w.heap.size < w3.heap.size; omega)).trans y3_0
    have y4_1 := (hb.cell (p := ⟨w.heap.size, 1, none⟩) (by show w.heap.size < w3.heap.size; omega)).trans y3_1
    have y4_2 := (hb.cell (p := ⟨w.heap.size, 2, none⟩) (by show w.heap.size < w3.heap.size; omega)).trans y3_2
    have y4_3 := (hb.cell (p := ⟨w.heap.size, 3, none⟩) (by show w.heap.size < w3.heap.size; omega)).trans y3_3
    clear hg4
    clear hb y3_0 y3_1 y3_2 y3_3
    go_wp2_with fail
    refine (toVersion_any p q r s _).mono ?_
    rintro e w5 ⟨rfl, hb⟩
    have b5 := b4.trans (hb.mono b4.size)
    have s5 : w.heap.size + 1 ≤ w5.heap.size := Nat.le_trans s4 hb.size
    have y5_0 := (hb.cell (p := ⟨w.heap.size, 0, none⟩) (by show w.heap.size < w4.heap.size; omega)).trans y4_0
    have y5_1 := (hb.cell (p := ⟨w.heap.size, 1, none⟩) (by show w.heap.size < w4.heap.size; omega)).trans y4_1
    have y5_2 := (hb.cell (p := ⟨w.heap.size, 2, none⟩) (by show w.heap.size < w4.heap.size; omega)).trans y4_2
    have y5_3 := (hb.cell (p := ⟨w.heap.size, 3, none⟩) (by show w.heap.size < w4.heap.size; omega)).trans y4_3
    have k5 := k4.below hb
    clear hb y4_0 y4_1 y4_2 y4_3
    go_wp2_with fail
    refine (KI.out _ _ k5.at).mono ?_
    rintro e w6 ⟨rfl, hb⟩
    have b6 := b5.trans (hb.mono b5.size)
    have s6 : w.heap.size + 1 ≤ w6.heap.size := Nat.le_trans s5 hb.size
    have y6_0 := (hb.cell (p := ⟨w.heap.size, 0, none⟩) (by show w.heap.size < w5.heap.size; omega)).trans y5_0
    have y6_1 := (hb.cell (p := ⟨w.heap.size, 1, none⟩) (by show w.heap.size < w5.heap.size; omega)).trans y5_1
    have y6_2 := (hb.cell (p := ⟨w.heap.size, 2, none⟩) (by show w.heap.size < w5.heap.size; omega)).trans y5_2
    have y6_3 := (hb.cell (p := ⟨w.heap.size, 3, none⟩) (by show w.heap.size < w5.heap.size; omega)).trans y5_3
    have k6 := k5.below hb
    clear hb y5_0 y5_1 y5_2 y5_3
    have hzz : (z != z) = false := by simp
    go_wp2_with fail
    refine (toReleaseS_any _ S _ (H.out.stepAt b6) hm hq).mono ?_
    rintro e w7 ⟨g7, rfl, k7, hg7, hb⟩
    have b7 := b6.trans (hb.mono b6.size)
    have s7 : w.heap.size + 1 ≤ w7.heap.size := Nat.le_trans s6 hb.size
    have y7_0 := (hb.cell (p := ⟨w.heap.size, 0, none⟩) (by show w.heap.size < w6.heap.size; omega)).trans y6_0
    have y7_1 := (hb.cell (p := ⟨w.heap.size, 1, none⟩) (by show w.heap.size < w6.heap.size; omega)).trans y6_1
    have y7_2 := (hb.cell (p := ⟨w.heap.size, 2, none⟩) (by show w.heap.size < w6.heap.size; omega)).trans y6_2
    have y7_3 := (hb.cell (p := ⟨w.heap.size, 3, none⟩) (by show w.heap.size < w6.heap.size; omega)).trans y6_3
    have k8 := k6.below hb
    clear hb y6_0 y6_1 y6_2 y6_3
    go_wp2_with fail
    refine (eqReleaseS_same hm hq k8.at k7.at).mono ?_
    rintro e w8 ⟨rfl, hb⟩
    have b8 := b7.trans (hb.mono b7.size)
    go_wp2_with fail
    go_ret
    exact ⟨rfl, b8⟩

set_option maxRecDepth 100000 in
theorem exactShelfAt_law : LawWalk Try.prog 3 Try.f3 := by
  intro H enc W base args ds ps hval hA
  rw [Try.params3] at hA hval
  obtain ⟨v0, vs0, d0, es0, p0, q0, hargs, rfl, rfl, h0, r0⟩ := trodAll_cons hA
  obtain ⟨v1, vs1, d1, es1, p1, q1, rfl, rfl, rfl, h1, r1⟩ := trodAll_cons r0
  obtain ⟨v2, vs2, d2, es2, p2, q2, rfl, rfl, rfl, h2, r2⟩ := trodAll_cons r1
  obtain ⟨rfl, rfl, rfl⟩ := trodAll_nil r2
  obtain rfl : args = #[v0, v1, v2] := by cases args; simp_all
  obtain ⟨a, cap, S, rfl, hs, hm, hq⟩ := open_rels (hval 0 _ v0 rfl rfl) h0
  obtain ⟨n, rfl⟩ := okWide_int Try.underlying3 (hval 1 _ v1 rfl rfl)
  obtain ⟨x, y, z, u, rfl⟩ := open_ver (hval 2 _ v2 rfl rfl) h2
  by_cases hl : S.length + rlSz S ≤ 1048576
  · exact exactShelfAt_short _ S n x y z u W hs hl
  · exact exactShelfAt_long _ S n x y z u W hm hq hs (by omega)

set_option maxRecDepth 100000 in
theorem exactShelfAt_holds : Rows.FnExactShelfAtSaid :=
  OpenClaim.holds_of_wide 3 Try.f3 rfl rfl rfl rfl rfl rfl rfl ⟨rfl, rfl, rfl, rfl, rfl⟩ rfl rfl rfl rfl rfl (by kernel_rfl) Try.func3 (by kernel_rfl)
    (of_decide_eq_true (by kernel_rfl)) (by unfold Func.isWrapper; rw [if_neg (by decide +kernel)]; exact ⟨rfl, rfl⟩)
    (fun os started H enc _ => law_lifted (s := Rows.fnExactShelfAtSpec) (tb := 4) own started laid (by kernel_rfl) Try.func3 rfl (by kernel_rfl) Try.underlying4 (by kernel_rfl)
      (fun ds h => by rw [Try.params3] at h; match ds, h with | [_, _, _], _ => rfl)
      (ChangeSpec.witness6 (enc := enc) (C := Try.checked) false ⟨#[], #[.slice none 0 0, .int .i64 0, .agg #[.int .i64 0, .int .i64 0, .int .i64 0, .int .i64 0]], []⟩ 8 (by kernel_rfl) (by kernel_rfl) (by kernel_rfl) (by kernel_rfl))
      exactShelfAt_law)
#print axioms exactShelfAt_holds
end Go.Proofs.Ytdjnfmekbjmdhaa
