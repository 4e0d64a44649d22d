/- At every argument the law FnExactLeastOf returns true: LeastOf of the program answers as LeastOf of the model, and leaves its arguments. No condition. -/
import Derived.Test.YtjnmkkcdcacakaaGc
import Derived.Test.YtjnmkkcdcacakaaLsa
import Derived.Test.YtjnmkkcdcacakaaMarkr
import Derived.Deep.RegionHeld3
namespace Go.Proofs.Ytjnmkkcdcacakaa
open Go.ChangeShapes Go.WideShapes Go.ChangeAt Go.RowKit Go.Joins Go.Sort

namespace Llo
set_option maxRecDepth 100000 in
theorem open_need {H : Type} {enc : TypeId × Value → H} {w : World} {held : Bool} {b0 : Nat} {v : Value} {d : DataW H} {p : List MemPlace} (hv : Value.okWide Try.prog w .any b0 27 v)
    (h : DataW.Trod enc Try.prog w 0 (fun _ => true) held 27 v d p) : ∃ (n : Int) (a : Option Addr) (cap : Nat) (L : List (Int × Int)), v = need n (.slice a L.length cap) ∧ SpAt w w.heap.size (.slice a L.length cap) L ∧ L.length ≤ maxLen := by
  obtain ⟨cs, rfl, hsz⟩ := okWide_struct Try.underlying27 hv
  obtain ⟨l⟩ := cs
  obtain ⟨fuel, hf⟩ := h
  simp only [Value.cells] at hf
  obtain ⟨q, a, cap, hc, hs, hm⟩ := open_need_trod hf
  subst hc
  exact ⟨q.1, a, cap, q.2, rfl, hs, hm⟩
theorem toNeed_sb (n : Int) (v : Value) (L : List (Int × Int)) (w : World) (h : SpAt w w.heap.size v L) (hl : L.length ≤ 1048576) :
    Calls Try.prog 16 #[need n v] w fun e w' => ∃ a c, e = .returned (need n (.slice a L.length c)) ∧ SB L w.heap.size w'.heap.size (.slice a L.length c) w' ∧ Below w.heap.size w w' :=
  (toNeed_any n v L w h hl).mono fun _ _ ⟨g, he, hk, hg, hb⟩ => ⟨_, _, he, ⟨_, _, rfl, .inr ⟨g, _, rfl, hk, hg, hk.lt⟩⟩, hb⟩
theorem eqNeed_same {n : Int} {v v' : Value} {L : List (Int × Int)} {w : World} (hl : L.length ≤ 1048576) (h : SpAt w w.heap.size v L) (h' : SpAt w w.heap.size v' L) :
    Calls Try.prog 19 #[need n v, need n v'] w fun e w' => e = .returned (.bool true) ∧ Below w.heap.size w w' := by
  have := eqNeed_any n n v v' L L w hl hl h h'
  rwa [decide_eq_true (p := n = n ∧ L = L) ⟨rfl, rfl⟩] at this
set_option maxRecDepth 100000 in
set_option maxHeartbeats 2000000 in
theorem exactLeastOf_long (v u : Value) (S : List Rel) (n : Int) (L : List (Int × Int)) (w : World) (hm : S.length ≤ maxLen) (hq : ∀ q ∈ S, q.2.2.2.length ≤ maxLen ∧ ∀ p ∈ q.2.2.2, p.2.length ≤ maxLen) (hL : L.length ≤ maxLen) (h : RlAt w w.heap.size v S) (h' : SpAt w w.heap.size u L) (hl : 1048576 < S.length + rlSz S + L.length) :
    Calls Try.prog 3 #[v, need n u] w fun e w' => e = .returned (.bool true) ∧ Below w.heap.size w w' := by
  obtain ⟨sa, caps, rfl, hx⟩ := id h
  obtain ⟨na, ncap, rfl, hy⟩ := id h'
  clear hx hy
  have H := Lib.hid h
  have b0 := (Below.refl w.heap.size w).alloc (Nat.le_refl _) (.cells #[.int .i64 n, .slice na L.length ncap] 27)
  have K : Hid (∀ V, RlAt V V.heap.size (.slice sa S.length caps) S → Calls Try.prog 12 #[.slice sa S.length caps, .int .i64 1048576] V fun e w' => e = .returned (.int .i64 (leftOf 1048576 (S.length + rlSz S))) ∧ Below V.heap.size V w') := Lib.hid fun V g => szReleaseS_any _ S 1048576 V (by omega) (by omega) hm hq g
  clear h h'
  by_cases h1 : 1048576 < S.length + rlSz S
  · rw [show leftOf 1048576 (S.length + rlSz S) = -1 by unfold leftOf; rw [if_pos (by omega)]] at K
    go_enter Try.func3, Try.ntmps3
    go_wp2_with fail
    refine (K.out _ (H.out.stepAt (by go_grown))).mono ?_
    rintro e w1 ⟨rfl, hb⟩
    go_wp2_with fail
    go_ret
    exact ⟨rfl, b0.trans (hb.mono b0.size)⟩
  · obtain ⟨y, hy, hy0, hy1, hy2⟩ : ∃ y : Int, leftOf 1048576 (S.length + rlSz S) = y ∧ ¬ y < 0 ∧ y ≤ 1048576 ∧ y < L.length := ⟨_, rfl, by unfold leftOf; rw [if_neg (by omega)]; omega, by unfold leftOf; rw [if_neg (by omega)]; omega, by unfold leftOf; rw [if_neg (by omega)]; omega⟩
    rw [hy] at K
    have hLm : L.length ≤ 9223372036854775807 := by unfold maxLen at hL; omega
    have K2 : Hid (∀ V, Calls Try.prog 13 #[need n (.slice na L.length ncap), .int .i64 y] V fun e w' => e = .returned (.int .i64 (-1)) ∧ Below V.heap.size V w') := Lib.hid fun V => by
      have := szNeed_any n na L.length ncap y V (by omega) hy1 hLm
      rwa [show leftOf y L.length = -1 by unfold leftOf; rw [if_pos hy2]] at this
    have c0 : (w.alloc (.cells #[.int .i64 n, .slice na L.length ncap] 27)).cell? ⟨w.heap.size, 0, none⟩ = some (.int .i64 n) := by go_simp
    have c1 : (w.alloc (.cells #[.int .i64 n, .slice na L.length ncap] 27)).cell? ⟨w.heap.size, 1, none⟩ = some (.slice na L.length ncap) := by go_simp
    clear hy hy2 hL
    go_enter Try.func3, Try.ntmps3
    go_wp2_with fail
    refine (K.out _ (H.out.stepAt (by go_grown))).mono ?_
    rintro e w1 ⟨rfl, hb⟩
    have b1 := b0.trans (hb.mono b0.size)
    have d0 := (hb.cell (p := ⟨w.heap.size, 0, none⟩) (by simp)).trans c0
    have d1 := (hb.cell (p := ⟨w.heap.size, 1, none⟩) (by simp)).trans c1
    clear hb c0 c1 b0
    go_wp2_with fail
    refine (K2.out _).mono ?_
    rintro e w2 ⟨rfl, hb⟩
    go_wp2_with fail
    go_ret
    exact ⟨rfl, b1.trans (hb.mono b1.size)⟩

set_option maxRecDepth 100000 in
set_option maxHeartbeats 16000000 in
theorem exactLeastOf_short (v u : Value) (S : List Rel) (n : Int) (L : List (Int × Int)) (w : World) (h : RlAt w w.heap.size v S) (h' : SpAt w w.heap.size u L) (hl : S.length + rlSz S + L.length ≤ 1048576) :
    Calls Try.prog 3 #[v, need n u] w fun e w' => e = .returned (.bool true) ∧ Below w.heap.size w w' := by
  have hm : S.length ≤ 1048576 := by omega
  have hz : rlSz S ≤ 1048576 := by omega
  have hL : L.length ≤ 1048576 := by omega
  have hq := rl_each (M := S) hz
  obtain ⟨sa, caps, rfl, hx⟩ := id h
  obtain ⟨na, ncap, rfl, hy⟩ := id h'
  clear hx hy
  have H := Lib.hid h
  have H' := Lib.hid h'
  clear h h'
  obtain ⟨y, hy, hy0, hy1, hy2⟩ : ∃ y : Int, leftOf 1048576 (S.length + rlSz S) = y ∧ ¬ y < 0 ∧ y ≤ 1048576 ∧ ¬ y < L.length := ⟨_, rfl, by unfold leftOf; rw [if_neg (by omega)]; omega, by unfold leftOf; rw [if_neg (by omega)]; omega, by unfold leftOf; rw [if_neg (by omega)]; omega⟩
  have K : Hid (∀ V, RlAt V V.heap.size (.slice sa S.length caps) S → Calls Try.prog 12 #[.slice sa S.length caps, .int .i64 1048576] V fun e w' => e = .returned (.int .i64 y) ∧ Below V.heap.size V w') := Lib.hid fun V g => by
    have := szReleaseS_any _ S 1048576 V (by omega) (by omega) (by unfold maxLen; omega) (fun q hq' => ⟨by have := (hq q hq').1; unfold maxLen; omega, fun p hp => by have := (hq q hq').2 p hp; unfold maxLen; omega⟩) g
    rwa [hy] at this
  obtain ⟨y2, hyy, hyy0⟩ : ∃ y2 : Int, leftOf y L.length = y2 ∧ ¬ y2 < 0 := ⟨_, rfl, by unfold leftOf; rw [if_neg hy2]; omega⟩
  have K2 : Hid (∀ V, Calls Try.prog 13 #[need n (.slice na L.length ncap), .int .i64 y] V fun e w' => e = .returned (.int .i64 y2) ∧ Below V.heap.size V w') := Lib.hid fun V => by
    have := szNeed_any n na L.length ncap y V (by omega) hy1 (by omega)
    rwa [hyy] at this
  clear hy hy2 hyy
  have KS : Hid (∀ V v u, RlAt V V.heap.size v S → SpAt V V.heap.size u L → Calls Try.prog 14 #[v, need n u] V fun e w' => e = .returned (.int .i64 (Lst.leastOf S n L)) ∧ Below V.heap.size V w') := Lib.hid fun V v u g g' => Lst.specLeastOf_any v u S n L V hm hq hL g g'
  have KI : Hid (∀ V v u, RlAt V V.heap.size v S → SpAt V V.heap.size u L → Calls Try.prog 17 #[v, need n u] V fun e w' => e = .returned (.int .i64 (Lst.leastOf S n L)) ∧ Below V.heap.size V w') := Lib.hid fun V v u g g' => Lst.implLeastOf_any v u S n L V hm hq hL g g'
  generalize Lst.leastOf S n L = N at *
  have hNN : (N != N) = false := by simp
  obtain ⟨w1, hw1⟩ : ∃ V : World, V = w.alloc (.cells #[.int .i64 n, .slice na L.length ncap] 27) := ⟨_, rfl⟩
  have b1 : Below w.heap.size w w1 := by
    rw [hw1]
    exact (Below.refl w.heap.size w).alloc (Nat.le_refl _) _
  have z1 : w.heap.size + 1 ≤ w1.heap.size := by rw [hw1]; simp
  have c1_0_0 : w1.cell? ⟨w.heap.size, 0, none⟩ = some (.int .i64 n) := by rw [hw1]; go_simp
  have c1_0_1 : w1.cell? ⟨w.heap.size, 1, none⟩ = some (.slice na L.length ncap) := by rw [hw1]; go_simp
  go_enter Try.func3, Try.ntmps3
  go_upto_region 1 with fail
  rw [← hw1]
  clear hw1
  go_wp2_with fail
  refine (K.out _ (H.out.stepAt b1)).mono ?_
  rintro e w2 ⟨rfl, hb⟩
  have zw2 : w1.heap.size ≤ w2.heap.size := hb.size
  have bw2 := b1.trans (hb.mono b1.size)
  have cw2_0_0 := (hb.cell (p := ⟨w.heap.size, 0, none⟩) (by show w.heap.size < w1.heap.size; omega)).trans c1_0_0
  have cw2_0_1 := (hb.cell (p := ⟨w.heap.size, 1, none⟩) (by show w.heap.size < w1.heap.size; omega)).trans c1_0_1
  clear hb b1 c1_0_0 c1_0_1
  go_wp2_with fail
  refine (K2.out _).mono ?_
  rintro e w3 ⟨rfl, hb⟩
  have zw3 : w2.heap.size ≤ w3.heap.size := hb.size
  have bw3 := bw2.trans (hb.mono bw2.size)
  have cw3_0_0 := (hb.cell (p := ⟨w.heap.size, 0, none⟩) (by show w.heap.size < w2.heap.size; omega)).trans cw2_0_0
  have cw3_0_1 := (hb.cell (p := ⟨w.heap.size, 1, none⟩) (by show w.heap.size < w2.heap.size; omega)).trans cw2_0_1
  clear hb bw2 cw2_0_0 cw2_0_1
  go_wp2_with fail
  go_cut [6] from 25 (fun t wx => t = .int .i64 N ∧ Below w3.heap.size w3 wx)
  case first =>
    go_region_held3 (fun V => V.cell? ⟨w.heap.size, 0, none⟩ = some (.int .i64 n) ∧ V.cell? ⟨w.heap.size, 1, none⟩ = some (.slice na L.length ncap)) (go_keep)
      (first
      | (go_at_call 15; refine (toReleaseS_any _ S _ (((H.out.stepAt bw3)).stepAt (by go_grown)) hm hq).mono ?_; rintro e wu ⟨gu, rfl, ku, hgu, hbu⟩; have nn : Below w3.heap.size w3 wu := Below.step (by go_grown) hbu; clear hgu; have ku_0_0 := (nn.cell (p := ⟨w.heap.size, 0, none⟩) (by show w.heap.size < w3.heap.size; omega)).trans cw3_0_0; have ku_0_1 := (nn.cell (p := ⟨w.heap.size, 1, none⟩) (by show w.heap.size < w3.heap.size; omega)).trans cw3_0_1)
      | (go_at_call 16; refine (toNeed_sb n _ L _ ((H'.out.stepAt bw3).stepAt (by go_grown)) hL).mono ?_; rintro e wv ⟨av, cv, rfl, kv, hbv⟩; have nn : Below w3.heap.size w3 wv := Below.step (by go_grown) hbv; have kv_0_0 := (nn.cell (p := ⟨w.heap.size, 0, none⟩) (by show w.heap.size < w3.heap.size; omega)).trans cw3_0_0; have kv_0_1 := (nn.cell (p := ⟨w.heap.size, 1, none⟩) (by show w.heap.size < w3.heap.size; omega)).trans cw3_0_1)
      | (go_at_call 14; refine (KS.out _ _ _ (ku.at.stepAt (by go_grown)) (kv.at.stepAt (by go_grown))).mono ?_; rintro e wx ⟨rfl, hbx⟩; have nn : Below w3.heap.size w3 wx := Below.step (by go_grown) hbx; have kx_0_0 := (nn.cell (p := ⟨w.heap.size, 0, none⟩) (by show w.heap.size < w3.heap.size; omega)).trans cw3_0_0; have kx_0_1 := (nn.cell (p := ⟨w.heap.size, 1, none⟩) (by show w.heap.size < w3.heap.size; omega)).trans cw3_0_1))
    all_goals
      go_wp2_with fail
      go_meet
      case rel => exact ⟨rfl, nn⟩
  case rest =>
    rename World => w4
    obtain ⟨rfl, hb⟩ := hcut
    have zw4 : w3.heap.size ≤ w4.heap.size := hb.size
    have bw4 := bw3.trans (hb.mono bw3.size)
    have cw4_0_0 := (hb.cell (p := ⟨w.heap.size, 0, none⟩) (by show w.heap.size < w3.heap.size; omega)).trans cw3_0_0
    have cw4_0_1 := (hb.cell (p := ⟨w.heap.size, 1, none⟩) (by show w.heap.size < w3.heap.size; omega)).trans cw3_0_1
    clear hb bw3 cw3_0_0 cw3_0_1
    go_wp2_with fail
    refine (toReleaseS_ord _ S _ (H.out.stepAt bw4) hm hq).mono ?_
    rintro e w5 ⟨ux, rfl, hx0, hb⟩
    have zw5 : w4.heap.size ≤ w5.heap.size := hb.size
    have bw5 := bw4.trans (hb.mono bw4.size)
    have cw5_0_0 := (hb.cell (p := ⟨w.heap.size, 0, none⟩) (by show w.heap.size < w4.heap.size; omega)).trans cw4_0_0
    have cw5_0_1 := (hb.cell (p := ⟨w.heap.size, 1, none⟩) (by show w.heap.size < w4.heap.size; omega)).trans cw4_0_1
    clear hb bw4 cw4_0_0 cw4_0_1
    obtain ⟨ax, cx, rfl, ex⟩ := id hx0
    clear ex
    go_wp2_with fail
    refine (toNeed_sb n _ L _ (H'.out.stepAt bw5) hL).mono ?_
    rintro e w6 ⟨ay, cy, rfl, hy0, hb⟩
    have zw6 : w5.heap.size ≤ w6.heap.size := hb.size
    have bw6 := bw5.trans (hb.mono bw5.size)
    have cw6_0_0 := (hb.cell (p := ⟨w.heap.size, 0, none⟩) (by show w.heap.size < w5.heap.size; omega)).trans cw5_0_0
    have cw6_0_1 := (hb.cell (p := ⟨w.heap.size, 1, none⟩) (by show w.heap.size < w5.heap.size; omega)).trans cw5_0_1
    have rw6_x := hx0.below hb
    clear hb bw5 cw5_0_0 cw5_0_1 hx0
    go_upto_region 11 with fail
    obtain ⟨w7, hw⟩ : ∃ V : World, V = w6.alloc (.cells #[.int .i64 n, .slice ay L.length cy] 37) := ⟨_, rfl⟩
    have hb : Below w6.heap.size w6 w7 := by
      rw [hw]
      exact (Below.refl _ _).alloc (Nat.le_refl _) _
    have cb_0 : w7.cell? ⟨w6.heap.size, 0, none⟩ = some (.int .i64 n) := by rw [hw]; go_simp
    have cb_1 : w7.cell? ⟨w6.heap.size, 1, none⟩ = some (.slice ay L.length cy) := by rw [hw]; go_simp
    have zb : w6.heap.size + 1 ≤ w7.heap.size := by rw [hw]; simp
    rw [← hw]
    clear hw
    have zw7 : w6.heap.size ≤ w7.heap.size := hb.size
    have bw7 := bw6.trans (hb.mono bw6.size)
    have cw7_0_0 := (hb.cell (p := ⟨w.heap.size, 0, none⟩) (by show w.heap.size < w6.heap.size; omega)).trans cw6_0_0
    have cw7_0_1 := (hb.cell (p := ⟨w.heap.size, 1, none⟩) (by show w.heap.size < w6.heap.size; omega)).trans cw6_0_1
    have rw7_x := rw6_x.below hb
    have rw7_y := hy0.below hb
    clear hb bw6 cw6_0_0 cw6_0_1 rw6_x hy0
    go_wp2_with fail
    refine (KI.out _ _ _ rw7_x.at rw7_y.at).mono ?_
    rintro e w8 ⟨rfl, hb⟩
    have zw8 : w7.heap.size ≤ w8.heap.size := hb.size
    have bw8 := bw7.trans (hb.mono bw7.size)
    have cw8_0_0 := (hb.cell (p := ⟨w.heap.size, 0, none⟩) (by show w.heap.size < w7.heap.size; omega)).trans cw7_0_0
    have cw8_0_1 := (hb.cell (p := ⟨w.heap.size, 1, none⟩) (by show w.heap.size < w7.heap.size; omega)).trans cw7_0_1
    have cw8_1_0 := (hb.cell (p := ⟨w6.heap.size, 0, none⟩) (by show w6.heap.size < w7.heap.size; omega)).trans cb_0
    have cw8_1_1 := (hb.cell (p := ⟨w6.heap.size, 1, none⟩) (by show w6.heap.size < w7.heap.size; omega)).trans cb_1
    have rw8_x := rw7_x.below hb
    have rw8_y := rw7_y.below hb
    clear hb bw7 cw7_0_0 cw7_0_1 cb_0 cb_1 rw7_x rw7_y
    go_wp2_with fail
    refine (toReleaseS_any _ S _ (H.out.stepAt bw8) hm hq).mono ?_
    rintro e w9 ⟨gz, rfl, kz, hgz, hb⟩
    clear hgz
    have zw9 : w8.heap.size ≤ w9.heap.size := hb.size
    have bw9 := bw8.trans (hb.mono bw8.size)
    have cw9_0_0 := (hb.cell (p := ⟨w.heap.size, 0, none⟩) (by show w.heap.size < w8.heap.size; omega)).trans cw8_0_0
    have cw9_0_1 := (hb.cell (p := ⟨w.heap.size, 1, none⟩) (by show w.heap.size < w8.heap.size; omega)).trans cw8_0_1
    have cw9_1_0 := (hb.cell (p := ⟨w6.heap.size, 0, none⟩) (by show w6.heap.size < w8.heap.size; omega)).trans cw8_1_0
    have cw9_1_1 := (hb.cell (p := ⟨w6.heap.size, 1, none⟩) (by show w6.heap.size < w8.heap.size; omega)).trans cw8_1_1
    have rw9_x := rw8_x.below hb
    have rw9_y := rw8_y.below hb
    clear hb bw8 cw8_0_0 cw8_0_1 cw8_1_0 cw8_1_1 rw8_x rw8_y
    go_wp2_with fail
    refine (eqReleaseS_same hm hq rw9_x.at kz.at).mono ?_
    rintro e w10 ⟨rfl, hb⟩
    have zw10 : w9.heap.size ≤ w10.heap.size := hb.size
    have bw10 := bw9.trans (hb.mono bw9.size)
    have cw10_0_0 := (hb.cell (p := ⟨w.heap.size, 0, none⟩) (by show w.heap.size < w9.heap.size; omega)).trans cw9_0_0
    have cw10_0_1 := (hb.cell (p := ⟨w.heap.size, 1, none⟩) (by show w.heap.size < w9.heap.size; omega)).trans cw9_0_1
    have cw10_1_0 := (hb.cell (p := ⟨w6.heap.size, 0, none⟩) (by show w6.heap.size < w9.heap.size; omega)).trans cw9_1_0
    have cw10_1_1 := (hb.cell (p := ⟨w6.heap.size, 1, none⟩) (by show w6.heap.size < w9.heap.size; omega)).trans cw9_1_1
    have rw10_x := rw9_x.below hb
    have rw10_y := rw9_y.below hb
    clear hb bw9 cw9_0_0 cw9_0_1 cw9_1_0 cw9_1_1 rw9_x rw9_y
    clear kz
    go_wp2_with fail
    go_cut [44] from 40 (fun t wx => t = .bool false ∧ Below w10.heap.size w10 wx)
    case first =>
      go_region_held3 (fun V => (V.cell? ⟨w.heap.size, 0, none⟩ = some (.int .i64 n) ∧ V.cell? ⟨w.heap.size, 1, none⟩ = some (.slice na L.length ncap)) ∧ (V.cell? ⟨w6.heap.size, 0, none⟩ = some (.int .i64 n) ∧ V.cell? ⟨w6.heap.size, 1, none⟩ = some (.slice ay L.length cy))) (go_keep)
        (first
        | (go_at_call 16; refine (toNeed_sb n _ L _ ((H'.out.stepAt bw10).stepAt (by go_grown)) hL).mono ?_; rintro e wv ⟨av, cv, rfl, kv, hbv⟩; have nn : Below w10.heap.size w10 wv := Below.step (by go_grown) hbv; have kv_0_0 := (nn.cell (p := ⟨w.heap.size, 0, none⟩) (by show w.heap.size < w10.heap.size; omega)).trans cw10_0_0; have kv_0_1 := (nn.cell (p := ⟨w.heap.size, 1, none⟩) (by show w.heap.size < w10.heap.size; omega)).trans cw10_0_1; have kv_1_0 := (nn.cell (p := ⟨w6.heap.size, 0, none⟩) (by show w6.heap.size < w10.heap.size; omega)).trans cw10_1_0; have kv_1_1 := (nn.cell (p := ⟨w6.heap.size, 1, none⟩) (by show w6.heap.size < w10.heap.size; omega)).trans cw10_1_1)
        | (go_at_call 19; refine (eqNeed_same hL (rw10_y.at.stepAt (by go_grown)) (kv.at.stepAt (by go_grown))).mono ?_; rintro e wx ⟨rfl, hbx⟩; have nn : Below w10.heap.size w10 wx := Below.step (by go_grown) hbx; have kx_0_0 := (nn.cell (p := ⟨w.heap.size, 0, none⟩) (by show w.heap.size < w10.heap.size; omega)).trans cw10_0_0; have kx_0_1 := (nn.cell (p := ⟨w.heap.size, 1, none⟩) (by show w.heap.size < w10.heap.size; omega)).trans cw10_0_1; have kx_1_0 := (nn.cell (p := ⟨w6.heap.size, 0, none⟩) (by show w6.heap.size < w10.heap.size; omega)).trans cw10_1_0; have kx_1_1 := (nn.cell (p := ⟨w6.heap.size, 1, none⟩) (by show w6.heap.size < w10.heap.size; omega)).trans cw10_1_1))
      all_goals
        go_wp2_with fail
        go_meet
        case rel => exact ⟨rfl, nn⟩
    case rest =>
      rename World => w11
      obtain ⟨rfl, hb⟩ := hcut
      have zw11 : w10.heap.size ≤ w11.heap.size := hb.size
      have bw11 := bw10.trans (hb.mono bw10.size)
      have cw11_0_0 := (hb.cell (p := ⟨w.heap.size, 0, none⟩) (by show w.heap.size < w10.heap.size; omega)).trans cw10_0_0
      have cw11_0_1 := (hb.cell (p := ⟨w.heap.size, 1, none⟩) (by show w.heap.size < w10.heap.size; omega)).trans cw10_0_1
      have cw11_1_0 := (hb.cell (p := ⟨w6.heap.size, 0, none⟩) (by show w6.heap.size < w10.heap.size; omega)).trans cw10_1_0
      have cw11_1_1 := (hb.cell (p := ⟨w6.heap.size, 1, none⟩) (by show w6.heap.size < w10.heap.size; omega)).trans cw10_1_1
      have rw11_x := rw10_x.below hb
      have rw11_y := rw10_y.below hb
      clear hb bw10 cw10_0_0 cw10_0_1 cw10_1_0 cw10_1_1 rw10_x rw10_y
      go_wp2_with fail
      go_ret
      exact ⟨rfl, bw11⟩

set_option maxRecDepth 100000 in
theorem exactLeastOf_law : LawWalk Try.prog 3 Try.f3 := by
  intro H enc W base args ds ps hval hA
  rw [Try.params3] at hA hval
  obtain ⟨v0, vs0, d0, es0, p0, q0, hargs, rfl, rfl, h0, r0⟩ := trodAll_cons hA
  obtain ⟨v1, vs1, d1, es1, p1, q1, rfl, rfl, rfl, h1, r1⟩ := trodAll_cons r0
  obtain ⟨rfl, rfl, rfl⟩ := trodAll_nil r1
  obtain rfl : args = #[v0, v1] := by cases args; simp_all
  obtain ⟨a, cap, S, rfl, hs, hm, hq⟩ := open_rels (hval 0 _ v0 rfl rfl) h0
  obtain ⟨n, na, ncap, L, rfl, hs', hL⟩ := open_need (hval 1 _ v1 rfl rfl) h1
  by_cases hl : S.length + rlSz S + L.length ≤ 1048576
  · exact exactLeastOf_short _ _ S n L W hs hs' hl
  · exact exactLeastOf_long _ _ S n L W hm hq hL hs hs' (by omega)

end Llo

set_option maxRecDepth 100000 in
theorem exactLeastOf_holds : Rows.FnExactLeastOfSaid :=
  OpenClaim.holds_of_wide 3 Try.f3 rfl rfl rfl rfl rfl rfl rfl ⟨rfl, rfl, rfl, rfl, rfl⟩ rfl rfl rfl rfl rfl (by kernel_rfl) Try.func3 (by kernel_rfl)
    (of_decide_eq_true (by kernel_rfl)) (by unfold Func.isWrapper; rw [if_neg (by decide +kernel)]; exact ⟨rfl, rfl⟩)
    (fun os started H enc _ => law_lifted (s := Rows.fnExactLeastOfSpec) (tb := 4) own started laid (by kernel_rfl) Try.func3 rfl (by kernel_rfl) Try.underlying4 (by kernel_rfl)
      (fun ds h => by rw [Try.params3] at h; match ds, h with | [_, _], _ => rfl)
      (ChangeSpec.witness6 (enc := enc) (C := Try.checked) false ⟨#[], #[.slice none 0 0, .agg #[.int .i64 0, .slice none 0 0]], []⟩ 8 (by kernel_rfl) (by kernel_rfl) (by kernel_rfl) (by kernel_rfl))
      Llo.exactLeastOf_law)
#print axioms exactLeastOf_holds
end Go.Proofs.Ytjnmkkcdcacakaa
