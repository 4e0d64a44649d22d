/- At every argument the law FnExactShelfFits returns true: ShelfFits of the program answers as ShelfFits of the model, leaves its arguments, and its answer owns its memory. No condition. -/
import Derived.Test.YtgfhikiahhcmlaaRmopen
import Derived.Test.YtgfhikiahhcmlaaRsz
import Derived.Test.YtgfhikiahhcmlaaRlb
import Derived.Test.YtgfhikiahhcmlaaRfit
import Derived.Test.YtgfhikiahhcmlaaMarkr
import Derived.Test.YtgfhikiahhcmlaaNdeq
import Derived.Deep.RegionHeld3
namespace Go.Proofs.Ytgfhikiahhcmlaa
open Go.ChangeShapes Go.WideShapes Go.ChangeAt Go.RowKit Go.Joins Go.Sort

set_option maxRecDepth 100000 in
theorem open_need {H : Type} {enc : TypeId × Value → H} {w : World} {held : Bool} {b0 : Nat} {v : Value} {d : DataW H} {p : List MemPlace} (hv : Value.okWide Try.prog w .any b0 59 v)
    (h : DataW.Trod enc Try.prog w 0 (fun _ => true) held 59 v d p) : ∃ (n : Int) (a : Option Addr) (cap : Nat) (L : List (Int × Int)), v = need n (.slice a L.length cap) ∧ SpAt w w.heap.size (.slice a L.length cap) L ∧ L.length ≤ maxLen := by
  obtain ⟨cs, rfl, hsz⟩ := okWide_struct Try.underlying59 hv
  obtain ⟨l⟩ := cs
  obtain ⟨fuel, hf⟩ := h
  simp only [Value.cells] at hf
  obtain ⟨q, a, cap, hc, hs, hm⟩ := open_need_trod hf
  subst hc
  exact ⟨q.1, a, cap, q.2, rfl, hs, hm⟩

theorem toNeed_sb (n : Int) (v : Value) (L : List (Int × Int)) (w : World) (h : SpAt w w.heap.size v L) (hl : L.length ≤ 1048576) :
    Calls Try.prog 38 #[need n v] w fun e w' => ∃ a c, e = .returned (need n (.slice a L.length c)) ∧ SB L w.heap.size w'.heap.size (.slice a L.length c) w' ∧ Below w.heap.size w w' :=
  (toNeed_any n v L w h hl).mono fun _ _ ⟨g, he, hk, hg, hb⟩ => ⟨_, _, he, ⟨_, _, rfl, .inr ⟨g, _, rfl, hk, hg, hk.lt⟩⟩, hb⟩
theorem eqNeed_same {n : Int} {v v' : Value} {L : List (Int × Int)} {w : World} (hl : L.length ≤ 1048576) (h : SpAt w w.heap.size v L) (h' : SpAt w w.heap.size v' L) :
    Calls Try.prog 41 #[need n v, need n v'] w fun e w' => e = .returned (.bool true) ∧ Below w.heap.size w w' := by
  have := eqNeed_any n n v v' L L w hl hl h h'
  rwa [decide_eq_true (p := n = n ∧ L = L) ⟨rfl, rfl⟩] at this
theorem eqIntS_same {v v' : Value} {N : List Int} {w : World} (hl : N.length ≤ 1048576) (h : InAt w w.heap.size v N) (h' : InAt w w.heap.size v' N) :
    Calls Try.prog 40 #[v, v'] w fun e w' => e = .returned (.bool true) ∧ Below w.heap.size w w' := by
  have := eqIntS_any v v' N N w hl hl h h'
  rwa [decide_eq_true rfl] at this
theorem markRangeSB {L : List (Int × Int)} {lo hi : Nat} {u : Value} {w : World} (hl : L.length ≤ 1048576) (h : SB L lo hi u w) (k : Int) (hk0 : 0 ≤ k) (hk1 : k ≤ 1000000000) :
    Calls Try.prog 70 #[.agg #[u], .int .i64 k] w fun e w' => e = .returned (.int .i64 (k + 2 * L.length)) ∧ Out lo hi w w' := by
  obtain ⟨a, cap, rfl, h⟩ := h
  rcases h with rfl | ⟨g, n, rfl, hb, h1, h2⟩
  · refine (markRange_nil a cap k w).mono ?_
    rintro e w' ⟨rfl, hb⟩
    exact ⟨by simp, ⟨hb.os, hb.tape, hb.output, hb.size, fun i hi _ => hb.block i hi⟩⟩
  · refine (markRange_any g n cap L k w hl hk0 hk1 hb).mono ?_
    rintro e w' ⟨rfl, hb', hg⟩
    exact ⟨rfl, ⟨hg.os, hg.tape, hg.output, hg.size, fun i hi hd => hg.block i hi (fun e => by injection e with e; omega)⟩⟩
set_option maxRecDepth 100000 in
set_option maxHeartbeats 1000000 in
theorem markNeed_sb {n : Int} {L : List (Int × Int)} {lo hi : Nat} {u : Value} {w : World} (hl : L.length ≤ 1048576) (h : SB L lo hi u w) (k : Int) (hk0 : 0 ≤ k) (hk1 : k ≤ 1000000000) :
    Calls Try.prog 42 #[need n u, .int .i64 k] w fun e w' => e = .returned (.int .i64 (k + 2 * L.length)) ∧ Out lo hi w w' := by
  obtain ⟨a, cap, rfl, hx⟩ := id h
  clear hx
  have b0 := (Below.refl w.heap.size w).alloc (Nat.le_refl _) (.cells #[.int .i64 n, .slice a L.length cap] 67)
  have K := Lib.hid (markRangeSB hl (h.below b0) k hk0 hk1)
  have HO := Lib.hid (Out.ofBelow (lo := lo) (hi := hi) b0)
  clear h b0
  go_enter Try.func42, Try.ntmps42
  go_wp2_with fail
  refine K.out.mono ?_
  rintro e w1 ⟨rfl, ho⟩
  go_wp2_with fail
  go_ret
  exact ⟨rfl, HO.out.trans ho⟩

set_option maxRecDepth 100000 in
set_option maxHeartbeats 2000000 in
theorem exactShelfFits_long (v u : Value) (S : List Rel) (n : Int) (L : List (Int × Int)) (w : World) (hm : S.length ≤ maxLen) (hq : ∀ q ∈ S, q.2.2.2.length ≤ maxLen ∧ ∀ p ∈ q.2.2.2, p.2.length ≤ maxLen) (hL : L.length ≤ maxLen) (h : RlAt w w.heap.size v S) (h' : SpAt w w.heap.size u L) (hl : 1048576 < S.length + rlSz S + L.length) :
    Calls Try.prog 8 #[v, need n u] w fun e w' => e = .returned (.bool true) ∧ Below w.heap.size w w' := by
  obtain ⟨sa, caps, rfl, hx⟩ := id h
  obtain ⟨na, ncap, rfl, hy⟩ := id h'
  clear hx hy
  have H := Lib.hid h
  have b0 := (Below.refl w.heap.size w).alloc (Nat.le_refl _) (.cells #[.int .i64 n, .slice na L.length ncap] 59)
  have K : Hid (∀ V, RlAt V V.heap.size (.slice sa S.length caps) S → Calls Try.prog 18 #[.slice sa S.length caps, .int .i64 1048576] V fun e w' => e = .returned (.int .i64 (leftOf 1048576 (S.length + rlSz S))) ∧ Below V.heap.size V w') := Lib.hid fun V g => szReleaseS_any _ S 1048576 V (by omega) (by omega) hm hq g
  clear h h'
  by_cases h1 : 1048576 < S.length + rlSz S
  · rw [show leftOf 1048576 (S.length + rlSz S) = -1 by unfold leftOf; rw [if_pos (by omega)]] at K
    go_enter Try.func8, Try.ntmps8
    go_wp2_with fail
    refine (K.out _ (H.out.stepAt (by go_grown))).mono ?_
    rintro e w1 ⟨rfl, hb⟩
    go_wp2_with fail
    go_ret
    exact ⟨rfl, b0.trans (hb.mono b0.size)⟩
  · obtain ⟨y, hy, hy0, hy1, hy2⟩ : ∃ y : Int, leftOf 1048576 (S.length + rlSz S) = y ∧ ¬ y < 0 ∧ y ≤ 1048576 ∧ y < L.length := ⟨_, rfl, by unfold leftOf; rw [if_neg (by omega)]; omega, by unfold leftOf; rw [if_neg (by omega)]; omega, by unfold leftOf; rw [if_neg (by omega)]; omega⟩
    rw [hy] at K
    have hLm : L.length ≤ 9223372036854775807 := by unfold maxLen at hL; omega
    have K2 : Hid (∀ V, Calls Try.prog 36 #[need n (.slice na L.length ncap), .int .i64 y] V fun e w' => e = .returned (.int .i64 (-1)) ∧ Below V.heap.size V w') := Lib.hid fun V => by
      have := szNeed_any n na L.length ncap y V (by omega) hy1 hLm
      rwa [show leftOf y L.length = -1 by unfold leftOf; rw [if_pos hy2]] at this
    have c0 : (w.alloc (.cells #[.int .i64 n, .slice na L.length ncap] 59)).cell? ⟨w.heap.size, 0, none⟩ = some (.int .i64 n) := by go_simp
    have c1 : (w.alloc (.cells #[.int .i64 n, .slice na L.length ncap] 59)).cell? ⟨w.heap.size, 1, none⟩ = some (.slice na L.length ncap) := by go_simp
    clear hy hy2 hL
    go_enter Try.func8, Try.ntmps8
    go_wp2_with fail
    refine (K.out _ (H.out.stepAt (by go_grown))).mono ?_
    rintro e w1 ⟨rfl, hb⟩
    have b1 := b0.trans (hb.mono b0.size)
    have d0 := (hb.cell (p := ⟨w.heap.size, 0, none⟩) (by simp)).trans c0
    have d1 := (hb.cell (p := ⟨w.heap.size, 1, none⟩) (by simp)).trans c1
    clear hb c0 c1 b0
    go_wp2_with fail
    refine (K2.out _).mono ?_
    rintro e w2 ⟨rfl, hb⟩
    go_wp2_with fail
    go_ret
    exact ⟨rfl, b1.trans (hb.mono b1.size)⟩

set_option maxRecDepth 100000 in
set_option maxHeartbeats 16000000 in
theorem exactShelfFits_short (v u : Value) (S : List Rel) (n : Int) (L : List (Int × Int)) (w : World) (h : RlAt w w.heap.size v S) (h' : SpAt w w.heap.size u L) (hl : S.length + rlSz S + L.length ≤ 1048576) :
    Calls Try.prog 8 #[v, need n u] w fun e w' => e = .returned (.bool true) ∧ Below w.heap.size w w' := by
  have hm : S.length ≤ 1048576 := by omega
  have hz : rlSz S ≤ 1048576 := by omega
  have hL : L.length ≤ 1048576 := by omega
  have hq := rl_each (M := S) hz
  obtain ⟨sa, caps, rfl, hx⟩ := id h
  obtain ⟨na, ncap, rfl, hy⟩ := id h'
  clear hx hy
  have H := Lib.hid h
  have H' := Lib.hid h'
  clear h h'
  obtain ⟨y, hy, hy0, hy1, hy2⟩ : ∃ y : Int, leftOf 1048576 (S.length + rlSz S) = y ∧ ¬ y < 0 ∧ y ≤ 1048576 ∧ ¬ y < L.length := ⟨_, rfl, by unfold leftOf; rw [if_neg (by omega)]; omega, by unfold leftOf; rw [if_neg (by omega)]; omega, by unfold leftOf; rw [if_neg (by omega)]; omega⟩
  have K : Hid (∀ V, RlAt V V.heap.size (.slice sa S.length caps) S → Calls Try.prog 18 #[.slice sa S.length caps, .int .i64 1048576] V fun e w' => e = .returned (.int .i64 y) ∧ Below V.heap.size V w') := Lib.hid fun V g => by
    have := szReleaseS_any _ S 1048576 V (by omega) (by omega) (by unfold maxLen; omega) (fun q hq' => ⟨by have := (hq q hq').1; unfold maxLen; omega, fun p hp => by have := (hq q hq').2 p hp; unfold maxLen; omega⟩) g
    rwa [hy] at this
  obtain ⟨y2, hyy, hyy0⟩ : ∃ y2 : Int, leftOf y L.length = y2 ∧ ¬ y2 < 0 := ⟨_, rfl, by unfold leftOf; rw [if_neg hy2]; omega⟩
  have K2 : Hid (∀ V, Calls Try.prog 36 #[need n (.slice na L.length ncap), .int .i64 y] V fun e w' => e = .returned (.int .i64 y2) ∧ Below V.heap.size V w') := Lib.hid fun V => by
    have := szNeed_any n na L.length ncap y V (by omega) hy1 (by omega)
    rwa [hyy] at this
  clear hy hy2 hyy
  have hN : (shFits S n L).length ≤ 1048576 := Nat.le_trans (shFits_len S n L) hm
  have KS : Hid (∀ V v u, RlAt V V.heap.size v S → SpAt V V.heap.size u L → Calls Try.prog 37 #[v, need n u] V (IPost (shFits S n L) V)) := Lib.hid fun V v u g g' => specShelfFits_any v u S n L V hm hq hL g g'
  have KI : Hid (∀ V v u, RlAt V V.heap.size v S → SpAt V V.heap.size u L → Calls Try.prog 39 #[v, need n u] V (IPost (shFits S n L) V)) := Lib.hid fun V v u g g' => implShelfFits_any v u S n L V hm hq hL g g'
  generalize shFits S n L = N at *
  obtain ⟨w1, hw1⟩ : ∃ V : World, V = w.alloc (.cells #[.int .i64 n, .slice na L.length ncap] 59) := ⟨_, rfl⟩
  have b1 : Below w.heap.size w w1 := by
    rw [hw1]
    exact (Below.refl w.heap.size w).alloc (Nat.le_refl _) _
  have z1 : w.heap.size + 1 ≤ w1.heap.size := by rw [hw1]; simp
  have c1_0_0 : w1.cell? ⟨w.heap.size, 0, none⟩ = some (.int .i64 n) := by rw [hw1]; go_simp
  have c1_0_1 : w1.cell? ⟨w.heap.size, 1, none⟩ = some (.slice na L.length ncap) := by rw [hw1]; go_simp
  go_enter Try.func8, Try.ntmps8
  go_upto_region 1 with fail
  rw [← hw1]
  clear hw1
  go_wp2_with fail
  refine (K.out _ (H.out.stepAt b1)).mono ?_
  rintro e w2 ⟨rfl, hb⟩
  have zw2 : w1.heap.size ≤ w2.heap.size := hb.size
  have bw2 := b1.trans (hb.mono b1.size)
  have cw2_0_0 := (hb.cell (p := ⟨w.heap.size, 0, none⟩) (by show w.heap.size < w1.heap.size; omega)).trans c1_0_0
  have cw2_0_1 := (hb.cell (p := ⟨w.heap.size, 1, none⟩) (by show w.heap.size < w1.heap.size; omega)).trans c1_0_1
  clear hb b1 c1_0_0 c1_0_1
  go_wp2_with fail
  refine (K2.out _).mono ?_
  rintro e w3 ⟨rfl, hb⟩
  have zw3 : w2.heap.size ≤ w3.heap.size := hb.size
  have bw3 := bw2.trans (hb.mono bw2.size)
  have cw3_0_0 := (hb.cell (p := ⟨w.heap.size, 0, none⟩) (by show w.heap.size < w2.heap.size; omega)).trans cw2_0_0
  have cw3_0_1 := (hb.cell (p := ⟨w.heap.size, 1, none⟩) (by show w.heap.size < w2.heap.size; omega)).trans cw2_0_1
  clear hb bw2 cw2_0_0 cw2_0_1
  go_wp2_with fail
  go_cut [6] from 25 (fun t wx => IB N w3.heap.size wx.heap.size t wx ∧ Below w3.heap.size w3 wx)
  case first =>
    go_region_held3 (fun V => V.cell? ⟨w.heap.size, 0, none⟩ = some (.int .i64 n) ∧ V.cell? ⟨w.heap.size, 1, none⟩ = some (.slice na L.length ncap)) (go_keep)
      (first
      | (go_at_call 20; refine (toReleaseS_any _ S _ (((H.out.stepAt bw3)).stepAt (by go_grown)) hm hq).mono ?_; rintro e wu ⟨gu, rfl, ku, hgu, hbu⟩; have nn : Below w3.heap.size w3 wu := Below.step (by go_grown) hbu; clear hgu; have ku_0_0 := (nn.cell (p := ⟨w.heap.size, 0, none⟩) (by show w.heap.size < w3.heap.size; omega)).trans cw3_0_0; have ku_0_1 := (nn.cell (p := ⟨w.heap.size, 1, none⟩) (by show w.heap.size < w3.heap.size; omega)).trans cw3_0_1)
      | (go_at_call 38; refine (toNeed_sb n _ L _ ((H'.out.stepAt bw3).stepAt (by go_grown)) hL).mono ?_; rintro e wv ⟨av, cv, rfl, kv, hbv⟩; have nn : Below w3.heap.size w3 wv := Below.step (by go_grown) hbv; have kv_0_0 := (nn.cell (p := ⟨w.heap.size, 0, none⟩) (by show w.heap.size < w3.heap.size; omega)).trans cw3_0_0; have kv_0_1 := (nn.cell (p := ⟨w.heap.size, 1, none⟩) (by show w.heap.size < w3.heap.size; omega)).trans cw3_0_1)
      | (go_at_call 37; refine (KS.out _ _ _ (ku.at.stepAt (by go_grown)) (kv.at.stepAt (by go_grown))).mono ?_; rintro e wx ⟨vx, rfl, kx, hbx⟩; have nn : Below w3.heap.size w3 wx := Below.step (by go_grown) hbx; have jx := kx.mono (show w3.heap.size ≤ _ from Below.size (by go_grown)); have kx_0_0 := (nn.cell (p := ⟨w.heap.size, 0, none⟩) (by show w.heap.size < w3.heap.size; omega)).trans cw3_0_0; have kx_0_1 := (nn.cell (p := ⟨w.heap.size, 1, none⟩) (by show w.heap.size < w3.heap.size; omega)).trans cw3_0_1))
    all_goals
      go_wp2_with fail
      go_meet
      case rel => exact ⟨jx, nn⟩
  case rest =>
    rename World => w4
    obtain ⟨hia, hb⟩ := hcut
    have zw4 : w3.heap.size ≤ w4.heap.size := hb.size
    have bw4 := bw3.trans (hb.mono bw3.size)
    have cw4_0_0 := (hb.cell (p := ⟨w.heap.size, 0, none⟩) (by show w.heap.size < w3.heap.size; omega)).trans cw3_0_0
    have cw4_0_1 := (hb.cell (p := ⟨w.heap.size, 1, none⟩) (by show w.heap.size < w3.heap.size; omega)).trans cw3_0_1
    clear hb bw3 cw3_0_0 cw3_0_1
    obtain ⟨xa, ya, rfl, ea⟩ := id hia
    clear ea
    go_wp2_with fail
    refine (toReleaseS_ord _ S _ (H.out.stepAt bw4) hm hq).mono ?_
    rintro e w5 ⟨ux, rfl, hx0, hb⟩
    have zw5 : w4.heap.size ≤ w5.heap.size := hb.size
    have bw5 := bw4.trans (hb.mono bw4.size)
    have cw5_0_0 := (hb.cell (p := ⟨w.heap.size, 0, none⟩) (by show w.heap.size < w4.heap.size; omega)).trans cw4_0_0
    have cw5_0_1 := (hb.cell (p := ⟨w.heap.size, 1, none⟩) (by show w.heap.size < w4.heap.size; omega)).trans cw4_0_1
    have rw5_a := hia.below hb
    clear hb bw4 cw4_0_0 cw4_0_1 hia
    obtain ⟨ax, cx, rfl, ex⟩ := id hx0
    clear ex
    go_wp2_with fail
    refine (toNeed_sb n _ L _ (H'.out.stepAt bw5) hL).mono ?_
    rintro e w6 ⟨ay, cy, rfl, hy0, hb⟩
    have zw6 : w5.heap.size ≤ w6.heap.size := hb.size
    have bw6 := bw5.trans (hb.mono bw5.size)
    have cw6_0_0 := (hb.cell (p := ⟨w.heap.size, 0, none⟩) (by show w.heap.size < w5.heap.size; omega)).trans cw5_0_0
    have cw6_0_1 := (hb.cell (p := ⟨w.heap.size, 1, none⟩) (by show w.heap.size < w5.heap.size; omega)).trans cw5_0_1
    have rw6_a := rw5_a.below hb
    have rw6_x := hx0.below hb
    clear hb bw5 cw5_0_0 cw5_0_1 rw5_a hx0
    go_upto_region 11 with fail
    obtain ⟨w7, hw⟩ : ∃ V : World, V = w6.alloc (.cells #[.int .i64 n, .slice ay L.length cy] 67) := ⟨_, rfl⟩
    have hb : Below w6.heap.size w6 w7 := by
      rw [hw]
      exact (Below.refl _ _).alloc (Nat.le_refl _) _
    have cb_0 : w7.cell? ⟨w6.heap.size, 0, none⟩ = some (.int .i64 n) := by rw [hw]; go_simp
    have cb_1 : w7.cell? ⟨w6.heap.size, 1, none⟩ = some (.slice ay L.length cy) := by rw [hw]; go_simp
    have zb : w6.heap.size + 1 ≤ w7.heap.size := by rw [hw]; simp
    rw [← hw]
    clear hw
    have zw7 : w6.heap.size ≤ w7.heap.size := hb.size
    have bw7 := bw6.trans (hb.mono bw6.size)
    have cw7_0_0 := (hb.cell (p := ⟨w.heap.size, 0, none⟩) (by show w.heap.size < w6.heap.size; omega)).trans cw6_0_0
    have cw7_0_1 := (hb.cell (p := ⟨w.heap.size, 1, none⟩) (by show w.heap.size < w6.heap.size; omega)).trans cw6_0_1
    have rw7_a := rw6_a.below hb
    have rw7_x := rw6_x.below hb
    have rw7_y := hy0.below hb
    clear hb bw6 cw6_0_0 cw6_0_1 rw6_a rw6_x hy0
    go_wp2_with fail
    refine (KI.out _ _ _ rw7_x.at rw7_y.at).mono ?_
    rintro e w8 ⟨ug, rfl, hg0, hb⟩
    have zw8 : w7.heap.size ≤ w8.heap.size := hb.size
    have bw8 := bw7.trans (hb.mono bw7.size)
    have cw8_0_0 := (hb.cell (p := ⟨w.heap.size, 0, none⟩) (by show w.heap.size < w7.heap.size; omega)).trans cw7_0_0
    have cw8_0_1 := (hb.cell (p := ⟨w.heap.size, 1, none⟩) (by show w.heap.size < w7.heap.size; omega)).trans cw7_0_1
    have cw8_1_0 := (hb.cell (p := ⟨w6.heap.size, 0, none⟩) (by show w6.heap.size < w7.heap.size; omega)).trans cb_0
    have cw8_1_1 := (hb.cell (p := ⟨w6.heap.size, 1, none⟩) (by show w6.heap.size < w7.heap.size; omega)).trans cb_1
    have rw8_a := rw7_a.below hb
    have rw8_x := rw7_x.below hb
    have rw8_y := rw7_y.below hb
    clear hb bw7 cw7_0_0 cw7_0_1 cb_0 cb_1 rw7_a rw7_x rw7_y
    obtain ⟨ag, cg, rfl, eg⟩ := id hg0
    clear eg
    go_wp2_with fail
    refine (eqIntS_same hN hg0.at rw8_a.at).mono ?_
    rintro e w9 ⟨rfl, hb⟩
    have zw9 : w8.heap.size ≤ w9.heap.size := hb.size
    have bw9 := bw8.trans (hb.mono bw8.size)
    have cw9_0_0 := (hb.cell (p := ⟨w.heap.size, 0, none⟩) (by show w.heap.size < w8.heap.size; omega)).trans cw8_0_0
    have cw9_0_1 := (hb.cell (p := ⟨w.heap.size, 1, none⟩) (by show w.heap.size < w8.heap.size; omega)).trans cw8_0_1
    have cw9_1_0 := (hb.cell (p := ⟨w6.heap.size, 0, none⟩) (by show w6.heap.size < w8.heap.size; omega)).trans cw8_1_0
    have cw9_1_1 := (hb.cell (p := ⟨w6.heap.size, 1, none⟩) (by show w6.heap.size < w8.heap.size; omega)).trans cw8_1_1
    have rw9_a := rw8_a.below hb
    have rw9_x := rw8_x.below hb
    have rw9_y := rw8_y.below hb
    have rw9_g := hg0.below hb
    clear hb bw8 cw8_0_0 cw8_0_1 cw8_1_0 cw8_1_1 rw8_a rw8_x rw8_y hg0
    go_wp2_with fail
    refine (toReleaseS_any _ S _ (H.out.stepAt bw9) hm hq).mono ?_
    rintro e w10 ⟨gz, rfl, kz, hgz, hb⟩
    clear hgz
    have zw10 : w9.heap.size ≤ w10.heap.size := hb.size
    have bw10 := bw9.trans (hb.mono bw9.size)
    have cw10_0_0 := (hb.cell (p := ⟨w.heap.size, 0, none⟩) (by show w.heap.size < w9.heap.size; omega)).trans cw9_0_0
    have cw10_0_1 := (hb.cell (p := ⟨w.heap.size, 1, none⟩) (by show w.heap.size < w9.heap.size; omega)).trans cw9_0_1
    have cw10_1_0 := (hb.cell (p := ⟨w6.heap.size, 0, none⟩) (by show w6.heap.size < w9.heap.size; omega)).trans cw9_1_0
    have cw10_1_1 := (hb.cell (p := ⟨w6.heap.size, 1, none⟩) (by show w6.heap.size < w9.heap.size; omega)).trans cw9_1_1
    have rw10_a := rw9_a.below hb
    have rw10_x := rw9_x.below hb
    have rw10_y := rw9_y.below hb
    have rw10_g := rw9_g.below hb
    clear hb bw9 cw9_0_0 cw9_0_1 cw9_1_0 cw9_1_1 rw9_a rw9_x rw9_y rw9_g
    go_wp2_with fail
    refine (eqReleaseS_same hm hq rw10_x.at kz.at).mono ?_
    rintro e w11 ⟨rfl, hb⟩
    have zw11 : w10.heap.size ≤ w11.heap.size := hb.size
    have bw11 := bw10.trans (hb.mono bw10.size)
    have cw11_0_0 := (hb.cell (p := ⟨w.heap.size, 0, none⟩) (by show w.heap.size < w10.heap.size; omega)).trans cw10_0_0
    have cw11_0_1 := (hb.cell (p := ⟨w.heap.size, 1, none⟩) (by show w.heap.size < w10.heap.size; omega)).trans cw10_0_1
    have cw11_1_0 := (hb.cell (p := ⟨w6.heap.size, 0, none⟩) (by show w6.heap.size < w10.heap.size; omega)).trans cw10_1_0
    have cw11_1_1 := (hb.cell (p := ⟨w6.heap.size, 1, none⟩) (by show w6.heap.size < w10.heap.size; omega)).trans cw10_1_1
    have rw11_a := rw10_a.below hb
    have rw11_x := rw10_x.below hb
    have rw11_y := rw10_y.below hb
    have rw11_g := rw10_g.below hb
    clear hb bw10 cw10_0_0 cw10_0_1 cw10_1_0 cw10_1_1 rw10_a rw10_x rw10_y rw10_g
    clear kz
    go_wp2_with fail
    go_cut [49] from 45 (fun t wx => t = .bool false ∧ Below w11.heap.size w11 wx)
    case first =>
      go_region_held3 (fun V => (V.cell? ⟨w.heap.size, 0, none⟩ = some (.int .i64 n) ∧ V.cell? ⟨w.heap.size, 1, none⟩ = some (.slice na L.length ncap)) ∧ (V.cell? ⟨w6.heap.size, 0, none⟩ = some (.int .i64 n) ∧ V.cell? ⟨w6.heap.size, 1, none⟩ = some (.slice ay L.length cy))) (go_keep)
        (first
        | (go_at_call 38; refine (toNeed_sb n _ L _ ((H'.out.stepAt bw11).stepAt (by go_grown)) hL).mono ?_; rintro e wv ⟨av, cv, rfl, kv, hbv⟩; have nn : Below w11.heap.size w11 wv := Below.step (by go_grown) hbv; have kv_0_0 := (nn.cell (p := ⟨w.heap.size, 0, none⟩) (by show w.heap.size < w11.heap.size; omega)).trans cw11_0_0; have kv_0_1 := (nn.cell (p := ⟨w.heap.size, 1, none⟩) (by show w.heap.size < w11.heap.size; omega)).trans cw11_0_1; have kv_1_0 := (nn.cell (p := ⟨w6.heap.size, 0, none⟩) (by show w6.heap.size < w11.heap.size; omega)).trans cw11_1_0; have kv_1_1 := (nn.cell (p := ⟨w6.heap.size, 1, none⟩) (by show w6.heap.size < w11.heap.size; omega)).trans cw11_1_1)
        | (go_at_call 41; refine (eqNeed_same hL (rw11_y.at.stepAt (by go_grown)) (kv.at.stepAt (by go_grown))).mono ?_; rintro e wx ⟨rfl, hbx⟩; have nn : Below w11.heap.size w11 wx := Below.step (by go_grown) hbx; have kx_0_0 := (nn.cell (p := ⟨w.heap.size, 0, none⟩) (by show w.heap.size < w11.heap.size; omega)).trans cw11_0_0; have kx_0_1 := (nn.cell (p := ⟨w.heap.size, 1, none⟩) (by show w.heap.size < w11.heap.size; omega)).trans cw11_0_1; have kx_1_0 := (nn.cell (p := ⟨w6.heap.size, 0, none⟩) (by show w6.heap.size < w11.heap.size; omega)).trans cw11_1_0; have kx_1_1 := (nn.cell (p := ⟨w6.heap.size, 1, none⟩) (by show w6.heap.size < w11.heap.size; omega)).trans cw11_1_1))
      all_goals
        go_wp2_with fail
        go_meet
        case rel => exact ⟨rfl, nn⟩
    case rest =>
      rename World => w12
      obtain ⟨rfl, hb⟩ := hcut
      have zw12 : w11.heap.size ≤ w12.heap.size := hb.size
      have bw12 := bw11.trans (hb.mono bw11.size)
      have cw12_0_0 := (hb.cell (p := ⟨w.heap.size, 0, none⟩) (by show w.heap.size < w11.heap.size; omega)).trans cw11_0_0
      have cw12_0_1 := (hb.cell (p := ⟨w.heap.size, 1, none⟩) (by show w.heap.size < w11.heap.size; omega)).trans cw11_0_1
      have cw12_1_0 := (hb.cell (p := ⟨w6.heap.size, 0, none⟩) (by show w6.heap.size < w11.heap.size; omega)).trans cw11_1_0
      have cw12_1_1 := (hb.cell (p := ⟨w6.heap.size, 1, none⟩) (by show w6.heap.size < w11.heap.size; omega)).trans cw11_1_1
      have rw12_a := rw11_a.below hb
      have rw12_x := rw11_x.below hb
      have rw12_y := rw11_y.below hb
      have rw12_g := rw11_g.below hb
      clear hb bw11 cw11_0_0 cw11_0_1 cw11_1_0 cw11_1_1 rw11_a rw11_x rw11_y rw11_g
      go_wp2_with fail
      refine (markReleaseS_out hm hz rw12_x 1 (by omega) (by omega)).mono ?_
      rintro e w13 ⟨⟨k1, rfl, k10, k11⟩, ho⟩
      clear rw12_x
      have zw13 : w12.heap.size ≤ w13.heap.size := ho.size
      have bw13 := ho.below bw12 (by omega) (by omega)
      have cw13_0_0 := ho.cell cw12_0_0 (by omega)
      have cw13_0_1 := ho.cell cw12_0_1 (by omega)
      have cw13_1_0 := ho.cell cw12_1_0 (by omega)
      have cw13_1_1 := ho.cell cw12_1_1 (by omega)
      have rw13_a := rw12_a.out ho (by omega)
      have rw13_y := rw12_y.out ho (by omega)
      have rw13_g := rw12_g.out ho (by omega)
      clear ho bw12 cw12_0_0 cw12_0_1 cw12_1_0 cw12_1_1 rw12_a rw12_y rw12_g
      go_wp2_with fail
      refine (markNeed_sb hL rw13_y k1 (by omega) (by omega)).mono ?_
      rintro e w14 ⟨rfl, ho⟩
      clear rw13_y
      have zw14 : w13.heap.size ≤ w14.heap.size := ho.size
      have bw14 := ho.below bw13 (by omega) (by omega)
      have cw14_0_0 := ho.cell cw13_0_0 (by omega)
      have cw14_0_1 := ho.cell cw13_0_1 (by omega)
      have cw14_1_0 := ho.cell cw13_1_0 (by omega)
      have cw14_1_1 := ho.cell cw13_1_1 (by omega)
      have rw14_a := rw13_a.out ho (by omega)
      have rw14_g := rw13_g.out ho (by omega)
      clear ho bw13 cw13_0_0 cw13_0_1 cw13_1_0 cw13_1_1 rw13_a rw13_g
      have hk2 : ¬ (k1 + 2 * (L.length : Int) < 0) := by omega
      go_wp2_with fail
      refine (eqIntS_same hN rw14_g.at rw14_a.at).mono ?_
      rintro e w15 ⟨rfl, hb⟩
      have zw15 : w14.heap.size ≤ w15.heap.size := hb.size
      have bw15 := bw14.trans (hb.mono bw14.size)
      have cw15_0_0 := (hb.cell (p := ⟨w.heap.size, 0, none⟩) (by show w.heap.size < w14.heap.size; omega)).trans cw14_0_0
      have cw15_0_1 := (hb.cell (p := ⟨w.heap.size, 1, none⟩) (by show w.heap.size < w14.heap.size; omega)).trans cw14_0_1
      have cw15_1_0 := (hb.cell (p := ⟨w6.heap.size, 0, none⟩) (by show w6.heap.size < w14.heap.size; omega)).trans cw14_1_0
      have cw15_1_1 := (hb.cell (p := ⟨w6.heap.size, 1, none⟩) (by show w6.heap.size < w14.heap.size; omega)).trans cw14_1_1
      have rw15_a := rw14_a.below hb
      have rw15_g := rw14_g.below hb
      clear hb bw14 cw14_0_0 cw14_0_1 cw14_1_0 cw14_1_1 rw14_a rw14_g
      go_wp2_with fail
      refine (markIB hN rw15_g 1 (by omega) (by omega)).mono ?_
      rintro e w16 ⟨rfl, hg1, ho⟩
      clear rw15_g
      have zw16 : w15.heap.size ≤ w16.heap.size := ho.size
      have bw16 := ho.below bw15 (by omega) (by omega)
      have cw16_0_0 := ho.cell cw15_0_0 (by omega)
      have cw16_0_1 := ho.cell cw15_0_1 (by omega)
      have cw16_1_0 := ho.cell cw15_1_0 (by omega)
      have cw16_1_1 := ho.cell cw15_1_1 (by omega)
      have rw16_a := rw15_a.out ho (by omega)
      clear ho bw15 cw15_0_0 cw15_0_1 cw15_1_0 cw15_1_1 rw15_a
      have hm1 : ¬ ((1 : Int) + (N.length : Int) < 0) := by omega
      have hm2 : (((1 : Int) + (N.length : Int)) != ((1 : Int) + (N.length : Int))) = false := by simp
      go_wp2_with fail
      refine (heldIB hN 1 (by omega) (by omega) hg1).mono ?_
      rintro e w17 ⟨rfl, hb⟩
      have zw17 : w16.heap.size ≤ w17.heap.size := hb.size
      have bw17 := bw16.trans (hb.mono bw16.size)
      have cw17_0_0 := (hb.cell (p := ⟨w.heap.size, 0, none⟩) (by show w.heap.size < w16.heap.size; omega)).trans cw16_0_0
      have cw17_0_1 := (hb.cell (p := ⟨w.heap.size, 1, none⟩) (by show w.heap.size < w16.heap.size; omega)).trans cw16_0_1
      have cw17_1_0 := (hb.cell (p := ⟨w6.heap.size, 0, none⟩) (by show w6.heap.size < w16.heap.size; omega)).trans cw16_1_0
      have cw17_1_1 := (hb.cell (p := ⟨w6.heap.size, 1, none⟩) (by show w6.heap.size < w16.heap.size; omega)).trans cw16_1_1
      have rw17_a := rw16_a.below hb
      have rw17_g := hg1.below hb
      clear hb bw16 cw16_0_0 cw16_0_1 cw16_1_0 cw16_1_1 rw16_a hg1
      go_wp2_with fail
      go_cut [13] from 76 (fun t wx => IB N w17.heap.size wx.heap.size t wx ∧ Below w17.heap.size w17 wx)
      case first =>
        go_region_held3 (fun V => V.cell? ⟨w.heap.size, 0, none⟩ = some (.int .i64 n) ∧ V.cell? ⟨w.heap.size, 1, none⟩ = some (.slice na L.length ncap)) (go_keep)
          (first
          | (go_at_call 20; refine (toReleaseS_any _ S _ (((H.out.stepAt bw17)).stepAt (by go_grown)) hm hq).mono ?_; rintro e wu ⟨gu, rfl, ku, hgu, hbu⟩; have nn : Below w17.heap.size w17 wu := Below.step (by go_grown) hbu; clear hgu; have ku_0_0 := (nn.cell (p := ⟨w.heap.size, 0, none⟩) (by show w.heap.size < w17.heap.size; omega)).trans cw17_0_0; have ku_0_1 := (nn.cell (p := ⟨w.heap.size, 1, none⟩) (by show w.heap.size < w17.heap.size; omega)).trans cw17_0_1)
          | (go_at_call 38; refine (toNeed_sb n _ L _ ((H'.out.stepAt bw17).stepAt (by go_grown)) hL).mono ?_; rintro e wv ⟨av, cv, rfl, kv, hbv⟩; have nn : Below w17.heap.size w17 wv := Below.step (by go_grown) hbv; have kv_0_0 := (nn.cell (p := ⟨w.heap.size, 0, none⟩) (by show w.heap.size < w17.heap.size; omega)).trans cw17_0_0; have kv_0_1 := (nn.cell (p := ⟨w.heap.size, 1, none⟩) (by show w.heap.size < w17.heap.size; omega)).trans cw17_0_1)
          | (go_at_call 39; refine (KI.out _ _ _ (ku.at.stepAt (by go_grown)) (kv.at.stepAt (by go_grown))).mono ?_; rintro e wx ⟨vx, rfl, kx, hbx⟩; have nn : Below w17.heap.size w17 wx := Below.step (by go_grown) hbx; have jx := kx.mono (show w17.heap.size ≤ _ from Below.size (by go_grown)); have kx_0_0 := (nn.cell (p := ⟨w.heap.size, 0, none⟩) (by show w.heap.size < w17.heap.size; omega)).trans cw17_0_0; have kx_0_1 := (nn.cell (p := ⟨w.heap.size, 1, none⟩) (by show w.heap.size < w17.heap.size; omega)).trans cw17_0_1))
        all_goals
          go_wp2_with fail
          go_meet
          case rel => exact ⟨jx, nn⟩
      case rest =>
        rename World => w18
        obtain ⟨hib, hb⟩ := hcut
        have zw18 : w17.heap.size ≤ w18.heap.size := hb.size
        have bw18 := bw17.trans (hb.mono bw17.size)
        have cw18_0_0 := (hb.cell (p := ⟨w.heap.size, 0, none⟩) (by show w.heap.size < w17.heap.size; omega)).trans cw17_0_0
        have cw18_0_1 := (hb.cell (p := ⟨w.heap.size, 1, none⟩) (by show w.heap.size < w17.heap.size; omega)).trans cw17_0_1
        have cw18_1_0 := (hb.cell (p := ⟨w6.heap.size, 0, none⟩) (by show w6.heap.size < w17.heap.size; omega)).trans cw17_1_0
        have cw18_1_1 := (hb.cell (p := ⟨w6.heap.size, 1, none⟩) (by show w6.heap.size < w17.heap.size; omega)).trans cw17_1_1
        have rw18_a := rw17_a.below hb
        have rw18_g := rw17_g.below hb
        clear hb bw17 cw17_0_0 cw17_0_1 cw17_1_0 cw17_1_1 rw17_a rw17_g
        obtain ⟨xb, yb, rfl, eb⟩ := id hib
        clear eb
        go_wp2_with fail
        refine (eqIntS_same hN hib.at rw18_a.at).mono ?_
        rintro e w19 ⟨rfl, hb⟩
        have zw19 : w18.heap.size ≤ w19.heap.size := hb.size
        have bw19 := bw18.trans (hb.mono bw18.size)
        have cw19_0_0 := (hb.cell (p := ⟨w.heap.size, 0, none⟩) (by show w.heap.size < w18.heap.size; omega)).trans cw18_0_0
        have cw19_0_1 := (hb.cell (p := ⟨w.heap.size, 1, none⟩) (by show w.heap.size < w18.heap.size; omega)).trans cw18_0_1
        have cw19_1_0 := (hb.cell (p := ⟨w6.heap.size, 0, none⟩) (by show w6.heap.size < w18.heap.size; omega)).trans cw18_1_0
        have cw19_1_1 := (hb.cell (p := ⟨w6.heap.size, 1, none⟩) (by show w6.heap.size < w18.heap.size; omega)).trans cw18_1_1
        have rw19_a := rw18_a.below hb
        have rw19_g := rw18_g.below hb
        have rw19_b := hib.below hb
        clear hb bw18 cw18_0_0 cw18_0_1 cw18_1_0 cw18_1_1 rw18_a rw18_g hib
        go_wp2_with fail
        refine (heldIB hN 1 (by omega) (by omega) rw19_g).mono ?_
        rintro e w20 ⟨rfl, hb⟩
        have zw20 : w19.heap.size ≤ w20.heap.size := hb.size
        have bw20 := bw19.trans (hb.mono bw19.size)
        have cw20_0_0 := (hb.cell (p := ⟨w.heap.size, 0, none⟩) (by show w.heap.size < w19.heap.size; omega)).trans cw19_0_0
        have cw20_0_1 := (hb.cell (p := ⟨w.heap.size, 1, none⟩) (by show w.heap.size < w19.heap.size; omega)).trans cw19_0_1
        have cw20_1_0 := (hb.cell (p := ⟨w6.heap.size, 0, none⟩) (by show w6.heap.size < w19.heap.size; omega)).trans cw19_1_0
        have cw20_1_1 := (hb.cell (p := ⟨w6.heap.size, 1, none⟩) (by show w6.heap.size < w19.heap.size; omega)).trans cw19_1_1
        have rw20_a := rw19_a.below hb
        have rw20_g := rw19_g.below hb
        have rw20_b := rw19_b.below hb
        clear hb bw19 cw19_0_0 cw19_0_1 cw19_1_0 cw19_1_1 rw19_a rw19_g rw19_b
        go_wp2_with fail
        go_ret
        exact ⟨rfl, bw20⟩

set_option maxRecDepth 100000 in
theorem exactShelfFits_law : LawWalk Try.prog 8 Try.f8 := by
  intro H enc W base args ds ps hval hA
  rw [Try.params8] at hA hval
  obtain ⟨v0, vs0, d0, es0, p0, q0, hargs, rfl, rfl, h0, r0⟩ := trodAll_cons hA
  obtain ⟨v1, vs1, d1, es1, p1, q1, rfl, rfl, rfl, h1, r1⟩ := trodAll_cons r0
  obtain ⟨rfl, rfl, rfl⟩ := trodAll_nil r1
  obtain rfl : args = #[v0, v1] := by cases args; simp_all
  obtain ⟨a, cap, S, rfl, hs, hm, hq⟩ := open_rels (hval 0 _ v0 rfl rfl) h0
  obtain ⟨n, na, ncap, L, rfl, hs', hL⟩ := open_need (hval 1 _ v1 rfl rfl) h1
  by_cases hl : S.length + rlSz S + L.length ≤ 1048576
  · exact exactShelfFits_short _ _ S n L W hs hs' hl
  · exact exactShelfFits_long _ _ S n L W hm hq hL hs hs' (by omega)

set_option maxRecDepth 100000 in
theorem exactShelfFits_holds : Rows.FnExactShelfFitsSaid :=
  OpenClaim.holds_of_wide 8 Try.f8 rfl rfl rfl rfl rfl rfl rfl ⟨rfl, rfl, rfl, rfl, rfl⟩ rfl rfl rfl rfl rfl (by kernel_rfl) Try.func8 (by kernel_rfl)
    (of_decide_eq_true (by kernel_rfl)) (by unfold Func.isWrapper; rw [if_neg (by decide +kernel)]; exact ⟨rfl, rfl⟩)
    (fun os started H enc _ => law_lifted (s := Rows.fnExactShelfFitsSpec) (tb := 4) own started laid (by kernel_rfl) Try.func8 rfl (by kernel_rfl) Try.underlying4 (by kernel_rfl)
      (fun ds h => by rw [Try.params8] at h; match ds, h with | [_, _], _ => rfl)
      (ChangeSpec.witness6 (enc := enc) (C := Try.checked) false ⟨#[], #[.slice none 0 0, .agg #[.int .i64 0, .slice none 0 0]], []⟩ 8 (by kernel_rfl) (by kernel_rfl) (by kernel_rfl) (by kernel_rfl))
      exactShelfFits_law)
#print axioms exactShelfFits_holds
end Go.Proofs.Ytgfhikiahhcmlaa
