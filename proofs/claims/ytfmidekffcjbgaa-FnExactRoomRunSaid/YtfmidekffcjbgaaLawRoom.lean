/- At every argument the law FnExactRoomRun returns true: RoomRun of the program answers as RoomRun of the model, leaves its arguments, and its answer owns its memory. No condition. -/
import Derived.Test.YtfmidekffcjbgaaGa
import Derived.Test.YtfmidekffcjbgaaLnto
import Derived.Test.YtfmidekffcjbgaaInto
import Derived.Test.YtfmidekffcjbgaaRnw
import Derived.Test.YtfmidekffcjbgaaRxu
import Derived.Deep.RegionHeld3
namespace Go.Proofs.Ytfmidekffcjbgaa
open Go.ChangeShapes Go.WideShapes Go.ChangeAt Go.RowKit Go.Joins Go.Sort

namespace Lxr
theorem eqIntS_same {v v' : Value} {N : List Int} {w : World} (hl : N.length ≤ 1048576) (h : InAt w w.heap.size v N) (h' : InAt w w.heap.size v' N) :
    Calls Try.prog 55 #[v, v'] w fun e w' => e = .returned (.bool true) ∧ Below w.heap.size w w' := by
  have := eqIntS_any v v' N N w hl hl h h'
  rwa [decide_eq_true rfl] at this
set_option maxRecDepth 100000 in
set_option maxHeartbeats 4000000 in
theorem long_O (v0 v1 v2 : Value) (S : List Ln) (I : List ByteArray) (O : List Bool) (w : World) (h0 : LnAt w w.heap.size v0 S) (h1 : Obl.StAt w w.heap.size v1 I) (h2 : Obl.BoAt w w.heap.size v2 O) (hl : 1048576 < O.length) :
    Calls Try.prog 9 #[v0, v1, v2] w fun e w' => e = .returned (.bool true) ∧ Below w.heap.size w w' := by
  obtain ⟨a0, c0, rfl, x0⟩ := id h0
  obtain ⟨a1, c1, rfl, x1⟩ := id h1
  obtain ⟨a2, c2, rfl, x2⟩ := id h2
  clear x0 x1 x2 h0 h1 h2
  have hI : (1048576 : Int) < ((O.length : Nat) : Int) := by omega
  go_enter Try.func9, Try.ntmps9
  go_wp2_with fail
  go_ret
  exact ⟨rfl, Below.refl _ _⟩
set_option maxRecDepth 100000 in
set_option maxHeartbeats 4000000 in
theorem long (v0 v1 v2 : Value) (S : List Ln) (I : List ByteArray) (O : List Bool) (w : World) (hmS : S.length ≤ maxLen) (hqS : ∀ q ∈ S, q.2.2.2.size ≤ maxLen) (hmI : I.length ≤ maxLen) (hqI : ∀ q ∈ I, q.size ≤ maxLen) (hlO : O.length ≤ 1048576) (h0 : LnAt w w.heap.size v0 S) (h1 : Obl.StAt w w.heap.size v1 I) (h2 : Obl.BoAt w w.heap.size v2 O) (hl : 1048576 < (S.length + lnSz S) + (I.length + Obt.stSz I)) :
    Calls Try.prog 9 #[v0, v1, v2] w fun e w' => e = .returned (.bool true) ∧ Below w.heap.size w w' := by
  obtain ⟨a0, c0, rfl, x0⟩ := id h0
  obtain ⟨a1, c1, rfl, x1⟩ := id h1
  obtain ⟨a2, c2, rfl, x2⟩ := id h2
  clear x0 x1 x2
  have H0 := Lib.hid h0
  have H1 := Lib.hid h1
  have H2 := Lib.hid h2
  clear h0 h1 h2
  have hI2 : ¬ (1048576 : Int) < ((O.length : Nat) : Int) := by omega
  by_cases g0 : 1048576 < (((S.length + lnSz S) : Nat) : Int)
  · have K0 : Hid (∀ V, LnAt V V.heap.size (.slice a0 S.length c0) S → Calls Try.prog 24 #[.slice a0 S.length c0, .int .i64 1048576] V fun e w' => e = .returned (.int .i64 (-1)) ∧ Below V.heap.size V w') := Lib.hid fun V g => by
      have := Lnt.szLineS_any _ S 1048576 V (by omega) (by omega) hmS hqS g
      rwa [show Obt.oleft 1048576 (S.length + lnSz S) = -1 by unfold Obt.oleft; rw [if_pos (by omega)]] at this
    clear hl 
    go_enter Try.func9, Try.ntmps9
    go_wp2_with fail
    refine (K0.out _ (H0.out.stepAt (by go_grown))).mono ?_
    rintro e w1 ⟨rfl, hb⟩
    have b1 := hb
    clear hb
    go_wp2_with fail
    go_ret
    exact ⟨rfl, b1⟩
  obtain ⟨y1, f1, e1, n1⟩ : ∃ y : Int, Obt.oleft 1048576 (S.length + lnSz S) = y ∧ y = 1048576 - (((S.length + lnSz S) : Nat) : Int) ∧ ¬ y < 0 := ⟨_, rfl, by unfold Obt.oleft; rw [if_neg (by omega)], by unfold Obt.oleft; rw [if_neg (by omega)]; omega⟩
  have K0 : Hid (∀ V, LnAt V V.heap.size (.slice a0 S.length c0) S → Calls Try.prog 24 #[.slice a0 S.length c0, .int .i64 1048576] V fun e w' => e = .returned (.int .i64 y1) ∧ Below V.heap.size V w') := Lib.hid fun V g => by
    have := Lnt.szLineS_any _ S 1048576 V (by omega) (by omega) hmS hqS g
    rwa [f1] at this
  clear f1
  have K1 : Hid (∀ V, Obl.StAt V V.heap.size (.slice a1 I.length c1) I → Calls Try.prog 27 #[.slice a1 I.length c1, .int .i64 y1] V fun e w' => e = .returned (.int .i64 (-1)) ∧ Below V.heap.size V w') := Lib.hid fun V g => by
    have := Obt.szStringS_any _ I y1 V (by omega) (by omega) hmI hqI g
    rwa [show Obt.oleft y1 (I.length + Obt.stSz I) = -1 by unfold Obt.oleft; rw [if_pos (by omega)]] at this
  clear hl e1
  go_enter Try.func9, Try.ntmps9
  go_wp2_with fail
  refine (K0.out _ (H0.out.stepAt (by go_grown))).mono ?_
  rintro e w1 ⟨rfl, hb⟩
  have b1 := hb
  clear hb
  go_wp2_with fail
  refine (K1.out _ (H1.out.stepAt b1)).mono ?_
  rintro e w2 ⟨rfl, hb⟩
  have b2 := b1.trans (hb.mono b1.size)
  clear hb
  go_wp2_with fail
  go_ret
  exact ⟨rfl, b2⟩

set_option maxRecDepth 100000 in
set_option maxHeartbeats 16000000 in
theorem short (v0 v1 v2 : Value) (S : List Ln) (I : List ByteArray) (O : List Bool) (w : World) (hlO : O.length ≤ 1048576) (h0 : LnAt w w.heap.size v0 S) (h1 : Obl.StAt w w.heap.size v1 I) (h2 : Obl.BoAt w w.heap.size v2 O) (hl : (S.length + lnSz S) + (I.length + Obt.stSz I) ≤ 1048576) :
    Calls Try.prog 9 #[v0, v1, v2] w fun e w' => e = .returned (.bool true) ∧ Below w.heap.size w w' := by
  have hI2 : ¬ (1048576 : Int) < ((O.length : Nat) : Int) := by omega
  have hlS : S.length ≤ 1048576 := by omega
  have hmS : S.length ≤ maxLen := by unfold maxLen; omega
  have hzS : lnSz S ≤ 1048576 := by omega
  have hrS : ∀ q ∈ S, q.2.2.2.size ≤ 1048576 := fun q h => Nat.le_trans (lnSz_mem h) hzS
  have hqS : ∀ q ∈ S, q.2.2.2.size ≤ maxLen := fun q h => by have := hrS q h; unfold maxLen; omega
  have hlI : I.length ≤ 1048576 := by omega
  have hmI : I.length ≤ maxLen := by unfold maxLen; omega
  have hzI : Obt.stSz I ≤ 1048576 := by omega
  have hrI : ∀ q ∈ I, q.size ≤ 1048576 := fun q h => Nat.le_trans (Obt.stSz_mem h) hzI
  have hqI : ∀ q ∈ I, q.size ≤ maxLen := fun q h => by have := hrI q h; unfold maxLen; omega
  obtain ⟨a0, c0, rfl, x0⟩ := id h0
  obtain ⟨a1, c1, rfl, x1⟩ := id h1
  obtain ⟨a2, c2, rfl, x2⟩ := id h2
  clear x0 x1 x2
  have H0 := Lib.hid h0
  have H1 := Lib.hid h1
  have H2 := Lib.hid h2
  clear h0 h1 h2
  obtain ⟨y1, f1, e1, n1⟩ : ∃ y : Int, Obt.oleft 1048576 (S.length + lnSz S) = y ∧ y = 1048576 - (((S.length + lnSz S) : Nat) : Int) ∧ ¬ y < 0 := ⟨_, rfl, by unfold Obt.oleft; rw [if_neg (by omega)], by unfold Obt.oleft; rw [if_neg (by omega)]; omega⟩
  have K0 : Hid (∀ V, LnAt V V.heap.size (.slice a0 S.length c0) S → Calls Try.prog 24 #[.slice a0 S.length c0, .int .i64 1048576] V fun e w' => e = .returned (.int .i64 y1) ∧ Below V.heap.size V w') := Lib.hid fun V g => by
    have := Lnt.szLineS_any _ S 1048576 V (by omega) (by omega) hmS hqS g
    rwa [f1] at this
  clear f1
  obtain ⟨y2, f2, e2, n2⟩ : ∃ y : Int, Obt.oleft y1 (I.length + Obt.stSz I) = y ∧ y = y1 - (((I.length + Obt.stSz I) : Nat) : Int) ∧ ¬ y < 0 := ⟨_, rfl, by unfold Obt.oleft; rw [if_neg (by omega)], by unfold Obt.oleft; rw [if_neg (by omega)]; omega⟩
  have K1 : Hid (∀ V, Obl.StAt V V.heap.size (.slice a1 I.length c1) I → Calls Try.prog 27 #[.slice a1 I.length c1, .int .i64 y1] V fun e w' => e = .returned (.int .i64 y2) ∧ Below V.heap.size V w') := Lib.hid fun V g => by
    have := Obt.szStringS_any _ I y1 V (by omega) (by omega) hmI hqI g
    rwa [f2] at this
  clear f2
  clear e1 e2 hmS hqS hmI hqI
  have hA : ((Rx.roomR S I O).2.2).length ≤ 1048576 := Nat.le_trans (Rx.roomR_len S I O) (by omega)
  have KS : Hid (∀ V u0 u1 u2, LnAt V V.heap.size u0 S → Obl.StAt V V.heap.size u1 I → Obl.BoAt V V.heap.size u2 O → Calls Try.prog 19 #[u0, u1, u2] V fun e w' => ∃ v, e = .returned (.agg #[.int .i64 ((Rx.roomR S I O).1), .string ((Rx.roomR S I O).2.1), v]) ∧ IB ((Rx.roomR S I O).2.2) V.heap.size w'.heap.size v w' ∧ Below V.heap.size V w') := Lib.hid fun V u0 u1 u2 g0 g1 g2 => Rx.specRoomRun_any u0 u1 u2 S I O V hlS hrS hlI hrI hlO g0 g1 g2
  have KI : Hid (∀ V u0 u1 u2, LnAt V V.heap.size u0 S → Obl.StAt V V.heap.size u1 I → Obl.BoAt V V.heap.size u2 O → Calls Try.prog 17 #[u0, u1, u2] V fun e w' => ∃ v, e = .returned (.agg #[.int .i64 ((Rx.roomR S I O).1), .string ((Rx.roomR S I O).2.1), v]) ∧ IB ((Rx.roomR S I O).2.2) V.heap.size w'.heap.size v w' ∧ Below V.heap.size V w') := Lib.hid fun V u0 u1 u2 g0 g1 g2 => Rx.implRoomRun_any u0 u1 u2 S I O V hlS hrS hlI hrI hlO g0 g1 g2
  generalize (Rx.roomR S I O).1 = cd at *
  generalize (Rx.roomR S I O).2.1 = ot at *
  generalize (Rx.roomR S I O).2.2 = A at *
  clear hl
  go_enter Try.func9, Try.ntmps9
  go_wp2_with fail
  refine (K0.out _ (H0.out.stepAt (by go_grown))).mono ?_
  rintro e w1 ⟨rfl, hb⟩
  have zw1 : w.heap.size ≤ w1.heap.size := hb.size
  have bw1 := hb
  clear hb
  go_wp2_with fail
  refine (K1.out _ (H1.out.stepAt bw1)).mono ?_
  rintro e w2 ⟨rfl, hb⟩
  have zw2 : w1.heap.size ≤ w2.heap.size := hb.size
  have bw2 := bw1.trans (hb.mono bw1.size)
  clear hb bw1
  go_wp2_with fail
  refine (Lnt.toLineS_lb _ S _ (H0.out.stepAt bw2) hlS).mono ?_
  rintro e w3 ⟨gaw3, gcw3, rfl, kzw3, hb⟩
  have zw3 : w2.heap.size ≤ w3.heap.size := hb.size
  have bw3 := bw2.trans (hb.mono bw2.size)
  clear hb bw2
  go_wp2_with fail
  refine (Obt.toStringS_ob _ I _ (H1.out.stepAt bw3) hlI).mono ?_
  rintro e w4 ⟨gaw4, gcw4, rfl, kzw4, hb⟩
  have zw4 : w3.heap.size ≤ w4.heap.size := hb.size
  have bw4 := bw3.trans (hb.mono bw3.size)
  have rw4_z0 := kzw3.below hb
  clear hb bw3 kzw3
  go_wp2_with fail
  refine (Obt.toBoolS_ob _ O _ (H2.out.stepAt bw4) hlO).mono ?_
  rintro e w5 ⟨gaw5, gcw5, rfl, kzw5, hb⟩
  have zw5 : w4.heap.size ≤ w5.heap.size := hb.size
  have bw5 := bw4.trans (hb.mono bw4.size)
  have rw5_z0 := rw4_z0.below hb
  have rw5_z1 := kzw4.below hb
  clear hb bw4 rw4_z0 kzw4
  go_wp2_with fail
  refine (KS.out _ _ _ _ rw5_z0.at rw5_z1.at kzw5.at).mono ?_
  rintro e w6 ⟨vvwa, rfl, hwa, hb⟩
  have zw6 : w5.heap.size ≤ w6.heap.size := hb.size
  have bw6 := bw5.trans (hb.mono bw5.size)
  have rw6_z0 := rw5_z0.below hb
  have rw6_z1 := rw5_z1.below hb
  have rw6_z2 := kzw5.below hb
  clear hb bw5 rw5_z0 rw5_z1 kzw5
  obtain ⟨sawa, scwa, rfl, exwa⟩ := id hwa
  clear exwa
  clear rw6_z0
  clear rw6_z1
  clear rw6_z2
  obtain ⟨w7, hw⟩ : ∃ V : World, V = w6.alloc (.cells #[.int .i64 cd, .string ot, .slice sawa A.length scwa] 36) := ⟨_, rfl⟩
  have hb : Below w6.heap.size w6 w7 := by
    rw [hw]
    exact (Below.refl _ _).alloc (Nat.le_refl _) _
  have cb_0 : w7.cell? ⟨w6.heap.size, 0, none⟩ = some (.int .i64 cd) := by rw [hw]; go_simp
  have cb_1 : w7.cell? ⟨w6.heap.size, 1, none⟩ = some (.string ot) := by rw [hw]; go_simp
  have cb_2 : w7.cell? ⟨w6.heap.size, 2, none⟩ = some (.slice sawa A.length scwa) := by rw [hw]; go_simp
  have zb : w6.heap.size + 1 ≤ w7.heap.size := by rw [hw]; simp
  go_upto_region 11 with fail
  rw [← hw]
  clear hw
  have zw7 : w6.heap.size ≤ w7.heap.size := hb.size
  have bw7 := bw6.trans (hb.mono bw6.size)
  have rw7_wa := hwa.below hb
  clear hb bw6 hwa
  go_wp2_with fail
  refine (Lnt.toLineS_lb _ S _ (H0.out.stepAt bw7) hlS).mono ?_
  rintro e w8 ⟨xa0, xc0, rfl, hx0, hb⟩
  have zw8 : w7.heap.size ≤ w8.heap.size := hb.size
  have bw8 := bw7.trans (hb.mono bw7.size)
  have cw8_0_0 := (hb.cell (p := ⟨w6.heap.size, 0, none⟩) (by show w6.heap.size < w7.heap.size; omega)).trans cb_0
  have cw8_0_1 := (hb.cell (p := ⟨w6.heap.size, 1, none⟩) (by show w6.heap.size < w7.heap.size; omega)).trans cb_1
  have cw8_0_2 := (hb.cell (p := ⟨w6.heap.size, 2, none⟩) (by show w6.heap.size < w7.heap.size; omega)).trans cb_2
  have rw8_wa := rw7_wa.below hb
  clear hb bw7 cb_0 cb_1 cb_2 rw7_wa
  go_wp2_with fail
  refine (Obt.toStringS_ob _ I _ (H1.out.stepAt bw8) hlI).mono ?_
  rintro e w9 ⟨xa1, xc1, rfl, hx1, hb⟩
  have zw9 : w8.heap.size ≤ w9.heap.size := hb.size
  have bw9 := bw8.trans (hb.mono bw8.size)
  have cw9_0_0 := (hb.cell (p := ⟨w6.heap.size, 0, none⟩) (by show w6.heap.size < w8.heap.size; omega)).trans cw8_0_0
  have cw9_0_1 := (hb.cell (p := ⟨w6.heap.size, 1, none⟩) (by show w6.heap.size < w8.heap.size; omega)).trans cw8_0_1
  have cw9_0_2 := (hb.cell (p := ⟨w6.heap.size, 2, none⟩) (by show w6.heap.size < w8.heap.size; omega)).trans cw8_0_2
  have rw9_wa := rw8_wa.below hb
  have rw9_x0 := hx0.below hb
  clear hb bw8 cw8_0_0 cw8_0_1 cw8_0_2 rw8_wa hx0
  go_wp2_with fail
  refine (Obt.toBoolS_ob _ O _ (H2.out.stepAt bw9) hlO).mono ?_
  rintro e w10 ⟨xa2, xc2, rfl, hx2, hb⟩
  have zw10 : w9.heap.size ≤ w10.heap.size := hb.size
  have bw10 := bw9.trans (hb.mono bw9.size)
  have cw10_0_0 := (hb.cell (p := ⟨w6.heap.size, 0, none⟩) (by show w6.heap.size < w9.heap.size; omega)).trans cw9_0_0
  have cw10_0_1 := (hb.cell (p := ⟨w6.heap.size, 1, none⟩) (by show w6.heap.size < w9.heap.size; omega)).trans cw9_0_1
  have cw10_0_2 := (hb.cell (p := ⟨w6.heap.size, 2, none⟩) (by show w6.heap.size < w9.heap.size; omega)).trans cw9_0_2
  have rw10_wa := rw9_wa.below hb
  have rw10_x0 := rw9_x0.below hb
  have rw10_x1 := hx1.below hb
  clear hb bw9 cw9_0_0 cw9_0_1 cw9_0_2 rw9_wa rw9_x0 hx1
  go_wp2_with fail
  refine (KI.out _ _ _ _ rw10_x0.at rw10_x1.at hx2.at).mono ?_
  rintro e w11 ⟨vvg, rfl, hg, hb⟩
  have zw11 : w10.heap.size ≤ w11.heap.size := hb.size
  have bw11 := bw10.trans (hb.mono bw10.size)
  have cw11_0_0 := (hb.cell (p := ⟨w6.heap.size, 0, none⟩) (by show w6.heap.size < w10.heap.size; omega)).trans cw10_0_0
  have cw11_0_1 := (hb.cell (p := ⟨w6.heap.size, 1, none⟩) (by show w6.heap.size < w10.heap.size; omega)).trans cw10_0_1
  have cw11_0_2 := (hb.cell (p := ⟨w6.heap.size, 2, none⟩) (by show w6.heap.size < w10.heap.size; omega)).trans cw10_0_2
  have rw11_wa := rw10_wa.below hb
  have rw11_x0 := rw10_x0.below hb
  have rw11_x1 := rw10_x1.below hb
  have rw11_x2 := hx2.below hb
  clear hb bw10 cw10_0_0 cw10_0_1 cw10_0_2 rw10_wa rw10_x0 rw10_x1 hx2
  obtain ⟨sag, scg, rfl, exg⟩ := id hg
  clear exg
  obtain ⟨w12, hw⟩ : ∃ V : World, V = w11.alloc (.cells #[.int .i64 cd, .string ot, .slice sag A.length scg] 36) := ⟨_, rfl⟩
  have hb : Below w11.heap.size w11 w12 := by
    rw [hw]
    exact (Below.refl _ _).alloc (Nat.le_refl _) _
  have cb_0 : w12.cell? ⟨w11.heap.size, 0, none⟩ = some (.int .i64 cd) := by rw [hw]; go_simp
  have cb_1 : w12.cell? ⟨w11.heap.size, 1, none⟩ = some (.string ot) := by rw [hw]; go_simp
  have cb_2 : w12.cell? ⟨w11.heap.size, 2, none⟩ = some (.slice sag A.length scg) := by rw [hw]; go_simp
  have zb : w11.heap.size + 1 ≤ w12.heap.size := by rw [hw]; simp
  go_upto_region 15 with fail
  rw [← hw]
  clear hw
  have zw12 : w11.heap.size ≤ w12.heap.size := hb.size
  have bw12 := bw11.trans (hb.mono bw11.size)
  have cw12_0_0 := (hb.cell (p := ⟨w6.heap.size, 0, none⟩) (by show w6.heap.size < w11.heap.size; omega)).trans cw11_0_0
  have cw12_0_1 := (hb.cell (p := ⟨w6.heap.size, 1, none⟩) (by show w6.heap.size < w11.heap.size; omega)).trans cw11_0_1
  have cw12_0_2 := (hb.cell (p := ⟨w6.heap.size, 2, none⟩) (by show w6.heap.size < w11.heap.size; omega)).trans cw11_0_2
  have rw12_wa := rw11_wa.below hb
  have rw12_x0 := rw11_x0.below hb
  have rw12_x1 := rw11_x1.below hb
  have rw12_x2 := rw11_x2.below hb
  have rw12_g := hg.below hb
  clear hb bw11 cw11_0_0 cw11_0_1 cw11_0_2 rw11_wa rw11_x0 rw11_x1 rw11_x2 hg
  go_wp2_with fail
  refine (Rnw.eqRan_same cd ot hA rw12_g.at rw12_wa.at).mono ?_
  rintro e w13 ⟨rfl, hb⟩
  have zw13 : w12.heap.size ≤ w13.heap.size := hb.size
  have bw13 := bw12.trans (hb.mono bw12.size)
  have cw13_0_0 := (hb.cell (p := ⟨w6.heap.size, 0, none⟩) (by show w6.heap.size < w12.heap.size; omega)).trans cw12_0_0
  have cw13_0_1 := (hb.cell (p := ⟨w6.heap.size, 1, none⟩) (by show w6.heap.size < w12.heap.size; omega)).trans cw12_0_1
  have cw13_0_2 := (hb.cell (p := ⟨w6.heap.size, 2, none⟩) (by show w6.heap.size < w12.heap.size; omega)).trans cw12_0_2
  have cw13_1_0 := (hb.cell (p := ⟨w11.heap.size, 0, none⟩) (by show w11.heap.size < w12.heap.size; omega)).trans cb_0
  have cw13_1_1 := (hb.cell (p := ⟨w11.heap.size, 1, none⟩) (by show w11.heap.size < w12.heap.size; omega)).trans cb_1
  have cw13_1_2 := (hb.cell (p := ⟨w11.heap.size, 2, none⟩) (by show w11.heap.size < w12.heap.size; omega)).trans cb_2
  have rw13_wa := rw12_wa.below hb
  have rw13_x0 := rw12_x0.below hb
  have rw13_x1 := rw12_x1.below hb
  have rw13_x2 := rw12_x2.below hb
  have rw13_g := rw12_g.below hb
  clear hb bw12 cw12_0_0 cw12_0_1 cw12_0_2 cb_0 cb_1 cb_2 rw12_wa rw12_x0 rw12_x1 rw12_x2 rw12_g
  go_wp2_with fail
  refine (Lnt.toLineS_lb _ S _ (H0.out.stepAt bw13) hlS).mono ?_
  rintro e w14 ⟨gaw14, gcw14, rfl, kzw14, hb⟩
  have zw14 : w13.heap.size ≤ w14.heap.size := hb.size
  have bw14 := bw13.trans (hb.mono bw13.size)
  have cw14_0_0 := (hb.cell (p := ⟨w6.heap.size, 0, none⟩) (by show w6.heap.size < w13.heap.size; omega)).trans cw13_0_0
  have cw14_0_1 := (hb.cell (p := ⟨w6.heap.size, 1, none⟩) (by show w6.heap.size < w13.heap.size; omega)).trans cw13_0_1
  have cw14_0_2 := (hb.cell (p := ⟨w6.heap.size, 2, none⟩) (by show w6.heap.size < w13.heap.size; omega)).trans cw13_0_2
  have cw14_1_0 := (hb.cell (p := ⟨w11.heap.size, 0, none⟩) (by show w11.heap.size < w13.heap.size; omega)).trans cw13_1_0
  have cw14_1_1 := (hb.cell (p := ⟨w11.heap.size, 1, none⟩) (by show w11.heap.size < w13.heap.size; omega)).trans cw13_1_1
  have cw14_1_2 := (hb.cell (p := ⟨w11.heap.size, 2, none⟩) (by show w11.heap.size < w13.heap.size; omega)).trans cw13_1_2
  have rw14_wa := rw13_wa.below hb
  have rw14_x0 := rw13_x0.below hb
  have rw14_x1 := rw13_x1.below hb
  have rw14_x2 := rw13_x2.below hb
  have rw14_g := rw13_g.below hb
  clear hb bw13 cw13_0_0 cw13_0_1 cw13_0_2 cw13_1_0 cw13_1_1 cw13_1_2 rw13_wa rw13_x0 rw13_x1 rw13_x2 rw13_g
  go_wp2_with fail
  refine (Lnt.eqLineS_same hlS rw14_x0.at kzw14.at).mono ?_
  rintro e w15 ⟨rfl, hb⟩
  have zw15 : w14.heap.size ≤ w15.heap.size := hb.size
  have bw15 := bw14.trans (hb.mono bw14.size)
  have cw15_0_0 := (hb.cell (p := ⟨w6.heap.size, 0, none⟩) (by show w6.heap.size < w14.heap.size; omega)).trans cw14_0_0
  have cw15_0_1 := (hb.cell (p := ⟨w6.heap.size, 1, none⟩) (by show w6.heap.size < w14.heap.size; omega)).trans cw14_0_1
  have cw15_0_2 := (hb.cell (p := ⟨w6.heap.size, 2, none⟩) (by show w6.heap.size < w14.heap.size; omega)).trans cw14_0_2
  have cw15_1_0 := (hb.cell (p := ⟨w11.heap.size, 0, none⟩) (by show w11.heap.size < w14.heap.size; omega)).trans cw14_1_0
  have cw15_1_1 := (hb.cell (p := ⟨w11.heap.size, 1, none⟩) (by show w11.heap.size < w14.heap.size; omega)).trans cw14_1_1
  have cw15_1_2 := (hb.cell (p := ⟨w11.heap.size, 2, none⟩) (by show w11.heap.size < w14.heap.size; omega)).trans cw14_1_2
  have rw15_wa := rw14_wa.below hb
  have rw15_x0 := rw14_x0.below hb
  have rw15_x1 := rw14_x1.below hb
  have rw15_x2 := rw14_x2.below hb
  have rw15_g := rw14_g.below hb
  have rw15_z0 := kzw14.below hb
  clear hb bw14 cw14_0_0 cw14_0_1 cw14_0_2 cw14_1_0 cw14_1_1 cw14_1_2 rw14_wa rw14_x0 rw14_x1 rw14_x2 rw14_g kzw14
  clear rw15_z0
  go_wp2_with fail
  refine (Obt.toStringS_ob _ I _ (H1.out.stepAt bw15) hlI).mono ?_
  rintro e w16 ⟨gaw16, gcw16, rfl, kzw16, hb⟩
  have zw16 : w15.heap.size ≤ w16.heap.size := hb.size
  have bw16 := bw15.trans (hb.mono bw15.size)
  have cw16_0_0 := (hb.cell (p := ⟨w6.heap.size, 0, none⟩) (by show w6.heap.size < w15.heap.size; omega)).trans cw15_0_0
  have cw16_0_1 := (hb.cell (p := ⟨w6.heap.size, 1, none⟩) (by show w6.heap.size < w15.heap.size; omega)).trans cw15_0_1
  have cw16_0_2 := (hb.cell (p := ⟨w6.heap.size, 2, none⟩) (by show w6.heap.size < w15.heap.size; omega)).trans cw15_0_2
  have cw16_1_0 := (hb.cell (p := ⟨w11.heap.size, 0, none⟩) (by show w11.heap.size < w15.heap.size; omega)).trans cw15_1_0
  have cw16_1_1 := (hb.cell (p := ⟨w11.heap.size, 1, none⟩) (by show w11.heap.size < w15.heap.size; omega)).trans cw15_1_1
  have cw16_1_2 := (hb.cell (p := ⟨w11.heap.size, 2, none⟩) (by show w11.heap.size < w15.heap.size; omega)).trans cw15_1_2
  have rw16_wa := rw15_wa.below hb
  have rw16_x0 := rw15_x0.below hb
  have rw16_x1 := rw15_x1.below hb
  have rw16_x2 := rw15_x2.below hb
  have rw16_g := rw15_g.below hb
  clear hb bw15 cw15_0_0 cw15_0_1 cw15_0_2 cw15_1_0 cw15_1_1 cw15_1_2 rw15_wa rw15_x0 rw15_x1 rw15_x2 rw15_g
  go_wp2_with fail
  refine (Obt.eqStringS_same hlI rw16_x1.at kzw16.at).mono ?_
  rintro e w17 ⟨rfl, hb⟩
  have zw17 : w16.heap.size ≤ w17.heap.size := hb.size
  have bw17 := bw16.trans (hb.mono bw16.size)
  have cw17_0_0 := (hb.cell (p := ⟨w6.heap.size, 0, none⟩) (by show w6.heap.size < w16.heap.size; omega)).trans cw16_0_0
  have cw17_0_1 := (hb.cell (p := ⟨w6.heap.size, 1, none⟩) (by show w6.heap.size < w16.heap.size; omega)).trans cw16_0_1
  have cw17_0_2 := (hb.cell (p := ⟨w6.heap.size, 2, none⟩) (by show w6.heap.size < w16.heap.size; omega)).trans cw16_0_2
  have cw17_1_0 := (hb.cell (p := ⟨w11.heap.size, 0, none⟩) (by show w11.heap.size < w16.heap.size; omega)).trans cw16_1_0
  have cw17_1_1 := (hb.cell (p := ⟨w11.heap.size, 1, none⟩) (by show w11.heap.size < w16.heap.size; omega)).trans cw16_1_1
  have cw17_1_2 := (hb.cell (p := ⟨w11.heap.size, 2, none⟩) (by show w11.heap.size < w16.heap.size; omega)).trans cw16_1_2
  have rw17_wa := rw16_wa.below hb
  have rw17_x0 := rw16_x0.below hb
  have rw17_x1 := rw16_x1.below hb
  have rw17_x2 := rw16_x2.below hb
  have rw17_g := rw16_g.below hb
  have rw17_z1 := kzw16.below hb
  clear hb bw16 cw16_0_0 cw16_0_1 cw16_0_2 cw16_1_0 cw16_1_1 cw16_1_2 rw16_wa rw16_x0 rw16_x1 rw16_x2 rw16_g kzw16
  clear rw17_z1
  go_wp2_with fail
  refine (Obt.toBoolS_ob _ O _ (H2.out.stepAt bw17) hlO).mono ?_
  rintro e w18 ⟨gaw18, gcw18, rfl, kzw18, hb⟩
  have zw18 : w17.heap.size ≤ w18.heap.size := hb.size
  have bw18 := bw17.trans (hb.mono bw17.size)
  have cw18_0_0 := (hb.cell (p := ⟨w6.heap.size, 0, none⟩) (by show w6.heap.size < w17.heap.size; omega)).trans cw17_0_0
  have cw18_0_1 := (hb.cell (p := ⟨w6.heap.size, 1, none⟩) (by show w6.heap.size < w17.heap.size; omega)).trans cw17_0_1
  have cw18_0_2 := (hb.cell (p := ⟨w6.heap.size, 2, none⟩) (by show w6.heap.size < w17.heap.size; omega)).trans cw17_0_2
  have cw18_1_0 := (hb.cell (p := ⟨w11.heap.size, 0, none⟩) (by show w11.heap.size < w17.heap.size; omega)).trans cw17_1_0
  have cw18_1_1 := (hb.cell (p := ⟨w11.heap.size, 1, none⟩) (by show w11.heap.size < w17.heap.size; omega)).trans cw17_1_1
  have cw18_1_2 := (hb.cell (p := ⟨w11.heap.size, 2, none⟩) (by show w11.heap.size < w17.heap.size; omega)).trans cw17_1_2
  have rw18_wa := rw17_wa.below hb
  have rw18_x0 := rw17_x0.below hb
  have rw18_x1 := rw17_x1.below hb
  have rw18_x2 := rw17_x2.below hb
  have rw18_g := rw17_g.below hb
  clear hb bw17 cw17_0_0 cw17_0_1 cw17_0_2 cw17_1_0 cw17_1_1 cw17_1_2 rw17_wa rw17_x0 rw17_x1 rw17_x2 rw17_g
  go_wp2_with fail
  refine (Obt.eqBoolS_same hlO rw18_x2.at kzw18.at).mono ?_
  rintro e w19 ⟨rfl, hb⟩
  have zw19 : w18.heap.size ≤ w19.heap.size := hb.size
  have bw19 := bw18.trans (hb.mono bw18.size)
  have cw19_0_0 := (hb.cell (p := ⟨w6.heap.size, 0, none⟩) (by show w6.heap.size < w18.heap.size; omega)).trans cw18_0_0
  have cw19_0_1 := (hb.cell (p := ⟨w6.heap.size, 1, none⟩) (by show w6.heap.size < w18.heap.size; omega)).trans cw18_0_1
  have cw19_0_2 := (hb.cell (p := ⟨w6.heap.size, 2, none⟩) (by show w6.heap.size < w18.heap.size; omega)).trans cw18_0_2
  have cw19_1_0 := (hb.cell (p := ⟨w11.heap.size, 0, none⟩) (by show w11.heap.size < w18.heap.size; omega)).trans cw18_1_0
  have cw19_1_1 := (hb.cell (p := ⟨w11.heap.size, 1, none⟩) (by show w11.heap.size < w18.heap.size; omega)).trans cw18_1_1
  have cw19_1_2 := (hb.cell (p := ⟨w11.heap.size, 2, none⟩) (by show w11.heap.size < w18.heap.size; omega)).trans cw18_1_2
  have rw19_wa := rw18_wa.below hb
  have rw19_x0 := rw18_x0.below hb
  have rw19_x1 := rw18_x1.below hb
  have rw19_x2 := rw18_x2.below hb
  have rw19_g := rw18_g.below hb
  have rw19_z2 := kzw18.below hb
  clear hb bw18 cw18_0_0 cw18_0_1 cw18_0_2 cw18_1_0 cw18_1_1 cw18_1_2 rw18_wa rw18_x0 rw18_x1 rw18_x2 rw18_g kzw18
  clear rw19_z2
  go_wp2_with fail
  refine (Lnt.markLineS_out hlS rw19_x0 1 (by omega) (by omega)).mono ?_
  rintro e w20 ⟨rfl, ho⟩
  clear rw19_x0
  have zw20 : w19.heap.size ≤ w20.heap.size := ho.size
  have bw20 := ho.below bw19 (by omega) (by omega)
  have cw20_0_0 := ho.cell cw19_0_0 (by omega)
  have cw20_0_1 := ho.cell cw19_0_1 (by omega)
  have cw20_0_2 := ho.cell cw19_0_2 (by omega)
  have cw20_1_0 := ho.cell cw19_1_0 (by omega)
  have cw20_1_1 := ho.cell cw19_1_1 (by omega)
  have cw20_1_2 := ho.cell cw19_1_2 (by omega)
  have rw20_wa := rw19_wa.out ho (by omega)
  have rw20_x1 := rw19_x1.out ho (by omega)
  have rw20_x2 := rw19_x2.out ho (by omega)
  have rw20_g := rw19_g.out ho (by omega)
  clear ho bw19 cw19_0_0 cw19_0_1 cw19_0_2 cw19_1_0 cw19_1_1 cw19_1_2 rw19_wa rw19_x1 rw19_x2 rw19_g
  go_wp2_with fail
  refine (Obt.markStringS_out hlI rw20_x1 (1 + 4 * (S.length : Int)) (by omega) (by omega)).mono ?_
  rintro e w21 ⟨rfl, ho⟩
  clear rw20_x1
  have zw21 : w20.heap.size ≤ w21.heap.size := ho.size
  have bw21 := ho.below bw20 (by omega) (by omega)
  have cw21_0_0 := ho.cell cw20_0_0 (by omega)
  have cw21_0_1 := ho.cell cw20_0_1 (by omega)
  have cw21_0_2 := ho.cell cw20_0_2 (by omega)
  have cw21_1_0 := ho.cell cw20_1_0 (by omega)
  have cw21_1_1 := ho.cell cw20_1_1 (by omega)
  have cw21_1_2 := ho.cell cw20_1_2 (by omega)
  have rw21_wa := rw20_wa.out ho (by omega)
  have rw21_x2 := rw20_x2.out ho (by omega)
  have rw21_g := rw20_g.out ho (by omega)
  clear ho bw20 cw20_0_0 cw20_0_1 cw20_0_2 cw20_1_0 cw20_1_1 cw20_1_2 rw20_wa rw20_x2 rw20_g
  go_wp2_with fail
  refine (Obt.markBoolS_out hlO rw21_x2 ((1 + 4 * (S.length : Int)) + (I.length : Int)) (by omega) (by omega)).mono ?_
  rintro e w22 ⟨rfl, ho⟩
  clear rw21_x2
  have zw22 : w21.heap.size ≤ w22.heap.size := ho.size
  have bw22 := ho.below bw21 (by omega) (by omega)
  have cw22_0_0 := ho.cell cw21_0_0 (by omega)
  have cw22_0_1 := ho.cell cw21_0_1 (by omega)
  have cw22_0_2 := ho.cell cw21_0_2 (by omega)
  have cw22_1_0 := ho.cell cw21_1_0 (by omega)
  have cw22_1_1 := ho.cell cw21_1_1 (by omega)
  have cw22_1_2 := ho.cell cw21_1_2 (by omega)
  have rw22_wa := rw21_wa.out ho (by omega)
  have rw22_g := rw21_g.out ho (by omega)
  clear ho bw21 cw21_0_0 cw21_0_1 cw21_0_2 cw21_1_0 cw21_1_1 cw21_1_2 rw21_wa rw21_g
  have hk2 : ¬ ((((1 + 4 * (S.length : Int)) + (I.length : Int)) + (O.length : Int)) < 0) := by omega
  go_wp2_with fail
  refine (Rnw.eqRan_same cd ot hA rw22_g.at rw22_wa.at).mono ?_
  rintro e w23 ⟨rfl, hb⟩
  have zw23 : w22.heap.size ≤ w23.heap.size := hb.size
  have bw23 := bw22.trans (hb.mono bw22.size)
  have cw23_0_0 := (hb.cell (p := ⟨w6.heap.size, 0, none⟩) (by show w6.heap.size < w22.heap.size; omega)).trans cw22_0_0
  have cw23_0_1 := (hb.cell (p := ⟨w6.heap.size, 1, none⟩) (by show w6.heap.size < w22.heap.size; omega)).trans cw22_0_1
  have cw23_0_2 := (hb.cell (p := ⟨w6.heap.size, 2, none⟩) (by show w6.heap.size < w22.heap.size; omega)).trans cw22_0_2
  have cw23_1_0 := (hb.cell (p := ⟨w11.heap.size, 0, none⟩) (by show w11.heap.size < w22.heap.size; omega)).trans cw22_1_0
  have cw23_1_1 := (hb.cell (p := ⟨w11.heap.size, 1, none⟩) (by show w11.heap.size < w22.heap.size; omega)).trans cw22_1_1
  have cw23_1_2 := (hb.cell (p := ⟨w11.heap.size, 2, none⟩) (by show w11.heap.size < w22.heap.size; omega)).trans cw22_1_2
  have rw23_wa := rw22_wa.below hb
  have rw23_g := rw22_g.below hb
  clear hb bw22 cw22_0_0 cw22_0_1 cw22_0_2 cw22_1_0 cw22_1_1 cw22_1_2 rw22_wa rw22_g
  go_wp2_with fail
  refine (Rnw.markRan_any cd ot hA rw23_g 1 (by omega) (by omega)).mono ?_
  rintro e w24 ⟨rfl, hg1, ho⟩
  clear rw23_g
  have zw24 : w23.heap.size ≤ w24.heap.size := ho.size
  have bw24 := ho.below bw23 (by omega) (by omega)
  have cw24_0_0 := ho.cell cw23_0_0 (by omega)
  have cw24_0_1 := ho.cell cw23_0_1 (by omega)
  have cw24_0_2 := ho.cell cw23_0_2 (by omega)
  have cw24_1_0 := ho.cell cw23_1_0 (by omega)
  have cw24_1_1 := ho.cell cw23_1_1 (by omega)
  have cw24_1_2 := ho.cell cw23_1_2 (by omega)
  have rw24_wa := rw23_wa.out ho (by omega)
  clear ho bw23 cw23_0_0 cw23_0_1 cw23_0_2 cw23_1_0 cw23_1_1 cw23_1_2 rw23_wa
  have hm1 : ¬ ((1 : Int) + (A.length : Int) < 0) := by omega
  have hm2 : (((1 : Int) + (A.length : Int)) != ((1 : Int) + (A.length : Int))) = false := by simp
  go_wp2_with fail
  refine (Rnw.heldRan_any cd ot hA 1 (by omega) (by omega) hg1).mono ?_
  rintro e w25 ⟨rfl, hb⟩
  have zw25 : w24.heap.size ≤ w25.heap.size := hb.size
  have bw25 := bw24.trans (hb.mono bw24.size)
  have cw25_0_0 := (hb.cell (p := ⟨w6.heap.size, 0, none⟩) (by show w6.heap.size < w24.heap.size; omega)).trans cw24_0_0
  have cw25_0_1 := (hb.cell (p := ⟨w6.heap.size, 1, none⟩) (by show w6.heap.size < w24.heap.size; omega)).trans cw24_0_1
  have cw25_0_2 := (hb.cell (p := ⟨w6.heap.size, 2, none⟩) (by show w6.heap.size < w24.heap.size; omega)).trans cw24_0_2
  have cw25_1_0 := (hb.cell (p := ⟨w11.heap.size, 0, none⟩) (by show w11.heap.size < w24.heap.size; omega)).trans cw24_1_0
  have cw25_1_1 := (hb.cell (p := ⟨w11.heap.size, 1, none⟩) (by show w11.heap.size < w24.heap.size; omega)).trans cw24_1_1
  have cw25_1_2 := (hb.cell (p := ⟨w11.heap.size, 2, none⟩) (by show w11.heap.size < w24.heap.size; omega)).trans cw24_1_2
  have rw25_wa := rw24_wa.below hb
  have rw25_g := hg1.below hb
  clear hb bw24 cw24_0_0 cw24_0_1 cw24_0_2 cw24_1_0 cw24_1_1 cw24_1_2 rw24_wa hg1
  go_wp2_with fail
  refine (Lnt.toLineS_lb _ S _ (H0.out.stepAt bw25) hlS).mono ?_
  rintro e w26 ⟨gaw26, gcw26, rfl, kzw26, hb⟩
  have zw26 : w25.heap.size ≤ w26.heap.size := hb.size
  have bw26 := bw25.trans (hb.mono bw25.size)
  have cw26_0_0 := (hb.cell (p := ⟨w6.heap.size, 0, none⟩) (by show w6.heap.size < w25.heap.size; omega)).trans cw25_0_0
  have cw26_0_1 := (hb.cell (p := ⟨w6.heap.size, 1, none⟩) (by show w6.heap.size < w25.heap.size; omega)).trans cw25_0_1
  have cw26_0_2 := (hb.cell (p := ⟨w6.heap.size, 2, none⟩) (by show w6.heap.size < w25.heap.size; omega)).trans cw25_0_2
  have cw26_1_0 := (hb.cell (p := ⟨w11.heap.size, 0, none⟩) (by show w11.heap.size < w25.heap.size; omega)).trans cw25_1_0
  have cw26_1_1 := (hb.cell (p := ⟨w11.heap.size, 1, none⟩) (by show w11.heap.size < w25.heap.size; omega)).trans cw25_1_1
  have cw26_1_2 := (hb.cell (p := ⟨w11.heap.size, 2, none⟩) (by show w11.heap.size < w25.heap.size; omega)).trans cw25_1_2
  have rw26_wa := rw25_wa.below hb
  have rw26_g := rw25_g.below hb
  clear hb bw25 cw25_0_0 cw25_0_1 cw25_0_2 cw25_1_0 cw25_1_1 cw25_1_2 rw25_wa rw25_g
  go_wp2_with fail
  refine (Obt.toStringS_ob _ I _ (H1.out.stepAt bw26) hlI).mono ?_
  rintro e w27 ⟨gaw27, gcw27, rfl, kzw27, hb⟩
  have zw27 : w26.heap.size ≤ w27.heap.size := hb.size
  have bw27 := bw26.trans (hb.mono bw26.size)
  have cw27_0_0 := (hb.cell (p := ⟨w6.heap.size, 0, none⟩) (by show w6.heap.size < w26.heap.size; omega)).trans cw26_0_0
  have cw27_0_1 := (hb.cell (p := ⟨w6.heap.size, 1, none⟩) (by show w6.heap.size < w26.heap.size; omega)).trans cw26_0_1
  have cw27_0_2 := (hb.cell (p := ⟨w6.heap.size, 2, none⟩) (by show w6.heap.size < w26.heap.size; omega)).trans cw26_0_2
  have cw27_1_0 := (hb.cell (p := ⟨w11.heap.size, 0, none⟩) (by show w11.heap.size < w26.heap.size; omega)).trans cw26_1_0
  have cw27_1_1 := (hb.cell (p := ⟨w11.heap.size, 1, none⟩) (by show w11.heap.size < w26.heap.size; omega)).trans cw26_1_1
  have cw27_1_2 := (hb.cell (p := ⟨w11.heap.size, 2, none⟩) (by show w11.heap.size < w26.heap.size; omega)).trans cw26_1_2
  have rw27_wa := rw26_wa.below hb
  have rw27_g := rw26_g.below hb
  have rw27_z0 := kzw26.below hb
  clear hb bw26 cw26_0_0 cw26_0_1 cw26_0_2 cw26_1_0 cw26_1_1 cw26_1_2 rw26_wa rw26_g kzw26
  go_wp2_with fail
  refine (Obt.toBoolS_ob _ O _ (H2.out.stepAt bw27) hlO).mono ?_
  rintro e w28 ⟨gaw28, gcw28, rfl, kzw28, hb⟩
  have zw28 : w27.heap.size ≤ w28.heap.size := hb.size
  have bw28 := bw27.trans (hb.mono bw27.size)
  have cw28_0_0 := (hb.cell (p := ⟨w6.heap.size, 0, none⟩) (by show w6.heap.size < w27.heap.size; omega)).trans cw27_0_0
  have cw28_0_1 := (hb.cell (p := ⟨w6.heap.size, 1, none⟩) (by show w6.heap.size < w27.heap.size; omega)).trans cw27_0_1
  have cw28_0_2 := (hb.cell (p := ⟨w6.heap.size, 2, none⟩) (by show w6.heap.size < w27.heap.size; omega)).trans cw27_0_2
  have cw28_1_0 := (hb.cell (p := ⟨w11.heap.size, 0, none⟩) (by show w11.heap.size < w27.heap.size; omega)).trans cw27_1_0
  have cw28_1_1 := (hb.cell (p := ⟨w11.heap.size, 1, none⟩) (by show w11.heap.size < w27.heap.size; omega)).trans cw27_1_1
  have cw28_1_2 := (hb.cell (p := ⟨w11.heap.size, 2, none⟩) (by show w11.heap.size < w27.heap.size; omega)).trans cw27_1_2
  have rw28_wa := rw27_wa.below hb
  have rw28_g := rw27_g.below hb
  have rw28_z0 := rw27_z0.below hb
  have rw28_z1 := kzw27.below hb
  clear hb bw27 cw27_0_0 cw27_0_1 cw27_0_2 cw27_1_0 cw27_1_1 cw27_1_2 rw27_wa rw27_g rw27_z0 kzw27
  go_wp2_with fail
  refine (KI.out _ _ _ _ rw28_z0.at rw28_z1.at kzw28.at).mono ?_
  rintro e w29 ⟨vvwb, rfl, hwb, hb⟩
  have zw29 : w28.heap.size ≤ w29.heap.size := hb.size
  have bw29 := bw28.trans (hb.mono bw28.size)
  have cw29_0_0 := (hb.cell (p := ⟨w6.heap.size, 0, none⟩) (by show w6.heap.size < w28.heap.size; omega)).trans cw28_0_0
  have cw29_0_1 := (hb.cell (p := ⟨w6.heap.size, 1, none⟩) (by show w6.heap.size < w28.heap.size; omega)).trans cw28_0_1
  have cw29_0_2 := (hb.cell (p := ⟨w6.heap.size, 2, none⟩) (by show w6.heap.size < w28.heap.size; omega)).trans cw28_0_2
  have cw29_1_0 := (hb.cell (p := ⟨w11.heap.size, 0, none⟩) (by show w11.heap.size < w28.heap.size; omega)).trans cw28_1_0
  have cw29_1_1 := (hb.cell (p := ⟨w11.heap.size, 1, none⟩) (by show w11.heap.size < w28.heap.size; omega)).trans cw28_1_1
  have cw29_1_2 := (hb.cell (p := ⟨w11.heap.size, 2, none⟩) (by show w11.heap.size < w28.heap.size; omega)).trans cw28_1_2
  have rw29_wa := rw28_wa.below hb
  have rw29_g := rw28_g.below hb
  have rw29_z0 := rw28_z0.below hb
  have rw29_z1 := rw28_z1.below hb
  have rw29_z2 := kzw28.below hb
  clear hb bw28 cw28_0_0 cw28_0_1 cw28_0_2 cw28_1_0 cw28_1_1 cw28_1_2 rw28_wa rw28_g rw28_z0 rw28_z1 kzw28
  obtain ⟨sawb, scwb, rfl, exwb⟩ := id hwb
  clear exwb
  clear rw29_z0
  clear rw29_z1
  clear rw29_z2
  obtain ⟨w30, hw⟩ : ∃ V : World, V = w29.alloc (.cells #[.int .i64 cd, .string ot, .slice sawb A.length scwb] 36) := ⟨_, rfl⟩
  have hb : Below w29.heap.size w29 w30 := by
    rw [hw]
    exact (Below.refl _ _).alloc (Nat.le_refl _) _
  have cb_0 : w30.cell? ⟨w29.heap.size, 0, none⟩ = some (.int .i64 cd) := by rw [hw]; go_simp
  have cb_1 : w30.cell? ⟨w29.heap.size, 1, none⟩ = some (.string ot) := by rw [hw]; go_simp
  have cb_2 : w30.cell? ⟨w29.heap.size, 2, none⟩ = some (.slice sawb A.length scwb) := by rw [hw]; go_simp
  have zb : w29.heap.size + 1 ≤ w30.heap.size := by rw [hw]; simp
  go_upto_region 38 with fail
  rw [← hw]
  clear hw
  have zw30 : w29.heap.size ≤ w30.heap.size := hb.size
  have bw30 := bw29.trans (hb.mono bw29.size)
  have cw30_0_0 := (hb.cell (p := ⟨w6.heap.size, 0, none⟩) (by show w6.heap.size < w29.heap.size; omega)).trans cw29_0_0
  have cw30_0_1 := (hb.cell (p := ⟨w6.heap.size, 1, none⟩) (by show w6.heap.size < w29.heap.size; omega)).trans cw29_0_1
  have cw30_0_2 := (hb.cell (p := ⟨w6.heap.size, 2, none⟩) (by show w6.heap.size < w29.heap.size; omega)).trans cw29_0_2
  have cw30_1_0 := (hb.cell (p := ⟨w11.heap.size, 0, none⟩) (by show w11.heap.size < w29.heap.size; omega)).trans cw29_1_0
  have cw30_1_1 := (hb.cell (p := ⟨w11.heap.size, 1, none⟩) (by show w11.heap.size < w29.heap.size; omega)).trans cw29_1_1
  have cw30_1_2 := (hb.cell (p := ⟨w11.heap.size, 2, none⟩) (by show w11.heap.size < w29.heap.size; omega)).trans cw29_1_2
  have rw30_wa := rw29_wa.below hb
  have rw30_g := rw29_g.below hb
  have rw30_wb := hwb.below hb
  clear hb bw29 cw29_0_0 cw29_0_1 cw29_0_2 cw29_1_0 cw29_1_1 cw29_1_2 rw29_wa rw29_g hwb
  go_wp2_with fail
  refine (Rnw.eqRan_same cd ot hA rw30_wb.at rw30_wa.at).mono ?_
  rintro e w31 ⟨rfl, hb⟩
  have zw31 : w30.heap.size ≤ w31.heap.size := hb.size
  have bw31 := bw30.trans (hb.mono bw30.size)
  have cw31_0_0 := (hb.cell (p := ⟨w6.heap.size, 0, none⟩) (by show w6.heap.size < w30.heap.size; omega)).trans cw30_0_0
  have cw31_0_1 := (hb.cell (p := ⟨w6.heap.size, 1, none⟩) (by show w6.heap.size < w30.heap.size; omega)).trans cw30_0_1
  have cw31_0_2 := (hb.cell (p := ⟨w6.heap.size, 2, none⟩) (by show w6.heap.size < w30.heap.size; omega)).trans cw30_0_2
  have cw31_1_0 := (hb.cell (p := ⟨w11.heap.size, 0, none⟩) (by show w11.heap.size < w30.heap.size; omega)).trans cw30_1_0
  have cw31_1_1 := (hb.cell (p := ⟨w11.heap.size, 1, none⟩) (by show w11.heap.size < w30.heap.size; omega)).trans cw30_1_1
  have cw31_1_2 := (hb.cell (p := ⟨w11.heap.size, 2, none⟩) (by show w11.heap.size < w30.heap.size; omega)).trans cw30_1_2
  have cw31_2_0 := (hb.cell (p := ⟨w29.heap.size, 0, none⟩) (by show w29.heap.size < w30.heap.size; omega)).trans cb_0
  have cw31_2_1 := (hb.cell (p := ⟨w29.heap.size, 1, none⟩) (by show w29.heap.size < w30.heap.size; omega)).trans cb_1
  have cw31_2_2 := (hb.cell (p := ⟨w29.heap.size, 2, none⟩) (by show w29.heap.size < w30.heap.size; omega)).trans cb_2
  have rw31_wa := rw30_wa.below hb
  have rw31_g := rw30_g.below hb
  have rw31_wb := rw30_wb.below hb
  clear hb bw30 cw30_0_0 cw30_0_1 cw30_0_2 cw30_1_0 cw30_1_1 cw30_1_2 cb_0 cb_1 cb_2 rw30_wa rw30_g rw30_wb
  go_wp2_with fail
  refine (Rnw.heldRan_any cd ot hA 1 (by omega) (by omega) rw31_g).mono ?_
  rintro e w32 ⟨rfl, hb⟩
  have zw32 : w31.heap.size ≤ w32.heap.size := hb.size
  have bw32 := bw31.trans (hb.mono bw31.size)
  have cw32_0_0 := (hb.cell (p := ⟨w6.heap.size, 0, none⟩) (by show w6.heap.size < w31.heap.size; omega)).trans cw31_0_0
  have cw32_0_1 := (hb.cell (p := ⟨w6.heap.size, 1, none⟩) (by show w6.heap.size < w31.heap.size; omega)).trans cw31_0_1
  have cw32_0_2 := (hb.cell (p := ⟨w6.heap.size, 2, none⟩) (by show w6.heap.size < w31.heap.size; omega)).trans cw31_0_2
  have cw32_1_0 := (hb.cell (p := ⟨w11.heap.size, 0, none⟩) (by show w11.heap.size < w31.heap.size; omega)).trans cw31_1_0
  have cw32_1_1 := (hb.cell (p := ⟨w11.heap.size, 1, none⟩) (by show w11.heap.size < w31.heap.size; omega)).trans cw31_1_1
  have cw32_1_2 := (hb.cell (p := ⟨w11.heap.size, 2, none⟩) (by show w11.heap.size < w31.heap.size; omega)).trans cw31_1_2
  have cw32_2_0 := (hb.cell (p := ⟨w29.heap.size, 0, none⟩) (by show w29.heap.size < w31.heap.size; omega)).trans cw31_2_0
  have cw32_2_1 := (hb.cell (p := ⟨w29.heap.size, 1, none⟩) (by show w29.heap.size < w31.heap.size; omega)).trans cw31_2_1
  have cw32_2_2 := (hb.cell (p := ⟨w29.heap.size, 2, none⟩) (by show w29.heap.size < w31.heap.size; omega)).trans cw31_2_2
  have rw32_wa := rw31_wa.below hb
  have rw32_g := rw31_g.below hb
  have rw32_wb := rw31_wb.below hb
  clear hb bw31 cw31_0_0 cw31_0_1 cw31_0_2 cw31_1_0 cw31_1_1 cw31_1_2 cw31_2_0 cw31_2_1 cw31_2_2 rw31_wa rw31_g rw31_wb
  go_wp2_with fail
  go_ret
  exact ⟨rfl, bw32⟩

set_option maxRecDepth 100000 in
theorem law : LawWalk Try.prog 9 Try.f9 := by
  intro H enc W base args ds ps hval hA
  rw [Try.params9] at hA hval
  obtain ⟨v0, vs0, d0, es0, p0, q0, hargs, rfl, rfl, h0, r0⟩ := trodAll_cons hA
  obtain ⟨v1, vs1, d1, es1, p1, q1, rfl, rfl, rfl, h1, r1⟩ := trodAll_cons r0
  obtain ⟨v2, vs2, d2, es2, p2, q2, rfl, rfl, rfl, h2, r2⟩ := trodAll_cons r1
  obtain ⟨rfl, rfl, rfl⟩ := trodAll_nil r2
  obtain rfl : args = #[v0, v1, v2] := by cases args; simp_all
  obtain ⟨a0, c0, S, rfl, g0, m0, q0x⟩ := Lnt.open_lines (hval 0 _ v0 rfl rfl) h0
  obtain ⟨a1, c1, I, rfl, g1, m1, q1x⟩ := Obt.open_texts (hval 1 _ v1 rfl rfl) h1
  obtain ⟨a2, c2, O, rfl, g2, m2⟩ := Obt.open_bools (hval 2 _ v2 rfl rfl) h2
  rcases Nat.lt_or_ge 1048576 O.length with hlO | hlO
  · exact long_O _ _ _ S I O W g0 g1 g2 hlO
  by_cases hl : (S.length + lnSz S) + (I.length + Obt.stSz I) ≤ 1048576
  · exact short _ _ _ S I O W hlO g0 g1 g2 hl
  · exact long _ _ _ S I O W m0 q0x m1 q1x hlO g0 g1 g2 (by omega)
end Lxr

set_option maxRecDepth 100000 in
theorem exactRoomRun_holds : Rows.FnExactRoomRunSaid :=
  OpenClaim.holds_of_wide 9 Try.f9 rfl rfl rfl rfl rfl rfl rfl ⟨rfl, rfl, rfl, rfl, rfl⟩ rfl rfl rfl rfl rfl (by kernel_rfl) Try.func9 (by kernel_rfl)
    (of_decide_eq_true (by kernel_rfl)) (by unfold Func.isWrapper; rw [if_neg (by decide +kernel)]; exact ⟨rfl, rfl⟩)
    (fun os started H enc _ => law_lifted (s := Rows.fnExactRoomRunSpec) (tb := 4) own started laid (by kernel_rfl) Try.func9 rfl (by kernel_rfl) Try.underlying4 (by kernel_rfl)
      (fun ds h => by rw [Try.params9] at h; match ds, h with | [_, _, _], _ => rfl)
      (ChangeSpec.witness6 (enc := enc) (C := Try.checked) false ⟨#[], #[.slice none 0 0, .slice none 0 0, .slice none 0 0], []⟩ 8 (by kernel_rfl) (by kernel_rfl) (by kernel_rfl) (by kernel_rfl))
      Lxr.law)
#print axioms exactRoomRun_holds
end Go.Proofs.Ytfmidekffcjbgaa
