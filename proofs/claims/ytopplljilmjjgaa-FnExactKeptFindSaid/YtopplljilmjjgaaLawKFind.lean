/- At every argument the law FnExactKeptFind returns true: KeptFind of the program answers as KeptFind of the model, and leaves its arguments. No condition. -/
import Derived.Test.YtopplljilmjjgaaEnto
import Derived.Test.YtopplljilmjjgaaKfi
import Derived.Deep.RegionHeld3
namespace Go.Proofs.Ytopplljilmjjgaa
open Go.ChangeShapes Go.WideShapes Go.ChangeAt Go.RowKit Go.Joins Go.Sort

namespace Lkf
theorem pen_each {S : List Ent} (h : En.enSz S ≤ 1048576) : ∀ q ∈ S, Kf.Pen q := fun q hq => by
  have h1 := En.enSz_mem hq
  unfold En.sz1 at h1
  exact ⟨by omega, by omega, fun p hp => by have := lnSz_mem hp; omega, by omega, fun p hp => by have := Obt.stSz_mem hp; omega⟩
theorem fits_ofE {S : List Ent} (h : ∀ q ∈ S, Kf.Pen q) : ∀ q ∈ S, Enn.Fits q := fun q hq => ⟨(h q hq).2.1, (h q hq).2.2.2.1⟩
theorem mea_ofE {S : List Ent} (h : ∀ q ∈ S, Kf.Pen q) : ∀ q ∈ S, Enn.Mea q := fun q hq => by
  obtain ⟨h1, h2, h3, h4, h5⟩ := h q hq
  unfold Enn.Mea maxLen
  exact ⟨by omega, by omega, fun p hp => by have := h3 p hp; omega, by omega, fun p hp => by have := h5 p hp; omega⟩
set_option maxRecDepth 100000 in
set_option maxHeartbeats 4000000 in
theorem long (v0 v1 v2 : Value) (S : List Ent) (L : List Ln) (T : List ByteArray) (w : World) (hmS : S.length ≤ maxLen) (hqS : ∀ q ∈ S, Enn.Mea q) (hmL : L.length ≤ maxLen) (hqL : ∀ q ∈ L, q.2.2.2.size ≤ maxLen) (hmT : T.length ≤ maxLen) (hqT : ∀ q ∈ T, q.size ≤ maxLen)  (h0 : En.EnAt w w.heap.size v0 S) (h1 : LnAt w w.heap.size v1 L) (h2 : Obl.StAt w w.heap.size v2 T) (hl : 1048576 < (S.length + En.enSz S) + (L.length + lnSz L) + (T.length + Obt.stSz T)) :
    Calls Try.prog 3 #[v0, v1, v2] w fun e w' => e = .returned (.bool true) ∧ Below w.heap.size w w' := by
  obtain ⟨a0, c0, rfl, x0⟩ := id h0
  obtain ⟨a1, c1, rfl, x1⟩ := id h1
  obtain ⟨a2, c2, rfl, x2⟩ := id h2
  clear x0 x1 x2
  have H0 := Lib.hid h0
  have H1 := Lib.hid h1
  have H2 := Lib.hid h2
  clear h0 h1 h2
  by_cases g0 : 1048576 < (((S.length + En.enSz S) : Nat) : Int)
  · have K0 : Hid (∀ V, En.EnAt V V.heap.size (.slice a0 S.length c0) S → Calls Try.prog 15 #[.slice a0 S.length c0, .int .i64 1048576] V fun e w' => e = .returned (.int .i64 (-1)) ∧ Below V.heap.size V w') := Lib.hid fun V g => by
      have := Enn.szEntryS_any _ S 1048576 V (by omega) (by omega) hmS hqS g
      rwa [show Obt.oleft 1048576 (S.length + En.enSz S) = -1 by unfold Obt.oleft; rw [if_pos (by omega)]] at this
    clear hl 
    go_enter Try.func3, Try.ntmps3
    go_wp2_with fail
    refine (K0.out _ (H0.out.stepAt (by go_grown))).mono ?_
    rintro e w1 ⟨rfl, hb⟩
    have b1 := hb
    clear hb
    go_wp2_with fail
    go_ret
    exact ⟨rfl, b1⟩
  obtain ⟨y1, f1, e1, n1⟩ : ∃ y : Int, Obt.oleft 1048576 (S.length + En.enSz S) = y ∧ y = 1048576 - (((S.length + En.enSz S) : Nat) : Int) ∧ ¬ y < 0 := ⟨_, rfl, by unfold Obt.oleft; rw [if_neg (by omega)], by unfold Obt.oleft; rw [if_neg (by omega)]; omega⟩
  have K0 : Hid (∀ V, En.EnAt V V.heap.size (.slice a0 S.length c0) S → Calls Try.prog 15 #[.slice a0 S.length c0, .int .i64 1048576] V fun e w' => e = .returned (.int .i64 y1) ∧ Below V.heap.size V w') := Lib.hid fun V g => by
    have := Enn.szEntryS_any _ S 1048576 V (by omega) (by omega) hmS hqS g
    rwa [f1] at this
  clear f1
  by_cases g1 : y1 < (((L.length + lnSz L) : Nat) : Int)
  · have K1 : Hid (∀ V, LnAt V V.heap.size (.slice a1 L.length c1) L → Calls Try.prog 16 #[.slice a1 L.length c1, .int .i64 y1] V fun e w' => e = .returned (.int .i64 (-1)) ∧ Below V.heap.size V w') := Lib.hid fun V g => by
      have := Lnt.szLineS_any _ L y1 V (by omega) (by omega) hmL hqL g
      rwa [show Obt.oleft y1 (L.length + lnSz L) = -1 by unfold Obt.oleft; rw [if_pos (by omega)]] at this
    clear hl e1
    go_enter Try.func3, Try.ntmps3
    go_wp2_with fail
    refine (K0.out _ (H0.out.stepAt (by go_grown))).mono ?_
    rintro e w1 ⟨rfl, hb⟩
    have b1 := hb
    clear hb
    go_wp2_with fail
    refine (K1.out _ (H1.out.stepAt b1)).mono ?_
    rintro e w2 ⟨rfl, hb⟩
    have b2 := b1.trans (hb.mono b1.size)
    clear hb
    go_wp2_with fail
    go_ret
    exact ⟨rfl, b2⟩
  obtain ⟨y2, f2, e2, n2⟩ : ∃ y : Int, Obt.oleft y1 (L.length + lnSz L) = y ∧ y = y1 - (((L.length + lnSz L) : Nat) : Int) ∧ ¬ y < 0 := ⟨_, rfl, by unfold Obt.oleft; rw [if_neg (by omega)], by unfold Obt.oleft; rw [if_neg (by omega)]; omega⟩
  have K1 : Hid (∀ V, LnAt V V.heap.size (.slice a1 L.length c1) L → Calls Try.prog 16 #[.slice a1 L.length c1, .int .i64 y1] V fun e w' => e = .returned (.int .i64 y2) ∧ Below V.heap.size V w') := Lib.hid fun V g => by
    have := Lnt.szLineS_any _ L y1 V (by omega) (by omega) hmL hqL g
    rwa [f2] at this
  clear f2
  have K2 : Hid (∀ V, Obl.StAt V V.heap.size (.slice a2 T.length c2) T → Calls Try.prog 17 #[.slice a2 T.length c2, .int .i64 y2] V fun e w' => e = .returned (.int .i64 (-1)) ∧ Below V.heap.size V w') := Lib.hid fun V g => by
    have := Obt.szStringS_any _ T y2 V (by omega) (by omega) hmT hqT g
    rwa [show Obt.oleft y2 (T.length + Obt.stSz T) = -1 by unfold Obt.oleft; rw [if_pos (by omega)]] at this
  clear hl e1 e2
  go_enter Try.func3, Try.ntmps3
  go_wp2_with fail
  refine (K0.out _ (H0.out.stepAt (by go_grown))).mono ?_
  rintro e w1 ⟨rfl, hb⟩
  have b1 := hb
  clear hb
  go_wp2_with fail
  refine (K1.out _ (H1.out.stepAt b1)).mono ?_
  rintro e w2 ⟨rfl, hb⟩
  have b2 := b1.trans (hb.mono b1.size)
  clear hb
  go_wp2_with fail
  refine (K2.out _ (H2.out.stepAt b2)).mono ?_
  rintro e w3 ⟨rfl, hb⟩
  have b3 := b2.trans (hb.mono b2.size)
  clear hb
  go_wp2_with fail
  go_ret
  exact ⟨rfl, b3⟩

set_option maxRecDepth 100000 in
set_option maxHeartbeats 16000000 in
theorem short (v0 v1 v2 : Value) (S : List Ent) (L : List Ln) (T : List ByteArray) (w : World)  (h0 : En.EnAt w w.heap.size v0 S) (h1 : LnAt w w.heap.size v1 L) (h2 : Obl.StAt w w.heap.size v2 T) (hl : (S.length + En.enSz S) + (L.length + lnSz L) + (T.length + Obt.stSz T) ≤ 1048576) :
    Calls Try.prog 3 #[v0, v1, v2] w fun e w' => e = .returned (.bool true) ∧ Below w.heap.size w w' := by
  have hlS : S.length ≤ 1048576 := by omega
  have hmS : S.length ≤ maxLen := by unfold maxLen; omega
  have hzS : En.enSz S ≤ 1048576 := by omega
  have hrS := pen_each (S := S) hzS
  have hfS := fits_ofE hrS
  have hqS := mea_ofE hrS
  have hlL : L.length ≤ 1048576 := by omega
  have hmL : L.length ≤ maxLen := by unfold maxLen; omega
  have hzL : lnSz L ≤ 1048576 := by omega
  have hrL : ∀ q ∈ L, q.2.2.2.size ≤ 1048576 := fun q h => Nat.le_trans (lnSz_mem h) hzL
  have hqL : ∀ q ∈ L, q.2.2.2.size ≤ maxLen := fun q h => by have := hrL q h; unfold maxLen; omega
  have hlT : T.length ≤ 1048576 := by omega
  have hmT : T.length ≤ maxLen := by unfold maxLen; omega
  have hzT : Obt.stSz T ≤ 1048576 := by omega
  have hrT : ∀ q ∈ T, q.size ≤ 1048576 := fun q h => Nat.le_trans (Obt.stSz_mem h) hzT
  have hqT : ∀ q ∈ T, q.size ≤ maxLen := fun q h => by have := hrT q h; unfold maxLen; omega
  obtain ⟨a0, c0, rfl, x0⟩ := id h0
  obtain ⟨a1, c1, rfl, x1⟩ := id h1
  obtain ⟨a2, c2, rfl, x2⟩ := id h2
  clear x0 x1 x2
  have H0 := Lib.hid h0
  have H1 := Lib.hid h1
  have H2 := Lib.hid h2
  clear h0 h1 h2
  obtain ⟨y1, f1, e1, n1⟩ : ∃ y : Int, Obt.oleft 1048576 (S.length + En.enSz S) = y ∧ y = 1048576 - (((S.length + En.enSz S) : Nat) : Int) ∧ ¬ y < 0 := ⟨_, rfl, by unfold Obt.oleft; rw [if_neg (by omega)], by unfold Obt.oleft; rw [if_neg (by omega)]; omega⟩
  have K0 : Hid (∀ V, En.EnAt V V.heap.size (.slice a0 S.length c0) S → Calls Try.prog 15 #[.slice a0 S.length c0, .int .i64 1048576] V fun e w' => e = .returned (.int .i64 y1) ∧ Below V.heap.size V w') := Lib.hid fun V g => by
    have := Enn.szEntryS_any _ S 1048576 V (by omega) (by omega) hmS hqS g
    rwa [f1] at this
  clear f1
  obtain ⟨y2, f2, e2, n2⟩ : ∃ y : Int, Obt.oleft y1 (L.length + lnSz L) = y ∧ y = y1 - (((L.length + lnSz L) : Nat) : Int) ∧ ¬ y < 0 := ⟨_, rfl, by unfold Obt.oleft; rw [if_neg (by omega)], by unfold Obt.oleft; rw [if_neg (by omega)]; omega⟩
  have K1 : Hid (∀ V, LnAt V V.heap.size (.slice a1 L.length c1) L → Calls Try.prog 16 #[.slice a1 L.length c1, .int .i64 y1] V fun e w' => e = .returned (.int .i64 y2) ∧ Below V.heap.size V w') := Lib.hid fun V g => by
    have := Lnt.szLineS_any _ L y1 V (by omega) (by omega) hmL hqL g
    rwa [f2] at this
  clear f2
  obtain ⟨y3, f3, e3, n3⟩ : ∃ y : Int, Obt.oleft y2 (T.length + Obt.stSz T) = y ∧ y = y2 - (((T.length + Obt.stSz T) : Nat) : Int) ∧ ¬ y < 0 := ⟨_, rfl, by unfold Obt.oleft; rw [if_neg (by omega)], by unfold Obt.oleft; rw [if_neg (by omega)]; omega⟩
  have K2 : Hid (∀ V, Obl.StAt V V.heap.size (.slice a2 T.length c2) T → Calls Try.prog 17 #[.slice a2 T.length c2, .int .i64 y2] V fun e w' => e = .returned (.int .i64 y3) ∧ Below V.heap.size V w') := Lib.hid fun V g => by
    have := Obt.szStringS_any _ T y2 V (by omega) (by omega) hmT hqT g
    rwa [f3] at this
  clear f3
  clear e1 e2 e3 hmS hqS hmL hqL hmT hqT
  have KS : Hid (∀ V u0 u1 u2, En.EnAt V V.heap.size u0 S → LnAt V V.heap.size u1 L → Obl.StAt V V.heap.size u2 T → Calls Try.prog 18 #[u0, u1, u2] V fun e w' => e = .returned (.int .i64 (Kf.findL S L T)) ∧ Below V.heap.size V w') := Lib.hid fun V u0 u1 u2 g0 g1 g2 => Kf.specFind_any u0 u1 u2 S L T V hlS (fun q hq => hfS q hq) hlL hlT g0 g1 g2
  have KI : Hid (∀ V u0 u1 u2, En.EnAt V V.heap.size u0 S → LnAt V V.heap.size u1 L → Obl.StAt V V.heap.size u2 T → Calls Try.prog 22 #[u0, u1, u2] V fun e w' => e = .returned (.int .i64 (Kf.findL S L T)) ∧ Below V.heap.size V w') := Lib.hid fun V u0 u1 u2 g0 g1 g2 => Kf.implFind_any u0 u1 u2 S L T V hlS (fun q hq => hfS q hq) hlL hlT g0 g1 g2
  generalize Kf.findL S L T = A at *
  clear hl
  have hAA : (A != A) = false := by simp
  go_enter Try.func3, Try.ntmps3
  go_wp2_with fail
  refine (K0.out _ (H0.out.stepAt (by go_grown))).mono ?_
  rintro e w1 ⟨rfl, hb⟩
  have zw1 : w.heap.size ≤ w1.heap.size := hb.size
  have bw1 := hb
  clear hb
  go_wp2_with fail
  refine (K1.out _ (H1.out.stepAt bw1)).mono ?_
  rintro e w2 ⟨rfl, hb⟩
  have zw2 : w1.heap.size ≤ w2.heap.size := hb.size
  have bw2 := bw1.trans (hb.mono bw1.size)
  clear hb bw1
  go_wp2_with fail
  refine (K2.out _ (H2.out.stepAt bw2)).mono ?_
  rintro e w3 ⟨rfl, hb⟩
  have zw3 : w2.heap.size ≤ w3.heap.size := hb.size
  have bw3 := bw2.trans (hb.mono bw2.size)
  clear hb bw2
  go_wp2_with fail
  refine (Enn.toEntryS_tb _ S _ (H0.out.stepAt bw3) hlS hfS).mono ?_
  rintro e w4 ⟨gaw4, gcw4, rfl, kzw4, hb⟩
  have zw4 : w3.heap.size ≤ w4.heap.size := hb.size
  have bw4 := bw3.trans (hb.mono bw3.size)
  clear hb bw3
  go_wp2_with fail
  refine (Lnt.toLineS_lb _ L _ (H1.out.stepAt bw4) hlL).mono ?_
  rintro e w5 ⟨gaw5, gcw5, rfl, kzw5, hb⟩
  have zw5 : w4.heap.size ≤ w5.heap.size := hb.size
  have bw5 := bw4.trans (hb.mono bw4.size)
  have rw5_z0 := kzw4.below hb
  clear hb bw4 kzw4
  go_wp2_with fail
  refine (Obt.toStringS_ob _ T _ (H2.out.stepAt bw5) hlT).mono ?_
  rintro e w6 ⟨gaw6, gcw6, rfl, kzw6, hb⟩
  have zw6 : w5.heap.size ≤ w6.heap.size := hb.size
  have bw6 := bw5.trans (hb.mono bw5.size)
  have rw6_z0 := rw5_z0.below hb
  have rw6_z1 := kzw5.below hb
  clear hb bw5 rw5_z0 kzw5
  go_wp2_with fail
  refine (KS.out _ _ _ _ rw6_z0.at rw6_z1.at kzw6.at).mono ?_
  rintro e w7 ⟨rfl, hb⟩
  have zw7 : w6.heap.size ≤ w7.heap.size := hb.size
  have bw7 := bw6.trans (hb.mono bw6.size)
  have rw7_z0 := rw6_z0.below hb
  have rw7_z1 := rw6_z1.below hb
  have rw7_z2 := kzw6.below hb
  clear hb bw6 rw6_z0 rw6_z1 kzw6
  clear rw7_z0
  clear rw7_z1
  clear rw7_z2
  go_wp2_with fail
  refine (Enn.toEntryS_tb _ S _ (H0.out.stepAt bw7) hlS hfS).mono ?_
  rintro e w8 ⟨xa0, xc0, rfl, hx0, hb⟩
  have zw8 : w7.heap.size ≤ w8.heap.size := hb.size
  have bw8 := bw7.trans (hb.mono bw7.size)
  clear hb bw7
  go_wp2_with fail
  refine (Lnt.toLineS_lb _ L _ (H1.out.stepAt bw8) hlL).mono ?_
  rintro e w9 ⟨xa1, xc1, rfl, hx1, hb⟩
  have zw9 : w8.heap.size ≤ w9.heap.size := hb.size
  have bw9 := bw8.trans (hb.mono bw8.size)
  have rw9_x0 := hx0.below hb
  clear hb bw8 hx0
  go_wp2_with fail
  refine (Obt.toStringS_ob _ T _ (H2.out.stepAt bw9) hlT).mono ?_
  rintro e w10 ⟨xa2, xc2, rfl, hx2, hb⟩
  have zw10 : w9.heap.size ≤ w10.heap.size := hb.size
  have bw10 := bw9.trans (hb.mono bw9.size)
  have rw10_x0 := rw9_x0.below hb
  have rw10_x1 := hx1.below hb
  clear hb bw9 rw9_x0 hx1
  go_wp2_with fail
  refine (KI.out _ _ _ _ rw10_x0.at rw10_x1.at hx2.at).mono ?_
  rintro e w11 ⟨rfl, hb⟩
  have zw11 : w10.heap.size ≤ w11.heap.size := hb.size
  have bw11 := bw10.trans (hb.mono bw10.size)
  have rw11_x0 := rw10_x0.below hb
  have rw11_x1 := rw10_x1.below hb
  have rw11_x2 := hx2.below hb
  clear hb bw10 rw10_x0 rw10_x1 hx2
  go_wp2_with fail
  refine (Enn.toEntryS_tb _ S _ (H0.out.stepAt bw11) hlS hfS).mono ?_
  rintro e w12 ⟨gaw12, gcw12, rfl, kzw12, hb⟩
  have zw12 : w11.heap.size ≤ w12.heap.size := hb.size
  have bw12 := bw11.trans (hb.mono bw11.size)
  have rw12_x0 := rw11_x0.below hb
  have rw12_x1 := rw11_x1.below hb
  have rw12_x2 := rw11_x2.below hb
  clear hb bw11 rw11_x0 rw11_x1 rw11_x2
  go_wp2_with fail
  refine (Enn.eqEntryS_same hlS hfS rw12_x0.at kzw12.at).mono ?_
  rintro e w13 ⟨rfl, hb⟩
  have zw13 : w12.heap.size ≤ w13.heap.size := hb.size
  have bw13 := bw12.trans (hb.mono bw12.size)
  have rw13_x0 := rw12_x0.below hb
  have rw13_x1 := rw12_x1.below hb
  have rw13_x2 := rw12_x2.below hb
  have rw13_z0 := kzw12.below hb
  clear hb bw12 rw12_x0 rw12_x1 rw12_x2 kzw12
  clear rw13_z0
  go_wp2_with fail
  refine (Lnt.toLineS_lb _ L _ (H1.out.stepAt bw13) hlL).mono ?_
  rintro e w14 ⟨gaw14, gcw14, rfl, kzw14, hb⟩
  have zw14 : w13.heap.size ≤ w14.heap.size := hb.size
  have bw14 := bw13.trans (hb.mono bw13.size)
  have rw14_x0 := rw13_x0.below hb
  have rw14_x1 := rw13_x1.below hb
  have rw14_x2 := rw13_x2.below hb
  clear hb bw13 rw13_x0 rw13_x1 rw13_x2
  go_wp2_with fail
  refine (Lnt.eqLineS_same hlL rw14_x1.at kzw14.at).mono ?_
  rintro e w15 ⟨rfl, hb⟩
  have zw15 : w14.heap.size ≤ w15.heap.size := hb.size
  have bw15 := bw14.trans (hb.mono bw14.size)
  have rw15_x0 := rw14_x0.below hb
  have rw15_x1 := rw14_x1.below hb
  have rw15_x2 := rw14_x2.below hb
  have rw15_z1 := kzw14.below hb
  clear hb bw14 rw14_x0 rw14_x1 rw14_x2 kzw14
  clear rw15_z1
  go_wp2_with fail
  refine (Obt.toStringS_ob _ T _ (H2.out.stepAt bw15) hlT).mono ?_
  rintro e w16 ⟨gaw16, gcw16, rfl, kzw16, hb⟩
  have zw16 : w15.heap.size ≤ w16.heap.size := hb.size
  have bw16 := bw15.trans (hb.mono bw15.size)
  have rw16_x0 := rw15_x0.below hb
  have rw16_x1 := rw15_x1.below hb
  have rw16_x2 := rw15_x2.below hb
  clear hb bw15 rw15_x0 rw15_x1 rw15_x2
  go_wp2_with fail
  refine (Obt.eqStringS_same hlT rw16_x2.at kzw16.at).mono ?_
  rintro e w17 ⟨rfl, hb⟩
  have zw17 : w16.heap.size ≤ w17.heap.size := hb.size
  have bw17 := bw16.trans (hb.mono bw16.size)
  have rw17_x0 := rw16_x0.below hb
  have rw17_x1 := rw16_x1.below hb
  have rw17_x2 := rw16_x2.below hb
  have rw17_z2 := kzw16.below hb
  clear hb bw16 rw16_x0 rw16_x1 rw16_x2 kzw16
  clear rw17_z2
  go_wp2_with fail
  go_ret
  exact ⟨rfl, bw17⟩

set_option maxRecDepth 100000 in
theorem law : LawWalk Try.prog 3 Try.f3 := by
  intro H enc W base args ds ps hval hA
  rw [Try.params3] at hA hval
  obtain ⟨v0, vs0, d0, es0, p0, q0, hargs, rfl, rfl, h0, r0⟩ := trodAll_cons hA
  obtain ⟨v1, vs1, d1, es1, p1, q1, rfl, rfl, rfl, h1, r1⟩ := trodAll_cons r0
  obtain ⟨v2, vs2, d2, es2, p2, q2, rfl, rfl, rfl, h2, r2⟩ := trodAll_cons r1
  obtain ⟨rfl, rfl, rfl⟩ := trodAll_nil r2
  obtain rfl : args = #[v0, v1, v2] := by cases args; simp_all
  obtain ⟨a0, c0, S, rfl, g0, m0, q0x⟩ := Enn.open_entries (hval 0 _ v0 rfl rfl) h0
  obtain ⟨a1, c1, L, rfl, g1, m1, q1x⟩ := Lnt.open_lines (hval 1 _ v1 rfl rfl) h1
  obtain ⟨a2, c2, T, rfl, g2, m2, q2x⟩ := Obt.open_texts (hval 2 _ v2 rfl rfl) h2
  by_cases hl : (S.length + En.enSz S) + (L.length + lnSz L) + (T.length + Obt.stSz T) ≤ 1048576
  · exact short _ _ _ S L T W  g0 g1 g2 hl
  · exact long _ _ _ S L T W m0 q0x m1 q1x m2 q2x  g0 g1 g2 (by omega)
end Lkf

set_option maxRecDepth 100000 in
theorem exactKeptFind_holds : Rows.FnExactKeptFindSaid :=
  OpenClaim.holds_of_wide 3 Try.f3 rfl rfl rfl rfl rfl rfl rfl ⟨rfl, rfl, rfl, rfl, rfl⟩ rfl rfl rfl rfl rfl (by kernel_rfl) Try.func3 (by kernel_rfl)
    (of_decide_eq_true (by kernel_rfl)) (by unfold Func.isWrapper; rw [if_neg (by decide +kernel)]; exact ⟨rfl, rfl⟩)
    (fun os started H enc _ => law_lifted (s := Rows.fnExactKeptFindSpec) (tb := 4) own started laid (by kernel_rfl) Try.func3 rfl (by kernel_rfl) Try.underlying4 (by kernel_rfl)
      (fun ds h => by rw [Try.params3] at h; match ds, h with | [_, _, _], _ => rfl)
      (ChangeSpec.witness6 (enc := enc) (C := Try.checked) false ⟨#[], #[.slice none 0 0, .slice none 0 0, .slice none 0 0], []⟩ 8 (by kernel_rfl) (by kernel_rfl) (by kernel_rfl) (by kernel_rfl))
      Lkf.law)
#print axioms exactKeptFind_holds
end Go.Proofs.Ytopplljilmjjgaa
