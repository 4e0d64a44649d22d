/- At every range the law FnExactRangeNot returns true: RangeNot of the program answers as RangeNot of the model, in memory of its own, and leaves its argument. No condition. -/
import Derived.Test.YtlobhikifhbllaaSpnot
import Derived.Test.YtlobhikifhbllaaSpopen
import Derived.Test.YtlobhikifhbllaaSb
import Derived.Deep.RegionWith
import Derived.Deep.CutRange
namespace Go.Proofs.Ytlobhikifhbllaa
open Go.ChangeShapes Go.WideShapes Go.ChangeAt Go.RowKit Go.Joins

set_option maxHeartbeats 1000000 in
theorem exactRangeNot_long (a : Option Addr) (cap : Nat) (A : List (Int × Int)) (w : World) (hm : A.length ≤ maxLen) (hl : 1048576 < A.length) :
    Calls Try.prog 6 #[.agg #[.slice a A.length cap]] w fun e w' => e = .returned (.bool true) ∧ Below w.heap.size w w' := by
  unfold maxLen at hm
  have K := Lib.hid fun V => szRange_any a A.length cap 1048576 V (by omega) (by omega) (by omega)
  rw [if_pos (by omega)] at K
  go_enter Try.func6, Try.ntmps6
  go_wp2_with fail
  refine (K.out _).mono ?_
  rintro e w1 ⟨rfl, hb⟩
  go_wp2_with fail
  go_ret
  exact ⟨rfl, ((Below.refl _ _).alloc (Nat.le_refl _) _).trans (hb.mono (by simp))⟩

set_option maxRecDepth 100000 in
set_option maxHeartbeats 8000000 in
theorem exactRangeNot_short (a : Option Addr) (cap : Nat) (A : List (Int × Int)) (w : World) (hl : A.length ≤ 1048576) (hA : SpAt w w.heap.size (.slice a A.length cap) A) :
    Calls Try.prog 6 #[.agg #[.slice a A.length cap]] w fun e w' => e = .returned (.bool true) ∧ Below w.heap.size w w' := by
  have S := Lib.hid fun V => szRange_any a A.length cap 1048576 V (by omega) (by omega) (by omega)
  rw [if_neg (by omega)] at S
  have nn : ¬ (1048576 : Int) - (A.length : Int) < 0 := by omega
  have KS : Hid (∀ V u, SpAt V V.heap.size u A → Calls Try.prog 24 #[.agg #[u]] V (TPost (notOk A) (notR A) V)) := Lib.hid fun V u h => specNot_any u A V hl h
  have KI : Hid (∀ V u, SpAt V V.heap.size u A → Calls Try.prog 25 #[.agg #[u]] V (TPost (notOk A) (notR A) V)) := Lib.hid fun V u h => implNot_any u A V hl h
  have hR : (notR A).length ≤ 1048576 := by
    unfold notR fitR
    split
    · split
      · omega
      · simp
    · simp
  generalize notOk A = o at *
  generalize notR A = R at *
  go_enter Try.func6, Try.ntmps6
  have bw := Below.refl w.heap.size w
  go_wp2_with fail
  refine (S.out _).mono ?_
  rintro e w1 ⟨rfl, hb⟩
  have nw1 : Below w.heap.size w w1 := ((Below.refl w.heap.size w).alloc (Nat.le_refl _) (.cells #[.slice a A.length cap] 24)).trans (hb.mono (by simp))
  have sw1 : w.heap.size + 1 ≤ w1.heap.size := by have := hb.size; simpa using this
  have cw1_0_0 : w1.cell? ⟨w.heap.size, 0, none⟩ = some (.slice a A.length cap) := (hb.cell (p := ⟨w.heap.size, 0, none⟩) (by simp)).trans (by go_simp)
  have bw1 := bw.trans (nw1.mono bw.size)
  have lw1_0 : w.heap.size < w1.heap.size := by omega
  clear bw nw1 hb
  go_wp2_with fail
  refine (toRange_any _ A _ ((hA.below bw1).mono bw1.size) hl).mono ?_
  rintro e w2 ⟨g2, rfl, q2, z2, hb⟩
  have rw2_x : SB A w1.heap.size w2.heap.size (.slice (some ⟨g2, 0, none⟩) A.length A.length) w2 := blk_sb q2 (by exact z2)
  have nw2 : Below w1.heap.size w1 w2 := hb
  have sw2 : w1.heap.size ≤ w2.heap.size := hb.size
  have cw2_0_0 := (nw2.cell (p := ⟨w.heap.size, 0, none⟩) (by show w.heap.size < w1.heap.size; omega)).trans cw1_0_0
  have bw2 := bw1.trans (nw2.mono bw1.size)
  clear lw1_0
  have lw2_0 : w.heap.size < w2.heap.size := by omega
  clear cw1_0_0 bw1 nw2 hb
  clear q2 z2
  go_wp2_with fail
  refine (KS.out _ _ rw2_x.at).mono ?_
  rintro e w3 ⟨u3, rfl, q3, hb⟩
  obtain ⟨a3, k3, rfl, _⟩ := id q3
  have rw3_w : SB R w2.heap.size w3.heap.size (.slice a3 R.length k3) w3 := (q3.mono (by exact Nat.le_refl _)).sb
  have nw3 : Below w2.heap.size w2 w3 := hb
  have sw3 : w2.heap.size ≤ w3.heap.size := hb.size
  have cw3_0_0 := (nw3.cell (p := ⟨w.heap.size, 0, none⟩) (by show w.heap.size < w2.heap.size; omega)).trans cw2_0_0
  have rw3_x := rw2_x.below nw3
  have bw3 := bw2.trans (nw3.mono bw2.size)
  clear lw2_0
  have lw3_0 : w.heap.size < w3.heap.size := by omega
  clear cw2_0_0 rw2_x bw2 nw3 hb
  clear q3
  have bp := bw3.alloc bw3.size (.cells #[.slice a3 R.length k3] 29)
  go_wp2_with fail
  refine (toRange_any _ A _ ((hA.below bp).mono bp.size) hl).mono ?_
  rintro e w4 ⟨g4, rfl, q4, z4, hb⟩
  have rw4_x0 : SB A (w3.heap.size + 1) w4.heap.size (.slice (some ⟨g4, 0, none⟩) A.length A.length) w4 := blk_sb q4 (by simp at z4; omega)
  have nw4 : Below w3.heap.size w3 w4 := ((Below.refl w3.heap.size w3).alloc (Nat.le_refl _) (.cells #[.slice a3 R.length k3] 29)).trans (hb.mono (by simp))
  have sw4 : w3.heap.size + 1 ≤ w4.heap.size := by have := hb.size; simpa using this
  have cw4_0_0 := (nw4.cell (p := ⟨w.heap.size, 0, none⟩) (by show w.heap.size < w3.heap.size; omega)).trans cw3_0_0
  have cw4_1_0 : w4.cell? ⟨w3.heap.size, 0, none⟩ = some (.slice a3 R.length k3) := (hb.cell (p := ⟨w3.heap.size, 0, none⟩) (by simp)).trans (by go_simp)
  have rw4_x := rw3_x.below nw4
  have rw4_w := rw3_w.below nw4
  have bw4 := bw3.trans (nw4.mono bw3.size)
  clear lw3_0
  have lw4_0 : w.heap.size < w4.heap.size := by omega
  have lw4_1 : w3.heap.size < w4.heap.size := by omega
  clear cw3_0_0 rw3_x rw3_w bw3 bp nw4 hb
  clear q4 z4
  have rp_x0 := rw4_x0.below ((Below.refl w4.heap.size w4).alloc (Nat.le_refl _) (.cells #[.slice (some ⟨g4, 0, none⟩) A.length A.length] 29))
  go_wp2_with fail
  refine (KI.out _ _ rp_x0.at).mono ?_
  rintro e w5 ⟨u5, rfl, q5, hb⟩
  obtain ⟨a5, k5, rfl, _⟩ := id q5
  have rw5_g : SB R (w4.heap.size + 1) w5.heap.size (.slice a5 R.length k5) w5 := (q5.mono (by simp)).sb
  have nw5 : Below w4.heap.size w4 w5 := ((Below.refl w4.heap.size w4).alloc (Nat.le_refl _) (.cells #[.slice (some ⟨g4, 0, none⟩) A.length A.length] 29)).trans (hb.mono (by simp))
  have sw5 : w4.heap.size + 1 ≤ w5.heap.size := by have := hb.size; simpa using this
  have cw5_0_0 := (nw5.cell (p := ⟨w.heap.size, 0, none⟩) (by show w.heap.size < w4.heap.size; omega)).trans cw4_0_0
  have cw5_1_0 := (nw5.cell (p := ⟨w3.heap.size, 0, none⟩) (by show w3.heap.size < w4.heap.size; omega)).trans cw4_1_0
  have cw5_2_0 : w5.cell? ⟨w4.heap.size, 0, none⟩ = some (.slice (some ⟨g4, 0, none⟩) A.length A.length) := (hb.cell (p := ⟨w4.heap.size, 0, none⟩) (by simp)).trans (by go_simp)
  have rw5_x := rw4_x.below nw5
  have rw5_w := rw4_w.below nw5
  have rw5_x0 := rw4_x0.below nw5
  have bw5 := bw4.trans (nw5.mono bw4.size)
  clear lw4_0 lw4_1
  have lw5_0 : w.heap.size < w5.heap.size := by omega
  have lw5_1 : w3.heap.size < w5.heap.size := by omega
  have lw5_2 : w4.heap.size < w5.heap.size := by omega
  clear cw4_0_0 cw4_1_0 rw4_x rw4_w rw4_x0 bw4 rp_x0 nw5 hb
  clear q5
  have rp_g := rw5_g.below ((Below.refl w5.heap.size w5).alloc (Nat.le_refl _) (.cells #[.slice a5 R.length k5] 29))
  have rp_w := rw5_w.below ((Below.refl w5.heap.size w5).alloc (Nat.le_refl _) (.cells #[.slice a5 R.length k5] 29))
  go_wp2_with fail
  refine (sameSB hR rp_g rp_w).mono ?_
  rintro e w6 ⟨rfl, hb⟩
  have nw6 : Below w5.heap.size w5 w6 := ((Below.refl w5.heap.size w5).alloc (Nat.le_refl _) (.cells #[.slice a5 R.length k5] 29)).trans (hb.mono (by simp))
  have sw6 : w5.heap.size + 1 ≤ w6.heap.size := by have := hb.size; simpa using this
  have cw6_0_0 := (nw6.cell (p := ⟨w.heap.size, 0, none⟩) (by show w.heap.size < w5.heap.size; omega)).trans cw5_0_0
  have cw6_1_0 := (nw6.cell (p := ⟨w3.heap.size, 0, none⟩) (by show w3.heap.size < w5.heap.size; omega)).trans cw5_1_0
  have cw6_2_0 := (nw6.cell (p := ⟨w4.heap.size, 0, none⟩) (by show w4.heap.size < w5.heap.size; omega)).trans cw5_2_0
  have cw6_3_0 : w6.cell? ⟨w5.heap.size, 0, none⟩ = some (.slice a5 R.length k5) := (hb.cell (p := ⟨w5.heap.size, 0, none⟩) (by simp)).trans (by go_simp)
  have rw6_x := rw5_x.below nw6
  have rw6_w := rw5_w.below nw6
  have rw6_x0 := rw5_x0.below nw6
  have rw6_g := rw5_g.below nw6
  have bw6 := bw5.trans (nw6.mono bw5.size)
  clear lw5_0 lw5_1 lw5_2
  have lw6_0 : w.heap.size < w6.heap.size := by omega
  have lw6_1 : w3.heap.size < w6.heap.size := by omega
  have lw6_2 : w4.heap.size < w6.heap.size := by omega
  have lw6_3 : w5.heap.size < w6.heap.size := by omega
  clear cw5_0_0 cw5_1_0 cw5_2_0 rw5_x rw5_w rw5_x0 rw5_g bw5 rp_g rp_w nw6 hb
  go_upto_region 10 with fail
  go_cut [45] from 14 (fun p wx => p = .bool false ∧ Below w6.heap.size w6 wx)
  case first =>
    go_region_with (first | (go_at_call 14; refine (toRange_any _ A _ ((hA.below bw6.drew).mono bw6.drew.size) hl).mono ?_; rintro e wx ⟨gx, rfl, kx, zx, hbx⟩; have nx : Below w6.heap.size w6 wx := (Below.refl w6.heap.size w6).drew.trans hbx; have cx := (nx.cell (p := ⟨w4.heap.size, 0, none⟩) lw6_2).trans cw6_2_0; have rx := rw6_x0.below nx) | (go_at_call 16; refine (sameSB hl rx (blk_sb kx zx)).mono ?_; rintro e wy ⟨rfl, hby⟩))
    all_goals
      go_wp2_with fail
      go_meet
      case rel => exact ⟨rfl, nx.trans (hby.mono nx.size)⟩
  case rest =>
    rename World => w7
    obtain ⟨rfl, hb⟩ := hcut
    have nw7 : Below w6.heap.size w6 w7 := hb
    have sw7 : w6.heap.size ≤ w7.heap.size := hb.size
    have cw7_0_0 := (nw7.cell (p := ⟨w.heap.size, 0, none⟩) (by show w.heap.size < w6.heap.size; omega)).trans cw6_0_0
    have cw7_1_0 := (nw7.cell (p := ⟨w3.heap.size, 0, none⟩) (by show w3.heap.size < w6.heap.size; omega)).trans cw6_1_0
    have cw7_2_0 := (nw7.cell (p := ⟨w4.heap.size, 0, none⟩) (by show w4.heap.size < w6.heap.size; omega)).trans cw6_2_0
    have cw7_3_0 := (nw7.cell (p := ⟨w5.heap.size, 0, none⟩) (by show w5.heap.size < w6.heap.size; omega)).trans cw6_3_0
    have rw7_x := rw6_x.below nw7
    have rw7_w := rw6_w.below nw7
    have rw7_x0 := rw6_x0.below nw7
    have rw7_g := rw6_g.below nw7
    have bw7 := bw6.trans (nw7.mono bw6.size)
    clear lw6_0 lw6_1 lw6_2 lw6_3
    have lw7_0 : w.heap.size < w7.heap.size := by omega
    have lw7_1 : w3.heap.size < w7.heap.size := by omega
    have lw7_2 : w4.heap.size < w7.heap.size := by omega
    have lw7_3 : w5.heap.size < w7.heap.size := by omega
    clear cw6_0_0 cw6_1_0 cw6_2_0 cw6_3_0 rw6_x rw6_w rw6_x0 rw6_g bw6 nw7 hb
    go_wp2_with fail
    refine (markSB hl rw7_x0 1 (by omega) (by omega)).mono ?_
    rintro e w8 ⟨rfl, rw8_x0, ho⟩
    have sw8 : w7.heap.size ≤ w8.heap.size := ho.size
    have cw8_0_0 := ho.cell cw7_0_0 (by omega)
    have cw8_1_0 := ho.cell cw7_1_0 (by omega)
    have cw8_2_0 := ho.cell cw7_2_0 (by omega)
    have cw8_3_0 := ho.cell cw7_3_0 (by omega)
    have rw8_x := rw7_x.out ho (by omega)
    have rw8_w := rw7_w.out ho (by omega)
    have rw8_g := rw7_g.out ho (by omega)
    have bw8 := ho.below bw7 (by omega) (by omega)
    clear lw7_0 lw7_1 lw7_2 lw7_3
    have lw8_0 : w.heap.size < w8.heap.size := by omega
    have lw8_1 : w3.heap.size < w8.heap.size := by omega
    have lw8_2 : w4.heap.size < w8.heap.size := by omega
    have lw8_3 : w5.heap.size < w8.heap.size := by omega
    clear cw7_0_0 cw7_1_0 cw7_2_0 cw7_3_0 rw7_x rw7_w rw7_x0 rw7_g bw7 ho
    go_wp2_with fail
    refine (sameSB hR rw8_g rw8_w).mono ?_
    rintro e w9 ⟨rfl, hb⟩
    have nw9 : Below w8.heap.size w8 w9 := hb
    have sw9 : w8.heap.size ≤ w9.heap.size := hb.size
    have cw9_0_0 := (nw9.cell (p := ⟨w.heap.size, 0, none⟩) (by show w.heap.size < w8.heap.size; omega)).trans cw8_0_0
    have cw9_1_0 := (nw9.cell (p := ⟨w3.heap.size, 0, none⟩) (by show w3.heap.size < w8.heap.size; omega)).trans cw8_1_0
    have cw9_2_0 := (nw9.cell (p := ⟨w4.heap.size, 0, none⟩) (by show w4.heap.size < w8.heap.size; omega)).trans cw8_2_0
    have cw9_3_0 := (nw9.cell (p := ⟨w5.heap.size, 0, none⟩) (by show w5.heap.size < w8.heap.size; omega)).trans cw8_3_0
    have rw9_x := rw8_x.below nw9
    have rw9_w := rw8_w.below nw9
    have rw9_x0 := rw8_x0.below nw9
    have rw9_g := rw8_g.below nw9
    have bw9 := bw8.trans (nw9.mono bw8.size)
    clear lw8_0 lw8_1 lw8_2 lw8_3
    have lw9_0 : w.heap.size < w9.heap.size := by omega
    have lw9_1 : w3.heap.size < w9.heap.size := by omega
    have lw9_2 : w4.heap.size < w9.heap.size := by omega
    have lw9_3 : w5.heap.size < w9.heap.size := by omega
    clear cw8_0_0 cw8_1_0 cw8_2_0 cw8_3_0 rw8_x rw8_w rw8_x0 rw8_g bw8 nw9 hb
    go_wp2_with fail
    refine (markSB hR rw9_g 1 (by omega) (by omega)).mono ?_
    rintro e w10 ⟨rfl, rw10_g, ho⟩
    have sw10 : w9.heap.size ≤ w10.heap.size := ho.size
    have cw10_0_0 := ho.cell cw9_0_0 (by omega)
    have cw10_1_0 := ho.cell cw9_1_0 (by omega)
    have cw10_2_0 := ho.cell cw9_2_0 (by omega)
    have cw10_3_0 := ho.cell cw9_3_0 (by omega)
    have rw10_x := rw9_x.out ho (by omega)
    have rw10_w := rw9_w.out ho (by omega)
    have rw10_x0 := rw9_x0.out ho (by omega)
    have bw10 := ho.below bw9 (by omega) (by omega)
    clear lw9_0 lw9_1 lw9_2 lw9_3
    have lw10_0 : w.heap.size < w10.heap.size := by omega
    have lw10_1 : w3.heap.size < w10.heap.size := by omega
    have lw10_2 : w4.heap.size < w10.heap.size := by omega
    have lw10_3 : w5.heap.size < w10.heap.size := by omega
    clear cw9_0_0 cw9_1_0 cw9_2_0 cw9_3_0 rw9_x rw9_w rw9_x0 rw9_g bw9 ho
    go_wp2_with fail
    refine (heldSB hR 1 (by omega) (by omega) rw10_g).mono ?_
    rintro e w11 ⟨rfl, hb⟩
    have nw11 : Below w10.heap.size w10 w11 := hb
    have sw11 : w10.heap.size ≤ w11.heap.size := hb.size
    have cw11_0_0 := (nw11.cell (p := ⟨w.heap.size, 0, none⟩) (by show w.heap.size < w10.heap.size; omega)).trans cw10_0_0
    have cw11_1_0 := (nw11.cell (p := ⟨w3.heap.size, 0, none⟩) (by show w3.heap.size < w10.heap.size; omega)).trans cw10_1_0
    have cw11_2_0 := (nw11.cell (p := ⟨w4.heap.size, 0, none⟩) (by show w4.heap.size < w10.heap.size; omega)).trans cw10_2_0
    have cw11_3_0 := (nw11.cell (p := ⟨w5.heap.size, 0, none⟩) (by show w5.heap.size < w10.heap.size; omega)).trans cw10_3_0
    have rw11_x := rw10_x.below nw11
    have rw11_w := rw10_w.below nw11
    have rw11_x0 := rw10_x0.below nw11
    have rw11_g := rw10_g.below nw11
    have bw11 := bw10.trans (nw11.mono bw10.size)
    clear lw10_0 lw10_1 lw10_2 lw10_3
    have lw11_0 : w.heap.size < w11.heap.size := by omega
    have lw11_1 : w3.heap.size < w11.heap.size := by omega
    have lw11_2 : w4.heap.size < w11.heap.size := by omega
    have lw11_3 : w5.heap.size < w11.heap.size := by omega
    clear cw10_0_0 cw10_1_0 cw10_2_0 cw10_3_0 rw10_x rw10_w rw10_x0 rw10_g bw10 nw11 hb
    go_wp2_with fail
    refine (toRange_any _ A _ ((hA.below bw11).mono bw11.size) hl).mono ?_
    rintro e w12 ⟨g12, rfl, q12, z12, hb⟩
    have rw12_y : SB A w11.heap.size w12.heap.size (.slice (some ⟨g12, 0, none⟩) A.length A.length) w12 := blk_sb q12 (by exact z12)
    have nw12 : Below w11.heap.size w11 w12 := hb
    have sw12 : w11.heap.size ≤ w12.heap.size := hb.size
    have cw12_0_0 := (nw12.cell (p := ⟨w.heap.size, 0, none⟩) (by show w.heap.size < w11.heap.size; omega)).trans cw11_0_0
    have cw12_1_0 := (nw12.cell (p := ⟨w3.heap.size, 0, none⟩) (by show w3.heap.size < w11.heap.size; omega)).trans cw11_1_0
    have cw12_2_0 := (nw12.cell (p := ⟨w4.heap.size, 0, none⟩) (by show w4.heap.size < w11.heap.size; omega)).trans cw11_2_0
    have cw12_3_0 := (nw12.cell (p := ⟨w5.heap.size, 0, none⟩) (by show w5.heap.size < w11.heap.size; omega)).trans cw11_3_0
    have rw12_x := rw11_x.below nw12
    have rw12_w := rw11_w.below nw12
    have rw12_x0 := rw11_x0.below nw12
    have rw12_g := rw11_g.below nw12
    have bw12 := bw11.trans (nw12.mono bw11.size)
    clear lw11_0 lw11_1 lw11_2 lw11_3
    have lw12_0 : w.heap.size < w12.heap.size := by omega
    have lw12_1 : w3.heap.size < w12.heap.size := by omega
    have lw12_2 : w4.heap.size < w12.heap.size := by omega
    have lw12_3 : w5.heap.size < w12.heap.size := by omega
    clear cw11_0_0 cw11_1_0 cw11_2_0 cw11_3_0 rw11_x rw11_w rw11_x0 rw11_g bw11 nw12 hb
    clear q12 z12
    go_wp2_with fail
    refine (KI.out _ _ rw12_y.at).mono ?_
    rintro e w13 ⟨u13, rfl, q13, hb⟩
    obtain ⟨a13, k13, rfl, _⟩ := id q13
    have rw13_h : SB R w12.heap.size w13.heap.size (.slice a13 R.length k13) w13 := (q13.mono (by exact Nat.le_refl _)).sb
    have nw13 : Below w12.heap.size w12 w13 := hb
    have sw13 : w12.heap.size ≤ w13.heap.size := hb.size
    have cw13_0_0 := (nw13.cell (p := ⟨w.heap.size, 0, none⟩) (by show w.heap.size < w12.heap.size; omega)).trans cw12_0_0
    have cw13_1_0 := (nw13.cell (p := ⟨w3.heap.size, 0, none⟩) (by show w3.heap.size < w12.heap.size; omega)).trans cw12_1_0
    have cw13_2_0 := (nw13.cell (p := ⟨w4.heap.size, 0, none⟩) (by show w4.heap.size < w12.heap.size; omega)).trans cw12_2_0
    have cw13_3_0 := (nw13.cell (p := ⟨w5.heap.size, 0, none⟩) (by show w5.heap.size < w12.heap.size; omega)).trans cw12_3_0
    have rw13_x := rw12_x.below nw13
    have rw13_w := rw12_w.below nw13
    have rw13_x0 := rw12_x0.below nw13
    have rw13_g := rw12_g.below nw13
    have rw13_y := rw12_y.below nw13
    have bw13 := bw12.trans (nw13.mono bw12.size)
    clear lw12_0 lw12_1 lw12_2 lw12_3
    have lw13_0 : w.heap.size < w13.heap.size := by omega
    have lw13_1 : w3.heap.size < w13.heap.size := by omega
    have lw13_2 : w4.heap.size < w13.heap.size := by omega
    have lw13_3 : w5.heap.size < w13.heap.size := by omega
    clear cw12_0_0 cw12_1_0 cw12_2_0 cw12_3_0 rw12_x rw12_w rw12_x0 rw12_g rw12_y bw12 nw13 hb
    clear q13
    have rp_h := rw13_h.below ((Below.refl w13.heap.size w13).alloc (Nat.le_refl _) (.cells #[.slice a13 R.length k13] 29))
    have rp_w := rw13_w.below ((Below.refl w13.heap.size w13).alloc (Nat.le_refl _) (.cells #[.slice a13 R.length k13] 29))
    go_wp2_with fail
    refine (sameSB hR rp_h rp_w).mono ?_
    rintro e w14 ⟨rfl, hb⟩
    have nw14 : Below w13.heap.size w13 w14 := ((Below.refl w13.heap.size w13).alloc (Nat.le_refl _) (.cells #[.slice a13 R.length k13] 29)).trans (hb.mono (by simp))
    have sw14 : w13.heap.size + 1 ≤ w14.heap.size := by have := hb.size; simpa using this
    have cw14_0_0 := (nw14.cell (p := ⟨w.heap.size, 0, none⟩) (by show w.heap.size < w13.heap.size; omega)).trans cw13_0_0
    have cw14_1_0 := (nw14.cell (p := ⟨w3.heap.size, 0, none⟩) (by show w3.heap.size < w13.heap.size; omega)).trans cw13_1_0
    have cw14_2_0 := (nw14.cell (p := ⟨w4.heap.size, 0, none⟩) (by show w4.heap.size < w13.heap.size; omega)).trans cw13_2_0
    have cw14_3_0 := (nw14.cell (p := ⟨w5.heap.size, 0, none⟩) (by show w5.heap.size < w13.heap.size; omega)).trans cw13_3_0
    have cw14_4_0 : w14.cell? ⟨w13.heap.size, 0, none⟩ = some (.slice a13 R.length k13) := (hb.cell (p := ⟨w13.heap.size, 0, none⟩) (by simp)).trans (by go_simp)
    have rw14_x := rw13_x.below nw14
    have rw14_w := rw13_w.below nw14
    have rw14_x0 := rw13_x0.below nw14
    have rw14_g := rw13_g.below nw14
    have rw14_y := rw13_y.below nw14
    have rw14_h := rw13_h.below nw14
    have bw14 := bw13.trans (nw14.mono bw13.size)
    clear lw13_0 lw13_1 lw13_2 lw13_3
    have lw14_0 : w.heap.size < w14.heap.size := by omega
    have lw14_1 : w3.heap.size < w14.heap.size := by omega
    have lw14_2 : w4.heap.size < w14.heap.size := by omega
    have lw14_3 : w5.heap.size < w14.heap.size := by omega
    have lw14_4 : w13.heap.size < w14.heap.size := by omega
    clear cw13_0_0 cw13_1_0 cw13_2_0 cw13_3_0 rw13_x rw13_w rw13_x0 rw13_g rw13_y rw13_h bw13 rp_h rp_w nw14 hb
    go_wp2_with fail
    refine (heldSB hR 1 (by omega) (by omega) rw14_g).mono ?_
    rintro e w15 ⟨rfl, hb⟩
    have nw15 : Below w14.heap.size w14 w15 := hb
    have sw15 : w14.heap.size ≤ w15.heap.size := hb.size
    have cw15_0_0 := (nw15.cell (p := ⟨w.heap.size, 0, none⟩) (by show w.heap.size < w14.heap.size; omega)).trans cw14_0_0
    have cw15_1_0 := (nw15.cell (p := ⟨w3.heap.size, 0, none⟩) (by show w3.heap.size < w14.heap.size; omega)).trans cw14_1_0
    have cw15_2_0 := (nw15.cell (p := ⟨w4.heap.size, 0, none⟩) (by show w4.heap.size < w14.heap.size; omega)).trans cw14_2_0
    have cw15_3_0 := (nw15.cell (p := ⟨w5.heap.size, 0, none⟩) (by show w5.heap.size < w14.heap.size; omega)).trans cw14_3_0
    have cw15_4_0 := (nw15.cell (p := ⟨w13.heap.size, 0, none⟩) (by show w13.heap.size < w14.heap.size; omega)).trans cw14_4_0
    have rw15_x := rw14_x.below nw15
    have rw15_w := rw14_w.below nw15
    have rw15_x0 := rw14_x0.below nw15
    have rw15_g := rw14_g.below nw15
    have rw15_y := rw14_y.below nw15
    have rw15_h := rw14_h.below nw15
    have bw15 := bw14.trans (nw15.mono bw14.size)
    clear lw14_0 lw14_1 lw14_2 lw14_3 lw14_4
    have lw15_0 : w.heap.size < w15.heap.size := by omega
    have lw15_1 : w3.heap.size < w15.heap.size := by omega
    have lw15_2 : w4.heap.size < w15.heap.size := by omega
    have lw15_3 : w5.heap.size < w15.heap.size := by omega
    have lw15_4 : w13.heap.size < w15.heap.size := by omega
    clear cw14_0_0 cw14_1_0 cw14_2_0 cw14_3_0 cw14_4_0 rw14_x rw14_w rw14_x0 rw14_g rw14_y rw14_h bw14 nw15 hb
    go_wp2_with fail
    go_ret
    exact ⟨rfl, bw15⟩

theorem exactRangeNot_law : LawWalk Try.prog 6 Try.f6 := by
  intro H enc W base args ds ps hval hA
  rw [Try.params6] at hA hval
  obtain ⟨v0, vs0, d0, es0, p0, q0, hargs0, rfl, rfl, h0, r0⟩ := trodAll_cons hA
  obtain ⟨rfl, rfl, rfl⟩ := trodAll_nil r0
  obtain rfl : args = #[v0] := by cases args; simp_all
  obtain ⟨a, cap, L, rfl, hsp, hm⟩ := open_range (hval 0 _ v0 rfl rfl) h0
  by_cases hl : L.length ≤ 1048576
  · exact exactRangeNot_short a cap L W hl hsp
  · exact exactRangeNot_long a cap L W hm (by omega)

theorem exactRangeNot_holds : Rows.FnExactRangeNotSaid :=
  OpenClaim.holds_of_wide 6 Try.f6 rfl rfl rfl rfl rfl rfl rfl ⟨rfl, rfl, rfl, rfl, rfl⟩ rfl rfl rfl rfl rfl (by kernel_rfl) Try.func6 (by kernel_rfl)
    (of_decide_eq_true (by kernel_rfl)) (by unfold Func.isWrapper; rw [if_neg (by decide +kernel)]; exact ⟨rfl, rfl⟩)
    (fun os started H enc _ => law_lifted (s := Rows.fnExactRangeNotSpec) (tb := 4) own started laid (by kernel_rfl) Try.func6 rfl (by kernel_rfl) Try.underlying4 (by kernel_rfl)
      (fun ds h => by rw [Try.params6] at h; match ds, h with | [_], _ => rfl)
      (ChangeSpec.witness6 (enc := enc) (C := Try.checked) false ⟨#[], #[.agg #[.slice none 0 0]], []⟩ 8 (by kernel_rfl) (by kernel_rfl) (by kernel_rfl) (by kernel_rfl))
      exactRangeNot_law)
#print axioms exactRangeNot_holds
end Go.Proofs.Ytlobhikifhbllaa
