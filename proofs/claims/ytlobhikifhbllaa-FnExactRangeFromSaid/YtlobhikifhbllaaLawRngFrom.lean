/- At every version the law FnExactRangeFrom returns true: RangeFrom of the program answers as RangeFrom of the model, in memory of its own. No condition. -/
import Derived.Test.YtlobhikifhbllaaVexact
import Derived.Test.YtlobhikifhbllaaImfrom
import Derived.Test.YtlobhikifhbllaaSpopen
import Derived.Test.YtlobhikifhbllaaSb
import Derived.Deep.RegionWith
import Derived.Deep.CutRange
namespace Go.Proofs.Ytlobhikifhbllaa
open Go.ChangeShapes Go.WideShapes Go.ChangeAt Go.RowKit Go.Joins

set_option maxHeartbeats 4000000 in
theorem exactRangeFrom_walk (a b c d : Int) (w : World) : Calls Try.prog 9 #[ver a b c d] w fun e w' => e = .returned (.bool true) ∧ Below w.heap.size w w' := by
  obtain ⟨L, hL⟩ : ∃ L, fromL a b c d = L := ⟨_, rfl⟩
  have hl : L.length ≤ 1048576 := by rw [← hL]; unfold fromL; split <;> simp
  have T := Lib.hid fun V => toVersion_any a b c d V
  have KS : Hid (∀ V, Calls Try.prog 30 #[ver a b c d] V (RP L V)) := Lib.hid fun V => by rw [← hL]; exact specFrom_any a b c d V
  have KI : Hid (∀ V, Calls Try.prog 31 #[ver a b c d] V (RP L V)) := Lib.hid fun V => by rw [← hL]; exact implFrom_any a b c d V
  clear hL
  go_enter Try.func9, Try.ntmps9
  have bw := Below.refl w.heap.size w
  go_wp2_with fail
  refine (T.out _).mono ?_
  rintro e w1 ⟨rfl, hb⟩
  have nw1 : Below w.heap.size w w1 := ((Below.refl w.heap.size w).alloc (Nat.le_refl _) (.cells #[.int .i64 a, .int .i64 b, .int .i64 c, .int .i64 d] 37)).trans (hb.mono (by simp))
  have sw1 : w.heap.size + 1 ≤ w1.heap.size := by have := hb.size; simpa using this
  have cw1_0_0 : w1.cell? ⟨w.heap.size, 0, none⟩ = some (.int .i64 a) := (hb.cell (p := ⟨w.heap.size, 0, none⟩) (by simp)).trans (by go_simp)
  have cw1_0_1 : w1.cell? ⟨w.heap.size, 1, none⟩ = some (.int .i64 b) := (hb.cell (p := ⟨w.heap.size, 1, none⟩) (by simp)).trans (by go_simp)
  have cw1_0_2 : w1.cell? ⟨w.heap.size, 2, none⟩ = some (.int .i64 c) := (hb.cell (p := ⟨w.heap.size, 2, none⟩) (by simp)).trans (by go_simp)
  have cw1_0_3 : w1.cell? ⟨w.heap.size, 3, none⟩ = some (.int .i64 d) := (hb.cell (p := ⟨w.heap.size, 3, none⟩) (by simp)).trans (by go_simp)
  have bw1 := bw.trans (nw1.mono bw.size)
  have lw1_0 : w.heap.size < w1.heap.size := by omega
  clear bw nw1 hb
  go_wp2_with fail
  refine (KS.out _).mono ?_
  rintro e w2 ⟨u2, rfl, q2, hb⟩
  obtain ⟨a2, k2, rfl, _⟩ := id q2
  have rw2_w : SB L w1.heap.size w2.heap.size (.slice a2 L.length k2) w2 := (q2.mono (by exact Nat.le_refl _)).sb
  have nw2 : Below w1.heap.size w1 w2 := hb
  have sw2 : w1.heap.size ≤ w2.heap.size := hb.size
  have cw2_0_0 := (nw2.cell (p := ⟨w.heap.size, 0, none⟩) (by show w.heap.size < w1.heap.size; omega)).trans cw1_0_0
  have cw2_0_1 := (nw2.cell (p := ⟨w.heap.size, 1, none⟩) (by show w.heap.size < w1.heap.size; omega)).trans cw1_0_1
  have cw2_0_2 := (nw2.cell (p := ⟨w.heap.size, 2, none⟩) (by show w.heap.size < w1.heap.size; omega)).trans cw1_0_2
  have cw2_0_3 := (nw2.cell (p := ⟨w.heap.size, 3, none⟩) (by show w.heap.size < w1.heap.size; omega)).trans cw1_0_3
  have bw2 := bw1.trans (nw2.mono bw1.size)
  clear lw1_0
  have lw2_0 : w.heap.size < w2.heap.size := by omega
  clear cw1_0_0 cw1_0_1 cw1_0_2 cw1_0_3 bw1 nw2 hb
  clear q2
  go_wp2_with fail
  refine (T.out _).mono ?_
  rintro e w3 ⟨rfl, hb⟩
  have nw3 : Below w2.heap.size w2 w3 := ((Below.refl w2.heap.size w2).alloc (Nat.le_refl _) (.cells #[.slice a2 L.length k2] 29)).trans (hb.mono (by simp))
  have sw3 : w2.heap.size + 1 ≤ w3.heap.size := by have := hb.size; simpa using this
  have cw3_0_0 := (nw3.cell (p := ⟨w.heap.size, 0, none⟩) (by show w.heap.size < w2.heap.size; omega)).trans cw2_0_0
  have cw3_0_1 := (nw3.cell (p := ⟨w.heap.size, 1, none⟩) (by show w.heap.size < w2.heap.size; omega)).trans cw2_0_1
  have cw3_0_2 := (nw3.cell (p := ⟨w.heap.size, 2, none⟩) (by show w.heap.size < w2.heap.size; omega)).trans cw2_0_2
  have cw3_0_3 := (nw3.cell (p := ⟨w.heap.size, 3, none⟩) (by show w.heap.size < w2.heap.size; omega)).trans cw2_0_3
  have cw3_1_0 : w3.cell? ⟨w2.heap.size, 0, none⟩ = some (.slice a2 L.length k2) := (hb.cell (p := ⟨w2.heap.size, 0, none⟩) (by simp)).trans (by go_simp)
  have rw3_w := rw2_w.below nw3
  have bw3 := bw2.trans (nw3.mono bw2.size)
  clear lw2_0
  have lw3_0 : w.heap.size < w3.heap.size := by omega
  have lw3_1 : w2.heap.size < w3.heap.size := by omega
  clear cw2_0_0 cw2_0_1 cw2_0_2 cw2_0_3 rw2_w bw2 nw3 hb
  go_wp2_with fail
  refine (KI.out _).mono ?_
  rintro e w4 ⟨u4, rfl, q4, hb⟩
  obtain ⟨a4, k4, rfl, _⟩ := id q4
  have rw4_g : SB L w3.heap.size w4.heap.size (.slice a4 L.length k4) w4 := (q4.mono (by exact Nat.le_refl _)).sb
  have nw4 : Below w3.heap.size w3 w4 := hb
  have sw4 : w3.heap.size ≤ w4.heap.size := hb.size
  have cw4_0_0 := (nw4.cell (p := ⟨w.heap.size, 0, none⟩) (by show w.heap.size < w3.heap.size; omega)).trans cw3_0_0
  have cw4_0_1 := (nw4.cell (p := ⟨w.heap.size, 1, none⟩) (by show w.heap.size < w3.heap.size; omega)).trans cw3_0_1
  have cw4_0_2 := (nw4.cell (p := ⟨w.heap.size, 2, none⟩) (by show w.heap.size < w3.heap.size; omega)).trans cw3_0_2
  have cw4_0_3 := (nw4.cell (p := ⟨w.heap.size, 3, none⟩) (by show w.heap.size < w3.heap.size; omega)).trans cw3_0_3
  have cw4_1_0 := (nw4.cell (p := ⟨w2.heap.size, 0, none⟩) (by show w2.heap.size < w3.heap.size; omega)).trans cw3_1_0
  have rw4_w := rw3_w.below nw4
  have bw4 := bw3.trans (nw4.mono bw3.size)
  clear lw3_0 lw3_1
  have lw4_0 : w.heap.size < w4.heap.size := by omega
  have lw4_1 : w2.heap.size < w4.heap.size := by omega
  clear cw3_0_0 cw3_0_1 cw3_0_2 cw3_0_3 cw3_1_0 rw3_w bw3 nw4 hb
  clear q4
  have rp_g := rw4_g.below ((Below.refl w4.heap.size w4).alloc (Nat.le_refl _) (.cells #[.slice a4 L.length k4] 29))
  have rp_w := rw4_w.below ((Below.refl w4.heap.size w4).alloc (Nat.le_refl _) (.cells #[.slice a4 L.length k4] 29))
  go_wp2_with fail
  refine (sameSB hl rp_g rp_w).mono ?_
  rintro e w5 ⟨rfl, hb⟩
  have nw5 : Below w4.heap.size w4 w5 := ((Below.refl w4.heap.size w4).alloc (Nat.le_refl _) (.cells #[.slice a4 L.length k4] 29)).trans (hb.mono (by simp))
  have sw5 : w4.heap.size + 1 ≤ w5.heap.size := by have := hb.size; simpa using this
  have cw5_0_0 := (nw5.cell (p := ⟨w.heap.size, 0, none⟩) (by show w.heap.size < w4.heap.size; omega)).trans cw4_0_0
  have cw5_0_1 := (nw5.cell (p := ⟨w.heap.size, 1, none⟩) (by show w.heap.size < w4.heap.size; omega)).trans cw4_0_1
  have cw5_0_2 := (nw5.cell (p := ⟨w.heap.size, 2, none⟩) (by show w.heap.size < w4.heap.size; omega)).trans cw4_0_2
  have cw5_0_3 := (nw5.cell (p := ⟨w.heap.size, 3, none⟩) (by show w.heap.size < w4.heap.size; omega)).trans cw4_0_3
  have cw5_1_0 := (nw5.cell (p := ⟨w2.heap.size, 0, none⟩) (by show w2.heap.size < w4.heap.size; omega)).trans cw4_1_0
  have cw5_2_0 : w5.cell? ⟨w4.heap.size, 0, none⟩ = some (.slice a4 L.length k4) := (hb.cell (p := ⟨w4.heap.size, 0, none⟩) (by simp)).trans (by go_simp)
  have rw5_w := rw4_w.below nw5
  have rw5_g := rw4_g.below nw5
  have bw5 := bw4.trans (nw5.mono bw4.size)
  clear lw4_0 lw4_1
  have lw5_0 : w.heap.size < w5.heap.size := by omega
  have lw5_1 : w2.heap.size < w5.heap.size := by omega
  have lw5_2 : w4.heap.size < w5.heap.size := by omega
  clear cw4_0_0 cw4_0_1 cw4_0_2 cw4_0_3 cw4_1_0 rw4_w rw4_g bw4 rp_g rp_w nw5 hb
  go_wp2_with fail
  refine (markSB hl rw5_g 1 (by omega) (by omega)).mono ?_
  rintro e w6 ⟨rfl, rw6_g, ho⟩
  have sw6 : w5.heap.size ≤ w6.heap.size := ho.size
  have cw6_0_0 := ho.cell cw5_0_0 (by omega)
  have cw6_0_1 := ho.cell cw5_0_1 (by omega)
  have cw6_0_2 := ho.cell cw5_0_2 (by omega)
  have cw6_0_3 := ho.cell cw5_0_3 (by omega)
  have cw6_1_0 := ho.cell cw5_1_0 (by omega)
  have cw6_2_0 := ho.cell cw5_2_0 (by omega)
  have rw6_w := rw5_w.out ho (by omega)
  have bw6 := ho.below bw5 (by omega) (by omega)
  clear lw5_0 lw5_1 lw5_2
  have lw6_0 : w.heap.size < w6.heap.size := by omega
  have lw6_1 : w2.heap.size < w6.heap.size := by omega
  have lw6_2 : w4.heap.size < w6.heap.size := by omega
  clear cw5_0_0 cw5_0_1 cw5_0_2 cw5_0_3 cw5_1_0 cw5_2_0 rw5_w rw5_g bw5 ho
  go_wp2_with fail
  refine (heldSB hl 1 (by omega) (by omega) rw6_g).mono ?_
  rintro e w7 ⟨rfl, hb⟩
  have nw7 : Below w6.heap.size w6 w7 := hb
  have sw7 : w6.heap.size ≤ w7.heap.size := hb.size
  have cw7_0_0 := (nw7.cell (p := ⟨w.heap.size, 0, none⟩) (by show w.heap.size < w6.heap.size; omega)).trans cw6_0_0
  have cw7_0_1 := (nw7.cell (p := ⟨w.heap.size, 1, none⟩) (by show w.heap.size < w6.heap.size; omega)).trans cw6_0_1
  have cw7_0_2 := (nw7.cell (p := ⟨w.heap.size, 2, none⟩) (by show w.heap.size < w6.heap.size; omega)).trans cw6_0_2
  have cw7_0_3 := (nw7.cell (p := ⟨w.heap.size, 3, none⟩) (by show w.heap.size < w6.heap.size; omega)).trans cw6_0_3
  have cw7_1_0 := (nw7.cell (p := ⟨w2.heap.size, 0, none⟩) (by show w2.heap.size < w6.heap.size; omega)).trans cw6_1_0
  have cw7_2_0 := (nw7.cell (p := ⟨w4.heap.size, 0, none⟩) (by show w4.heap.size < w6.heap.size; omega)).trans cw6_2_0
  have rw7_w := rw6_w.below nw7
  have rw7_g := rw6_g.below nw7
  have bw7 := bw6.trans (nw7.mono bw6.size)
  clear lw6_0 lw6_1 lw6_2
  have lw7_0 : w.heap.size < w7.heap.size := by omega
  have lw7_1 : w2.heap.size < w7.heap.size := by omega
  have lw7_2 : w4.heap.size < w7.heap.size := by omega
  clear cw6_0_0 cw6_0_1 cw6_0_2 cw6_0_3 cw6_1_0 cw6_2_0 rw6_w rw6_g bw6 nw7 hb
  go_wp2_with fail
  refine (T.out _).mono ?_
  rintro e w8 ⟨rfl, hb⟩
  have nw8 : Below w7.heap.size w7 w8 := hb
  have sw8 : w7.heap.size ≤ w8.heap.size := hb.size
  have cw8_0_0 := (nw8.cell (p := ⟨w.heap.size, 0, none⟩) (by show w.heap.size < w7.heap.size; omega)).trans cw7_0_0
  have cw8_0_1 := (nw8.cell (p := ⟨w.heap.size, 1, none⟩) (by show w.heap.size < w7.heap.size; omega)).trans cw7_0_1
  have cw8_0_2 := (nw8.cell (p := ⟨w.heap.size, 2, none⟩) (by show w.heap.size < w7.heap.size; omega)).trans cw7_0_2
  have cw8_0_3 := (nw8.cell (p := ⟨w.heap.size, 3, none⟩) (by show w.heap.size < w7.heap.size; omega)).trans cw7_0_3
  have cw8_1_0 := (nw8.cell (p := ⟨w2.heap.size, 0, none⟩) (by show w2.heap.size < w7.heap.size; omega)).trans cw7_1_0
  have cw8_2_0 := (nw8.cell (p := ⟨w4.heap.size, 0, none⟩) (by show w4.heap.size < w7.heap.size; omega)).trans cw7_2_0
  have rw8_w := rw7_w.below nw8
  have rw8_g := rw7_g.below nw8
  have bw8 := bw7.trans (nw8.mono bw7.size)
  clear lw7_0 lw7_1 lw7_2
  have lw8_0 : w.heap.size < w8.heap.size := by omega
  have lw8_1 : w2.heap.size < w8.heap.size := by omega
  have lw8_2 : w4.heap.size < w8.heap.size := by omega
  clear cw7_0_0 cw7_0_1 cw7_0_2 cw7_0_3 cw7_1_0 cw7_2_0 rw7_w rw7_g bw7 nw8 hb
  go_wp2_with fail
  refine (KI.out _).mono ?_
  rintro e w9 ⟨u9, rfl, q9, hb⟩
  obtain ⟨a9, k9, rfl, _⟩ := id q9
  have rw9_h : SB L w8.heap.size w9.heap.size (.slice a9 L.length k9) w9 := (q9.mono (by exact Nat.le_refl _)).sb
  have nw9 : Below w8.heap.size w8 w9 := hb
  have sw9 : w8.heap.size ≤ w9.heap.size := hb.size
  have cw9_0_0 := (nw9.cell (p := ⟨w.heap.size, 0, none⟩) (by show w.heap.size < w8.heap.size; omega)).trans cw8_0_0
  have cw9_0_1 := (nw9.cell (p := ⟨w.heap.size, 1, none⟩) (by show w.heap.size < w8.heap.size; omega)).trans cw8_0_1
  have cw9_0_2 := (nw9.cell (p := ⟨w.heap.size, 2, none⟩) (by show w.heap.size < w8.heap.size; omega)).trans cw8_0_2
  have cw9_0_3 := (nw9.cell (p := ⟨w.heap.size, 3, none⟩) (by show w.heap.size < w8.heap.size; omega)).trans cw8_0_3
  have cw9_1_0 := (nw9.cell (p := ⟨w2.heap.size, 0, none⟩) (by show w2.heap.size < w8.heap.size; omega)).trans cw8_1_0
  have cw9_2_0 := (nw9.cell (p := ⟨w4.heap.size, 0, none⟩) (by show w4.heap.size < w8.heap.size; omega)).trans cw8_2_0
  have rw9_w := rw8_w.below nw9
  have rw9_g := rw8_g.below nw9
  have bw9 := bw8.trans (nw9.mono bw8.size)
  clear lw8_0 lw8_1 lw8_2
  have lw9_0 : w.heap.size < w9.heap.size := by omega
  have lw9_1 : w2.heap.size < w9.heap.size := by omega
  have lw9_2 : w4.heap.size < w9.heap.size := by omega
  clear cw8_0_0 cw8_0_1 cw8_0_2 cw8_0_3 cw8_1_0 cw8_2_0 rw8_w rw8_g bw8 nw9 hb
  clear q9
  have rp_h := rw9_h.below ((Below.refl w9.heap.size w9).alloc (Nat.le_refl _) (.cells #[.slice a9 L.length k9] 29))
  have rp_w := rw9_w.below ((Below.refl w9.heap.size w9).alloc (Nat.le_refl _) (.cells #[.slice a9 L.length k9] 29))
  go_wp2_with fail
  refine (sameSB hl rp_h rp_w).mono ?_
  rintro e w10 ⟨rfl, hb⟩
  have nw10 : Below w9.heap.size w9 w10 := ((Below.refl w9.heap.size w9).alloc (Nat.le_refl _) (.cells #[.slice a9 L.length k9] 29)).trans (hb.mono (by simp))
  have sw10 : w9.heap.size + 1 ≤ w10.heap.size := by have := hb.size; simpa using this
  have cw10_0_0 := (nw10.cell (p := ⟨w.heap.size, 0, none⟩) (by show w.heap.size < w9.heap.size; omega)).trans cw9_0_0
  have cw10_0_1 := (nw10.cell (p := ⟨w.heap.size, 1, none⟩) (by show w.heap.size < w9.heap.size; omega)).trans cw9_0_1
  have cw10_0_2 := (nw10.cell (p := ⟨w.heap.size, 2, none⟩) (by show w.heap.size < w9.heap.size; omega)).trans cw9_0_2
  have cw10_0_3 := (nw10.cell (p := ⟨w.heap.size, 3, none⟩) (by show w.heap.size < w9.heap.size; omega)).trans cw9_0_3
  have cw10_1_0 := (nw10.cell (p := ⟨w2.heap.size, 0, none⟩) (by show w2.heap.size < w9.heap.size; omega)).trans cw9_1_0
  have cw10_2_0 := (nw10.cell (p := ⟨w4.heap.size, 0, none⟩) (by show w4.heap.size < w9.heap.size; omega)).trans cw9_2_0
  have cw10_3_0 : w10.cell? ⟨w9.heap.size, 0, none⟩ = some (.slice a9 L.length k9) := (hb.cell (p := ⟨w9.heap.size, 0, none⟩) (by simp)).trans (by go_simp)
  have rw10_w := rw9_w.below nw10
  have rw10_g := rw9_g.below nw10
  have rw10_h := rw9_h.below nw10
  have bw10 := bw9.trans (nw10.mono bw9.size)
  clear lw9_0 lw9_1 lw9_2
  have lw10_0 : w.heap.size < w10.heap.size := by omega
  have lw10_1 : w2.heap.size < w10.heap.size := by omega
  have lw10_2 : w4.heap.size < w10.heap.size := by omega
  have lw10_3 : w9.heap.size < w10.heap.size := by omega
  clear cw9_0_0 cw9_0_1 cw9_0_2 cw9_0_3 cw9_1_0 cw9_2_0 rw9_w rw9_g rw9_h bw9 rp_h rp_w nw10 hb
  go_wp2_with fail
  refine (heldSB hl 1 (by omega) (by omega) rw10_g).mono ?_
  rintro e w11 ⟨rfl, hb⟩
  have nw11 : Below w10.heap.size w10 w11 := hb
  have sw11 : w10.heap.size ≤ w11.heap.size := hb.size
  have cw11_0_0 := (nw11.cell (p := ⟨w.heap.size, 0, none⟩) (by show w.heap.size < w10.heap.size; omega)).trans cw10_0_0
  have cw11_0_1 := (nw11.cell (p := ⟨w.heap.size, 1, none⟩) (by show w.heap.size < w10.heap.size; omega)).trans cw10_0_1
  have cw11_0_2 := (nw11.cell (p := ⟨w.heap.size, 2, none⟩) (by show w.heap.size < w10.heap.size; omega)).trans cw10_0_2
  have cw11_0_3 := (nw11.cell (p := ⟨w.heap.size, 3, none⟩) (by show w.heap.size < w10.heap.size; omega)).trans cw10_0_3
  have cw11_1_0 := (nw11.cell (p := ⟨w2.heap.size, 0, none⟩) (by show w2.heap.size < w10.heap.size; omega)).trans cw10_1_0
  have cw11_2_0 := (nw11.cell (p := ⟨w4.heap.size, 0, none⟩) (by show w4.heap.size < w10.heap.size; omega)).trans cw10_2_0
  have cw11_3_0 := (nw11.cell (p := ⟨w9.heap.size, 0, none⟩) (by show w9.heap.size < w10.heap.size; omega)).trans cw10_3_0
  have rw11_w := rw10_w.below nw11
  have rw11_g := rw10_g.below nw11
  have rw11_h := rw10_h.below nw11
  have bw11 := bw10.trans (nw11.mono bw10.size)
  clear lw10_0 lw10_1 lw10_2 lw10_3
  have lw11_0 : w.heap.size < w11.heap.size := by omega
  have lw11_1 : w2.heap.size < w11.heap.size := by omega
  have lw11_2 : w4.heap.size < w11.heap.size := by omega
  have lw11_3 : w9.heap.size < w11.heap.size := by omega
  clear cw10_0_0 cw10_0_1 cw10_0_2 cw10_0_3 cw10_1_0 cw10_2_0 cw10_3_0 rw10_w rw10_g rw10_h bw10 nw11 hb
  go_wp2_with fail
  go_ret
  exact ⟨rfl, bw11⟩

theorem exactRangeFrom_law : LawWalk Try.prog 9 Try.f9 := by
  intro H enc W base args ds ps hval hA
  rw [Try.params9] at hA hval
  obtain ⟨v0, vs0, d0, es0, p0, q0, hargs0, rfl, rfl, h0, r0⟩ := trodAll_cons hA
  obtain ⟨rfl, rfl, rfl⟩ := trodAll_nil r0
  obtain rfl : args = #[v0] := by cases args; simp_all
  obtain ⟨a, b, c, e, rfl⟩ := open_ver (hval 0 _ v0 rfl rfl) h0
  exact exactRangeFrom_walk a b c e W

theorem exactRangeFrom_holds : Rows.FnExactRangeFromSaid :=
  OpenClaim.holds_of_wide 9 Try.f9 rfl rfl rfl rfl rfl rfl rfl ⟨rfl, rfl, rfl, rfl, rfl⟩ rfl rfl rfl rfl rfl (by kernel_rfl) Try.func9 (by kernel_rfl)
    (of_decide_eq_true (by kernel_rfl)) (by unfold Func.isWrapper; rw [if_neg (by decide +kernel)]; exact ⟨rfl, rfl⟩)
    (fun os started H enc _ => law_lifted (s := Rows.fnExactRangeFromSpec) (tb := 4) own started laid (by kernel_rfl) Try.func9 rfl (by kernel_rfl) Try.underlying4 (by kernel_rfl)
      (fun ds h => by rw [Try.params9] at h; match ds, h with | [_], _ => rfl)
      (ChangeSpec.witness6 (enc := enc) (C := Try.checked) false ⟨#[], #[.agg #[.int .i64 0, .int .i64 0, .int .i64 0, .int .i64 0]], []⟩ 8 (by kernel_rfl) (by kernel_rfl) (by kernel_rfl) (by kernel_rfl))
      exactRangeFrom_law)
#print axioms exactRangeFrom_holds
end Go.Proofs.Ytlobhikifhbllaa
