/- The law FnExactRangeAll returns true: RangeAll of the program answers as RangeAll of the model, in memory of its own. No condition. -/
import Derived.Test.YtlobhikifhbllaaImone
import Derived.Test.YtlobhikifhbllaaSpopen
import Derived.Test.YtlobhikifhbllaaSb
import Derived.Deep.RegionWith
import Derived.Deep.CutRange
namespace Go.Proofs.Ytlobhikifhbllaa
open Go.ChangeShapes Go.WideShapes Go.ChangeAt Go.RowKit Go.Joins

set_option maxHeartbeats 4000000 in
theorem exactRangeAll_walk (w : World) : Calls Try.prog 4 #[] w fun e w' => e = .returned (.bool true) ∧ Below w.heap.size w w' := by
  obtain ⟨L, hL⟩ : ∃ L, [((0 : Int), (9999999 : Int))] = L := ⟨_, rfl⟩
  have hl : L.length ≤ 1048576 := by rw [← hL]; simp
  have KS : Hid (∀ V, Calls Try.prog 17 #[] V (RP L V)) := Lib.hid fun V => by rw [← hL]; exact (specAll_any V).mono fun _ _ h => h.rp
  have KI : Hid (∀ V, Calls Try.prog 18 #[] V (RP L V)) := Lib.hid fun V => by rw [← hL]; exact implAll_any V
  clear hL
  go_enter Try.func4, Try.ntmps4
  have bw := Below.refl w.heap.size w
  go_wp2_with fail
  refine (KS.out _).mono ?_
  rintro e w1 ⟨u1, rfl, q1, hb⟩
  obtain ⟨a1, k1, rfl, _⟩ := id q1
  have rw1_w : SB L w.heap.size w1.heap.size (.slice a1 L.length k1) w1 := (q1.mono (by exact Nat.le_refl _)).sb
  have nw1 : Below w.heap.size w w1 := hb
  have sw1 : w.heap.size ≤ w1.heap.size := hb.size
  have bw1 := bw.trans (nw1.mono bw.size)
  clear bw nw1 hb
  clear q1
  go_wp2_with fail
  refine (KI.out _).mono ?_
  rintro e w2 ⟨u2, rfl, q2, hb⟩
  obtain ⟨a2, k2, rfl, _⟩ := id q2
  have rw2_g : SB L (w1.heap.size + 1) w2.heap.size (.slice a2 L.length k2) w2 := (q2.mono (by simp)).sb
  have nw2 : Below w1.heap.size w1 w2 := ((Below.refl w1.heap.size w1).alloc (Nat.le_refl _) (.cells #[.slice a1 L.length k1] 29)).trans (hb.mono (by simp))
  have sw2 : w1.heap.size + 1 ≤ w2.heap.size := by have := hb.size; simpa using this
  have cw2_0_0 : w2.cell? ⟨w1.heap.size, 0, none⟩ = some (.slice a1 L.length k1) := (hb.cell (p := ⟨w1.heap.size, 0, none⟩) (by simp)).trans (by go_simp)
  have rw2_w := rw1_w.below nw2
  have bw2 := bw1.trans (nw2.mono bw1.size)
  have lw2_0 : w1.heap.size < w2.heap.size := by omega
  clear rw1_w bw1 nw2 hb
  clear q2
  have rp_g := rw2_g.below ((Below.refl w2.heap.size w2).alloc (Nat.le_refl _) (.cells #[.slice a2 L.length k2] 29))
  have rp_w := rw2_w.below ((Below.refl w2.heap.size w2).alloc (Nat.le_refl _) (.cells #[.slice a2 L.length k2] 29))
  go_wp2_with fail
  refine (sameSB hl rp_g rp_w).mono ?_
  rintro e w3 ⟨rfl, hb⟩
  have nw3 : Below w2.heap.size w2 w3 := ((Below.refl w2.heap.size w2).alloc (Nat.le_refl _) (.cells #[.slice a2 L.length k2] 29)).trans (hb.mono (by simp))
  have sw3 : w2.heap.size + 1 ≤ w3.heap.size := by have := hb.size; simpa using this
  have cw3_0_0 := (nw3.cell (p := ⟨w1.heap.size, 0, none⟩) (by show w1.heap.size < w2.heap.size; omega)).trans cw2_0_0
  have cw3_1_0 : w3.cell? ⟨w2.heap.size, 0, none⟩ = some (.slice a2 L.length k2) := (hb.cell (p := ⟨w2.heap.size, 0, none⟩) (by simp)).trans (by go_simp)
  have rw3_w := rw2_w.below nw3
  have rw3_g := rw2_g.below nw3
  have bw3 := bw2.trans (nw3.mono bw2.size)
  clear lw2_0
  have lw3_0 : w1.heap.size < w3.heap.size := by omega
  have lw3_1 : w2.heap.size < w3.heap.size := by omega
  clear cw2_0_0 rw2_w rw2_g bw2 rp_g rp_w nw3 hb
  go_wp2_with fail
  refine (markSB hl rw3_g 1 (by omega) (by omega)).mono ?_
  rintro e w4 ⟨rfl, rw4_g, ho⟩
  have sw4 : w3.heap.size ≤ w4.heap.size := ho.size
  have cw4_0_0 := ho.cell cw3_0_0 (by omega)
  have cw4_1_0 := ho.cell cw3_1_0 (by omega)
  have rw4_w := rw3_w.out ho (by omega)
  have bw4 := ho.below bw3 (by omega) (by omega)
  clear lw3_0 lw3_1
  have lw4_0 : w1.heap.size < w4.heap.size := by omega
  have lw4_1 : w2.heap.size < w4.heap.size := by omega
  clear cw3_0_0 cw3_1_0 rw3_w rw3_g bw3 ho
  go_wp2_with fail
  refine (heldSB hl 1 (by omega) (by omega) rw4_g).mono ?_
  rintro e w5 ⟨rfl, hb⟩
  have nw5 : Below w4.heap.size w4 w5 := hb
  have sw5 : w4.heap.size ≤ w5.heap.size := hb.size
  have cw5_0_0 := (nw5.cell (p := ⟨w1.heap.size, 0, none⟩) (by show w1.heap.size < w4.heap.size; omega)).trans cw4_0_0
  have cw5_1_0 := (nw5.cell (p := ⟨w2.heap.size, 0, none⟩) (by show w2.heap.size < w4.heap.size; omega)).trans cw4_1_0
  have rw5_w := rw4_w.below nw5
  have rw5_g := rw4_g.below nw5
  have bw5 := bw4.trans (nw5.mono bw4.size)
  clear lw4_0 lw4_1
  have lw5_0 : w1.heap.size < w5.heap.size := by omega
  have lw5_1 : w2.heap.size < w5.heap.size := by omega
  clear cw4_0_0 cw4_1_0 rw4_w rw4_g bw4 nw5 hb
  go_wp2_with fail
  refine (KI.out _).mono ?_
  rintro e w6 ⟨u6, rfl, q6, hb⟩
  obtain ⟨a6, k6, rfl, _⟩ := id q6
  have rw6_h : SB L w5.heap.size w6.heap.size (.slice a6 L.length k6) w6 := (q6.mono (by exact Nat.le_refl _)).sb
  have nw6 : Below w5.heap.size w5 w6 := hb
  have sw6 : w5.heap.size ≤ w6.heap.size := hb.size
  have cw6_0_0 := (nw6.cell (p := ⟨w1.heap.size, 0, none⟩) (by show w1.heap.size < w5.heap.size; omega)).trans cw5_0_0
  have cw6_1_0 := (nw6.cell (p := ⟨w2.heap.size, 0, none⟩) (by show w2.heap.size < w5.heap.size; omega)).trans cw5_1_0
  have rw6_w := rw5_w.below nw6
  have rw6_g := rw5_g.below nw6
  have bw6 := bw5.trans (nw6.mono bw5.size)
  clear lw5_0 lw5_1
  have lw6_0 : w1.heap.size < w6.heap.size := by omega
  have lw6_1 : w2.heap.size < w6.heap.size := by omega
  clear cw5_0_0 cw5_1_0 rw5_w rw5_g bw5 nw6 hb
  clear q6
  have rp_h := rw6_h.below ((Below.refl w6.heap.size w6).alloc (Nat.le_refl _) (.cells #[.slice a6 L.length k6] 29))
  have rp_w := rw6_w.below ((Below.refl w6.heap.size w6).alloc (Nat.le_refl _) (.cells #[.slice a6 L.length k6] 29))
  go_wp2_with fail
  refine (sameSB hl rp_h rp_w).mono ?_
  rintro e w7 ⟨rfl, hb⟩
  have nw7 : Below w6.heap.size w6 w7 := ((Below.refl w6.heap.size w6).alloc (Nat.le_refl _) (.cells #[.slice a6 L.length k6] 29)).trans (hb.mono (by simp))
  have sw7 : w6.heap.size + 1 ≤ w7.heap.size := by have := hb.size; simpa using this
  have cw7_0_0 := (nw7.cell (p := ⟨w1.heap.size, 0, none⟩) (by show w1.heap.size < w6.heap.size; omega)).trans cw6_0_0
  have cw7_1_0 := (nw7.cell (p := ⟨w2.heap.size, 0, none⟩) (by show w2.heap.size < w6.heap.size; omega)).trans cw6_1_0
  have cw7_2_0 : w7.cell? ⟨w6.heap.size, 0, none⟩ = some (.slice a6 L.length k6) := (hb.cell (p := ⟨w6.heap.size, 0, none⟩) (by simp)).trans (by go_simp)
  have rw7_w := rw6_w.below nw7
  have rw7_g := rw6_g.below nw7
  have rw7_h := rw6_h.below nw7
  have bw7 := bw6.trans (nw7.mono bw6.size)
  clear lw6_0 lw6_1
  have lw7_0 : w1.heap.size < w7.heap.size := by omega
  have lw7_1 : w2.heap.size < w7.heap.size := by omega
  have lw7_2 : w6.heap.size < w7.heap.size := by omega
  clear cw6_0_0 cw6_1_0 rw6_w rw6_g rw6_h bw6 rp_h rp_w nw7 hb
  go_wp2_with fail
  refine (heldSB hl 1 (by omega) (by omega) rw7_g).mono ?_
  rintro e w8 ⟨rfl, hb⟩
  have nw8 : Below w7.heap.size w7 w8 := hb
  have sw8 : w7.heap.size ≤ w8.heap.size := hb.size
  have cw8_0_0 := (nw8.cell (p := ⟨w1.heap.size, 0, none⟩) (by show w1.heap.size < w7.heap.size; omega)).trans cw7_0_0
  have cw8_1_0 := (nw8.cell (p := ⟨w2.heap.size, 0, none⟩) (by show w2.heap.size < w7.heap.size; omega)).trans cw7_1_0
  have cw8_2_0 := (nw8.cell (p := ⟨w6.heap.size, 0, none⟩) (by show w6.heap.size < w7.heap.size; omega)).trans cw7_2_0
  have rw8_w := rw7_w.below nw8
  have rw8_g := rw7_g.below nw8
  have rw8_h := rw7_h.below nw8
  have bw8 := bw7.trans (nw8.mono bw7.size)
  clear lw7_0 lw7_1 lw7_2
  have lw8_0 : w1.heap.size < w8.heap.size := by omega
  have lw8_1 : w2.heap.size < w8.heap.size := by omega
  have lw8_2 : w6.heap.size < w8.heap.size := by omega
  clear cw7_0_0 cw7_1_0 cw7_2_0 rw7_w rw7_g rw7_h bw7 nw8 hb
  go_wp2_with fail
  go_ret
  exact ⟨rfl, bw8⟩

theorem exactRangeAll_law : LawWalk Try.prog 4 Try.f4 := by
  intro H enc W base args ds ps hval hA
  rw [Try.params4] at hA hval
  obtain ⟨hargs0, rfl, rfl⟩ := trodAll_nil hA
  obtain rfl : args = #[] := by cases args; simp_all
  exact exactRangeAll_walk W

theorem exactRangeAll_holds : Rows.FnExactRangeAllSaid :=
  OpenClaim.holds_of_wide 4 Try.f4 rfl rfl rfl rfl rfl rfl rfl ⟨rfl, rfl, rfl, rfl, rfl⟩ rfl rfl rfl rfl rfl (by kernel_rfl) Try.func4 (by kernel_rfl)
    (of_decide_eq_true (by kernel_rfl)) (by unfold Func.isWrapper; rw [if_neg (by decide +kernel)]; exact ⟨rfl, rfl⟩)
    (fun os started H enc _ => law_lifted (s := Rows.fnExactRangeAllSpec) (tb := 4) own started laid (by kernel_rfl) Try.func4 rfl (by kernel_rfl) Try.underlying4 (by kernel_rfl)
      (fun ds h => by rw [Try.params4] at h; match ds, h with | [], _ => rfl)
      (ChangeSpec.witness6 (enc := enc) (C := Try.checked) false ⟨#[], #[], []⟩ 8 (by kernel_rfl) (by kernel_rfl) (by kernel_rfl) (by kernel_rfl))
      exactRangeAll_law)
#print axioms exactRangeAll_holds
end Go.Proofs.Ytlobhikifhbllaa
