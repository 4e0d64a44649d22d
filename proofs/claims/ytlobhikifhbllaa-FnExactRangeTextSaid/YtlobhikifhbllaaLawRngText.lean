/- At every range the law FnExactRangeText returns true: RangeText of the program answers as RangeText of the model and leaves its argument. No condition. -/
import Derived.Test.YtlobhikifhbllaaSptext
import Derived.Test.YtlobhikifhbllaaSpopen
import Derived.Test.YtlobhikifhbllaaSb
import Derived.Deep.RegionWith
import Derived.Deep.CutRange
namespace Go.Proofs.Ytlobhikifhbllaa
open Go.ChangeShapes Go.WideShapes Go.ChangeAt Go.RowKit Go.Joins

set_option maxHeartbeats 1000000 in
theorem exactRangeText_long (a : Option Addr) (cap : Nat) (A : List (Int × Int)) (w : World) (hm : A.length ≤ maxLen) (hl : 1048576 < A.length) :
    Calls Try.prog 11 #[.agg #[.slice a A.length cap]] w fun e w' => e = .returned (.bool true) ∧ Below w.heap.size w w' := by
  unfold maxLen at hm
  have K := Lib.hid fun V => szRange_any a A.length cap 1048576 V (by omega) (by omega) (by omega)
  rw [if_pos (by omega)] at K
  go_enter Try.func11, Try.ntmps11
  go_wp2_with fail
  refine (K.out _).mono ?_
  rintro e w1 ⟨rfl, hb⟩
  go_wp2_with fail
  go_ret
  exact ⟨rfl, ((Below.refl _ _).alloc (Nat.le_refl _) _).trans (hb.mono (by simp))⟩

set_option maxRecDepth 100000 in
set_option maxHeartbeats 8000000 in
theorem exactRangeText_short (a : Option Addr) (cap : Nat) (A : List (Int × Int)) (w : World) (hl : A.length ≤ 1048576) (hA : SpAt w w.heap.size (.slice a A.length cap) A) :
    Calls Try.prog 11 #[.agg #[.slice a A.length cap]] w fun e w' => e = .returned (.bool true) ∧ Below w.heap.size w w' := by
  have S := Lib.hid fun V => szRange_any a A.length cap 1048576 V (by omega) (by omega) (by omega)
  rw [if_neg (by omega)] at S
  have nn : ¬ (1048576 : Int) - (A.length : Int) < 0 := by omega
  have KS : Hid (∀ V u, SpAt V V.heap.size u A → Calls Try.prog 34 #[.agg #[u]] V fun e w' => e = .returned (.string (textR A)) ∧ Below V.heap.size V w') := Lib.hid fun V u h => specRangeText_any u A V hl h
  have KI : Hid (∀ V u, SpAt V V.heap.size u A → Calls Try.prog 35 #[.agg #[u]] V fun e w' => e = .returned (.string (textR A)) ∧ Below V.heap.size V w') := Lib.hid fun V u h => implRangeText_any u A V hl h
  generalize textR A = t at *
  go_enter Try.func11, Try.ntmps11
  have bw := Below.refl w.heap.size w
  go_wp2_with fail
  refine (S.out _).mono ?_
  rintro e w1 ⟨rfl, hb⟩
  have nw1 : Below w.heap.size w w1 := ((Below.refl w.heap.size w).alloc (Nat.le_refl _) (.cells #[.slice a A.length cap] 24)).trans (hb.mono (by simp))
  have sw1 : w.heap.size + 1 ≤ w1.heap.size := by have := hb.size; simpa using this
  have cw1_0_0 : w1.cell? ⟨w.heap.size, 0, none⟩ = some (.slice a A.length cap) := (hb.cell (p := ⟨w.heap.size, 0, none⟩) (by simp)).trans (by go_simp)
  have bw1 := bw.trans (nw1.mono bw.size)
  have lw1_0 : w.heap.size < w1.heap.size := by omega
  clear bw nw1 hb
  go_wp2_with fail
  refine (toRange_any _ A _ ((hA.below bw1).mono bw1.size) hl).mono ?_
  rintro e w2 ⟨g2, rfl, q2, z2, hb⟩
  have rw2_x : SB A w1.heap.size w2.heap.size (.slice (some ⟨g2, 0, none⟩) A.length A.length) w2 := blk_sb q2 (by exact z2)
  have nw2 : Below w1.heap.size w1 w2 := hb
  have sw2 : w1.heap.size ≤ w2.heap.size := hb.size
  have cw2_0_0 := (nw2.cell (p := ⟨w.heap.size, 0, none⟩) (by show w.heap.size < w1.heap.size; omega)).trans cw1_0_0
  have bw2 := bw1.trans (nw2.mono bw1.size)
  clear lw1_0
  have lw2_0 : w.heap.size < w2.heap.size := by omega
  clear cw1_0_0 bw1 nw2 hb
  clear q2 z2
  go_wp2_with fail
  refine (KS.out _ _ rw2_x.at).mono ?_
  rintro e w3 ⟨rfl, hb⟩
  have nw3 : Below w2.heap.size w2 w3 := hb
  have sw3 : w2.heap.size ≤ w3.heap.size := hb.size
  have cw3_0_0 := (nw3.cell (p := ⟨w.heap.size, 0, none⟩) (by show w.heap.size < w2.heap.size; omega)).trans cw2_0_0
  have rw3_x := rw2_x.below nw3
  have bw3 := bw2.trans (nw3.mono bw2.size)
  clear lw2_0
  have lw3_0 : w.heap.size < w3.heap.size := by omega
  clear cw2_0_0 rw2_x bw2 nw3 hb
  go_wp2_with fail
  refine (toRange_any _ A _ ((hA.below bw3).mono bw3.size) hl).mono ?_
  rintro e w4 ⟨g4, rfl, q4, z4, hb⟩
  have rw4_x0 : SB A w3.heap.size w4.heap.size (.slice (some ⟨g4, 0, none⟩) A.length A.length) w4 := blk_sb q4 (by exact z4)
  have nw4 : Below w3.heap.size w3 w4 := hb
  have sw4 : w3.heap.size ≤ w4.heap.size := hb.size
  have cw4_0_0 := (nw4.cell (p := ⟨w.heap.size, 0, none⟩) (by show w.heap.size < w3.heap.size; omega)).trans cw3_0_0
  have rw4_x := rw3_x.below nw4
  have bw4 := bw3.trans (nw4.mono bw3.size)
  clear lw3_0
  have lw4_0 : w.heap.size < w4.heap.size := by omega
  clear cw3_0_0 rw3_x bw3 nw4 hb
  clear q4 z4
  have rp_x0 := rw4_x0.below ((Below.refl w4.heap.size w4).alloc (Nat.le_refl _) (.cells #[.slice (some ⟨g4, 0, none⟩) A.length A.length] 29))
  go_wp2_with fail
  refine (KI.out _ _ rp_x0.at).mono ?_
  rintro e w5 ⟨rfl, hb⟩
  have nw5 : Below w4.heap.size w4 w5 := ((Below.refl w4.heap.size w4).alloc (Nat.le_refl _) (.cells #[.slice (some ⟨g4, 0, none⟩) A.length A.length] 29)).trans (hb.mono (by simp))
  have sw5 : w4.heap.size + 1 ≤ w5.heap.size := by have := hb.size; simpa using this
  have cw5_0_0 := (nw5.cell (p := ⟨w.heap.size, 0, none⟩) (by show w.heap.size < w4.heap.size; omega)).trans cw4_0_0
  have cw5_1_0 : w5.cell? ⟨w4.heap.size, 0, none⟩ = some (.slice (some ⟨g4, 0, none⟩) A.length A.length) := (hb.cell (p := ⟨w4.heap.size, 0, none⟩) (by simp)).trans (by go_simp)
  have rw5_x := rw4_x.below nw5
  have rw5_x0 := rw4_x0.below nw5
  have bw5 := bw4.trans (nw5.mono bw4.size)
  clear lw4_0
  have lw5_0 : w.heap.size < w5.heap.size := by omega
  have lw5_1 : w4.heap.size < w5.heap.size := by omega
  clear cw4_0_0 rw4_x rw4_x0 bw4 rp_x0 nw5 hb
  go_upto_region 10 with fail
  go_cut [26] from 7 (fun p wx => p = .bool false ∧ Below w5.heap.size w5 wx)
  case first =>
    go_region_with (first | (go_at_call 14; refine (toRange_any _ A _ ((hA.below bw5.drew).mono bw5.drew.size) hl).mono ?_; rintro e wx ⟨gx, rfl, kx, zx, hbx⟩; have nx : Below w5.heap.size w5 wx := (Below.refl w5.heap.size w5).drew.trans hbx; have cx := (nx.cell (p := ⟨w4.heap.size, 0, none⟩) lw5_1).trans cw5_1_0; have rx := rw5_x0.below nx) | (go_at_call 16; refine (sameSB hl rx (blk_sb kx zx)).mono ?_; rintro e wy ⟨rfl, hby⟩))
    all_goals
      go_wp2_with fail
      go_meet
      case rel => exact ⟨rfl, nx.trans (hby.mono nx.size)⟩
  case rest =>
    rename World => w6
    obtain ⟨rfl, hb⟩ := hcut
    have nw6 : Below w5.heap.size w5 w6 := hb
    have sw6 : w5.heap.size ≤ w6.heap.size := hb.size
    have cw6_0_0 := (nw6.cell (p := ⟨w.heap.size, 0, none⟩) (by show w.heap.size < w5.heap.size; omega)).trans cw5_0_0
    have cw6_1_0 := (nw6.cell (p := ⟨w4.heap.size, 0, none⟩) (by show w4.heap.size < w5.heap.size; omega)).trans cw5_1_0
    have rw6_x := rw5_x.below nw6
    have rw6_x0 := rw5_x0.below nw6
    have bw6 := bw5.trans (nw6.mono bw5.size)
    clear lw5_0 lw5_1
    have lw6_0 : w.heap.size < w6.heap.size := by omega
    have lw6_1 : w4.heap.size < w6.heap.size := by omega
    clear cw5_0_0 cw5_1_0 rw5_x rw5_x0 bw5 nw6 hb
    go_wp2_with fail
    go_ret
    exact ⟨rfl, bw6⟩

theorem exactRangeText_law : LawWalk Try.prog 11 Try.f11 := by
  intro H enc W base args ds ps hval hA
  rw [Try.params11] at hA hval
  obtain ⟨v0, vs0, d0, es0, p0, q0, hargs0, rfl, rfl, h0, r0⟩ := trodAll_cons hA
  obtain ⟨rfl, rfl, rfl⟩ := trodAll_nil r0
  obtain rfl : args = #[v0] := by cases args; simp_all
  obtain ⟨a, cap, L, rfl, hsp, hm⟩ := open_range (hval 0 _ v0 rfl rfl) h0
  by_cases hl : L.length ≤ 1048576
  · exact exactRangeText_short a cap L W hl hsp
  · exact exactRangeText_long a cap L W hm (by omega)

theorem exactRangeText_holds : Rows.FnExactRangeTextSaid :=
  OpenClaim.holds_of_wide 11 Try.f11 rfl rfl rfl rfl rfl rfl rfl ⟨rfl, rfl, rfl, rfl, rfl⟩ rfl rfl rfl rfl rfl (by kernel_rfl) Try.func11 (by kernel_rfl)
    (of_decide_eq_true (by kernel_rfl)) (by unfold Func.isWrapper; rw [if_neg (by decide +kernel)]; exact ⟨rfl, rfl⟩)
    (fun os started H enc _ => law_lifted (s := Rows.fnExactRangeTextSpec) (tb := 4) own started laid (by kernel_rfl) Try.func11 rfl (by kernel_rfl) Try.underlying4 (by kernel_rfl)
      (fun ds h => by rw [Try.params11] at h; match ds, h with | [_], _ => rfl)
      (ChangeSpec.witness6 (enc := enc) (C := Try.checked) false ⟨#[], #[.agg #[.slice none 0 0]], []⟩ 8 (by kernel_rfl) (by kernel_rfl) (by kernel_rfl) (by kernel_rfl))
      exactRangeText_law)
#print axioms exactRangeText_holds
end Go.Proofs.Ytlobhikifhbllaa
