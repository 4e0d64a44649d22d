/- At every range and version the law FnExactRangeHas returns true: RangeHas of the program answers as RangeHas of the model and leaves its arguments. No condition. -/
import Derived.Test.YtlobhikifhbllaaHas
import Derived.Test.YtlobhikifhbllaaVexact
import Derived.Test.YtlobhikifhbllaaSpopen
import Derived.Test.YtlobhikifhbllaaSb
import Derived.Deep.RegionWith
import Derived.Deep.CutRange
namespace Go.Proofs.Ytlobhikifhbllaa
open Go.ChangeShapes Go.WideShapes Go.ChangeAt Go.RowKit Go.Joins

set_option maxHeartbeats 1000000 in
theorem exactRangeHas_long (a : Option Addr) (cap : Nat) (A : List (Int × Int)) (p q r z : Int) (w : World) (hm : A.length ≤ maxLen) (hl : 1048576 < A.length) :
    Calls Try.prog 5 #[.agg #[.slice a A.length cap], ver p q r z] w fun e w' => e = .returned (.bool true) ∧ Below w.heap.size w w' := by
  unfold maxLen at hm
  have S := Lib.hid fun V => szRange_any a A.length cap 1048576 V (by omega) (by omega) (by omega)
  rw [if_pos (by omega)] at S
  go_enter Try.func5, Try.ntmps5
  go_wp2_with fail
  refine (S.out _).mono ?_
  rintro e w1 ⟨rfl, hb⟩
  go_wp2_with fail
  go_ret
  exact ⟨rfl, (((Below.refl _ _).alloc (Nat.le_refl _) _).alloc (by simp) _).trans (hb.mono (by simp; omega))⟩

set_option maxRecDepth 100000 in
set_option maxHeartbeats 8000000 in
theorem exactRangeHas_short (a : Option Addr) (cap : Nat) (A : List (Int × Int)) (p q r z : Int) (w : World) (hl : A.length ≤ 1048576) (hA : SpAt w w.heap.size (.slice a A.length cap) A) :
    Calls Try.prog 5 #[.agg #[.slice a A.length cap], ver p q r z] w fun e w' => e = .returned (.bool true) ∧ Below w.heap.size w w' := by
  have S := Lib.hid fun V => szRange_any a A.length cap 1048576 V (by omega) (by omega) (by omega)
  rw [if_neg (by omega)] at S
  have nn : ¬ (1048576 : Int) - (A.length : Int) < 0 := by omega
  have T := Lib.hid fun V => toVersion_any p q r z V
  have TR : Hid (∀ V, Below w.heap.size w V → Calls Try.prog 14 #[.agg #[.slice a A.length cap]] V (RngPost A V)) := Lib.hid fun V hV => toRange_any _ A V ((hA.below hV).mono hV.size) hl
  have KS : Hid (∀ V u, SpAt V V.heap.size u A → Calls Try.prog 21 #[.agg #[u], ver p q r z] V fun e w' => e = .returned (.bool (hasL A p q r z)) ∧ Below V.heap.size V w') := Lib.hid fun V u h => specHas_any u A p q r z V hl h
  have KI : Hid (∀ V u, SpAt V V.heap.size u A → Calls Try.prog 23 #[.agg #[u], ver p q r z] V fun e w' => e = .returned (.bool (hasL A p q r z)) ∧ Below V.heap.size V w') := Lib.hid fun V u h => implHas_any u A p q r z V hl h
  generalize hasL A p q r z = o at *
  go_enter Try.func5, Try.ntmps5
  have bw := Below.refl w.heap.size w
  go_wp2_with fail
  refine (S.out _).mono ?_
  rintro e w1 ⟨rfl, hb⟩
  have bw1 := (((Below.refl w.heap.size w).alloc (Nat.le_refl _) (.cells #[.slice a A.length cap] 24)).alloc (by simp) (.cells #[.int .i64 p, .int .i64 q, .int .i64 r, .int .i64 z] 37)).trans (hb.mono (by simp; omega))
  have sw1 : w.heap.size + 2 ≤ w1.heap.size := by have := hb.size; simp at this; omega
  have cw1_0_0 : w1.cell? ⟨w.heap.size, 0, none⟩ = some (.slice a A.length cap) := (hb.cell (p := ⟨w.heap.size, 0, none⟩) (by simp; omega)).trans (by go_simp)
  have cw1_1_0 : w1.cell? ⟨w.heap.size + 1, 0, none⟩ = some (.int .i64 p) := (hb.cell (p := ⟨w.heap.size + 1, 0, none⟩) (by simp)).trans (by go_simp)
  have cw1_1_1 : w1.cell? ⟨w.heap.size + 1, 1, none⟩ = some (.int .i64 q) := (hb.cell (p := ⟨w.heap.size + 1, 1, none⟩) (by simp)).trans (by go_simp)
  have cw1_1_2 : w1.cell? ⟨w.heap.size + 1, 2, none⟩ = some (.int .i64 r) := (hb.cell (p := ⟨w.heap.size + 1, 2, none⟩) (by simp)).trans (by go_simp)
  have cw1_1_3 : w1.cell? ⟨w.heap.size + 1, 3, none⟩ = some (.int .i64 z) := (hb.cell (p := ⟨w.heap.size + 1, 3, none⟩) (by simp)).trans (by go_simp)
  have lw1_0 : w.heap.size < w1.heap.size := by omega
  have lw1_1 : w.heap.size + 1 < w1.heap.size := by omega
  clear hb bw
  go_upto_region 5 with fail
  go_cut [6] from 9 (fun p wx => p = .bool o ∧ Below w1.heap.size w1 wx)
  case first =>
    go_region_with (first
    | (go_at_call 14; refine (TR.out _ (by first | exact bw1.drew | exact bY)).mono ?_; rintro e wx ⟨gx, rfl, kx, zx, hbx⟩; have nX : Below w1.heap.size w1 wx := (by first | exact (Below.refl w1.heap.size w1).drew.trans hbx | exact nY.trans (hbx.mono nY.size)); have bX := bw1.trans (nX.mono bw1.size); have kx_0_0 := (nX.cell (p := ⟨w.heap.size, 0, none⟩) lw1_0).trans cw1_0_0; have kx_1_0 := (nX.cell (p := ⟨w.heap.size + 1, 0, none⟩) lw1_1).trans cw1_1_0; have kx_1_1 := (nX.cell (p := ⟨w.heap.size + 1, 1, none⟩) lw1_1).trans cw1_1_1; have kx_1_2 := (nX.cell (p := ⟨w.heap.size + 1, 2, none⟩) lw1_1).trans cw1_1_2; have kx_1_3 := (nX.cell (p := ⟨w.heap.size + 1, 3, none⟩) lw1_1).trans cw1_1_3)
    | (go_at_call 22; refine (T.out _).mono ?_; rintro e wy ⟨rfl, hby⟩; have nY : Below w1.heap.size w1 wy := (by first | exact (Below.refl w1.heap.size w1).drew.trans hby | exact nX.trans (hby.mono nX.size)); have bY := bw1.trans (nY.mono bw1.size); have ky_0_0 := (nY.cell (p := ⟨w.heap.size, 0, none⟩) lw1_0).trans cw1_0_0; have ky_1_0 := (nY.cell (p := ⟨w.heap.size + 1, 0, none⟩) lw1_1).trans cw1_1_0; have ky_1_1 := (nY.cell (p := ⟨w.heap.size + 1, 1, none⟩) lw1_1).trans cw1_1_1; have ky_1_2 := (nY.cell (p := ⟨w.heap.size + 1, 2, none⟩) lw1_1).trans cw1_1_2; have ky_1_3 := (nY.cell (p := ⟨w.heap.size + 1, 3, none⟩) lw1_1).trans cw1_1_3)
    | (go_at_call 21; refine (KS.out _ _ (by first | exact kx.at kx.lt | exact (kx.kept (hby.block _ kx.lt)).at (Nat.lt_of_lt_of_le kx.lt hby.size))).mono ?_; rintro e wz ⟨rfl, hbz⟩; have nZ : Below w1.heap.size w1 wz := (by first | exact nX.trans (hbz.mono nX.size) | exact nY.trans (hbz.mono nY.size))))
    all_goals
      go_wp2_with fail
      go_meet
      case rel => exact ⟨rfl, nZ⟩
  case rest =>
    rename World => w2
    obtain ⟨rfl, hb⟩ := hcut
    have nw2 : Below w1.heap.size w1 w2 := hb
    have sw2 : w1.heap.size ≤ w2.heap.size := hb.size
    have cw2_0_0 := (nw2.cell (p := ⟨w.heap.size, 0, none⟩) (by show w.heap.size < w1.heap.size; omega)).trans cw1_0_0
    have cw2_1_0 := (nw2.cell (p := ⟨w.heap.size + 1, 0, none⟩) (by show w.heap.size + 1 < w1.heap.size; omega)).trans cw1_1_0
    have cw2_1_1 := (nw2.cell (p := ⟨w.heap.size + 1, 1, none⟩) (by show w.heap.size + 1 < w1.heap.size; omega)).trans cw1_1_1
    have cw2_1_2 := (nw2.cell (p := ⟨w.heap.size + 1, 2, none⟩) (by show w.heap.size + 1 < w1.heap.size; omega)).trans cw1_1_2
    have cw2_1_3 := (nw2.cell (p := ⟨w.heap.size + 1, 3, none⟩) (by show w.heap.size + 1 < w1.heap.size; omega)).trans cw1_1_3
    have bw2 := bw1.trans (nw2.mono bw1.size)
    clear lw1_0 lw1_1
    have lw2_0 : w.heap.size < w2.heap.size := by omega
    have lw2_1 : w.heap.size + 1 < w2.heap.size := by omega
    clear cw1_0_0 cw1_1_0 cw1_1_1 cw1_1_2 cw1_1_3 bw1 nw2 hb
    go_wp2_with fail
    refine (toRange_any _ A _ ((hA.below bw2).mono bw2.size) hl).mono ?_
    rintro e w3 ⟨g3, rfl, q3, z3, hb⟩
    have rw3_x0 : SB A w2.heap.size w3.heap.size (.slice (some ⟨g3, 0, none⟩) A.length A.length) w3 := blk_sb q3 (by exact z3)
    have nw3 : Below w2.heap.size w2 w3 := hb
    have sw3 : w2.heap.size ≤ w3.heap.size := hb.size
    have cw3_0_0 := (nw3.cell (p := ⟨w.heap.size, 0, none⟩) (by show w.heap.size < w2.heap.size; omega)).trans cw2_0_0
    have cw3_1_0 := (nw3.cell (p := ⟨w.heap.size + 1, 0, none⟩) (by show w.heap.size + 1 < w2.heap.size; omega)).trans cw2_1_0
    have cw3_1_1 := (nw3.cell (p := ⟨w.heap.size + 1, 1, none⟩) (by show w.heap.size + 1 < w2.heap.size; omega)).trans cw2_1_1
    have cw3_1_2 := (nw3.cell (p := ⟨w.heap.size + 1, 2, none⟩) (by show w.heap.size + 1 < w2.heap.size; omega)).trans cw2_1_2
    have cw3_1_3 := (nw3.cell (p := ⟨w.heap.size + 1, 3, none⟩) (by show w.heap.size + 1 < w2.heap.size; omega)).trans cw2_1_3
    have bw3 := bw2.trans (nw3.mono bw2.size)
    clear lw2_0 lw2_1
    have lw3_0 : w.heap.size < w3.heap.size := by omega
    have lw3_1 : w.heap.size + 1 < w3.heap.size := by omega
    clear cw2_0_0 cw2_1_0 cw2_1_1 cw2_1_2 cw2_1_3 bw2 nw3 hb
    clear q3 z3
    go_upto_region 7 with fail
    have rp := rw3_x0.below ((Below.refl w3.heap.size w3).alloc (Nat.le_refl _) (.cells #[.slice (some ⟨g3, 0, none⟩) A.length A.length] 29))
    go_cut [8] from 9 (fun p wx => p = .bool o ∧ Below (w3.alloc (.cells #[.slice (some ⟨g3, 0, none⟩) A.length A.length] 29)).heap.size (w3.alloc (.cells #[.slice (some ⟨g3, 0, none⟩) A.length A.length] 29)) wx)
    case first =>
      go_region_with (first
    | (go_at_call 22; refine (T.out _).mono ?_; rintro e wy ⟨rfl, hby⟩; have nY : Below (w3.alloc (.cells #[.slice (some ⟨g3, 0, none⟩) A.length A.length] 29)).heap.size (w3.alloc (.cells #[.slice (some ⟨g3, 0, none⟩) A.length A.length] 29)) wy := (Below.refl _ _).drew.trans hby; have cy : wy.cell? ⟨w3.heap.size, 0, none⟩ = some (.slice (some ⟨g3, 0, none⟩) A.length A.length) := (nY.cell (p := ⟨w3.heap.size, 0, none⟩) (by simp)).trans (by go_simp); have ry := rp.below nY)
    | (go_at_call 23; refine (KI.out _ _ ry.at).mono ?_; rintro e wz ⟨rfl, hbz⟩))
      all_goals
        go_wp2_with fail
        go_meet
        case rel => exact ⟨rfl, nY.trans (hbz.mono nY.size)⟩
    case rest =>
      rename World => w4
      clear rp
      obtain ⟨rfl, hb⟩ := hcut
      have nw4 : Below w3.heap.size w3 w4 := ((Below.refl w3.heap.size w3).alloc (Nat.le_refl _) (.cells #[.slice (some ⟨g3, 0, none⟩) A.length A.length] 29)).trans (hb.mono (by simp))
      have sw4 : w3.heap.size + 1 ≤ w4.heap.size := by have := hb.size; simpa using this
      have cw4_0_0 := (nw4.cell (p := ⟨w.heap.size, 0, none⟩) (by show w.heap.size < w3.heap.size; omega)).trans cw3_0_0
      have cw4_1_0 := (nw4.cell (p := ⟨w.heap.size + 1, 0, none⟩) (by show w.heap.size + 1 < w3.heap.size; omega)).trans cw3_1_0
      have cw4_1_1 := (nw4.cell (p := ⟨w.heap.size + 1, 1, none⟩) (by show w.heap.size + 1 < w3.heap.size; omega)).trans cw3_1_1
      have cw4_1_2 := (nw4.cell (p := ⟨w.heap.size + 1, 2, none⟩) (by show w.heap.size + 1 < w3.heap.size; omega)).trans cw3_1_2
      have cw4_1_3 := (nw4.cell (p := ⟨w.heap.size + 1, 3, none⟩) (by show w.heap.size + 1 < w3.heap.size; omega)).trans cw3_1_3
      have cw4_2_0 : w4.cell? ⟨w3.heap.size, 0, none⟩ = some (.slice (some ⟨g3, 0, none⟩) A.length A.length) := (hb.cell (p := ⟨w3.heap.size, 0, none⟩) (by simp)).trans (by go_simp)
      have rw4_x0 := rw3_x0.below nw4
      have bw4 := bw3.trans (nw4.mono bw3.size)
      clear lw3_0 lw3_1
      have lw4_0 : w.heap.size < w4.heap.size := by omega
      have lw4_1 : w.heap.size + 1 < w4.heap.size := by omega
      have lw4_2 : w3.heap.size < w4.heap.size := by omega
      clear cw3_0_0 cw3_1_0 cw3_1_1 cw3_1_2 cw3_1_3 rw3_x0 bw3 nw4 hb
      go_upto_region 10 with fail
      go_cut [32] from 9 (fun p wx => p = .bool false ∧ Below w4.heap.size w4 wx)
      case first =>
        go_region_with (first | (go_at_call 14; refine (toRange_any _ A _ ((hA.below bw4.drew).mono bw4.drew.size) hl).mono ?_; rintro e wx ⟨gx, rfl, kx, zx, hbx⟩; have nx : Below w4.heap.size w4 wx := (Below.refl w4.heap.size w4).drew.trans hbx; have cx := (nx.cell (p := ⟨w3.heap.size, 0, none⟩) lw4_2).trans cw4_2_0; have rx := rw4_x0.below nx) | (go_at_call 16; refine (sameSB hl rx (blk_sb kx zx)).mono ?_; rintro e wy ⟨rfl, hby⟩))
        all_goals
          go_wp2_with fail
          go_meet
          case rel => exact ⟨rfl, nx.trans (hby.mono nx.size)⟩
      case rest =>
        rename World => w5
        obtain ⟨rfl, hb⟩ := hcut
        have nw5 : Below w4.heap.size w4 w5 := hb
        have sw5 : w4.heap.size ≤ w5.heap.size := hb.size
        have cw5_0_0 := (nw5.cell (p := ⟨w.heap.size, 0, none⟩) (by show w.heap.size < w4.heap.size; omega)).trans cw4_0_0
        have cw5_1_0 := (nw5.cell (p := ⟨w.heap.size + 1, 0, none⟩) (by show w.heap.size + 1 < w4.heap.size; omega)).trans cw4_1_0
        have cw5_1_1 := (nw5.cell (p := ⟨w.heap.size + 1, 1, none⟩) (by show w.heap.size + 1 < w4.heap.size; omega)).trans cw4_1_1
        have cw5_1_2 := (nw5.cell (p := ⟨w.heap.size + 1, 2, none⟩) (by show w.heap.size + 1 < w4.heap.size; omega)).trans cw4_1_2
        have cw5_1_3 := (nw5.cell (p := ⟨w.heap.size + 1, 3, none⟩) (by show w.heap.size + 1 < w4.heap.size; omega)).trans cw4_1_3
        have cw5_2_0 := (nw5.cell (p := ⟨w3.heap.size, 0, none⟩) (by show w3.heap.size < w4.heap.size; omega)).trans cw4_2_0
        have rw5_x0 := rw4_x0.below nw5
        have bw5 := bw4.trans (nw5.mono bw4.size)
        clear lw4_0 lw4_1 lw4_2
        have lw5_0 : w.heap.size < w5.heap.size := by omega
        have lw5_1 : w.heap.size + 1 < w5.heap.size := by omega
        have lw5_2 : w3.heap.size < w5.heap.size := by omega
        clear cw4_0_0 cw4_1_0 cw4_1_1 cw4_1_2 cw4_1_3 cw4_2_0 rw4_x0 bw4 nw5 hb
        go_wp2_with fail
        go_ret
        exact ⟨rfl, bw5⟩

theorem exactRangeHas_law : LawWalk Try.prog 5 Try.f5 := by
  intro H enc W base args ds ps hval hA
  rw [Try.params5] at hA hval
  obtain ⟨v0, vs0, d0, es0, p0, q0, hargs0, rfl, rfl, h0, r0⟩ := trodAll_cons hA
  obtain ⟨v1, vs1, d1, es1, p1, q1, hargs1, rfl, rfl, h1, r1⟩ := trodAll_cons r0
  obtain ⟨rfl, rfl, rfl⟩ := trodAll_nil r1
  obtain rfl : args = #[v0, v1] := by cases args; simp_all
  obtain ⟨a, cap, L, rfl, hsp, hm⟩ := open_range (hval 0 _ v0 rfl rfl) h0
  obtain ⟨p, q, r, z, rfl⟩ := open_ver (hval 1 _ v1 rfl rfl) h1
  by_cases hl : L.length ≤ 1048576
  · exact exactRangeHas_short a cap L p q r z W hl hsp
  · exact exactRangeHas_long a cap L p q r z W hm (by omega)

theorem exactRangeHas_holds : Rows.FnExactRangeHasSaid :=
  OpenClaim.holds_of_wide 5 Try.f5 rfl rfl rfl rfl rfl rfl rfl ⟨rfl, rfl, rfl, rfl, rfl⟩ rfl rfl rfl rfl rfl (by kernel_rfl) Try.func5 (by kernel_rfl)
    (of_decide_eq_true (by kernel_rfl)) (by unfold Func.isWrapper; rw [if_neg (by decide +kernel)]; exact ⟨rfl, rfl⟩)
    (fun os started H enc _ => law_lifted (s := Rows.fnExactRangeHasSpec) (tb := 4) own started laid (by kernel_rfl) Try.func5 rfl (by kernel_rfl) Try.underlying4 (by kernel_rfl)
      (fun ds h => by rw [Try.params5] at h; match ds, h with | [_, _], _ => rfl)
      (ChangeSpec.witness6 (enc := enc) (C := Try.checked) false ⟨#[], #[.agg #[.slice none 0 0], .agg #[.int .i64 0, .int .i64 0, .int .i64 0, .int .i64 0]], []⟩ 8 (by kernel_rfl) (by kernel_rfl) (by kernel_rfl) (by kernel_rfl))
      exactRangeHas_law)
#print axioms exactRangeHas_holds
end Go.Proofs.Ytlobhikifhbllaa
