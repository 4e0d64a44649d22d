/- At every two ranges the law FnExactRangeOr returns true: RangeOr of the program answers as RangeOr of the model, in memory of its own, and leaves its arguments. No condition. -/
import Derived.Test.YtflmljgmmcdniaaSpor
import Derived.Test.YtflmljgmmcdniaaImor2
import Derived.Test.YtflmljgmmcdniaaSpopen
import Derived.Test.YtflmljgmmcdniaaStp
import Derived.Deep.RegionWith
import Derived.Deep.RegionHeld3
import Derived.Deep.CutRange
namespace Go.Proofs.Ytflmljgmmcdniaa
open Go.ChangeShapes Go.WideShapes Go.ChangeAt Go.RowKit Go.Joins

set_option maxHeartbeats 1000000 in
theorem exactRangeOr_long (a a' : Option Addr) (cap cap' : Nat) (A B : List (Int × Int)) (w : World) (hm : A.length ≤ maxLen) (hl : 1048576 < A.length) :
    Calls Try.prog 4 #[.agg #[.slice a A.length cap], .agg #[.slice a' B.length cap']] w fun e w' => e = .returned (.bool true) ∧ Below w.heap.size w w' := by
  unfold maxLen at hm
  have S := Lib.hid fun V => szRange_any a A.length cap 1048576 V (by omega) (by omega) (by omega)
  rw [if_pos (by omega)] at S
  go_enter Try.func4, Try.ntmps4
  go_wp2_with fail
  refine (S.out _).mono ?_
  rintro e w1 ⟨rfl, hb⟩
  go_wp2_with fail
  go_ret
  exact ⟨rfl, (((Below.refl _ _).alloc (Nat.le_refl _) _).alloc (by simp) _).trans (hb.mono (by simp; omega))⟩

set_option maxHeartbeats 1000000 in
theorem exactRangeOr_long2 (a a' : Option Addr) (cap cap' : Nat) (A B : List (Int × Int)) (w : World) (hm : B.length ≤ maxLen) (hl : A.length ≤ 1048576) (hl2 : (1048576 : Int) - A.length < B.length) :
    Calls Try.prog 4 #[.agg #[.slice a A.length cap], .agg #[.slice a' B.length cap']] w fun e w' => e = .returned (.bool true) ∧ Below w.heap.size w w' := by
  unfold maxLen at hm
  have S := Lib.hid fun V => szRange_any a A.length cap 1048576 V (by omega) (by omega) (by omega)
  have S2 := Lib.hid fun V => szRange_any a' B.length cap' (1048576 - (A.length : Int)) V (by omega) (by omega) (by omega)
  rw [if_neg (by omega)] at S
  rw [if_pos (by omega)] at S2
  have nn : ¬ (1048576 : Int) - (A.length : Int) < 0 := by omega
  have b0 := ((Below.refl w.heap.size w).alloc (Nat.le_refl _) (.cells #[.slice a A.length cap] 24)).alloc (by simp) (.cells #[.slice a' B.length cap'] 24)
  go_enter Try.func4, Try.ntmps4
  go_wp2_with fail
  refine (S.out _).mono ?_
  rintro e w1 ⟨rfl, hb⟩
  have c1 : w1.cell? ⟨w.heap.size + 1, 0, none⟩ = some (.slice a' B.length cap') := (hb.cell (p := ⟨w.heap.size + 1, 0, none⟩) (by simp)).trans (by go_simp)
  have b1 := b0.trans (hb.mono (by simp; omega))
  go_wp2_with fail
  refine (S2.out _).mono ?_
  rintro e w2 ⟨rfl, hb2⟩
  go_wp2_with fail
  go_ret
  exact ⟨rfl, b1.trans (hb2.mono b1.size)⟩

set_option maxRecDepth 100000 in
set_option maxHeartbeats 16000000 in
theorem exactRangeOr_short (a a' : Option Addr) (cap cap' : Nat) (A B : List (Int × Int)) (w : World) (hl : A.length ≤ 1048576) (hl2 : ¬ (1048576 : Int) - A.length < B.length) (hA : SpAt w w.heap.size (.slice a A.length cap) A) (hB : SpAt w w.heap.size (.slice a' B.length cap') B) :
    Calls Try.prog 4 #[.agg #[.slice a A.length cap], .agg #[.slice a' B.length cap']] w fun e w' => e = .returned (.bool true) ∧ Below w.heap.size w w' := by
  have hm : B.length ≤ 1048576 := by omega
  have S := Lib.hid fun V => szRange_any a A.length cap 1048576 V (by omega) (by omega) (by omega)
  have S2 := Lib.hid fun V => szRange_any a' B.length cap' (1048576 - (A.length : Int)) V (by omega) (by omega) (by omega)
  rw [if_neg (by omega)] at S
  rw [if_neg (by omega)] at S2
  have nn : ¬ (1048576 : Int) - (A.length : Int) < 0 := by omega
  have nn2 : ¬ (1048576 : Int) - (A.length : Int) - (B.length : Int) < 0 := by omega
  have TA : Hid (∀ V, Below w.heap.size w V → Calls Try.prog 16 #[.agg #[.slice a A.length cap]] V (RngPost A V)) := Lib.hid fun V hV => toRange_any _ A V ((hA.below hV).mono hV.size) hl
  have TB : Hid (∀ V, Below w.heap.size w V → Calls Try.prog 16 #[.agg #[.slice a' B.length cap']] V (RngPost B V)) := Lib.hid fun V hV => toRange_any _ B V ((hB.below hV).mono hV.size) hm
  have KS : Hid (∀ V u v, SpAt V V.heap.size u A → SpAt V V.heap.size v B → Calls Try.prog 21 #[.agg #[u], .agg #[v]] V (TPost (orOk A B) (orR A B) V)) := Lib.hid fun V u v h h' => specOr_any u v A B V hl hm h h'
  have KI : Hid (∀ V u v, SpAt V V.heap.size u A → SpAt V V.heap.size v B → Calls Try.prog 22 #[.agg #[u], .agg #[v]] V (TPost (orOk A B) (orR A B) V)) := Lib.hid fun V u v h h' => implOr_any u v A B V hl hm h h'
  have hR : (orR A B).length ≤ 1048576 := by
    unfold orR fitR
    split
    · split
      · omega
      · simp
    · simp
  generalize orOk A B = o at *
  generalize orR A B = R at *
  go_enter Try.func4, Try.ntmps4
  have bw := Below.refl w.heap.size w
  go_wp2_with fail
  refine (S.out _).mono ?_
  rintro e w1 ⟨rfl, hb⟩
  have bw1 := (((Below.refl w.heap.size w).alloc (Nat.le_refl _) (.cells #[.slice a A.length cap] 24)).alloc (by simp) (.cells #[.slice a' B.length cap'] 24)).trans (hb.mono (by simp; omega))
  have sw1 : w.heap.size + 2 ≤ w1.heap.size := by have := hb.size; simp at this; omega
  have cw1_0_0 : w1.cell? ⟨w.heap.size, 0, none⟩ = some (.slice a A.length cap) := (hb.cell (p := ⟨w.heap.size, 0, none⟩) (by simp; omega)).trans (by go_simp)
  have cw1_1_0 : w1.cell? ⟨w.heap.size + 1, 0, none⟩ = some (.slice a' B.length cap') := (hb.cell (p := ⟨w.heap.size + 1, 0, none⟩) (by simp)).trans (by go_simp)
  have lw1_0 : w.heap.size < w1.heap.size := by omega
  have lw1_1 : w.heap.size + 1 < w1.heap.size := by omega
  clear hb bw
  go_wp2_with fail
  refine (S2.out _).mono ?_
  rintro e w2 ⟨rfl, hb⟩
  have nw2 : Below w1.heap.size w1 w2 := hb
  have sw2 : w1.heap.size ≤ w2.heap.size := hb.size
  have cw2_0_0 := (nw2.cell (p := ⟨w.heap.size, 0, none⟩) (by show w.heap.size < w1.heap.size; omega)).trans cw1_0_0
  have cw2_1_0 := (nw2.cell (p := ⟨w.heap.size + 1, 0, none⟩) (by show w.heap.size + 1 < w1.heap.size; omega)).trans cw1_1_0
  have bw2 := bw1.trans (nw2.mono bw1.size)
  clear lw1_0 lw1_1
  have lw2_0 : w.heap.size < w2.heap.size := by omega
  have lw2_1 : w.heap.size + 1 < w2.heap.size := by omega
  clear cw1_0_0 cw1_1_0 bw1 nw2 hb
  go_upto_region 8 with fail
  go_cut [6, 7] from 17 (fun p q wx => ∃ a g k, p = .pointer (some ⟨g, 0, none⟩) ∧ q = .bool o ∧ w2.heap.size ≤ g ∧ g < wx.heap.size ∧ wx.cell? ⟨g, 0, none⟩ = some (.slice a R.length k) ∧ SB R w2.heap.size wx.heap.size (.slice a R.length k) wx ∧ Below w2.heap.size w2 wx)
  case first =>
    have daw20 : w.heap.size ≠ w2.heap.size := by omega
    have dbw20 : w2.heap.size ≠ w.heap.size := by omega
    have daw21 : w.heap.size + 1 ≠ w2.heap.size := by omega
    have dbw21 : w2.heap.size ≠ w.heap.size + 1 := by omega
    go_region_held3 (fun V => V.cell? ⟨w.heap.size, 0, none⟩ = some (.slice a A.length cap) ∧ V.cell? ⟨w.heap.size + 1, 0, none⟩ = some (.slice a' B.length cap')) (go_keep)
    (first
    | (go_at_call_of 16 (Value.slice a A.length cap); refine (TA.out _ (Below.step2 bw2 (by go_grown))).mono ?_; rintro e wx ⟨gx, rfl, kx, zx, hbx⟩; have nL : Below w2.heap.size w2 wx := Below.step (by go_grown) hbx; have k0wx := (nL.cell (p := ⟨w.heap.size, 0, none⟩) lw2_0).trans cw2_0_0; have k1wx := (nL.cell (p := ⟨w.heap.size + 1, 0, none⟩) lw2_1).trans cw2_1_0; (try (have rB := SB.step rB (by go_grown) hbx)); have rA := blk_sb (base := 0) (cap := A.length) kx (Nat.zero_le _); obtain ⟨hcwx, hfwx⟩ := bcell hbx; have szwx := hbx.size; (try simp at szwx); have slwx := nL.size; have dawx0 : w.heap.size ≠ wx.heap.size := (by omega); have dbwx0 : wx.heap.size ≠ w.heap.size := (by omega); have dawx1 : w.heap.size + 1 ≠ wx.heap.size := (by omega); have dbwx1 : wx.heap.size ≠ w.heap.size + 1 := (by omega); (try (have lzwxw2 : w2.heap.size < wx.heap.size := (by omega))); (try (have lzwxwy : wy.heap.size < wx.heap.size := (by omega))); clear kx zx)
    | (go_at_call_of 16 (Value.slice a' B.length cap'); refine (TB.out _ (Below.step2 bw2 (by go_grown))).mono ?_; rintro e wy ⟨gy, rfl, ky, zy, hby⟩; have nL : Below w2.heap.size w2 wy := Below.step (by go_grown) hby; have k0wy := (nL.cell (p := ⟨w.heap.size, 0, none⟩) lw2_0).trans cw2_0_0; have k1wy := (nL.cell (p := ⟨w.heap.size + 1, 0, none⟩) lw2_1).trans cw2_1_0; (try (have rA := SB.step rA (by go_grown) hby)); have rB := blk_sb (base := 0) (cap := B.length) ky (Nat.zero_le _); obtain ⟨hcwy, hfwy⟩ := bcell hby; have szwy := hby.size; (try simp at szwy); have slwy := nL.size; have dawy0 : w.heap.size ≠ wy.heap.size := (by omega); have dbwy0 : wy.heap.size ≠ w.heap.size := (by omega); have dawy1 : w.heap.size + 1 ≠ wy.heap.size := (by omega); have dbwy1 : wy.heap.size ≠ w.heap.size + 1 := (by omega); (try (have lzwyw2 : w2.heap.size < wy.heap.size := (by omega))); (try (have lzwywx : wx.heap.size < wy.heap.size := (by omega))); clear ky zy)
    | (go_at_call 21; refine (KS.out _ _ _ (SB.stepAt rA (by go_grown)) (SB.stepAt rB (by go_grown))).mono ?_; rintro e wz ⟨uz, rfl, qz, hbz⟩; obtain ⟨az, kz, rfl, _⟩ := id qz; have nL : Below w2.heap.size w2 wz := Below.step (by go_grown) hbz; have k0wz := (nL.cell (p := ⟨w.heap.size, 0, none⟩) lw2_0).trans cw2_0_0; have k1wz := (nL.cell (p := ⟨w.heap.size + 1, 0, none⟩) lw2_1).trans cw2_1_0; obtain ⟨hcwz, hfwz⟩ := bcell hbz; have szwz := hbz.size; (try simp at szwz); have slwz := nL.size; have dawz0 : w.heap.size ≠ wz.heap.size := (by omega); have dbwz0 : wz.heap.size ≠ w.heap.size := (by omega); have dawz1 : w.heap.size + 1 ≠ wz.heap.size := (by omega); have dbwz1 : wz.heap.size ≠ w.heap.size + 1 := (by omega); (try (have lzwzw2 : w2.heap.size < wz.heap.size := (by omega))); (try (have lzwzwx : wx.heap.size < wz.heap.size := (by omega))); (try (have lzwzwy : wy.heap.size < wz.heap.size := (by omega)))))
    all_goals
      go_wp2_with fail
      go_meet
      case rel => exact ⟨az, _, kz, rfl, rfl, (by first | omega | (simp; omega)), (by first | omega | (simp; done) | (simp; omega)), (by go_simp), (by first | (refine qz.after2 ?_ ?_ <;> first | omega | (simp; done) | (simp; omega)) | (refine qz.after ?_ ?_ <;> first | omega | go_grown | (simp; done) | (simp; omega))), (by go_grown)⟩
  case rest =>
    rename World => w3
    obtain ⟨a3, g3, k3, rfl, rfl, hg3, hl3, cg3, rw3_w, hb⟩ := hcut
    have nw3 : Below w2.heap.size w2 w3 := hb
    have sw3 : w2.heap.size ≤ w3.heap.size := hb.size
    have cw3_0_0 := (nw3.cell (p := ⟨w.heap.size, 0, none⟩) (by show w.heap.size < w2.heap.size; omega)).trans cw2_0_0
    have cw3_1_0 := (nw3.cell (p := ⟨w.heap.size + 1, 0, none⟩) (by show w.heap.size + 1 < w2.heap.size; omega)).trans cw2_1_0
    have bw3 := bw2.trans (nw3.mono bw2.size)
    clear lw2_0 lw2_1
    have lw3_0 : w.heap.size < w3.heap.size := by omega
    have lw3_1 : w.heap.size + 1 < w3.heap.size := by omega
    clear cw2_0_0 cw2_1_0 bw2 nw3 hb
    have lw3_2 : g3 < w3.heap.size := by omega
    go_wp2_with fail
    refine (toRange_any _ A _ ((hA.below bw3).mono bw3.size) hl).mono ?_
    rintro e w4 ⟨g4, rfl, q4, z4, hb⟩
    have rw4_x0 : SB A w3.heap.size w4.heap.size (.slice (some ⟨g4, 0, none⟩) A.length A.length) w4 := blk_sb q4 (by exact z4)
    have nw4 : Below w3.heap.size w3 w4 := hb
    have sw4 : w3.heap.size ≤ w4.heap.size := hb.size
    have cw4_0_0 := (nw4.cell (p := ⟨w.heap.size, 0, none⟩) (by show w.heap.size < w3.heap.size; omega)).trans cw3_0_0
    have cw4_1_0 := (nw4.cell (p := ⟨w.heap.size + 1, 0, none⟩) (by show w.heap.size + 1 < w3.heap.size; omega)).trans cw3_1_0
    have cw4_2_0 := (nw4.cell (p := ⟨g3, 0, none⟩) (by show g3 < w3.heap.size; omega)).trans cg3
    have rw4_w := rw3_w.below nw4
    have bw4 := bw3.trans (nw4.mono bw3.size)
    clear lw3_0 lw3_1 lw3_2
    have lw4_0 : w.heap.size < w4.heap.size := by omega
    have lw4_1 : w.heap.size + 1 < w4.heap.size := by omega
    have lw4_2 : g3 < w4.heap.size := by omega
    clear cw3_0_0 cw3_1_0 cg3 rw3_w bw3 nw4 hb
    clear q4 z4
    have bp := bw4.alloc bw4.size (.cells #[.slice (some ⟨g4, 0, none⟩) A.length A.length] 28)
    go_wp2_with fail
    refine (toRange_any _ B _ ((hB.below bp).mono bp.size) hm).mono ?_
    rintro e w5 ⟨g5, rfl, q5, z5, hb⟩
    have rw5_x1 : SB B (w4.heap.size + 1) w5.heap.size (.slice (some ⟨g5, 0, none⟩) B.length B.length) w5 := blk_sb q5 (by simp at z5; omega)
    have nw5 : Below w4.heap.size w4 w5 := ((Below.refl w4.heap.size w4).alloc (Nat.le_refl _) (.cells #[.slice (some ⟨g4, 0, none⟩) A.length A.length] 28)).trans (hb.mono (by simp))
    have sw5 : w4.heap.size + 1 ≤ w5.heap.size := by have := hb.size; simpa using this
    have cw5_0_0 := (nw5.cell (p := ⟨w.heap.size, 0, none⟩) (by show w.heap.size < w4.heap.size; omega)).trans cw4_0_0
    have cw5_1_0 := (nw5.cell (p := ⟨w.heap.size + 1, 0, none⟩) (by show w.heap.size + 1 < w4.heap.size; omega)).trans cw4_1_0
    have cw5_2_0 := (nw5.cell (p := ⟨g3, 0, none⟩) (by show g3 < w4.heap.size; omega)).trans cw4_2_0
    have cw5_3_0 : w5.cell? ⟨w4.heap.size, 0, none⟩ = some (.slice (some ⟨g4, 0, none⟩) A.length A.length) := (hb.cell (p := ⟨w4.heap.size, 0, none⟩) (by simp)).trans (by go_simp)
    have rw5_w := rw4_w.below nw5
    have rw5_x0 := rw4_x0.below nw5
    have bw5 := bw4.trans (nw5.mono bw4.size)
    clear lw4_0 lw4_1 lw4_2
    have lw5_0 : w.heap.size < w5.heap.size := by omega
    have lw5_1 : w.heap.size + 1 < w5.heap.size := by omega
    have lw5_2 : g3 < w5.heap.size := by omega
    have lw5_3 : w4.heap.size < w5.heap.size := by omega
    clear cw4_0_0 cw4_1_0 cw4_2_0 rw4_w rw4_x0 bw4 bp nw5 hb
    clear q5 z5
    have rp_x0 := rw5_x0.below ((Below.refl w5.heap.size w5).alloc (Nat.le_refl _) (.cells #[.slice (some ⟨g5, 0, none⟩) B.length B.length] 28))
    have rp_x1 := rw5_x1.below ((Below.refl w5.heap.size w5).alloc (Nat.le_refl _) (.cells #[.slice (some ⟨g5, 0, none⟩) B.length B.length] 28))
    go_wp2_with fail
    refine (KI.out _ _ _ rp_x0.at rp_x1.at).mono ?_
    rintro e w6 ⟨u6, rfl, q6, hb⟩
    obtain ⟨a6, k6, rfl, _⟩ := id q6
    have rw6_g : SB R (w5.heap.size + 1) w6.heap.size (.slice a6 R.length k6) w6 := (q6.mono (by simp)).sb
    have nw6 : Below w5.heap.size w5 w6 := ((Below.refl w5.heap.size w5).alloc (Nat.le_refl _) (.cells #[.slice (some ⟨g5, 0, none⟩) B.length B.length] 28)).trans (hb.mono (by simp))
    have sw6 : w5.heap.size + 1 ≤ w6.heap.size := by have := hb.size; simpa using this
    have cw6_0_0 := (nw6.cell (p := ⟨w.heap.size, 0, none⟩) (by show w.heap.size < w5.heap.size; omega)).trans cw5_0_0
    have cw6_1_0 := (nw6.cell (p := ⟨w.heap.size + 1, 0, none⟩) (by show w.heap.size + 1 < w5.heap.size; omega)).trans cw5_1_0
    have cw6_2_0 := (nw6.cell (p := ⟨g3, 0, none⟩) (by show g3 < w5.heap.size; omega)).trans cw5_2_0
    have cw6_3_0 := (nw6.cell (p := ⟨w4.heap.size, 0, none⟩) (by show w4.heap.size < w5.heap.size; omega)).trans cw5_3_0
    have cw6_4_0 : w6.cell? ⟨w5.heap.size, 0, none⟩ = some (.slice (some ⟨g5, 0, none⟩) B.length B.length) := (hb.cell (p := ⟨w5.heap.size, 0, none⟩) (by simp)).trans (by go_simp)
    have rw6_w := rw5_w.below nw6
    have rw6_x0 := rw5_x0.below nw6
    have rw6_x1 := rw5_x1.below nw6
    have bw6 := bw5.trans (nw6.mono bw5.size)
    clear lw5_0 lw5_1 lw5_2 lw5_3
    have lw6_0 : w.heap.size < w6.heap.size := by omega
    have lw6_1 : w.heap.size + 1 < w6.heap.size := by omega
    have lw6_2 : g3 < w6.heap.size := by omega
    have lw6_3 : w4.heap.size < w6.heap.size := by omega
    have lw6_4 : w5.heap.size < w6.heap.size := by omega
    clear cw5_0_0 cw5_1_0 cw5_2_0 cw5_3_0 rw5_w rw5_x0 rw5_x1 bw5 rp_x0 rp_x1 nw6 hb
    clear q6
    have rp_g := rw6_g.below ((Below.refl w6.heap.size w6).alloc (Nat.le_refl _) (.cells #[.slice a6 R.length k6] 28))
    have rp_w := rw6_w.below ((Below.refl w6.heap.size w6).alloc (Nat.le_refl _) (.cells #[.slice a6 R.length k6] 28))
    go_wp2_with fail
    refine (sameSB hR rp_g rp_w).mono ?_
    rintro e w7 ⟨rfl, hb⟩
    have nw7 : Below w6.heap.size w6 w7 := ((Below.refl w6.heap.size w6).alloc (Nat.le_refl _) (.cells #[.slice a6 R.length k6] 28)).trans (hb.mono (by simp))
    have sw7 : w6.heap.size + 1 ≤ w7.heap.size := by have := hb.size; simpa using this
    have cw7_0_0 := (nw7.cell (p := ⟨w.heap.size, 0, none⟩) (by show w.heap.size < w6.heap.size; omega)).trans cw6_0_0
    have cw7_1_0 := (nw7.cell (p := ⟨w.heap.size + 1, 0, none⟩) (by show w.heap.size + 1 < w6.heap.size; omega)).trans cw6_1_0
    have cw7_2_0 := (nw7.cell (p := ⟨g3, 0, none⟩) (by show g3 < w6.heap.size; omega)).trans cw6_2_0
    have cw7_3_0 := (nw7.cell (p := ⟨w4.heap.size, 0, none⟩) (by show w4.heap.size < w6.heap.size; omega)).trans cw6_3_0
    have cw7_4_0 := (nw7.cell (p := ⟨w5.heap.size, 0, none⟩) (by show w5.heap.size < w6.heap.size; omega)).trans cw6_4_0
    have cw7_5_0 : w7.cell? ⟨w6.heap.size, 0, none⟩ = some (.slice a6 R.length k6) := (hb.cell (p := ⟨w6.heap.size, 0, none⟩) (by simp)).trans (by go_simp)
    have rw7_w := rw6_w.below nw7
    have rw7_x0 := rw6_x0.below nw7
    have rw7_x1 := rw6_x1.below nw7
    have rw7_g := rw6_g.below nw7
    have bw7 := bw6.trans (nw7.mono bw6.size)
    clear lw6_0 lw6_1 lw6_2 lw6_3 lw6_4
    have lw7_0 : w.heap.size < w7.heap.size := by omega
    have lw7_1 : w.heap.size + 1 < w7.heap.size := by omega
    have lw7_2 : g3 < w7.heap.size := by omega
    have lw7_3 : w4.heap.size < w7.heap.size := by omega
    have lw7_4 : w5.heap.size < w7.heap.size := by omega
    have lw7_5 : w6.heap.size < w7.heap.size := by omega
    clear cw6_0_0 cw6_1_0 cw6_2_0 cw6_3_0 cw6_4_0 rw6_w rw6_x0 rw6_x1 rw6_g bw6 rp_g rp_w nw7 hb
    go_upto_region 14 with fail
    go_cut [58] from 17 (fun p wx => p = .bool false ∧ Below w7.heap.size w7 wx)
    case first =>
      go_region_with (first | (go_at_call 16; refine (toRange_any _ A _ ((hA.below bw7.drew).mono bw7.drew.size) hl).mono ?_; rintro e wx ⟨gx, rfl, kx, zx, hbx⟩; have nx : Below w7.heap.size w7 wx := (Below.refl w7.heap.size w7).drew.trans hbx; have cx := (nx.cell (p := ⟨w4.heap.size, 0, none⟩) lw7_3).trans cw7_3_0; have rx := rw7_x0.below nx) | (go_at_call 18; refine (sameSB hl rx (blk_sb kx zx)).mono ?_; rintro e wy ⟨rfl, hby⟩))
      all_goals
        go_wp2_with fail
        go_meet
        case rel => exact ⟨rfl, nx.trans (hby.mono nx.size)⟩
    case rest =>
      rename World => w8
      obtain ⟨rfl, hb⟩ := hcut
      have nw8 : Below w7.heap.size w7 w8 := hb
      have sw8 : w7.heap.size ≤ w8.heap.size := hb.size
      have cw8_0_0 := (nw8.cell (p := ⟨w.heap.size, 0, none⟩) (by show w.heap.size < w7.heap.size; omega)).trans cw7_0_0
      have cw8_1_0 := (nw8.cell (p := ⟨w.heap.size + 1, 0, none⟩) (by show w.heap.size + 1 < w7.heap.size; omega)).trans cw7_1_0
      have cw8_2_0 := (nw8.cell (p := ⟨g3, 0, none⟩) (by show g3 < w7.heap.size; omega)).trans cw7_2_0
      have cw8_3_0 := (nw8.cell (p := ⟨w4.heap.size, 0, none⟩) (by show w4.heap.size < w7.heap.size; omega)).trans cw7_3_0
      have cw8_4_0 := (nw8.cell (p := ⟨w5.heap.size, 0, none⟩) (by show w5.heap.size < w7.heap.size; omega)).trans cw7_4_0
      have cw8_5_0 := (nw8.cell (p := ⟨w6.heap.size, 0, none⟩) (by show w6.heap.size < w7.heap.size; omega)).trans cw7_5_0
      have rw8_w := rw7_w.below nw8
      have rw8_x0 := rw7_x0.below nw8
      have rw8_x1 := rw7_x1.below nw8
      have rw8_g := rw7_g.below nw8
      have bw8 := bw7.trans (nw8.mono bw7.size)
      clear lw7_0 lw7_1 lw7_2 lw7_3 lw7_4 lw7_5
      have lw8_0 : w.heap.size < w8.heap.size := by omega
      have lw8_1 : w.heap.size + 1 < w8.heap.size := by omega
      have lw8_2 : g3 < w8.heap.size := by omega
      have lw8_3 : w4.heap.size < w8.heap.size := by omega
      have lw8_4 : w5.heap.size < w8.heap.size := by omega
      have lw8_5 : w6.heap.size < w8.heap.size := by omega
      clear cw7_0_0 cw7_1_0 cw7_2_0 cw7_3_0 cw7_4_0 cw7_5_0 rw7_w rw7_x0 rw7_x1 rw7_g bw7 nw8 hb
      go_upto_region 16 with fail
      go_cut [63] from 17 (fun p wx => p = .bool false ∧ Below w8.heap.size w8 wx)
      case first =>
        go_region_with (first | (go_at_call 16; refine (toRange_any _ B _ ((hB.below bw8.drew).mono bw8.drew.size) hm).mono ?_; rintro e wx ⟨gx, rfl, kx, zx, hbx⟩; have nx : Below w8.heap.size w8 wx := (Below.refl w8.heap.size w8).drew.trans hbx; have cx := (nx.cell (p := ⟨w5.heap.size, 0, none⟩) lw8_4).trans cw8_4_0; have rx := rw8_x1.below nx) | (go_at_call 18; refine (sameSB hm rx (blk_sb kx zx)).mono ?_; rintro e wy ⟨rfl, hby⟩))
        all_goals
          go_wp2_with fail
          go_meet
          case rel => exact ⟨rfl, nx.trans (hby.mono nx.size)⟩
      case rest =>
        rename World => w9
        obtain ⟨rfl, hb⟩ := hcut
        have nw9 : Below w8.heap.size w8 w9 := hb
        have sw9 : w8.heap.size ≤ w9.heap.size := hb.size
        have cw9_0_0 := (nw9.cell (p := ⟨w.heap.size, 0, none⟩) (by show w.heap.size < w8.heap.size; omega)).trans cw8_0_0
        have cw9_1_0 := (nw9.cell (p := ⟨w.heap.size + 1, 0, none⟩) (by show w.heap.size + 1 < w8.heap.size; omega)).trans cw8_1_0
        have cw9_2_0 := (nw9.cell (p := ⟨g3, 0, none⟩) (by show g3 < w8.heap.size; omega)).trans cw8_2_0
        have cw9_3_0 := (nw9.cell (p := ⟨w4.heap.size, 0, none⟩) (by show w4.heap.size < w8.heap.size; omega)).trans cw8_3_0
        have cw9_4_0 := (nw9.cell (p := ⟨w5.heap.size, 0, none⟩) (by show w5.heap.size < w8.heap.size; omega)).trans cw8_4_0
        have cw9_5_0 := (nw9.cell (p := ⟨w6.heap.size, 0, none⟩) (by show w6.heap.size < w8.heap.size; omega)).trans cw8_5_0
        have rw9_w := rw8_w.below nw9
        have rw9_x0 := rw8_x0.below nw9
        have rw9_x1 := rw8_x1.below nw9
        have rw9_g := rw8_g.below nw9
        have bw9 := bw8.trans (nw9.mono bw8.size)
        clear lw8_0 lw8_1 lw8_2 lw8_3 lw8_4 lw8_5
        have lw9_0 : w.heap.size < w9.heap.size := by omega
        have lw9_1 : w.heap.size + 1 < w9.heap.size := by omega
        have lw9_2 : g3 < w9.heap.size := by omega
        have lw9_3 : w4.heap.size < w9.heap.size := by omega
        have lw9_4 : w5.heap.size < w9.heap.size := by omega
        have lw9_5 : w6.heap.size < w9.heap.size := by omega
        clear cw8_0_0 cw8_1_0 cw8_2_0 cw8_3_0 cw8_4_0 cw8_5_0 rw8_w rw8_x0 rw8_x1 rw8_g bw8 nw9 hb
        go_wp2_with fail
        refine (markSB hl rw9_x0 1 (by omega) (by omega)).mono ?_
        rintro e w10 ⟨rfl, rw10_x0, ho⟩
        have sw10 : w9.heap.size ≤ w10.heap.size := ho.size
        have cw10_0_0 := ho.cell cw9_0_0 (by omega)
        have cw10_1_0 := ho.cell cw9_1_0 (by omega)
        have cw10_2_0 := ho.cell cw9_2_0 (by omega)
        have cw10_3_0 := ho.cell cw9_3_0 (by omega)
        have cw10_4_0 := ho.cell cw9_4_0 (by omega)
        have cw10_5_0 := ho.cell cw9_5_0 (by omega)
        have rw10_w := rw9_w.out ho (by omega)
        have rw10_x1 := rw9_x1.out ho (by omega)
        have rw10_g := rw9_g.out ho (by omega)
        have bw10 := ho.below bw9 (by omega) (by omega)
        clear lw9_0 lw9_1 lw9_2 lw9_3 lw9_4 lw9_5
        have lw10_0 : w.heap.size < w10.heap.size := by omega
        have lw10_1 : w.heap.size + 1 < w10.heap.size := by omega
        have lw10_2 : g3 < w10.heap.size := by omega
        have lw10_3 : w4.heap.size < w10.heap.size := by omega
        have lw10_4 : w5.heap.size < w10.heap.size := by omega
        have lw10_5 : w6.heap.size < w10.heap.size := by omega
        clear cw9_0_0 cw9_1_0 cw9_2_0 cw9_3_0 cw9_4_0 cw9_5_0 rw9_w rw9_x0 rw9_x1 rw9_g bw9 ho
        go_wp2_with fail
        refine (markSB hm rw10_x1 (1 + 2 * (A.length : Int)) (by omega) (by omega)).mono ?_
        rintro e w11 ⟨rfl, rw11_x1, ho⟩
        have sw11 : w10.heap.size ≤ w11.heap.size := ho.size
        have cw11_0_0 := ho.cell cw10_0_0 (by omega)
        have cw11_1_0 := ho.cell cw10_1_0 (by omega)
        have cw11_2_0 := ho.cell cw10_2_0 (by omega)
        have cw11_3_0 := ho.cell cw10_3_0 (by omega)
        have cw11_4_0 := ho.cell cw10_4_0 (by omega)
        have cw11_5_0 := ho.cell cw10_5_0 (by omega)
        have rw11_w := rw10_w.out ho (by omega)
        have rw11_x0 := rw10_x0.out ho (by omega)
        have rw11_g := rw10_g.out ho (by omega)
        have bw11 := ho.below bw10 (by omega) (by omega)
        clear lw10_0 lw10_1 lw10_2 lw10_3 lw10_4 lw10_5
        have lw11_0 : w.heap.size < w11.heap.size := by omega
        have lw11_1 : w.heap.size + 1 < w11.heap.size := by omega
        have lw11_2 : g3 < w11.heap.size := by omega
        have lw11_3 : w4.heap.size < w11.heap.size := by omega
        have lw11_4 : w5.heap.size < w11.heap.size := by omega
        have lw11_5 : w6.heap.size < w11.heap.size := by omega
        clear cw10_0_0 cw10_1_0 cw10_2_0 cw10_3_0 cw10_4_0 cw10_5_0 rw10_w rw10_x0 rw10_x1 rw10_g bw10 ho
        go_wp2_with fail
        refine (sameSB hR rw11_g rw11_w).mono ?_
        rintro e w12 ⟨rfl, hb⟩
        have nw12 : Below w11.heap.size w11 w12 := hb
        have sw12 : w11.heap.size ≤ w12.heap.size := hb.size
        have cw12_0_0 := (nw12.cell (p := ⟨w.heap.size, 0, none⟩) (by show w.heap.size < w11.heap.size; omega)).trans cw11_0_0
        have cw12_1_0 := (nw12.cell (p := ⟨w.heap.size + 1, 0, none⟩) (by show w.heap.size + 1 < w11.heap.size; omega)).trans cw11_1_0
        have cw12_2_0 := (nw12.cell (p := ⟨g3, 0, none⟩) (by show g3 < w11.heap.size; omega)).trans cw11_2_0
        have cw12_3_0 := (nw12.cell (p := ⟨w4.heap.size, 0, none⟩) (by show w4.heap.size < w11.heap.size; omega)).trans cw11_3_0
        have cw12_4_0 := (nw12.cell (p := ⟨w5.heap.size, 0, none⟩) (by show w5.heap.size < w11.heap.size; omega)).trans cw11_4_0
        have cw12_5_0 := (nw12.cell (p := ⟨w6.heap.size, 0, none⟩) (by show w6.heap.size < w11.heap.size; omega)).trans cw11_5_0
        have rw12_w := rw11_w.below nw12
        have rw12_x0 := rw11_x0.below nw12
        have rw12_x1 := rw11_x1.below nw12
        have rw12_g := rw11_g.below nw12
        have bw12 := bw11.trans (nw12.mono bw11.size)
        clear lw11_0 lw11_1 lw11_2 lw11_3 lw11_4 lw11_5
        have lw12_0 : w.heap.size < w12.heap.size := by omega
        have lw12_1 : w.heap.size + 1 < w12.heap.size := by omega
        have lw12_2 : g3 < w12.heap.size := by omega
        have lw12_3 : w4.heap.size < w12.heap.size := by omega
        have lw12_4 : w5.heap.size < w12.heap.size := by omega
        have lw12_5 : w6.heap.size < w12.heap.size := by omega
        clear cw11_0_0 cw11_1_0 cw11_2_0 cw11_3_0 cw11_4_0 cw11_5_0 rw11_w rw11_x0 rw11_x1 rw11_g bw11 nw12 hb
        go_wp2_with fail
        refine (markSB hR rw12_g 1 (by omega) (by omega)).mono ?_
        rintro e w13 ⟨rfl, rw13_g, ho⟩
        have sw13 : w12.heap.size ≤ w13.heap.size := ho.size
        have cw13_0_0 := ho.cell cw12_0_0 (by omega)
        have cw13_1_0 := ho.cell cw12_1_0 (by omega)
        have cw13_2_0 := ho.cell cw12_2_0 (by omega)
        have cw13_3_0 := ho.cell cw12_3_0 (by omega)
        have cw13_4_0 := ho.cell cw12_4_0 (by omega)
        have cw13_5_0 := ho.cell cw12_5_0 (by omega)
        have rw13_w := rw12_w.out ho (by omega)
        have rw13_x0 := rw12_x0.out ho (by omega)
        have rw13_x1 := rw12_x1.out ho (by omega)
        have bw13 := ho.below bw12 (by omega) (by omega)
        clear lw12_0 lw12_1 lw12_2 lw12_3 lw12_4 lw12_5
        have lw13_0 : w.heap.size < w13.heap.size := by omega
        have lw13_1 : w.heap.size + 1 < w13.heap.size := by omega
        have lw13_2 : g3 < w13.heap.size := by omega
        have lw13_3 : w4.heap.size < w13.heap.size := by omega
        have lw13_4 : w5.heap.size < w13.heap.size := by omega
        have lw13_5 : w6.heap.size < w13.heap.size := by omega
        clear cw12_0_0 cw12_1_0 cw12_2_0 cw12_3_0 cw12_4_0 cw12_5_0 rw12_w rw12_x0 rw12_x1 rw12_g bw12 ho
        go_wp2_with fail
        refine (heldSB hR 1 (by omega) (by omega) rw13_g).mono ?_
        rintro e w14 ⟨rfl, hb⟩
        have nw14 : Below w13.heap.size w13 w14 := hb
        have sw14 : w13.heap.size ≤ w14.heap.size := hb.size
        have cw14_0_0 := (nw14.cell (p := ⟨w.heap.size, 0, none⟩) (by show w.heap.size < w13.heap.size; omega)).trans cw13_0_0
        have cw14_1_0 := (nw14.cell (p := ⟨w.heap.size + 1, 0, none⟩) (by show w.heap.size + 1 < w13.heap.size; omega)).trans cw13_1_0
        have cw14_2_0 := (nw14.cell (p := ⟨g3, 0, none⟩) (by show g3 < w13.heap.size; omega)).trans cw13_2_0
        have cw14_3_0 := (nw14.cell (p := ⟨w4.heap.size, 0, none⟩) (by show w4.heap.size < w13.heap.size; omega)).trans cw13_3_0
        have cw14_4_0 := (nw14.cell (p := ⟨w5.heap.size, 0, none⟩) (by show w5.heap.size < w13.heap.size; omega)).trans cw13_4_0
        have cw14_5_0 := (nw14.cell (p := ⟨w6.heap.size, 0, none⟩) (by show w6.heap.size < w13.heap.size; omega)).trans cw13_5_0
        have rw14_w := rw13_w.below nw14
        have rw14_x0 := rw13_x0.below nw14
        have rw14_x1 := rw13_x1.below nw14
        have rw14_g := rw13_g.below nw14
        have bw14 := bw13.trans (nw14.mono bw13.size)
        clear lw13_0 lw13_1 lw13_2 lw13_3 lw13_4 lw13_5
        have lw14_0 : w.heap.size < w14.heap.size := by omega
        have lw14_1 : w.heap.size + 1 < w14.heap.size := by omega
        have lw14_2 : g3 < w14.heap.size := by omega
        have lw14_3 : w4.heap.size < w14.heap.size := by omega
        have lw14_4 : w5.heap.size < w14.heap.size := by omega
        have lw14_5 : w6.heap.size < w14.heap.size := by omega
        clear cw13_0_0 cw13_1_0 cw13_2_0 cw13_3_0 cw13_4_0 cw13_5_0 rw13_w rw13_x0 rw13_x1 rw13_g bw13 nw14 hb
        go_upto_region 31 with fail
        go_cut [15, 16] from 17 (fun p q wx => ∃ a g k, p = .pointer (some ⟨g, 0, none⟩) ∧ q = .bool o ∧ w14.heap.size ≤ g ∧ g < wx.heap.size ∧ wx.cell? ⟨g, 0, none⟩ = some (.slice a R.length k) ∧ SB R w14.heap.size wx.heap.size (.slice a R.length k) wx ∧ Below w14.heap.size w14 wx)
        case first =>
          have daw140 : w.heap.size ≠ w14.heap.size := by omega
          have dbw140 : w14.heap.size ≠ w.heap.size := by omega
          have daw141 : w.heap.size + 1 ≠ w14.heap.size := by omega
          have dbw141 : w14.heap.size ≠ w.heap.size + 1 := by omega
          go_region_held3 (fun V => V.cell? ⟨w.heap.size, 0, none⟩ = some (.slice a A.length cap) ∧ V.cell? ⟨w.heap.size + 1, 0, none⟩ = some (.slice a' B.length cap')) (go_keep)
    (first
    | (go_at_call_of 16 (Value.slice a A.length cap); refine (TA.out _ (Below.step2 bw14 (by go_grown))).mono ?_; rintro e wx ⟨gx, rfl, kx, zx, hbx⟩; have nL : Below w14.heap.size w14 wx := Below.step (by go_grown) hbx; have k0wx := (nL.cell (p := ⟨w.heap.size, 0, none⟩) lw14_0).trans cw14_0_0; have k1wx := (nL.cell (p := ⟨w.heap.size + 1, 0, none⟩) lw14_1).trans cw14_1_0; (try (have rB := SB.step rB (by go_grown) hbx)); have rA := blk_sb (base := 0) (cap := A.length) kx (Nat.zero_le _); obtain ⟨hcwx, hfwx⟩ := bcell hbx; have szwx := hbx.size; (try simp at szwx); have slwx := nL.size; have dawx0 : w.heap.size ≠ wx.heap.size := (by omega); have dbwx0 : wx.heap.size ≠ w.heap.size := (by omega); have dawx1 : w.heap.size + 1 ≠ wx.heap.size := (by omega); have dbwx1 : wx.heap.size ≠ w.heap.size + 1 := (by omega); (try (have lzwxw14 : w14.heap.size < wx.heap.size := (by omega))); (try (have lzwxwy : wy.heap.size < wx.heap.size := (by omega))); clear kx zx)
    | (go_at_call_of 16 (Value.slice a' B.length cap'); refine (TB.out _ (Below.step2 bw14 (by go_grown))).mono ?_; rintro e wy ⟨gy, rfl, ky, zy, hby⟩; have nL : Below w14.heap.size w14 wy := Below.step (by go_grown) hby; have k0wy := (nL.cell (p := ⟨w.heap.size, 0, none⟩) lw14_0).trans cw14_0_0; have k1wy := (nL.cell (p := ⟨w.heap.size + 1, 0, none⟩) lw14_1).trans cw14_1_0; (try (have rA := SB.step rA (by go_grown) hby)); have rB := blk_sb (base := 0) (cap := B.length) ky (Nat.zero_le _); obtain ⟨hcwy, hfwy⟩ := bcell hby; have szwy := hby.size; (try simp at szwy); have slwy := nL.size; have dawy0 : w.heap.size ≠ wy.heap.size := (by omega); have dbwy0 : wy.heap.size ≠ w.heap.size := (by omega); have dawy1 : w.heap.size + 1 ≠ wy.heap.size := (by omega); have dbwy1 : wy.heap.size ≠ w.heap.size + 1 := (by omega); (try (have lzwyw14 : w14.heap.size < wy.heap.size := (by omega))); (try (have lzwywx : wx.heap.size < wy.heap.size := (by omega))); clear ky zy)
    | (go_at_call 22; refine (KI.out _ _ _ (SB.stepAt rA (by go_grown)) (SB.stepAt rB (by go_grown))).mono ?_; rintro e wz ⟨uz, rfl, qz, hbz⟩; obtain ⟨az, kz, rfl, _⟩ := id qz; have nL : Below w14.heap.size w14 wz := Below.step (by go_grown) hbz; have k0wz := (nL.cell (p := ⟨w.heap.size, 0, none⟩) lw14_0).trans cw14_0_0; have k1wz := (nL.cell (p := ⟨w.heap.size + 1, 0, none⟩) lw14_1).trans cw14_1_0; obtain ⟨hcwz, hfwz⟩ := bcell hbz; have szwz := hbz.size; (try simp at szwz); have slwz := nL.size; have dawz0 : w.heap.size ≠ wz.heap.size := (by omega); have dbwz0 : wz.heap.size ≠ w.heap.size := (by omega); have dawz1 : w.heap.size + 1 ≠ wz.heap.size := (by omega); have dbwz1 : wz.heap.size ≠ w.heap.size + 1 := (by omega); (try (have lzwzw14 : w14.heap.size < wz.heap.size := (by omega))); (try (have lzwzwx : wx.heap.size < wz.heap.size := (by omega))); (try (have lzwzwy : wy.heap.size < wz.heap.size := (by omega)))))
          all_goals
            go_wp2_with fail
            go_meet
            case rel => exact ⟨az, _, kz, rfl, rfl, (by first | omega | (simp; omega)), (by first | omega | (simp; done) | (simp; omega)), (by go_simp), (by first | (refine qz.after2 ?_ ?_ <;> first | omega | (simp; done) | (simp; omega)) | (refine qz.after ?_ ?_ <;> first | omega | go_grown | (simp; done) | (simp; omega))), (by go_grown)⟩
        case rest =>
          rename World => w15
          obtain ⟨a15, g15, k15, rfl, rfl, hg15, hl15, cg15, rw15_h, hb⟩ := hcut
          have nw15 : Below w14.heap.size w14 w15 := hb
          have sw15 : w14.heap.size ≤ w15.heap.size := hb.size
          have cw15_0_0 := (nw15.cell (p := ⟨w.heap.size, 0, none⟩) (by show w.heap.size < w14.heap.size; omega)).trans cw14_0_0
          have cw15_1_0 := (nw15.cell (p := ⟨w.heap.size + 1, 0, none⟩) (by show w.heap.size + 1 < w14.heap.size; omega)).trans cw14_1_0
          have cw15_2_0 := (nw15.cell (p := ⟨g3, 0, none⟩) (by show g3 < w14.heap.size; omega)).trans cw14_2_0
          have cw15_3_0 := (nw15.cell (p := ⟨w4.heap.size, 0, none⟩) (by show w4.heap.size < w14.heap.size; omega)).trans cw14_3_0
          have cw15_4_0 := (nw15.cell (p := ⟨w5.heap.size, 0, none⟩) (by show w5.heap.size < w14.heap.size; omega)).trans cw14_4_0
          have cw15_5_0 := (nw15.cell (p := ⟨w6.heap.size, 0, none⟩) (by show w6.heap.size < w14.heap.size; omega)).trans cw14_5_0
          have rw15_w := rw14_w.below nw15
          have rw15_x0 := rw14_x0.below nw15
          have rw15_x1 := rw14_x1.below nw15
          have rw15_g := rw14_g.below nw15
          have bw15 := bw14.trans (nw15.mono bw14.size)
          clear lw14_0 lw14_1 lw14_2 lw14_3 lw14_4 lw14_5
          have lw15_0 : w.heap.size < w15.heap.size := by omega
          have lw15_1 : w.heap.size + 1 < w15.heap.size := by omega
          have lw15_2 : g3 < w15.heap.size := by omega
          have lw15_3 : w4.heap.size < w15.heap.size := by omega
          have lw15_4 : w5.heap.size < w15.heap.size := by omega
          have lw15_5 : w6.heap.size < w15.heap.size := by omega
          clear cw14_0_0 cw14_1_0 cw14_2_0 cw14_3_0 cw14_4_0 cw14_5_0 rw14_w rw14_x0 rw14_x1 rw14_g bw14 nw15 hb
          have lw15_6 : g15 < w15.heap.size := by omega
          go_wp2_with fail
          refine (sameSB hR rw15_h rw15_w).mono ?_
          rintro e w16 ⟨rfl, hb⟩
          have nw16 : Below w15.heap.size w15 w16 := hb
          have sw16 : w15.heap.size ≤ w16.heap.size := hb.size
          have cw16_0_0 := (nw16.cell (p := ⟨w.heap.size, 0, none⟩) (by show w.heap.size < w15.heap.size; omega)).trans cw15_0_0
          have cw16_1_0 := (nw16.cell (p := ⟨w.heap.size + 1, 0, none⟩) (by show w.heap.size + 1 < w15.heap.size; omega)).trans cw15_1_0
          have cw16_2_0 := (nw16.cell (p := ⟨g3, 0, none⟩) (by show g3 < w15.heap.size; omega)).trans cw15_2_0
          have cw16_3_0 := (nw16.cell (p := ⟨w4.heap.size, 0, none⟩) (by show w4.heap.size < w15.heap.size; omega)).trans cw15_3_0
          have cw16_4_0 := (nw16.cell (p := ⟨w5.heap.size, 0, none⟩) (by show w5.heap.size < w15.heap.size; omega)).trans cw15_4_0
          have cw16_5_0 := (nw16.cell (p := ⟨w6.heap.size, 0, none⟩) (by show w6.heap.size < w15.heap.size; omega)).trans cw15_5_0
          have cw16_6_0 := (nw16.cell (p := ⟨g15, 0, none⟩) (by show g15 < w15.heap.size; omega)).trans cg15
          have rw16_w := rw15_w.below nw16
          have rw16_x0 := rw15_x0.below nw16
          have rw16_x1 := rw15_x1.below nw16
          have rw16_g := rw15_g.below nw16
          have rw16_h := rw15_h.below nw16
          have bw16 := bw15.trans (nw16.mono bw15.size)
          clear lw15_0 lw15_1 lw15_2 lw15_3 lw15_4 lw15_5 lw15_6
          have lw16_0 : w.heap.size < w16.heap.size := by omega
          have lw16_1 : w.heap.size + 1 < w16.heap.size := by omega
          have lw16_2 : g3 < w16.heap.size := by omega
          have lw16_3 : w4.heap.size < w16.heap.size := by omega
          have lw16_4 : w5.heap.size < w16.heap.size := by omega
          have lw16_5 : w6.heap.size < w16.heap.size := by omega
          have lw16_6 : g15 < w16.heap.size := by omega
          clear cw15_0_0 cw15_1_0 cw15_2_0 cw15_3_0 cw15_4_0 cw15_5_0 cg15 rw15_w rw15_x0 rw15_x1 rw15_g rw15_h bw15 nw16 hb
          go_wp2_with fail
          refine (heldSB hR 1 (by omega) (by omega) rw16_g).mono ?_
          rintro e w17 ⟨rfl, hb⟩
          have nw17 : Below w16.heap.size w16 w17 := hb
          have sw17 : w16.heap.size ≤ w17.heap.size := hb.size
          have cw17_0_0 := (nw17.cell (p := ⟨w.heap.size, 0, none⟩) (by show w.heap.size < w16.heap.size; omega)).trans cw16_0_0
          have cw17_1_0 := (nw17.cell (p := ⟨w.heap.size + 1, 0, none⟩) (by show w.heap.size + 1 < w16.heap.size; omega)).trans cw16_1_0
          have cw17_2_0 := (nw17.cell (p := ⟨g3, 0, none⟩) (by show g3 < w16.heap.size; omega)).trans cw16_2_0
          have cw17_3_0 := (nw17.cell (p := ⟨w4.heap.size, 0, none⟩) (by show w4.heap.size < w16.heap.size; omega)).trans cw16_3_0
          have cw17_4_0 := (nw17.cell (p := ⟨w5.heap.size, 0, none⟩) (by show w5.heap.size < w16.heap.size; omega)).trans cw16_4_0
          have cw17_5_0 := (nw17.cell (p := ⟨w6.heap.size, 0, none⟩) (by show w6.heap.size < w16.heap.size; omega)).trans cw16_5_0
          have cw17_6_0 := (nw17.cell (p := ⟨g15, 0, none⟩) (by show g15 < w16.heap.size; omega)).trans cw16_6_0
          have rw17_w := rw16_w.below nw17
          have rw17_x0 := rw16_x0.below nw17
          have rw17_x1 := rw16_x1.below nw17
          have rw17_g := rw16_g.below nw17
          have rw17_h := rw16_h.below nw17
          have bw17 := bw16.trans (nw17.mono bw16.size)
          clear lw16_0 lw16_1 lw16_2 lw16_3 lw16_4 lw16_5 lw16_6
          have lw17_0 : w.heap.size < w17.heap.size := by omega
          have lw17_1 : w.heap.size + 1 < w17.heap.size := by omega
          have lw17_2 : g3 < w17.heap.size := by omega
          have lw17_3 : w4.heap.size < w17.heap.size := by omega
          have lw17_4 : w5.heap.size < w17.heap.size := by omega
          have lw17_5 : w6.heap.size < w17.heap.size := by omega
          have lw17_6 : g15 < w17.heap.size := by omega
          clear cw16_0_0 cw16_1_0 cw16_2_0 cw16_3_0 cw16_4_0 cw16_5_0 cw16_6_0 rw16_w rw16_x0 rw16_x1 rw16_g rw16_h bw16 nw17 hb
          go_wp2_with fail
          go_ret
          exact ⟨rfl, bw17⟩

theorem exactRangeOr_law : LawWalk Try.prog 4 Try.f4 := by
  intro H enc W base args ds ps hval hA
  rw [Try.params4] at hA hval
  obtain ⟨v0, vs0, d0, es0, p0, q0, hargs0, rfl, rfl, h0, r0⟩ := trodAll_cons hA
  obtain ⟨v1, vs1, d1, es1, p1, q1, hargs1, rfl, rfl, h1, r1⟩ := trodAll_cons r0
  obtain ⟨rfl, rfl, rfl⟩ := trodAll_nil r1
  obtain rfl : args = #[v0, v1] := by cases args; simp_all
  obtain ⟨a, cap, L, rfl, hsp, hm⟩ := open_range (hval 0 _ v0 rfl rfl) h0
  obtain ⟨a', cap', M, rfl, hsp', hm'⟩ := open_range (hval 1 _ v1 rfl rfl) h1
  by_cases hl : L.length ≤ 1048576
  · by_cases hl2 : (1048576 : Int) - L.length < M.length
    · exact exactRangeOr_long2 a a' cap cap' L M W hm' hl hl2
    · exact exactRangeOr_short a a' cap cap' L M W hl hl2 hsp hsp'
  · exact exactRangeOr_long a a' cap cap' L M W hm (by omega)

theorem exactRangeOr_holds : Rows.FnExactRangeOrSaid :=
  OpenClaim.holds_of_wide 4 Try.f4 rfl rfl rfl rfl rfl rfl rfl ⟨rfl, rfl, rfl, rfl, rfl⟩ rfl rfl rfl rfl rfl (by kernel_rfl) Try.func4 (by kernel_rfl)
    (of_decide_eq_true (by kernel_rfl)) (by unfold Func.isWrapper; rw [if_neg (by decide +kernel)]; exact ⟨rfl, rfl⟩)
    (fun os started H enc _ => law_lifted (s := Rows.fnExactRangeOrSpec) (tb := 4) own started laid (by kernel_rfl) Try.func4 rfl (by kernel_rfl) Try.underlying4 (by kernel_rfl)
      (fun ds h => by rw [Try.params4] at h; match ds, h with | [_, _], _ => rfl)
      (ChangeSpec.witness6 (enc := enc) (C := Try.checked) false ⟨#[], #[.agg #[.slice none 0 0], .agg #[.slice none 0 0]], []⟩ 8 (by kernel_rfl) (by kernel_rfl) (by kernel_rfl) (by kernel_rfl))
      exactRangeOr_law)
#print axioms exactRangeOr_holds
end Go.Proofs.Ytflmljgmmcdniaa
