/- At every argument the law FnExactShelfGone returns true: ShelfGone of the program answers as ShelfGone of the model, leaves its arguments, and its answer owns its memory. No condition. -/
import Derived.Test.YtigkfhgmnenplaaGc
import Derived.Test.YtigkfhgmnenplaaGh
import Derived.Test.YtigkfhgmnenplaaMarkr
import Derived.Test.YtigkfhgmnenplaaMkh
import Derived.Test.YtigkfhgmnenplaaGa
import Derived.Deep.RegionHeld3
namespace Go.Proofs.Ytigkfhgmnenplaa
open Go.ChangeShapes Go.WideShapes Go.ChangeAt Go.RowKit Go.Joins Go.Sort

namespace Lsg
open Foot Copy
def goneG (S : List Rel) (i : Int) : List Rel := if 0 ≤ i then goneL S i.toNat else []
theorem rlSz_set : ∀ (S : List Rel) (i : Nat) (x y : Rel), S[i]? = some x → y.2.2.2 = x.2.2.2 → rlSz (S.set i y) = rlSz S
  | [], i, x, y, h, _ => by simp at h
  | q :: t, 0, x, y, h, e => by
    obtain rfl : q = x := by simpa using h
    simp only [List.set_cons_zero, rlSz]
    rw [e]
  | q :: t, i + 1, x, y, h, e => by
    simp only [List.set_cons_succ, rlSz]
    rw [rlSz_set t i x y (by simpa using h) e]
theorem goneG_len (S : List Rel) (i : Int) : (goneG S i).length ≤ S.length := by
  unfold goneG goneL
  split
  · split <;> simp
  · simp
theorem goneG_sz (S : List Rel) (i : Int) : rlSz (goneG S i) ≤ rlSz S := by
  unfold goneG goneL
  split
  · split
    · rename_i x hx
      exact Nat.le_of_eq (rlSz_set S _ x _ hx rfl)
    · exact Nat.le_refl _
  · simp [rlSz]
theorem gone_post {S : List Rel} {i : Int} {w w' : World} {e : Ending} (h : GonePost S i w e w') : SbPost (goneG S i) (decide (0 ≤ i)) w e w' := by
  obtain ⟨v, fs, rfl, h1, h2⟩ := h
  exact ⟨v, rfl, .of h1, h2⟩
set_option maxRecDepth 100000 in
set_option maxHeartbeats 1000000 in
theorem long (v : Value) (S : List Rel) (n p q r s : Int) (w : World) (hm : S.length ≤ maxLen) (hq : ∀ q ∈ S, q.2.2.2.length ≤ maxLen ∧ ∀ p ∈ q.2.2.2, p.2.length ≤ maxLen) (h : RlAt w w.heap.size v S) (hl : 1048576 < S.length + rlSz S) :
    Calls Try.prog 4 #[v, .int .i64 n, ver p q r s] w fun e w' => e = .returned (.bool true) ∧ Below w.heap.size w w' := by
  have K : Hid (∀ V, RlAt V V.heap.size v S → Calls Try.prog 15 #[v, .int .i64 1048576] V fun e w' => e = .returned (.int .i64 (-1)) ∧ Below V.heap.size V w') := Lib.hid fun V g => by
    have := szReleaseS_any v S 1048576 V (by omega) (by omega) hm hq g
    rwa [show leftOf 1048576 (S.length + rlSz S) = -1 by unfold leftOf; rw [if_pos (by omega)]] at this
  obtain ⟨a, cap, rfl, hx⟩ := id h
  have H := Lib.hid h
  have b0 := (Below.refl w.heap.size w).alloc (Nat.le_refl _) (.cells #[.int .i64 p, .int .i64 q, .int .i64 r, .int .i64 s] 24)
  clear hx h
  go_enter Try.func4, Try.ntmps4
  go_wp2_with fail
  refine (K.out _ (H.out.stepAt (by go_grown))).mono ?_
  rintro e w1 ⟨rfl, hb⟩
  go_wp2_with fail
  go_ret
  exact ⟨rfl, b0.trans (hb.mono b0.size)⟩

set_option maxRecDepth 100000 in
set_option maxHeartbeats 16000000 in
theorem short (v : Value) (S : List Rel) (n p q r s : Int) (w : World) (h : RlAt w w.heap.size v S) (hl : S.length + rlSz S ≤ 1048576) :
    Calls Try.prog 4 #[v, .int .i64 n, ver p q r s] w fun e w' => e = .returned (.bool true) ∧ Below w.heap.size w w' := by
  have hm : S.length ≤ 1048576 := by omega
  have hz : rlSz S ≤ 1048576 := by omega
  have hq := rl_each (M := S) hz
  obtain ⟨y, hy, hy0⟩ : ∃ y : Int, leftOf 1048576 (S.length + rlSz S) = y ∧ ¬ y < 0 := ⟨_, rfl, by unfold leftOf; rw [if_neg (by omega)]; omega⟩
  have K : Hid (∀ V, RlAt V V.heap.size v S → Calls Try.prog 15 #[v, .int .i64 1048576] V fun e w' => e = .returned (.int .i64 y) ∧ Below V.heap.size V w') := Lib.hid fun V g => by
    have := szReleaseS_any v S 1048576 V (by omega) (by omega) (by unfold maxLen; omega) (fun q hq' => ⟨by have := (hq q hq').1; unfold maxLen; omega, fun p hp => by have := (hq q hq').2 p hp; unfold maxLen; omega⟩) g
    rwa [hy] at this
  clear hy hl
  obtain ⟨sa, caps, rfl, hx⟩ := id h
  have H := Lib.hid h
  clear hx h
  have hG := goneG_len S (shAt S n (p, q, r, s))
  have hGz := goneG_sz S (shAt S n (p, q, r, s))
  have KS : Hid (∀ V u, RlAt V V.heap.size u S → Calls Try.prog 26 #[u, .int .i64 n, ver p q r s] V (SbPost (goneG S (shAt S n (p, q, r, s))) (decide (0 ≤ shAt S n (p, q, r, s))) V)) := Lib.hid fun V u g => (specShelfGone_any u S n p q r s V hm hq g).mono fun _ _ k => gone_post k
  have KI : Hid (∀ V u, RlAt V V.heap.size u S → Calls Try.prog 28 #[u, .int .i64 n, ver p q r s] V (SbPost (goneG S (shAt S n (p, q, r, s))) (decide (0 ≤ shAt S n (p, q, r, s))) V)) := Lib.hid fun V u g => (implShelfGone_any u S n p q r s V hm hq g).mono fun _ _ k => gone_post k
  generalize decide (0 ≤ shAt S n (p, q, r, s)) = ok at *
  generalize goneG S (shAt S n (p, q, r, s)) = G at *
  have hmG : G.length ≤ 1048576 := by omega
  have hzG : rlSz G ≤ 1048576 := by omega
  have hqG := rl_each (M := G) hzG
  clear hG hGz
  have hok : (ok != ok) = false := by simp
  obtain ⟨mm, hmm, hm0⟩ : ∃ mm : Int, rmkE 1 G = mm ∧ ¬ mm < 0 := ⟨_, rfl, by have := (rmkE_le G 1).1; omega⟩
  have hm2 : (mm != mm) = false := by simp
  have KM : Hid (∀ V u lo hi, RlB G lo hi u V → Calls Try.prog 23 #[u, .int .i64 1] V fun e w' => e = .returned (.int .i64 mm) ∧ RlB (rmk 1 G) lo hi u w' ∧ Out lo hi V w') := Lib.hid fun V u lo hi g => by
    have := markRlB hmG hzG g 1 (by omega) (by omega)
    rwa [hmm] at this
  have KH : Hid (∀ V u lo hi, RlB (rmk 1 G) lo hi u V → Calls Try.prog 25 #[u, .int .i64 1] V fun e w' => e = .returned (.int .i64 mm) ∧ Below V.heap.size V w') := Lib.hid fun V u lo hi g => by
    have := heldRlB hmG hzG 1 (by omega) (by omega) g
    rwa [hmm] at this
  clear hmm
  obtain ⟨w1, hw1⟩ : ∃ V : World, V = w.alloc (.cells #[.int .i64 p, .int .i64 q, .int .i64 r, .int .i64 s] 24) := ⟨_, rfl⟩
  have b1 : Below w.heap.size w w1 := by
    rw [hw1]
    exact (Below.refl w.heap.size w).alloc (Nat.le_refl _) _
  have z1 : w.heap.size + 1 ≤ w1.heap.size := by rw [hw1]; simp
  have c1_0_0 : w1.cell? ⟨w.heap.size, 0, none⟩ = some (.int .i64 p) := by rw [hw1]; go_simp
  have c1_0_1 : w1.cell? ⟨w.heap.size, 1, none⟩ = some (.int .i64 q) := by rw [hw1]; go_simp
  have c1_0_2 : w1.cell? ⟨w.heap.size, 2, none⟩ = some (.int .i64 r) := by rw [hw1]; go_simp
  have c1_0_3 : w1.cell? ⟨w.heap.size, 3, none⟩ = some (.int .i64 s) := by rw [hw1]; go_simp
  go_enter Try.func4, Try.ntmps4
  go_upto_region 1 with fail
  rw [← hw1]
  clear hw1
  go_wp2_with fail
  refine (K.out _ (H.out.stepAt b1)).mono ?_
  rintro e w2 ⟨rfl, hb⟩
  have zw2 : w1.heap.size ≤ w2.heap.size := hb.size
  have bw2 := b1.trans (hb.mono b1.size)
  have cw2_0_0 := (hb.cell (p := ⟨w.heap.size, 0, none⟩) (by show w.heap.size < w1.heap.size; omega)).trans c1_0_0
  have cw2_0_1 := (hb.cell (p := ⟨w.heap.size, 1, none⟩) (by show w.heap.size < w1.heap.size; omega)).trans c1_0_1
  have cw2_0_2 := (hb.cell (p := ⟨w.heap.size, 2, none⟩) (by show w.heap.size < w1.heap.size; omega)).trans c1_0_2
  have cw2_0_3 := (hb.cell (p := ⟨w.heap.size, 3, none⟩) (by show w.heap.size < w1.heap.size; omega)).trans c1_0_3
  clear hb b1 c1_0_0 c1_0_1 c1_0_2 c1_0_3
  go_wp2_with fail
  go_cut [8, 9] from 23 (fun t b wx => b = .bool ok ∧ RlB G w2.heap.size wx.heap.size t wx ∧ Below w2.heap.size w2 wx)
  case first =>
    go_region_held3 (fun V => V.cell? ⟨w.heap.size, 0, none⟩ = some (.int .i64 p) ∧ V.cell? ⟨w.heap.size, 1, none⟩ = some (.int .i64 q) ∧ V.cell? ⟨w.heap.size, 2, none⟩ = some (.int .i64 r) ∧ V.cell? ⟨w.heap.size, 3, none⟩ = some (.int .i64 s)) (go_keep)
      (first
      | (go_at_call 18; refine (toReleaseS_any _ S _ (((H.out.stepAt bw2)).stepAt (by go_grown)) hm hq).mono ?_; rintro e wu ⟨gu, rfl, ku, hgu, hbu⟩; have nn : Below w2.heap.size w2 wu := Below.step (by go_grown) hbu; clear hgu; have ku_0_0 := (nn.cell (p := ⟨w.heap.size, 0, none⟩) (by show w.heap.size < w2.heap.size; omega)).trans cw2_0_0; have ku_0_1 := (nn.cell (p := ⟨w.heap.size, 1, none⟩) (by show w.heap.size < w2.heap.size; omega)).trans cw2_0_1; have ku_0_2 := (nn.cell (p := ⟨w.heap.size, 2, none⟩) (by show w.heap.size < w2.heap.size; omega)).trans cw2_0_2; have ku_0_3 := (nn.cell (p := ⟨w.heap.size, 3, none⟩) (by show w.heap.size < w2.heap.size; omega)).trans cw2_0_3)
      | (go_at_call 27; refine (toVersion_any p q r s _).mono ?_; rintro e wv ⟨rfl, hbv⟩; have nn : Below w2.heap.size w2 wv := Below.step (by go_grown) hbv; have kv_0_0 := (nn.cell (p := ⟨w.heap.size, 0, none⟩) (by show w.heap.size < w2.heap.size; omega)).trans cw2_0_0; have kv_0_1 := (nn.cell (p := ⟨w.heap.size, 1, none⟩) (by show w.heap.size < w2.heap.size; omega)).trans cw2_0_1; have kv_0_2 := (nn.cell (p := ⟨w.heap.size, 2, none⟩) (by show w.heap.size < w2.heap.size; omega)).trans cw2_0_2; have kv_0_3 := (nn.cell (p := ⟨w.heap.size, 3, none⟩) (by show w.heap.size < w2.heap.size; omega)).trans cw2_0_3)
      | (go_at_call 26; refine (KS.out _ _ (ku.at.stepAt (by go_grown))).mono ?_; rintro e wx ⟨vx, rfl, kx, hbx⟩; have nn : Below w2.heap.size w2 wx := Below.step (by go_grown) hbx; have jx := kx.mono (show w2.heap.size ≤ _ from Below.size (by go_grown)); have kx_0_0 := (nn.cell (p := ⟨w.heap.size, 0, none⟩) (by show w.heap.size < w2.heap.size; omega)).trans cw2_0_0; have kx_0_1 := (nn.cell (p := ⟨w.heap.size, 1, none⟩) (by show w.heap.size < w2.heap.size; omega)).trans cw2_0_1; have kx_0_2 := (nn.cell (p := ⟨w.heap.size, 2, none⟩) (by show w.heap.size < w2.heap.size; omega)).trans cw2_0_2; have kx_0_3 := (nn.cell (p := ⟨w.heap.size, 3, none⟩) (by show w.heap.size < w2.heap.size; omega)).trans cw2_0_3))
    all_goals
      go_wp2_with fail
      go_meet
      case rel => exact ⟨rfl, jx, nn⟩
  case rest =>
    rename World => w3
    obtain ⟨rfl, hia, hb⟩ := hcut
    have zw3 : w2.heap.size ≤ w3.heap.size := hb.size
    have bw3 := bw2.trans (hb.mono bw2.size)
    have cw3_0_0 := (hb.cell (p := ⟨w.heap.size, 0, none⟩) (by show w.heap.size < w2.heap.size; omega)).trans cw2_0_0
    have cw3_0_1 := (hb.cell (p := ⟨w.heap.size, 1, none⟩) (by show w.heap.size < w2.heap.size; omega)).trans cw2_0_1
    have cw3_0_2 := (hb.cell (p := ⟨w.heap.size, 2, none⟩) (by show w.heap.size < w2.heap.size; omega)).trans cw2_0_2
    have cw3_0_3 := (hb.cell (p := ⟨w.heap.size, 3, none⟩) (by show w.heap.size < w2.heap.size; omega)).trans cw2_0_3
    clear hb bw2 cw2_0_0 cw2_0_1 cw2_0_2 cw2_0_3
    obtain ⟨xa, ya, rfl⟩ := hia.shape
    go_wp2_with fail
    refine (toReleaseS_ord _ S _ (H.out.stepAt bw3) hm hq).mono ?_
    rintro e w4 ⟨ux, rfl, hx0, hb⟩
    have zw4 : w3.heap.size ≤ w4.heap.size := hb.size
    have bw4 := bw3.trans (hb.mono bw3.size)
    have cw4_0_0 := (hb.cell (p := ⟨w.heap.size, 0, none⟩) (by show w.heap.size < w3.heap.size; omega)).trans cw3_0_0
    have cw4_0_1 := (hb.cell (p := ⟨w.heap.size, 1, none⟩) (by show w.heap.size < w3.heap.size; omega)).trans cw3_0_1
    have cw4_0_2 := (hb.cell (p := ⟨w.heap.size, 2, none⟩) (by show w.heap.size < w3.heap.size; omega)).trans cw3_0_2
    have cw4_0_3 := (hb.cell (p := ⟨w.heap.size, 3, none⟩) (by show w.heap.size < w3.heap.size; omega)).trans cw3_0_3
    have rw4_a := hia.below hb
    clear hb bw3 cw3_0_0 cw3_0_1 cw3_0_2 cw3_0_3 hia
    obtain ⟨ax, cx, rfl, ex⟩ := id hx0
    clear ex
    go_wp2_with fail
    refine (toVersion_any p q r s _).mono ?_
    rintro e w5 ⟨rfl, hb⟩
    have zw5 : w4.heap.size ≤ w5.heap.size := hb.size
    have bw5 := bw4.trans (hb.mono bw4.size)
    have cw5_0_0 := (hb.cell (p := ⟨w.heap.size, 0, none⟩) (by show w.heap.size < w4.heap.size; omega)).trans cw4_0_0
    have cw5_0_1 := (hb.cell (p := ⟨w.heap.size, 1, none⟩) (by show w.heap.size < w4.heap.size; omega)).trans cw4_0_1
    have cw5_0_2 := (hb.cell (p := ⟨w.heap.size, 2, none⟩) (by show w.heap.size < w4.heap.size; omega)).trans cw4_0_2
    have cw5_0_3 := (hb.cell (p := ⟨w.heap.size, 3, none⟩) (by show w.heap.size < w4.heap.size; omega)).trans cw4_0_3
    have rw5_a := rw4_a.below hb
    have rw5_x := hx0.below hb
    clear hb bw4 cw4_0_0 cw4_0_1 cw4_0_2 cw4_0_3 rw4_a hx0
    go_wp2_with fail
    refine (KI.out _ _ rw5_x.at).mono ?_
    rintro e w6 ⟨ug, rfl, hg0, hb⟩
    have zw6 : w5.heap.size ≤ w6.heap.size := hb.size
    have bw6 := bw5.trans (hb.mono bw5.size)
    have cw6_0_0 := (hb.cell (p := ⟨w.heap.size, 0, none⟩) (by show w.heap.size < w5.heap.size; omega)).trans cw5_0_0
    have cw6_0_1 := (hb.cell (p := ⟨w.heap.size, 1, none⟩) (by show w.heap.size < w5.heap.size; omega)).trans cw5_0_1
    have cw6_0_2 := (hb.cell (p := ⟨w.heap.size, 2, none⟩) (by show w.heap.size < w5.heap.size; omega)).trans cw5_0_2
    have cw6_0_3 := (hb.cell (p := ⟨w.heap.size, 3, none⟩) (by show w.heap.size < w5.heap.size; omega)).trans cw5_0_3
    have rw6_a := rw5_a.below hb
    have rw6_x := rw5_x.below hb
    clear hb bw5 cw5_0_0 cw5_0_1 cw5_0_2 cw5_0_3 rw5_a rw5_x
    obtain ⟨ag, cg, rfl⟩ := hg0.shape
    go_wp2_with fail
    refine (eqReleaseS_same hmG hqG hg0.at rw6_a.at).mono ?_
    rintro e w7 ⟨rfl, hb⟩
    have zw7 : w6.heap.size ≤ w7.heap.size := hb.size
    have bw7 := bw6.trans (hb.mono bw6.size)
    have cw7_0_0 := (hb.cell (p := ⟨w.heap.size, 0, none⟩) (by show w.heap.size < w6.heap.size; omega)).trans cw6_0_0
    have cw7_0_1 := (hb.cell (p := ⟨w.heap.size, 1, none⟩) (by show w.heap.size < w6.heap.size; omega)).trans cw6_0_1
    have cw7_0_2 := (hb.cell (p := ⟨w.heap.size, 2, none⟩) (by show w.heap.size < w6.heap.size; omega)).trans cw6_0_2
    have cw7_0_3 := (hb.cell (p := ⟨w.heap.size, 3, none⟩) (by show w.heap.size < w6.heap.size; omega)).trans cw6_0_3
    have rw7_a := rw6_a.below hb
    have rw7_x := rw6_x.below hb
    have rw7_g := hg0.below hb
    clear hb bw6 cw6_0_0 cw6_0_1 cw6_0_2 cw6_0_3 rw6_a rw6_x hg0
    go_wp2_with fail
    refine (toReleaseS_any _ S _ (H.out.stepAt bw7) hm hq).mono ?_
    rintro e w8 ⟨gz, rfl, kz, hgz, hb⟩
    clear hgz
    have zw8 : w7.heap.size ≤ w8.heap.size := hb.size
    have bw8 := bw7.trans (hb.mono bw7.size)
    have cw8_0_0 := (hb.cell (p := ⟨w.heap.size, 0, none⟩) (by show w.heap.size < w7.heap.size; omega)).trans cw7_0_0
    have cw8_0_1 := (hb.cell (p := ⟨w.heap.size, 1, none⟩) (by show w.heap.size < w7.heap.size; omega)).trans cw7_0_1
    have cw8_0_2 := (hb.cell (p := ⟨w.heap.size, 2, none⟩) (by show w.heap.size < w7.heap.size; omega)).trans cw7_0_2
    have cw8_0_3 := (hb.cell (p := ⟨w.heap.size, 3, none⟩) (by show w.heap.size < w7.heap.size; omega)).trans cw7_0_3
    have rw8_a := rw7_a.below hb
    have rw8_x := rw7_x.below hb
    have rw8_g := rw7_g.below hb
    clear hb bw7 cw7_0_0 cw7_0_1 cw7_0_2 cw7_0_3 rw7_a rw7_x rw7_g
    go_wp2_with fail
    refine (eqReleaseS_same hm hq rw8_x.at kz.at).mono ?_
    rintro e w9 ⟨rfl, hb⟩
    have zw9 : w8.heap.size ≤ w9.heap.size := hb.size
    have bw9 := bw8.trans (hb.mono bw8.size)
    have cw9_0_0 := (hb.cell (p := ⟨w.heap.size, 0, none⟩) (by show w.heap.size < w8.heap.size; omega)).trans cw8_0_0
    have cw9_0_1 := (hb.cell (p := ⟨w.heap.size, 1, none⟩) (by show w.heap.size < w8.heap.size; omega)).trans cw8_0_1
    have cw9_0_2 := (hb.cell (p := ⟨w.heap.size, 2, none⟩) (by show w.heap.size < w8.heap.size; omega)).trans cw8_0_2
    have cw9_0_3 := (hb.cell (p := ⟨w.heap.size, 3, none⟩) (by show w.heap.size < w8.heap.size; omega)).trans cw8_0_3
    have rw9_a := rw8_a.below hb
    have rw9_x := rw8_x.below hb
    have rw9_g := rw8_g.below hb
    clear hb bw8 cw8_0_0 cw8_0_1 cw8_0_2 cw8_0_3 rw8_a rw8_x rw8_g
    clear kz
    go_wp2_with fail
    refine (markReleaseS_out hm hz rw9_x 1 (by omega) (by omega)).mono ?_
    rintro e w10 ⟨⟨k1, rfl, k10, k11⟩, ho⟩
    clear rw9_x
    have zw10 : w9.heap.size ≤ w10.heap.size := ho.size
    have bw10 := ho.below bw9 (by omega) (by omega)
    have cw10_0_0 := ho.cell cw9_0_0 (by omega)
    have cw10_0_1 := ho.cell cw9_0_1 (by omega)
    have cw10_0_2 := ho.cell cw9_0_2 (by omega)
    have cw10_0_3 := ho.cell cw9_0_3 (by omega)
    have rw10_a := rw9_a.out ho (by omega)
    have rw10_g := rw9_g.out ho (by omega)
    clear ho bw9 cw9_0_0 cw9_0_1 cw9_0_2 cw9_0_3 rw9_a rw9_g
    have hk2 : ¬ (k1 < 0) := by omega
    go_wp2_with fail
    refine (eqReleaseS_same hmG hqG rw10_g.at rw10_a.at).mono ?_
    rintro e w11 ⟨rfl, hb⟩
    have zw11 : w10.heap.size ≤ w11.heap.size := hb.size
    have bw11 := bw10.trans (hb.mono bw10.size)
    have cw11_0_0 := (hb.cell (p := ⟨w.heap.size, 0, none⟩) (by show w.heap.size < w10.heap.size; omega)).trans cw10_0_0
    have cw11_0_1 := (hb.cell (p := ⟨w.heap.size, 1, none⟩) (by show w.heap.size < w10.heap.size; omega)).trans cw10_0_1
    have cw11_0_2 := (hb.cell (p := ⟨w.heap.size, 2, none⟩) (by show w.heap.size < w10.heap.size; omega)).trans cw10_0_2
    have cw11_0_3 := (hb.cell (p := ⟨w.heap.size, 3, none⟩) (by show w.heap.size < w10.heap.size; omega)).trans cw10_0_3
    have rw11_a := rw10_a.below hb
    have rw11_g := rw10_g.below hb
    clear hb bw10 cw10_0_0 cw10_0_1 cw10_0_2 cw10_0_3 rw10_a rw10_g
    go_wp2_with fail
    refine (KM.out _ _ _ _ rw11_g).mono ?_
    rintro e w12 ⟨rfl, hg1, ho⟩
    clear rw11_g
    have zw12 : w11.heap.size ≤ w12.heap.size := ho.size
    have bw12 := ho.below bw11 (by omega) (by omega)
    have cw12_0_0 := ho.cell cw11_0_0 (by omega)
    have cw12_0_1 := ho.cell cw11_0_1 (by omega)
    have cw12_0_2 := ho.cell cw11_0_2 (by omega)
    have cw12_0_3 := ho.cell cw11_0_3 (by omega)
    have rw12_a := rw11_a.out ho (by omega)
    clear ho bw11 cw11_0_0 cw11_0_1 cw11_0_2 cw11_0_3 rw11_a
    go_wp2_with fail
    refine (KH.out _ _ _ _ hg1).mono ?_
    rintro e w13 ⟨rfl, hb⟩
    have zw13 : w12.heap.size ≤ w13.heap.size := hb.size
    have bw13 := bw12.trans (hb.mono bw12.size)
    have cw13_0_0 := (hb.cell (p := ⟨w.heap.size, 0, none⟩) (by show w.heap.size < w12.heap.size; omega)).trans cw12_0_0
    have cw13_0_1 := (hb.cell (p := ⟨w.heap.size, 1, none⟩) (by show w.heap.size < w12.heap.size; omega)).trans cw12_0_1
    have cw13_0_2 := (hb.cell (p := ⟨w.heap.size, 2, none⟩) (by show w.heap.size < w12.heap.size; omega)).trans cw12_0_2
    have cw13_0_3 := (hb.cell (p := ⟨w.heap.size, 3, none⟩) (by show w.heap.size < w12.heap.size; omega)).trans cw12_0_3
    have rw13_a := rw12_a.below hb
    have rw13_g := hg1.below hb
    clear hb bw12 cw12_0_0 cw12_0_1 cw12_0_2 cw12_0_3 rw12_a hg1
    go_wp2_with fail
    go_cut [16, 17] from 83 (fun t b wx => b = .bool ok ∧ RlB G w13.heap.size wx.heap.size t wx ∧ Below w13.heap.size w13 wx)
    case first =>
      go_region_held3 (fun V => V.cell? ⟨w.heap.size, 0, none⟩ = some (.int .i64 p) ∧ V.cell? ⟨w.heap.size, 1, none⟩ = some (.int .i64 q) ∧ V.cell? ⟨w.heap.size, 2, none⟩ = some (.int .i64 r) ∧ V.cell? ⟨w.heap.size, 3, none⟩ = some (.int .i64 s)) (go_keep)
        (first
        | (go_at_call 18; refine (toReleaseS_any _ S _ (((H.out.stepAt bw13)).stepAt (by go_grown)) hm hq).mono ?_; rintro e wu ⟨gu, rfl, ku, hgu, hbu⟩; have nn : Below w13.heap.size w13 wu := Below.step (by go_grown) hbu; clear hgu; have ku_0_0 := (nn.cell (p := ⟨w.heap.size, 0, none⟩) (by show w.heap.size < w13.heap.size; omega)).trans cw13_0_0; have ku_0_1 := (nn.cell (p := ⟨w.heap.size, 1, none⟩) (by show w.heap.size < w13.heap.size; omega)).trans cw13_0_1; have ku_0_2 := (nn.cell (p := ⟨w.heap.size, 2, none⟩) (by show w.heap.size < w13.heap.size; omega)).trans cw13_0_2; have ku_0_3 := (nn.cell (p := ⟨w.heap.size, 3, none⟩) (by show w.heap.size < w13.heap.size; omega)).trans cw13_0_3)
        | (go_at_call 27; refine (toVersion_any p q r s _).mono ?_; rintro e wv ⟨rfl, hbv⟩; have nn : Below w13.heap.size w13 wv := Below.step (by go_grown) hbv; have kv_0_0 := (nn.cell (p := ⟨w.heap.size, 0, none⟩) (by show w.heap.size < w13.heap.size; omega)).trans cw13_0_0; have kv_0_1 := (nn.cell (p := ⟨w.heap.size, 1, none⟩) (by show w.heap.size < w13.heap.size; omega)).trans cw13_0_1; have kv_0_2 := (nn.cell (p := ⟨w.heap.size, 2, none⟩) (by show w.heap.size < w13.heap.size; omega)).trans cw13_0_2; have kv_0_3 := (nn.cell (p := ⟨w.heap.size, 3, none⟩) (by show w.heap.size < w13.heap.size; omega)).trans cw13_0_3)
        | (go_at_call 28; refine (KI.out _ _ (ku.at.stepAt (by go_grown))).mono ?_; rintro e wx ⟨vx, rfl, kx, hbx⟩; have nn : Below w13.heap.size w13 wx := Below.step (by go_grown) hbx; have jx := kx.mono (show w13.heap.size ≤ _ from Below.size (by go_grown)); have kx_0_0 := (nn.cell (p := ⟨w.heap.size, 0, none⟩) (by show w.heap.size < w13.heap.size; omega)).trans cw13_0_0; have kx_0_1 := (nn.cell (p := ⟨w.heap.size, 1, none⟩) (by show w.heap.size < w13.heap.size; omega)).trans cw13_0_1; have kx_0_2 := (nn.cell (p := ⟨w.heap.size, 2, none⟩) (by show w.heap.size < w13.heap.size; omega)).trans cw13_0_2; have kx_0_3 := (nn.cell (p := ⟨w.heap.size, 3, none⟩) (by show w.heap.size < w13.heap.size; omega)).trans cw13_0_3))
      all_goals
        go_wp2_with fail
        go_meet
        case rel => exact ⟨rfl, jx, nn⟩
    case rest =>
      rename World => w14
      obtain ⟨rfl, hib, hb⟩ := hcut
      have zw14 : w13.heap.size ≤ w14.heap.size := hb.size
      have bw14 := bw13.trans (hb.mono bw13.size)
      have cw14_0_0 := (hb.cell (p := ⟨w.heap.size, 0, none⟩) (by show w.heap.size < w13.heap.size; omega)).trans cw13_0_0
      have cw14_0_1 := (hb.cell (p := ⟨w.heap.size, 1, none⟩) (by show w.heap.size < w13.heap.size; omega)).trans cw13_0_1
      have cw14_0_2 := (hb.cell (p := ⟨w.heap.size, 2, none⟩) (by show w.heap.size < w13.heap.size; omega)).trans cw13_0_2
      have cw14_0_3 := (hb.cell (p := ⟨w.heap.size, 3, none⟩) (by show w.heap.size < w13.heap.size; omega)).trans cw13_0_3
      have rw14_a := rw13_a.below hb
      have rw14_g := rw13_g.below hb
      clear hb bw13 cw13_0_0 cw13_0_1 cw13_0_2 cw13_0_3 rw13_a rw13_g
      obtain ⟨xb, yb, rfl⟩ := hib.shape
      go_wp2_with fail
      refine (eqReleaseS_same hmG hqG hib.at rw14_a.at).mono ?_
      rintro e w15 ⟨rfl, hb⟩
      have zw15 : w14.heap.size ≤ w15.heap.size := hb.size
      have bw15 := bw14.trans (hb.mono bw14.size)
      have cw15_0_0 := (hb.cell (p := ⟨w.heap.size, 0, none⟩) (by show w.heap.size < w14.heap.size; omega)).trans cw14_0_0
      have cw15_0_1 := (hb.cell (p := ⟨w.heap.size, 1, none⟩) (by show w.heap.size < w14.heap.size; omega)).trans cw14_0_1
      have cw15_0_2 := (hb.cell (p := ⟨w.heap.size, 2, none⟩) (by show w.heap.size < w14.heap.size; omega)).trans cw14_0_2
      have cw15_0_3 := (hb.cell (p := ⟨w.heap.size, 3, none⟩) (by show w.heap.size < w14.heap.size; omega)).trans cw14_0_3
      have rw15_a := rw14_a.below hb
      have rw15_g := rw14_g.below hb
      have rw15_b := hib.below hb
      clear hb bw14 cw14_0_0 cw14_0_1 cw14_0_2 cw14_0_3 rw14_a rw14_g hib
      go_wp2_with fail
      refine (KH.out _ _ _ _ rw15_g).mono ?_
      rintro e w16 ⟨rfl, hb⟩
      have zw16 : w15.heap.size ≤ w16.heap.size := hb.size
      have bw16 := bw15.trans (hb.mono bw15.size)
      have cw16_0_0 := (hb.cell (p := ⟨w.heap.size, 0, none⟩) (by show w.heap.size < w15.heap.size; omega)).trans cw15_0_0
      have cw16_0_1 := (hb.cell (p := ⟨w.heap.size, 1, none⟩) (by show w.heap.size < w15.heap.size; omega)).trans cw15_0_1
      have cw16_0_2 := (hb.cell (p := ⟨w.heap.size, 2, none⟩) (by show w.heap.size < w15.heap.size; omega)).trans cw15_0_2
      have cw16_0_3 := (hb.cell (p := ⟨w.heap.size, 3, none⟩) (by show w.heap.size < w15.heap.size; omega)).trans cw15_0_3
      have rw16_a := rw15_a.below hb
      have rw16_g := rw15_g.below hb
      have rw16_b := rw15_b.below hb
      clear hb bw15 cw15_0_0 cw15_0_1 cw15_0_2 cw15_0_3 rw15_a rw15_g rw15_b
      go_wp2_with fail
      go_ret
      exact ⟨rfl, bw16⟩

set_option maxRecDepth 100000 in
theorem law : LawWalk Try.prog 4 Try.f4 := by
  intro H enc W base args ds ps hval hA
  rw [Try.params4] at hA hval
  obtain ⟨v0, vs0, d0, es0, p0, q0, hargs, rfl, rfl, h0, r0⟩ := trodAll_cons hA
  obtain ⟨v1, vs1, d1, es1, p1, q1, rfl, rfl, rfl, h1, r1⟩ := trodAll_cons r0
  obtain ⟨v2, vs2, d2, es2, p2, q2, rfl, rfl, rfl, h2, r2⟩ := trodAll_cons r1
  obtain ⟨rfl, rfl, rfl⟩ := trodAll_nil r2
  obtain rfl : args = #[v0, v1, v2] := by cases args; simp_all
  obtain ⟨a, cap, S, rfl, hs, hm, hq⟩ := open_rels (hval 0 _ v0 rfl rfl) h0
  obtain ⟨n, rfl⟩ := okWide_int Try.underlying3 (hval 1 _ v1 rfl rfl)
  obtain ⟨x, y, z, u, rfl⟩ := open_ver (hval 2 _ v2 rfl rfl) h2
  by_cases hl : S.length + rlSz S ≤ 1048576
  · exact short _ S n x y z u W hs hl
  · exact long _ S n x y z u W hm hq hs (by omega)
end Lsg

set_option maxRecDepth 100000 in
theorem exactShelfGone_holds : Rows.FnExactShelfGoneSaid :=
  OpenClaim.holds_of_wide 4 Try.f4 rfl rfl rfl rfl rfl rfl rfl ⟨rfl, rfl, rfl, rfl, rfl⟩ rfl rfl rfl rfl rfl (by kernel_rfl) Try.func4 (by kernel_rfl)
    (of_decide_eq_true (by kernel_rfl)) (by unfold Func.isWrapper; rw [if_neg (by decide +kernel)]; exact ⟨rfl, rfl⟩)
    (fun os started H enc _ => law_lifted (s := Rows.fnExactShelfGoneSpec) (tb := 4) own started laid (by kernel_rfl) Try.func4 rfl (by kernel_rfl) Try.underlying4 (by kernel_rfl)
      (fun ds h => by rw [Try.params4] at h; match ds, h with | [_, _, _], _ => rfl)
      (ChangeSpec.witness6 (enc := enc) (C := Try.checked) false ⟨#[], #[.slice none 0 0, .int .i64 0, .agg #[.int .i64 0, .int .i64 0, .int .i64 0, .int .i64 0]], []⟩ 8 (by kernel_rfl) (by kernel_rfl) (by kernel_rfl) (by kernel_rfl))
      Lsg.law)
#print axioms exactShelfGone_holds
end Go.Proofs.Ytigkfhgmnenplaa
