/- At every argument the law FnExactClashOf returns true: ClashOf of the program answers as ClashOf of the model, leaves its arguments, and its answer owns its memory. No condition. -/
import Derived.Test.YtdhbjjolgmodjaaGc
import Derived.Test.YtdhbjjolgmodjaaGt
import Derived.Test.YtdhbjjolgmodjaaGr
import Derived.Test.YtdhbjjolgmodjaaGn
import Derived.Test.YtdhbjjolgmodjaaCuh
import Derived.Test.YtdhbjjolgmodjaaCup
import Derived.Test.YtdhbjjolgmodjaaStx
import Derived.Test.YtdhbjjolgmodjaaTcs
import Derived.Deep.RegionHeld3
namespace Go.Proofs.Ytdhbjjolgmodjaa
open Go.ChangeShapes Go.WideShapes Go.ChangeAt Go.RowKit Go.Joins Go.Sort

namespace Ltc
open Foot
theorem nd_small {M : List Nd} (h : ndSz M ≤ 1048576) : ∀ q ∈ M, q.2.length ≤ 1048576 := fun q hq => by
  obtain ⟨i, hi, rfl⟩ := List.getElem_of_mem hq
  have := ndSz_mem M i _ (List.getElem?_eq_getElem hi)
  omega
theorem eqNeedS_same {v v' : Value} {M : List Nd} {w : World} (hl : M.length ≤ 1048576) (hq : ∀ q ∈ M, q.2.length ≤ 1048576) (h : NdAt w w.heap.size v M) (h' : NdAt w w.heap.size v' M) :
    Calls Try.prog 29 #[v, v'] w fun e w' => e = .returned (.bool true) ∧ Below w.heap.size w w' := by
  have := eqNeedS_any v v' M M w hl hl hq hq h h'
  rwa [decide_eq_true rfl] at this
set_option maxRecDepth 100000 in
theorem toNeedS_in (v : Value) (M : List Nd) (w : World) (h : NdAt w w.heap.size v M) (hl : M.length ≤ 1048576) (hq : ∀ q ∈ M, q.2.length ≤ 1048576) :
    Calls Try.prog 25 #[v] w fun e w' => ∃ a c, e = .returned (.slice a M.length c) ∧ NIn M w.heap.size w'.heap.size (.slice a M.length c) w' ∧ Below w.heap.size w w' :=
  (toNeedS_ord v M w h hl hq).mono fun _ _ ⟨g, he, hk, hg, ho, hb⟩ => ⟨_, _, he, ⟨_, _, rfl, .inr ⟨g, _, rfl, hk, hg, ho⟩⟩, hb⟩
theorem NIn.out {M : List Nd} {lo hi lo' hi' : Nat} {v : Value} {w w' : World} (h : NIn M lo hi v w) (ho : Out lo' hi' w w') (hd : hi' ≤ lo) : NIn M lo hi v w' := h.kept fun k k1 k2 => ho.block k k2 (.inr (by omega))
theorem tm_small {M : List Tm} (h : tmSz M ≤ 1048576) : ∀ q ∈ M, q.2.1.length ≤ 1048576 := fun q hq => by
  obtain ⟨i, hi, rfl⟩ := List.getElem_of_mem hq
  have := tmSz_mem M i _ (List.getElem?_eq_getElem hi)
  omega
theorem eqTermS_same {v v' : Value} {M : List Tm} {w : World} (hl : M.length ≤ 1048576) (hq : ∀ q ∈ M, q.2.1.length ≤ 1048576) (h : TmAt w w.heap.size v M) (h' : TmAt w w.heap.size v' M) :
    Calls Try.prog 14 #[v, v'] w fun e w' => e = .returned (.bool true) ∧ Below w.heap.size w w' := by
  have := eqTermS_any v v' M M w hl hl hq hq h h'
  rwa [decide_eq_true rfl] at this
set_option maxRecDepth 100000 in
set_option maxHeartbeats 4000000 in
theorem long (v0 v1 : Value) (S : List Rel) (M : List Nd) (kk ka kb kn : Int) (w : World) (hmS : S.length ≤ maxLen) (hqS : ∀ q ∈ S, q.2.2.2.length ≤ maxLen ∧ ∀ p ∈ q.2.2.2, p.2.length ≤ maxLen) (hmM : M.length ≤ maxLen) (hqM : ∀ q ∈ M, q.2.length ≤ maxLen)  (h0 : RlAt w w.heap.size v0 S) (h1 : NdAt w w.heap.size v1 M) (hl : 1048576 < (S.length + rlSz S) + (M.length + ndSz M)) :
    Calls Try.prog 5 #[v0, v1, Tmc.stepV kk ka kb kn] w fun e w' => e = .returned (.bool true) ∧ Below w.heap.size w w' := by
  obtain ⟨a0, c0, rfl, x0⟩ := id h0
  obtain ⟨a1, c1, rfl, x1⟩ := id h1
  clear x0 x1
  have H0 := Lib.hid h0
  have H1 := Lib.hid h1
  clear h0 h1
  by_cases g0 : 1048576 < (((S.length + rlSz S) : Nat) : Int)
  · have K0 : Hid (∀ V, RlAt V V.heap.size (.slice a0 S.length c0) S → Calls Try.prog 21 #[.slice a0 S.length c0, .int .i64 1048576] V fun e w' => e = .returned (.int .i64 (-1)) ∧ Below V.heap.size V w') := Lib.hid fun V g => by
      have := szReleaseS_any _ S 1048576 V (by omega) (by omega) hmS hqS g
      rwa [show leftOf 1048576 (S.length + rlSz S) = -1 by unfold leftOf; rw [if_pos (by omega)]] at this
    clear hl 
    have b0 : Below w.heap.size w (w.alloc (.cells #[.int .i64 kk, .int .i64 ka, .int .i64 kb, .int .i64 kn] 40)) := (Below.refl _ _).alloc (Nat.le_refl _) _
    go_enter Try.func5, Try.ntmps5
    go_wp2_with fail
    refine (K0.out _ (H0.out.stepAt b0)).mono ?_
    rintro e w1 ⟨rfl, hb⟩
    have b1 := b0.trans (hb.mono b0.size)
    clear hb
    go_wp2_with fail
    go_ret
    exact ⟨rfl, b1⟩
  obtain ⟨y1, f1, e1, n1⟩ : ∃ y : Int, leftOf 1048576 (S.length + rlSz S) = y ∧ y = 1048576 - (((S.length + rlSz S) : Nat) : Int) ∧ ¬ y < 0 := ⟨_, rfl, by unfold leftOf; rw [if_neg (by omega)], by unfold leftOf; rw [if_neg (by omega)]; omega⟩
  have K0 : Hid (∀ V, RlAt V V.heap.size (.slice a0 S.length c0) S → Calls Try.prog 21 #[.slice a0 S.length c0, .int .i64 1048576] V fun e w' => e = .returned (.int .i64 y1) ∧ Below V.heap.size V w') := Lib.hid fun V g => by
    have := szReleaseS_any _ S 1048576 V (by omega) (by omega) hmS hqS g
    rwa [f1] at this
  clear f1
  have K1 : Hid (∀ V, NdAt V V.heap.size (.slice a1 M.length c1) M → Calls Try.prog 22 #[.slice a1 M.length c1, .int .i64 y1] V fun e w' => e = .returned (.int .i64 (-1)) ∧ Below V.heap.size V w') := Lib.hid fun V g => by
    have := szNeedS_any _ M y1 V (by omega) (by omega) hmM hqM g
    rwa [show leftOf y1 (M.length + ndSz M) = -1 by unfold leftOf; rw [if_pos (by omega)]] at this
  clear hl e1
  have b0 : Below w.heap.size w (w.alloc (.cells #[.int .i64 kk, .int .i64 ka, .int .i64 kb, .int .i64 kn] 40)) := (Below.refl _ _).alloc (Nat.le_refl _) _
  go_enter Try.func5, Try.ntmps5
  go_wp2_with fail
  refine (K0.out _ (H0.out.stepAt b0)).mono ?_
  rintro e w1 ⟨rfl, hb⟩
  have b1 := b0.trans (hb.mono b0.size)
  clear hb
  go_wp2_with fail
  refine (K1.out _ (H1.out.stepAt b1)).mono ?_
  rintro e w2 ⟨rfl, hb⟩
  have b2 := b1.trans (hb.mono b1.size)
  clear hb
  go_wp2_with fail
  go_ret
  exact ⟨rfl, b2⟩

set_option maxRecDepth 100000 in
set_option maxHeartbeats 16000000 in
theorem short (v0 v1 : Value) (S : List Rel) (M : List Nd) (kk ka kb kn : Int) (w : World)  (h0 : RlAt w w.heap.size v0 S) (h1 : NdAt w w.heap.size v1 M) (hl : (S.length + rlSz S) + (M.length + ndSz M) ≤ 1048576) :
    Calls Try.prog 5 #[v0, v1, Tmc.stepV kk ka kb kn] w fun e w' => e = .returned (.bool true) ∧ Below w.heap.size w w' := by
  have hlS : S.length ≤ 1048576 := by omega
  have hmS : S.length ≤ maxLen := by unfold maxLen; omega
  have hzS : rlSz S ≤ 1048576 := by omega
  have hrS := rl_each (M := S) hzS
  have hqS : ∀ q ∈ S, q.2.2.2.length ≤ maxLen ∧ ∀ p ∈ q.2.2.2, p.2.length ≤ maxLen := fun q h => ⟨by have := (hrS q h).1; unfold maxLen; omega, fun p hp => by have := (hrS q h).2 p hp; unfold maxLen; omega⟩
  have hlM : M.length ≤ 1048576 := by omega
  have hmM : M.length ≤ maxLen := by unfold maxLen; omega
  have hzM : ndSz M ≤ 1048576 := by omega
  have hrM := nd_small (M := M) hzM
  have hqM : ∀ q ∈ M, q.2.length ≤ maxLen := fun q h => by have := hrM q h; unfold maxLen; omega
  obtain ⟨a0, c0, rfl, x0⟩ := id h0
  obtain ⟨a1, c1, rfl, x1⟩ := id h1
  clear x0 x1
  have H0 := Lib.hid h0
  have H1 := Lib.hid h1
  clear h0 h1
  obtain ⟨y1, f1, e1, n1⟩ : ∃ y : Int, leftOf 1048576 (S.length + rlSz S) = y ∧ y = 1048576 - (((S.length + rlSz S) : Nat) : Int) ∧ ¬ y < 0 := ⟨_, rfl, by unfold leftOf; rw [if_neg (by omega)], by unfold leftOf; rw [if_neg (by omega)]; omega⟩
  have K0 : Hid (∀ V, RlAt V V.heap.size (.slice a0 S.length c0) S → Calls Try.prog 21 #[.slice a0 S.length c0, .int .i64 1048576] V fun e w' => e = .returned (.int .i64 y1) ∧ Below V.heap.size V w') := Lib.hid fun V g => by
    have := szReleaseS_any _ S 1048576 V (by omega) (by omega) hmS hqS g
    rwa [f1] at this
  clear f1
  obtain ⟨y2, f2, e2, n2⟩ : ∃ y : Int, leftOf y1 (M.length + ndSz M) = y ∧ y = y1 - (((M.length + ndSz M) : Nat) : Int) ∧ ¬ y < 0 := ⟨_, rfl, by unfold leftOf; rw [if_neg (by omega)], by unfold leftOf; rw [if_neg (by omega)]; omega⟩
  have K1 : Hid (∀ V, NdAt V V.heap.size (.slice a1 M.length c1) M → Calls Try.prog 22 #[.slice a1 M.length c1, .int .i64 y1] V fun e w' => e = .returned (.int .i64 y2) ∧ Below V.heap.size V w') := Lib.hid fun V g => by
    have := szNeedS_any _ M y1 V (by omega) (by omega) hmM hqM g
    rwa [f2] at this
  clear f2
  clear e1 e2 hmS hqS hmM hqM
  have hA : ((Tmc.clashOfL S M kk ka kb kn).getD []).length ≤ 1048576 := Nat.le_trans Tmc.cl_len (by omega)
  have hAq : ∀ q ∈ (Tmc.clashOfL S M kk ka kb kn).getD [], q.2.1.length ≤ 1048576 := Tmc.cl_each
  have hAs : tmSz ((Tmc.clashOfL S M kk ka kb kn).getD []) ≤ 1048576 := Tmc.cl_sz
  have KS : Hid (∀ V u0 u1, RlAt V V.heap.size u0 S → NdAt V V.heap.size u1 M → Calls Try.prog 23 #[u0, u1, Tmc.stepV kk ka kb kn] V fun e w' => ∃ v, e = .returned (.tuple #[v, .bool ((Tmc.clashOfL S M kk ka kb kn).isSome)]) ∧ TmB ((Tmc.clashOfL S M kk ka kb kn).getD []) V.heap.size w'.heap.size v w' ∧ Below V.heap.size V w') := Lib.hid fun V u0 u1 g0 g1 => Tmc.specClashOf_any u0 u1 S M kk ka kb kn V hlS hrS hlM hrM g0 g1
  have KI : Hid (∀ V u0 u1, RlAt V V.heap.size u0 S → NdAt V V.heap.size u1 M → Calls Try.prog 27 #[u0, u1, Tmc.stepV kk ka kb kn] V fun e w' => ∃ v, e = .returned (.tuple #[v, .bool ((Tmc.clashOfL S M kk ka kb kn).isSome)]) ∧ TmB ((Tmc.clashOfL S M kk ka kb kn).getD []) V.heap.size w'.heap.size v w' ∧ Below V.heap.size V w') := Lib.hid fun V u0 u1 g0 g1 => Tmc.implClashOf_any u0 u1 S M kk ka kb kn V hlS hrS hlM hrM g0 g1
  obtain ⟨bf, hbf⟩ : ∃ bf : Bool, (Tmc.clashOfL S M kk ka kb kn).isSome = bf := ⟨_, rfl⟩
  rw [hbf] at KS KI
  clear hbf
  have hbb : (bf != bf) = false := by simp
  generalize (Tmc.clashOfL S M kk ka kb kn).getD [] = A at *
  clear hl
  obtain ⟨mm, hmm, hm0⟩ : ∃ mm : Int, tmkE 1 A = mm ∧ ¬ mm < 0 := ⟨_, rfl, by rw [tmkE_eq]; omega⟩
  have hm2 : (mm != mm) = false := by simp
  have KM : Hid (∀ V u lo hi, TmB A lo hi u V → Calls Try.prog 15 #[u, .int .i64 1] V fun e w' => e = .returned (.int .i64 mm) ∧ TmB (tmk 1 A) lo hi u w' ∧ Out lo hi V w') := Lib.hid fun V u lo hi g => by
    have := markTmB hA hAs g 1 (by omega) (by omega)
    rwa [hmm] at this
  have KH : Hid (∀ V u lo hi, TmB (tmk 1 A) lo hi u V → Calls Try.prog 16 #[u, .int .i64 1] V fun e w' => e = .returned (.int .i64 mm) ∧ Below V.heap.size V w') := Lib.hid fun V u lo hi g => by
    have := heldTmB hA hAs 1 (by omega) (by omega) g
    rwa [hmm] at this
  clear hmm
  have b0 : Below w.heap.size w (w.alloc (.cells #[.int .i64 kk, .int .i64 ka, .int .i64 kb, .int .i64 kn] 40)) := (Below.refl _ _).alloc (Nat.le_refl _) _
  have hbx := Tmc.StB.new w kk ka kb kn
  go_enter Try.func5, Try.ntmps5
  go_wp2_with fail
  refine (K0.out _ (H0.out.stepAt b0)).mono ?_
  rintro e w1 ⟨rfl, hb⟩
  have bw1 := b0.trans (hb.mono b0.size)
  have zw1 : w.heap.size ≤ w1.heap.size := bw1.size
  have rw1_bx := hbx.below hb
  have zbx : w.heap.size < w1.heap.size := rw1_bx.lt
  clear hb hbx b0
  go_wp2_with fail
  refine (K1.out _ (H1.out.stepAt bw1)).mono ?_
  rintro e w2 ⟨rfl, hb⟩
  have zw2 : w1.heap.size ≤ w2.heap.size := hb.size
  have bw2 := bw1.trans (hb.mono bw1.size)
  have rw2_bx := rw1_bx.below hb
  clear hb bw1 rw1_bx
  go_upto_region 8 with fail
  have BXwa := Lib.hid (fun V (g : Below w2.heap.size w2 V) => (rw2_bx.below g).c)
  obtain ⟨s0, s1, s2, s3⟩ := rw2_bx.c
  go_cut [8, 9] from 19 (fun p q wx => ∃ sa sc, p = .slice sa A.length sc ∧ q = .bool bf ∧ TmB A w2.heap.size wx.heap.size (.slice sa A.length sc) wx ∧ Below w2.heap.size w2 wx)
  case first =>
    go_region_held3 (fun V => V.cell? ⟨w.heap.size, 0, none⟩ = some (.int .i64 kk) ∧ V.cell? ⟨w.heap.size, 1, none⟩ = some (.int .i64 ka) ∧ V.cell? ⟨w.heap.size, 2, none⟩ = some (.int .i64 kb) ∧ V.cell? ⟨w.heap.size, 3, none⟩ = some (.int .i64 kn)) (go_keep)
      (first
        | (go_at_call 24; refine (toReleaseS_any _ S _ (H0.out.stepAt (bw2.trans (Below.mono (B := w2.heap.size) (by go_grown) bw2.size))) hlS hrS).mono ?_; rintro e v3 ⟨g3, rfl, kz3, hg3, hb3⟩; have n3 : Below w2.heap.size w2 v3 := Below.step (by go_grown) hb3; obtain ⟨x0, x1, x2, x3⟩ := BXwa.out v3 n3; have KZ3 := Lib.hid kz3; have N3 := Lib.hid n3; clear kz3 hg3 hb3 n3)
        | (go_at_call 25; refine (toNeedS_in _ M _ (H1.out.stepAt (bw2.trans (N3.out.mono bw2.size))) hlM hrM).mono ?_; rintro e v4 ⟨ga4, gc4, rfl, kz4, hb4⟩; have n4 := N3.out.trans (hb4.mono N3.out.size); obtain ⟨x0, x1, x2, x3⟩ := BXwa.out v4 n4; have KZ34 := Lib.hid (KZ3.out.below hb4); have KZ4 := Lib.hid kz4; have N4 := Lib.hid n4; clear kz4 hb4 n4)
        | (go_at_call 26; refine (Tmc.toStep_any kk ka kb kn _).mono ?_; rintro e v5 ⟨rfl, hb5⟩; have n5 := N4.out.trans (hb5.mono N4.out.size); obtain ⟨x0, x1, x2, x3⟩ := BXwa.out v5 n5; have KZ35 := Lib.hid (KZ34.out.below hb5); have KZ45 := Lib.hid (KZ4.out.below hb5); have N5 := Lib.hid n5; clear hb5 n5)
        | (go_at_call 23; refine (KS.out _ _ _ KZ35.out.at KZ45.out.at).mono ?_; rintro e v6 ⟨vv6, rfl, ht6, hb6⟩; obtain ⟨sa6, sc6, rfl⟩ := ht6.shape; have n6 := N5.out.trans (hb6.mono N5.out.size); obtain ⟨x0, x1, x2, x3⟩ := BXwa.out v6 n6; have HT6 := Lib.hid (ht6.mono N5.out.size); have N6 := Lib.hid n6; clear ht6 hb6 n6)
        | fail)
    all_goals
      go_wp2_with fail
      go_meet
      case rel => exact ⟨_, _, rfl, rfl, HT6.out, N6.out⟩
  case rest =>
    rename World => w3
    obtain ⟨sawa, scwa, rfl, rfl, hwa, hb⟩ := hcut
    clear s0 s1 s2 s3 BXwa
    have zw3 : w2.heap.size ≤ w3.heap.size := hb.size
    have bw3 := bw2.trans (hb.mono bw2.size)
    have rw3_bx := rw2_bx.below hb
    clear hb bw2 rw2_bx
    go_wp2_with fail
    refine (toReleaseS_ord _ S _ (H0.out.stepAt bw3) hlS hrS).mono ?_
    rintro e w4 ⟨ux0, rfl, hx0, hb⟩
    have zw4 : w3.heap.size ≤ w4.heap.size := hb.size
    have bw4 := bw3.trans (hb.mono bw3.size)
    have rw4_bx := rw3_bx.below hb
    have rw4_wa := hwa.below hb
    clear hb bw3 rw3_bx hwa
    obtain ⟨xa0, xc0, rfl, ee0⟩ := id hx0
    clear ee0
    go_wp2_with fail
    refine (toNeedS_in _ M _ (H1.out.stepAt bw4) hlM hrM).mono ?_
    rintro e w5 ⟨xa1, xc1, rfl, hx1, hb⟩
    have zw5 : w4.heap.size ≤ w5.heap.size := hb.size
    have bw5 := bw4.trans (hb.mono bw4.size)
    have rw5_bx := rw4_bx.below hb
    have rw5_wa := rw4_wa.below hb
    have rw5_x0 := hx0.below hb
    clear hb bw4 rw4_bx rw4_wa hx0
    obtain ⟨s0, s1, s2, s3⟩ := rw5_bx.c
    go_wp2_with fail
    refine (Tmc.toStep_any kk ka kb kn _).mono ?_
    rintro e w6 ⟨rfl, hb⟩
    have zw6 : w5.heap.size ≤ w6.heap.size := hb.size
    have bw6 := bw5.trans (hb.mono bw5.size)
    have rw6_bx := rw5_bx.below hb
    have rw6_wa := rw5_wa.below hb
    have rw6_x0 := rw5_x0.below hb
    have rw6_x1 := hx1.below hb
    clear hb bw5 rw5_bx rw5_wa rw5_x0 hx1
    clear s0 s1 s2 s3
    go_wp2_with fail
    refine (KI.out _ _ _ rw6_x0.at rw6_x1.at).mono ?_
    rintro e w7 ⟨vvg, rfl, hg, hb⟩
    have zw7 : w6.heap.size ≤ w7.heap.size := hb.size
    have bw7 := bw6.trans (hb.mono bw6.size)
    have rw7_bx := rw6_bx.below hb
    have rw7_wa := rw6_wa.below hb
    have rw7_x0 := rw6_x0.below hb
    have rw7_x1 := rw6_x1.below hb
    clear hb bw6 rw6_bx rw6_wa rw6_x0 rw6_x1
    obtain ⟨sag, scg, rfl⟩ := hg.shape
    go_wp2_with fail
    refine (eqTermS_same hA hAq hg.at rw7_wa.at).mono ?_
    rintro e w8 ⟨rfl, hb⟩
    have zw8 : w7.heap.size ≤ w8.heap.size := hb.size
    have bw8 := bw7.trans (hb.mono bw7.size)
    have rw8_bx := rw7_bx.below hb
    have rw8_wa := rw7_wa.below hb
    have rw8_x0 := rw7_x0.below hb
    have rw8_x1 := rw7_x1.below hb
    have rw8_g := hg.below hb
    clear hb bw7 rw7_bx rw7_wa rw7_x0 rw7_x1 hg
    go_wp2_with fail
    refine (toReleaseS_any _ S _ (H0.out.stepAt bw8) hlS hrS).mono ?_
    rintro e w9 ⟨gzw9, rfl, kzw9, hgz, hb⟩
    clear hgz
    have zw9 : w8.heap.size ≤ w9.heap.size := hb.size
    have bw9 := bw8.trans (hb.mono bw8.size)
    have rw9_bx := rw8_bx.below hb
    have rw9_wa := rw8_wa.below hb
    have rw9_x0 := rw8_x0.below hb
    have rw9_x1 := rw8_x1.below hb
    have rw9_g := rw8_g.below hb
    clear hb bw8 rw8_bx rw8_wa rw8_x0 rw8_x1 rw8_g
    go_wp2_with fail
    refine (eqReleaseS_same hlS hrS rw9_x0.at kzw9.at).mono ?_
    rintro e w10 ⟨rfl, hb⟩
    have zw10 : w9.heap.size ≤ w10.heap.size := hb.size
    have bw10 := bw9.trans (hb.mono bw9.size)
    have rw10_bx := rw9_bx.below hb
    have rw10_wa := rw9_wa.below hb
    have rw10_x0 := rw9_x0.below hb
    have rw10_x1 := rw9_x1.below hb
    have rw10_g := rw9_g.below hb
    have rw10_z0 := kzw9.below hb
    clear hb bw9 rw9_bx rw9_wa rw9_x0 rw9_x1 rw9_g kzw9
    clear rw10_z0
    go_wp2_with fail
    refine (toNeedS_in _ M _ (H1.out.stepAt bw10) hlM hrM).mono ?_
    rintro e w11 ⟨gaw11, gcw11, rfl, kzw11, hb⟩
    have zw11 : w10.heap.size ≤ w11.heap.size := hb.size
    have bw11 := bw10.trans (hb.mono bw10.size)
    have rw11_bx := rw10_bx.below hb
    have rw11_wa := rw10_wa.below hb
    have rw11_x0 := rw10_x0.below hb
    have rw11_x1 := rw10_x1.below hb
    have rw11_g := rw10_g.below hb
    clear hb bw10 rw10_bx rw10_wa rw10_x0 rw10_x1 rw10_g
    go_wp2_with fail
    refine (eqNeedS_same hlM hrM rw11_x1.at kzw11.at).mono ?_
    rintro e w12 ⟨rfl, hb⟩
    have zw12 : w11.heap.size ≤ w12.heap.size := hb.size
    have bw12 := bw11.trans (hb.mono bw11.size)
    have rw12_bx := rw11_bx.below hb
    have rw12_wa := rw11_wa.below hb
    have rw12_x0 := rw11_x0.below hb
    have rw12_x1 := rw11_x1.below hb
    have rw12_g := rw11_g.below hb
    have rw12_z1 := kzw11.below hb
    clear hb bw11 rw11_bx rw11_wa rw11_x0 rw11_x1 rw11_g kzw11
    clear rw12_z1
    go_wp2_with fail
    refine (markReleaseS_out hlS hzS rw12_x0 1 (by omega) (by omega)).mono ?_
    rintro e w13 ⟨⟨k0, rfl, kl0, ku0⟩, ho⟩
    clear rw12_x0
    have ry0_1 := NIn.out rw12_x1 ho (by omega)
    clear rw12_x1
    have zw13 : w12.heap.size ≤ w13.heap.size := ho.size
    have bw13 := ho.below bw12 (by omega) (by omega)
    have rw13_bx := rw12_bx.out ho (by omega)
    have rw13_wa := rw12_wa.out ho (by omega)
    have rw13_g := rw12_g.out ho (by omega)
    clear ho bw12 rw12_bx rw12_wa rw12_g
    go_wp2_with fail
    refine (markNIn hlM hzM ry0_1 k0 (by omega) (by omega)).mono ?_
    rintro e w14 ⟨⟨k1, rfl, kl1, ku1⟩, ho⟩
    clear ry0_1
    have zw14 : w13.heap.size ≤ w14.heap.size := ho.size
    have bw14 := ho.below bw13 (by omega) (by omega)
    have rw14_bx := rw13_bx.out ho (by omega)
    have rw14_wa := rw13_wa.out ho (by omega)
    have rw14_g := rw13_g.out ho (by omega)
    clear ho bw13 rw13_bx rw13_wa rw13_g
    have hk2 : ¬ (k1 < 0) := by omega
    go_wp2_with fail
    refine (eqTermS_same hA hAq rw14_g.at rw14_wa.at).mono ?_
    rintro e w15 ⟨rfl, hb⟩
    have zw15 : w14.heap.size ≤ w15.heap.size := hb.size
    have bw15 := bw14.trans (hb.mono bw14.size)
    have rw15_bx := rw14_bx.below hb
    have rw15_wa := rw14_wa.below hb
    have rw15_g := rw14_g.below hb
    clear hb bw14 rw14_bx rw14_wa rw14_g
    go_wp2_with fail
    refine (KM.out _ _ _ _ rw15_g).mono ?_
    rintro e w16 ⟨rfl, hg1, ho⟩
    clear rw15_g
    have zw16 : w15.heap.size ≤ w16.heap.size := ho.size
    have bw16 := ho.below bw15 (by omega) (by omega)
    have rw16_bx := rw15_bx.out ho (by omega)
    have rw16_wa := rw15_wa.out ho (by omega)
    clear ho bw15 rw15_bx rw15_wa
    go_wp2_with fail
    refine (KH.out _ _ _ _ hg1).mono ?_
    rintro e w17 ⟨rfl, hb⟩
    have zw17 : w16.heap.size ≤ w17.heap.size := hb.size
    have bw17 := bw16.trans (hb.mono bw16.size)
    have rw17_bx := rw16_bx.below hb
    have rw17_wa := rw16_wa.below hb
    have rw17_g := hg1.below hb
    clear hb bw16 rw16_bx rw16_wa hg1
    go_upto_region 31 with fail
    have BXwb := Lib.hid (fun V (g : Below w17.heap.size w17 V) => (rw17_bx.below g).c)
    obtain ⟨s0, s1, s2, s3⟩ := rw17_bx.c
    go_cut [17, 18] from 19 (fun p q wx => ∃ sa sc, p = .slice sa A.length sc ∧ q = .bool bf ∧ TmB A w17.heap.size wx.heap.size (.slice sa A.length sc) wx ∧ Below w17.heap.size w17 wx)
    case first =>
      go_region_held3 (fun V => V.cell? ⟨w.heap.size, 0, none⟩ = some (.int .i64 kk) ∧ V.cell? ⟨w.heap.size, 1, none⟩ = some (.int .i64 ka) ∧ V.cell? ⟨w.heap.size, 2, none⟩ = some (.int .i64 kb) ∧ V.cell? ⟨w.heap.size, 3, none⟩ = some (.int .i64 kn)) (go_keep)
        (first
          | (go_at_call 24; refine (toReleaseS_any _ S _ (H0.out.stepAt (bw17.trans (Below.mono (B := w17.heap.size) (by go_grown) bw17.size))) hlS hrS).mono ?_; rintro e v3 ⟨g3, rfl, kz3, hg3, hb3⟩; have n3 : Below w17.heap.size w17 v3 := Below.step (by go_grown) hb3; obtain ⟨x0, x1, x2, x3⟩ := BXwb.out v3 n3; have KZ3 := Lib.hid kz3; have N3 := Lib.hid n3; clear kz3 hg3 hb3 n3)
          | (go_at_call 25; refine (toNeedS_in _ M _ (H1.out.stepAt (bw17.trans (N3.out.mono bw17.size))) hlM hrM).mono ?_; rintro e v4 ⟨ga4, gc4, rfl, kz4, hb4⟩; have n4 := N3.out.trans (hb4.mono N3.out.size); obtain ⟨x0, x1, x2, x3⟩ := BXwb.out v4 n4; have KZ34 := Lib.hid (KZ3.out.below hb4); have KZ4 := Lib.hid kz4; have N4 := Lib.hid n4; clear kz4 hb4 n4)
          | (go_at_call 26; refine (Tmc.toStep_any kk ka kb kn _).mono ?_; rintro e v5 ⟨rfl, hb5⟩; have n5 := N4.out.trans (hb5.mono N4.out.size); obtain ⟨x0, x1, x2, x3⟩ := BXwb.out v5 n5; have KZ35 := Lib.hid (KZ34.out.below hb5); have KZ45 := Lib.hid (KZ4.out.below hb5); have N5 := Lib.hid n5; clear hb5 n5)
          | (go_at_call 27; refine (KI.out _ _ _ KZ35.out.at KZ45.out.at).mono ?_; rintro e v6 ⟨vv6, rfl, ht6, hb6⟩; obtain ⟨sa6, sc6, rfl⟩ := ht6.shape; have n6 := N5.out.trans (hb6.mono N5.out.size); obtain ⟨x0, x1, x2, x3⟩ := BXwb.out v6 n6; have HT6 := Lib.hid (ht6.mono N5.out.size); have N6 := Lib.hid n6; clear ht6 hb6 n6)
          | fail)
      all_goals
        go_wp2_with fail
        go_meet
        case rel => exact ⟨_, _, rfl, rfl, HT6.out, N6.out⟩
    case rest =>
      rename World => w18
      obtain ⟨sawb, scwb, rfl, rfl, hwb, hb⟩ := hcut
      clear s0 s1 s2 s3 BXwb
      have zw18 : w17.heap.size ≤ w18.heap.size := hb.size
      have bw18 := bw17.trans (hb.mono bw17.size)
      have rw18_bx := rw17_bx.below hb
      have rw18_wa := rw17_wa.below hb
      have rw18_g := rw17_g.below hb
      clear hb bw17 rw17_bx rw17_wa rw17_g
      go_wp2_with fail
      refine (eqTermS_same hA hAq hwb.at rw18_wa.at).mono ?_
      rintro e w19 ⟨rfl, hb⟩
      have zw19 : w18.heap.size ≤ w19.heap.size := hb.size
      have bw19 := bw18.trans (hb.mono bw18.size)
      have rw19_bx := rw18_bx.below hb
      have rw19_wa := rw18_wa.below hb
      have rw19_g := rw18_g.below hb
      have rw19_wb := hwb.below hb
      clear hb bw18 rw18_bx rw18_wa rw18_g hwb
      go_wp2_with fail
      refine (KH.out _ _ _ _ rw19_g).mono ?_
      rintro e w20 ⟨rfl, hb⟩
      have zw20 : w19.heap.size ≤ w20.heap.size := hb.size
      have bw20 := bw19.trans (hb.mono bw19.size)
      have rw20_bx := rw19_bx.below hb
      have rw20_wa := rw19_wa.below hb
      have rw20_g := rw19_g.below hb
      have rw20_wb := rw19_wb.below hb
      clear hb bw19 rw19_bx rw19_wa rw19_g rw19_wb
      go_wp2_with fail
      go_ret
      exact ⟨rfl, bw20⟩

set_option maxRecDepth 100000 in
theorem law : LawWalk Try.prog 5 Try.f5 := by
  intro H enc W base args ds ps hval hA
  rw [Try.params5] at hA hval
  obtain ⟨v0, vs0, d0, es0, p0, q0, hargs, rfl, rfl, h0, r0⟩ := trodAll_cons hA
  obtain ⟨v1, vs1, d1, es1, p1, q1, rfl, rfl, rfl, h1, r1⟩ := trodAll_cons r0
  obtain ⟨v2, vs2, d2, es2, p2, q2, rfl, rfl, rfl, h2, r2⟩ := trodAll_cons r1
  obtain ⟨rfl, rfl, rfl⟩ := trodAll_nil r2
  obtain rfl : args = #[v0, v1, v2] := by cases args; simp_all
  obtain ⟨a0, c0, S, rfl, g0, m0, q0x⟩ := open_rels (hval 0 _ v0 rfl rfl) h0
  obtain ⟨a1, c1, M, rfl, g1, m1, q1x⟩ := open_needs (hval 1 _ v1 rfl rfl) h1
  obtain ⟨kk, ka, kb, kn, rfl⟩ := Tmc.open_step (hval 2 _ v2 rfl rfl) h2
  by_cases hl : (S.length + rlSz S) + (M.length + ndSz M) ≤ 1048576
  · exact short _ _ S M kk ka kb kn W  g0 g1 hl
  · exact long _ _ S M kk ka kb kn W m0 q0x m1 q1x  g0 g1 (by omega)
end Ltc

set_option maxRecDepth 100000 in
theorem exactClashOf_holds : Rows.FnExactClashOfSaid :=
  OpenClaim.holds_of_wide 5 Try.f5 rfl rfl rfl rfl rfl rfl rfl ⟨rfl, rfl, rfl, rfl, rfl⟩ rfl rfl rfl rfl rfl (by kernel_rfl) Try.func5 (by kernel_rfl)
    (of_decide_eq_true (by kernel_rfl)) (by unfold Func.isWrapper; rw [if_neg (by decide +kernel)]; exact ⟨rfl, rfl⟩)
    (fun os started H enc _ => law_lifted (s := Rows.fnExactClashOfSpec) (tb := 4) own started laid (by kernel_rfl) Try.func5 rfl (by kernel_rfl) Try.underlying4 (by kernel_rfl)
      (fun ds h => by rw [Try.params5] at h; match ds, h with | [_, _, _], _ => rfl)
      (ChangeSpec.witness6 (enc := enc) (C := Try.checked) false ⟨#[], #[.slice none 0 0, .slice none 0 0, .agg #[.int .i64 0, .int .i64 0, .int .i64 0, .int .i64 0]], []⟩ 8 (by kernel_rfl) (by kernel_rfl) (by kernel_rfl) (by kernel_rfl))
      Ltc.law)
#print axioms exactClashOf_holds
end Go.Proofs.Ytdhbjjolgmodjaa
