/- The contract of the model's ClashOf for a step that tells a name of the shelf, over this seat's translation. Nothing that was there before a call has changed. Condition: a shelf, needs. -/
import Derived.BigQuiet
import Derived.Deep.RegionHeld3
import Derived.Test.YtdhbjjolgmodjaaCui
import Derived.Test.YtdhbjjolgmodjaaSpnot
import Derived.Test.YtdhbjjolgmodjaaSpor
import Derived.Test.YtdhbjjolgmodjaaSpone
namespace Go.Proofs.Ytdhbjjolgmodjaa
open Go.RowKit Go.Sort

namespace Tmc
open Foot
/-- What the loop over the shelf keeps. -/
structure SbR (nm : Int) (S : List Rel) (W : World) (i : Value) (wr : World) : Prop where
  out : ∃ (k : Nat) (T : Sps) (a : Option Addr) (c : Nat), k ≤ S.length ∧ i = .int .i64 (k : Int) ∧ absGo nm S [] = absGo nm (S.drop k) T ∧ spOk T = true ∧ T.length ≤ k ∧
    wr.cell? ⟨W.heap.size, 0, none⟩ = some (.slice a T.length c) ∧ wr.frozen? ⟨W.heap.size, 0, none⟩ = false ∧ SRes T (W.heap.size + 1) (.slice a T.length c) wr ∧ W.heap.size + 1 ≤ wr.heap.size ∧ Below W.heap.size W wr
theorem rk_get {w : World} {sa : Option Addr} {sc : Nat} {S : List Rel} (h : RlAt w w.heap.size (.slice sa S.length sc) S) {k : Nat} (hk : k < S.length) :
    ∃ b o x va vb vc vd g Q, sa = some ⟨b, o, none⟩ ∧ b < w.heap.size ∧ S[k]? = some (x, (va, vb, vc, vd), g, Q) ∧ ∀ V, Below w.heap.size w V → V.cell? ⟨b, o + k * 7, none⟩ = some (.int .i64 x) ∧ V.cell? ⟨b, o + k * 7 + 1, none⟩ = some (.int .i64 va) ∧ V.cell? ⟨b, o + k * 7 + 2, none⟩ = some (.int .i64 vb) ∧ V.cell? ⟨b, o + k * 7 + 3, none⟩ = some (.int .i64 vc) ∧ V.cell? ⟨b, o + k * 7 + 4, none⟩ = some (.int .i64 vd) ∧ V.cell? ⟨b, o + k * 7 + 5, none⟩ = some (.bool g) := by
  obtain ⟨a, cap, hv, h⟩ := h
  injection hv with e1 _ e2
  subst e1
  subst e2
  rcases h with h | ⟨b, o, rfl, hB, hc⟩
  · subst h
    simp at hk
  obtain ⟨x, va, vb, vc, vd, g, Q, hx⟩ : ∃ x va vb vc vd g Q, S[k] = (x, (va, vb, vc, vd), g, Q) := ⟨_, _, _, _, _, _, _, rfl⟩
  refine ⟨b, o, x, va, vb, vc, vd, g, Q, rfl, hB, by rw [List.getElem?_eq_getElem hk, hx], fun V hb => ?_⟩
  have c := (hc k hk).below hb hB
  rw [hx] at c
  exact c.1
set_option maxRecDepth 100000 in
set_option maxHeartbeats 8000000 in
theorem specClashOf_shelf (u v : Value) (S : List Rel) (M : List Nd) (A B N : Int) (w : World) (hS : S.length ≤ 1048576) (hq : ∀ q ∈ S, q.2.2.2.length ≤ 1048576 ∧ ∀ p ∈ q.2.2.2, p.2.length ≤ 1048576) (hM : M.length ≤ 1048576) (hm : ∀ q ∈ M, q.2.length ≤ 1048576)
    (hs : shOk S = true) (hn : ndOk M = true) (h : RlAt w w.heap.size u S) (h2 : NdAt w w.heap.size v M) :
    Calls Try.prog 23 #[u, v, stepV 2 A B N] w (TbPost (cofS S A B N) w) := by
  obtain ⟨a, cap, rfl, hx⟩ := id h
  clear hx
  obtain ⟨a', cap', rfl, hN⟩ := id h2
  have b1 := (Below.refl w.heap.size w).alloc (Nat.le_refl _) (.cells #[.int .i64 2, .int .i64 A, .int .i64 B, .int .i64 N] 48)
  have hz : w.heap.size < (w.alloc (.cells #[.int .i64 2, .int .i64 A, .int .i64 B, .int .i64 N] 48)).heap.size := by simp
  have x0 : (w.alloc (.cells #[.int .i64 2, .int .i64 A, .int .i64 B, .int .i64 N] 48)).cell? ⟨w.heap.size, 0, none⟩ = some (.int .i64 2) := by go_simp
  have x1 : (w.alloc (.cells #[.int .i64 2, .int .i64 A, .int .i64 B, .int .i64 N] 48)).cell? ⟨w.heap.size, 1, none⟩ = some (.int .i64 A) := by go_simp
  have x2 : (w.alloc (.cells #[.int .i64 2, .int .i64 A, .int .i64 B, .int .i64 N] 48)).cell? ⟨w.heap.size, 2, none⟩ = some (.int .i64 B) := by go_simp
  have x3 : (w.alloc (.cells #[.int .i64 2, .int .i64 A, .int .i64 B, .int .i64 N] 48)).cell? ⟨w.heap.size, 3, none⟩ = some (.int .i64 N) := by go_simp
  have H1 := Lib.hid ((h.below b1).mono b1.size)
  have H2 := Lib.hid ((h2.below b1).mono b1.size)
  have HB := Lib.hid b1
  have HX := Lib.hid (And.intro x0 (And.intro x1 (And.intro x2 (And.intro x3 hz))))
  have KS : Hid (∀ V, RlAt V V.heap.size (.slice a S.length cap) S → Calls Try.prog 65 #[.slice a S.length cap] V fun e w' => e = .returned (.bool true) ∧ Below V.heap.size V w') := Lib.hid fun V g => by rw [← hs]; exact specShelfOk_any _ S V hS hq g
  have KN : Hid (∀ V, NdAt V V.heap.size (.slice a' M.length cap') M → Calls Try.prog 66 #[.slice a' M.length cap'] V fun e w' => e = .returned (.bool true) ∧ Below V.heap.size V w') := Lib.hid fun V g => by rw [← hn]; exact specNeedsOk_any _ M V hM hm g
  have HRL := Lib.hid h
  have hS30 := shOk_le hs
  clear hN
  clear h h2 b1 x0 x1 x2 x3 hz hs hn
  go_enter Try.func23, Try.ntmps23
  go_wp2_with fail
  refine (KS.out _ H1.out).mono ?_
  rintro e w2 ⟨rfl, hb⟩
  have H3 := Lib.hid ((H2.out.below hb).mono hb.size)
  have HB2 := Lib.hid (HB.out.trans (hb.mono HB.out.size))
  have n2 := Lib.hid hb
  clear hb
  go_wp2_with fail
  refine (KN.out _ H3.out).mono ?_
  rintro e w3 ⟨rfl, hb⟩
  have HB3 := Lib.hid (HB2.out.trans (hb.mono HB2.out.size))
  have n3 := n2.out.trans (hb.mono n2.out.size)
  have c0 := (n3.cell (p := ⟨w.heap.size, 0, none⟩) HX.out.2.2.2.2).trans HX.out.1
  have c1 := (n3.cell (p := ⟨w.heap.size, 1, none⟩) HX.out.2.2.2.2).trans HX.out.2.1
  have c2 := (n3.cell (p := ⟨w.heap.size, 2, none⟩) HX.out.2.2.2.2).trans HX.out.2.2.1
  have c3 := (n3.cell (p := ⟨w.heap.size, 3, none⟩) HX.out.2.2.2.2).trans HX.out.2.2.2.1
  have z3 : w.heap.size < w3.heap.size := by have := n3.size; have := HX.out.2.2.2.2; omega
  clear hb n3
  have b3 := HB3.out
  have hz0 : w.heap.size < w3.heap.size := z3
  have v0 := cell_regrown c0
  go_wp2_with fail
  refine wp_region_quiet_below (by kernel_rfl) (by kernel_rfl) ?_
  repeat (any_goals (first | go_big_quiet_step (fail) | quiet_step (fail)))
  refine wpQuiet_nil ?_
  intro w5 hw5
  have nn := quiet_end hw5
  clear hw5 v0
  have e0 := (nn.cell (p := ⟨w.heap.size, 0, none⟩) z3).trans c0
  have e1 := (nn.cell (p := ⟨w.heap.size, 1, none⟩) z3).trans c1
  have e2 := (nn.cell (p := ⟨w.heap.size, 2, none⟩) z3).trans c2
  have e3 := (nn.cell (p := ⟨w.heap.size, 3, none⟩) z3).trans c3
  have b5 := b3.trans (nn.mono b3.size)
  have z5 : w.heap.size < w5.heap.size := by have := nn.size; omega
  clear nn c0 c1 c2 c3 b3
  by_cases hA : A = 0
  case neg =>
    have HO := Lib.hid (show cofS S A B N = none from if_neg fun k => hA k.1)
    have hAb : (A == 0) = false := beq_eq_false_iff_ne.2 hA
    clear hA e2 e3
    go_wp2_with fail
    exact bodyPost_ret (v := .tuple #[.slice (some ⟨w5.heap.size, 0, none⟩) 0 0, .bool false]) (by simp [results, Try.results23, go_sem]) rfl ⟨_, by rw [HO.out]; rfl, by rw [HO.out]; exact TmB.nil _ _ _ _ _, b5.alloc b5.size _⟩
  subst hA
  by_cases hB : B = 0
  case neg =>
    have HO := Lib.hid (show cofS S 0 B N = none from if_neg fun k => hB k.2.1)
    have hBb : (B == 0) = false := beq_eq_false_iff_ne.2 hB
    clear hB e3
    go_wp2_with fail
    exact bodyPost_ret (v := .tuple #[.slice (some ⟨w5.heap.size, 0, none⟩) 0 0, .bool false]) (by simp [results, Try.results23, go_sem]) rfl ⟨_, by rw [HO.out]; rfl, by rw [HO.out]; exact TmB.nil _ _ _ _ _, b5.alloc b5.size _⟩
  subst hB
  have KI : Hid (∀ V, Calls Try.prog 67 #[.int .i64 N, .int .i64 0, .int .i64 7] V fun e w' => e = .returned (.bool (inB N 0 7)) ∧ Below V.heap.size V w') := Lib.hid fun V => l1In_below _ _ _ V
  rcases hI : inB N 0 7
  · have HO := Lib.hid (show cofS S 0 0 N = none from if_neg fun k => by rw [hI] at k; exact absurd k.2.2 (by decide))
    rw [hI] at KI
    clear hI
    go_wp2_with fail
    refine (KI.out _).mono ?_
    rintro e w6 ⟨rfl, hb⟩
    have b6 := b5.trans (hb.mono b5.size)
    clear hb e0 e1 e2 e3
    go_wp2_with fail
    exact bodyPost_ret (v := .tuple #[.slice (some ⟨w6.heap.size, 0, none⟩) 0 0, .bool false]) (by simp [results, Try.results23, go_sem]) rfl ⟨_, by rw [HO.out]; rfl, by rw [HO.out]; exact TmB.nil _ _ _ _ _, b6.alloc b6.size _⟩
  have HO := Lib.hid (show cofS S 0 0 N = (absL N S).map fun R => [(N, R, false)] from if_pos ⟨rfl, rfl, hI⟩)
  rw [hI] at KI
  clear hI
  go_wp2_with fail
  refine (KI.out _).mono ?_
  rintro e w6 ⟨rfl, hb⟩
  have b6 := b5.trans (hb.mono b5.size)
  have f3 := (hb.cell (p := ⟨w.heap.size, 3, none⟩) z5).trans e3
  have z6 : w.heap.size < w6.heap.size := by have := hb.size; omega
  clear hb e0 e1 e2 e3 b5 KI
  have HS := Lib.hid (show SbR N S w6 (.int .i64 0) (w6.alloc (.cells #[.slice none 0 0] 81)) from
    ⟨0, [], none, 0, Nat.zero_le _, rfl, rfl, nil_ok, Nat.le_refl _, by go_simp, by go_simp, none_res _ _, by simp, (Below.refl _ _).alloc (Nat.le_refl _) _⟩)
  have B6 := Lib.hid b6
  have F3 := Lib.hid (show ∀ V, Below w6.heap.size w6 V → V.cell? ⟨w.heap.size, 3, none⟩ = some (.int .i64 N) from fun V g => (g.cell (p := ⟨w.heap.size, 3, none⟩) z6).trans f3)
  clear f3 b6
  go_wp2_with fail
  go_loopw [14] (fun i wr => SbR N S w6 i wr) (fun i _ => S.length - (intOf i).toNat)
  case atStart => exact HS.out
  case round =>
    obtain ⟨k, T, ta, tc, hk, rfl, he, ho, hT, r0, r1, hr, hz, hb⟩ := hrel.out
    have HE := Lib.hid he
    have HT := Lib.hid (And.intro ho hT)
    clear he ho hT hrel HS
    have bw := B6.out.trans (hb.mono B6.out.size)
    by_cases hlt : k < S.length
    · obtain ⟨b, o, x, va, vb, vc, vd, g, Q, rfl, hB, hxy, hc⟩ := rk_get HRL.out hlt
      have HXY := Lib.hid hxy
      have CC := Lib.hid hc
      have HST := Lib.hid (abs_step (nm := N) (T := T) hxy)
      clear hxy hc
      have i0 : (0 : Int) ≤ (k : Int) := by omega
      have i1 : (k : Int) < (S.length : Int) := by omega
      have zb : b < wr.heap.size := by have := bw.size; omega
      have t0 := cell_regrown (CC.out wr bw).1
      have t1 := cell_regrown (CC.out wr bw).2.2.2.2.2
      have t2 := cell_regrown (F3.out wr hb)
      have HR := Lib.hid hr
      have HB := Lib.hid hb
      have R0 := Lib.hid r0
      have R1 := Lib.hid r1
      clear r0 r1 hr
      have QD : ∀ W2, Below wr.heap.size wr W2 → Below w6.heap.size w6 W2 ∧ Below w.heap.size w W2 ∧ W2.cell? ⟨w6.heap.size, 0, none⟩ = some (.slice ta T.length tc) ∧ W2.frozen? ⟨w6.heap.size, 0, none⟩ = false ∧ SRes T (w6.heap.size + 1) (.slice ta T.length tc) W2 := fun W2 nn =>
        ⟨HB.out.trans (nn.mono HB.out.size), bw.trans (nn.mono bw.size), (nn.cell (p := ⟨w6.heap.size, 0, none⟩) hz).trans R0.out, (nn.frozen (p := ⟨w6.heap.size, 0, none⟩) hz).trans R1.out, HR.out.below nn⟩
      have QH := Lib.hid QD
      clear QD hb
      by_cases hin : x = N ∧ g = false
      · have HG := Lib.hid (HE.out.trans (HST.out.trans (congrArg _ (if_pos hin))))
        obtain ⟨oo, os, ol⟩ := or_one HT.out.1 HT.out.2 (show k ≤ 30 by omega) va vb vc vd
        have HOO := Lib.hid (And.intro os ol)
        have KO : Hid (∀ v V, SpAt V V.heap.size (.slice ta T.length tc) T → SpAt V V.heap.size v (oneL va vb vc vd) → Calls Try.prog 46 #[.agg #[.slice ta T.length tc], .agg #[v]] V (TPost true (orR T (oneL va vb vc vd)) V)) := Lib.hid fun v V g1 g2 => by
          rw [← oo]; exact specOr_any _ v T _ V (by have := HT.out.2; omega) (by have := one_len va vb vc vd; omega) g1 g2
        obtain ⟨rfl, rfl⟩ := hin
        clear oo os ol
        go_wp2_with fail
        refine wp_region_quiet_below (by kernel_rfl) (by kernel_rfl) ?_
        repeat (any_goals (first | go_big_quiet_step (fail) | quiet_step (fail)))
        refine wpQuiet_nil ?_
        intro w4 hw
        have nn := quiet_end hw
        clear hw t0 t1 t2
        obtain ⟨m6, mw, q0, q1, qr⟩ := QH.out w4 nn
        have HR4 := Lib.hid qr
        have M6 := Lib.hid m6
        obtain ⟨_, c1, c2, c3, c4, _⟩ := CC.out w4 mw
        have z4 := nn.size
        have zp : w6.heap.size < w4.heap.size := by omega
        have zb4 : b < w4.heap.size := by omega
        have npa := Nat.ne_of_lt zp
        have npb := (Nat.ne_of_lt zp).symm
        have nba := Nat.ne_of_lt zb4
        have nbb := (Nat.ne_of_lt zb4).symm
        clear nn qr m6 mw
        go_upto_region 20 with fail
        go_region_law
          (first
            | (go_simp; go_at_call 70; refine (specOne_any va vb vc vd _).mono ?_; rintro e w5 ⟨v5, rfl, ⟨oa, oc, rfl, hro⟩, hb5⟩; have n5 : Below w4.heap.size w4 w5 := Below.step (by go_grown) hb5; have y0 := (n5.cell (p := ⟨w6.heap.size, 0, none⟩) zp).trans q0; have y1 := (n5.cell (p := ⟨b, o + k * 7 + 1, none⟩) zb4).trans c1; have y2 := (n5.cell (p := ⟨b, o + k * 7 + 2, none⟩) zb4).trans c2; have y3 := (n5.cell (p := ⟨b, o + k * 7 + 3, none⟩) zb4).trans c3; have y4 := (n5.cell (p := ⟨b, o + k * 7 + 4, none⟩) zb4).trans c4; have z5 := n5.size; have zp5 : w6.heap.size < w5.heap.size := (by omega); have zb5 : b < w5.heap.size := (by omega); have HQ5 := Lib.hid (SRes.at (L := oneL va vb vc vd) (v := .slice oa (oneL va vb vc vd).length oc) ⟨oa, oc, rfl, hro⟩); have HN5 := Lib.hid n5; clear hro hb5 n5)
            | (go_simp; go_at_call 46; refine (KO.out _ _ (spStep (HR4.out.below HN5.out).at (by go_grown)) (spStep HQ5.out (by go_grown))).mono ?_; rintro e w7 ⟨v7, rfl, q7, hb7⟩; obtain ⟨pa, pc, rfl, _⟩ := id q7; have n7 : Below w5.heap.size w5 w7 := Below.step (by go_grown) hb7; have n47 := HN5.out.trans (n7.mono HN5.out.size); have s0 := (n47.cell (p := ⟨w6.heap.size, 0, none⟩) zp).trans q0; have s1 := (n47.cell (p := ⟨b, o + k * 7 + 1, none⟩) zb4).trans c1; have s2 := (n47.cell (p := ⟨b, o + k * 7 + 2, none⟩) zb4).trans c2; have s3 := (n47.cell (p := ⟨b, o + k * 7 + 3, none⟩) zb4).trans c3; have s4 := (n47.cell (p := ⟨b, o + k * 7 + 4, none⟩) zb4).trans c4; have u0 := (n47.frozen (p := ⟨w6.heap.size, 0, none⟩) zp).trans q1; have z7 := n47.size; have zp7 : w6.heap.size < w7.heap.size := (by omega); have zb7 : b < w7.heap.size := (by omega); have HQ7 := Lib.hid q7; have HN7 := Lib.hid (M6.out.trans (n47.mono M6.out.size)); have z57 := n7.size; clear q7 hb7 n7 n47)
            | fail)
        all_goals
          have hbs := HN7.out
          have HF := Lib.hid (show SbR x S w6 (.int .i64 ((k : Int) + 1)) (w7.setCell ⟨w6.heap.size, 0, none⟩ (.slice pa (orR T (oneL va vb vc vd)).length pc)) from
            ⟨k + 1, _, pa, pc, by omega, by go_num, HG.out, HOO.out.1, HOO.out.2, by go_simp, by go_simp, (resSet HQ7.out (by omega)).mono (by omega), by simp; omega, hbs.setCell (p := ⟨w6.heap.size, 0, none⟩) (Nat.le_refl _) _⟩)
          clear hbs
          go_wp2_with fail
          go_roundw
          case rel => exact HF.out
          case measure => simp [intOf]; omega
      · have HG := Lib.hid (HE.out.trans (HST.out.trans (congrArg _ (if_neg hin))))
        have HP := Lib.hid (fun W2 nn => show SbR N S w6 (.int .i64 ((k : Int) + 1)) W2 from ⟨k + 1, T, ta, tc, by omega, by go_num, HG.out, HT.out.1, by have := HT.out.2; omega, (QH.out W2 nn).2.2.1, (QH.out W2 nn).2.2.2.1, (QH.out W2 nn).2.2.2.2, by have := nn.size; omega, (QH.out W2 nn).1⟩)
        by_cases hx : x = N
        · obtain rfl : g = true := by rcases g with _ | _ <;> simp_all
          subst hx
          clear hin
          go_wp2_with fail
          refine wp_region_quiet_below (by kernel_rfl) (by kernel_rfl) ?_
          repeat (any_goals (first | go_big_quiet_step (fail) | quiet_step (fail)))
          refine wpQuiet_nil ?_
          intro w4 hw
          have nn := quiet_end hw
          have HF := Lib.hid (HP.out w4 nn)
          clear hw t0 t1 t2 nn
          go_wp2_with fail
          go_roundw
          case rel => exact HF.out
          case measure => simp [intOf]; omega
        · have hxb : (x == N) = false := beq_eq_false_iff_ne.2 hx
          clear hin
          go_wp2_with fail
          refine wp_region_quiet_below (by kernel_rfl) (by kernel_rfl) ?_
          repeat (any_goals (first | go_big_quiet_step (fail) | quiet_step (fail)))
          refine wpQuiet_nil ?_
          intro w4 hw
          have nn := quiet_end hw
          have HF := Lib.hid (HP.out w4 nn)
          clear hw t0 t1 t2 nn
          go_wp2_with fail
          go_roundw
          case rel => exact HF.out
          case measure => simp [intOf]; omega
    · obtain rfl : k = S.length := by omega
      have HR := Lib.hid hr
      have HGO := Lib.hid (show absGo N S [] = T by rw [HE.out, List.drop_length]; rfl)
      have K : Hid (∀ V, SpAt V V.heap.size (.slice ta T.length tc) T → Calls Try.prog 68 #[.agg #[.slice ta T.length tc]] V (TPost (notOk T) (notR T) V)) := Lib.hid fun V g => specNot_any _ T V (by have := HT.out.2; omega) g
      have f3 := F3.out wr hb
      have zw : w.heap.size < wr.heap.size := by have := hb.size; omega
      have HBW := Lib.hid bw
      clear hr hb bw
      rcases ht : notOk T
      · have HU := Lib.hid (show cofS S 0 0 N = none by rw [HO.out]; unfold absL; rw [HGO.out, ht]; rfl)
        rw [ht] at K
        clear ht
        go_wp2_with fail
        refine (K.out _ HR.out.at).mono ?_
        rintro e w7 ⟨v7, rfl, q7, hb7⟩
        obtain ⟨pa, pc, rfl, _⟩ := id q7
        have b7 := HBW.out.trans (hb7.mono HBW.out.size)
        clear q7 hb7
        go_wp2_with fail
        exact bodyPost_ret (v := .tuple #[.slice (some ⟨w7.heap.size + 1, 0, none⟩) 0 0, .bool false]) (by simp [results, Try.results23, go_sem]) rfl ⟨_, by rw [HU.out]; rfl, by rw [HU.out]; exact TmB.nil _ _ _ _ _, (b7.alloc b7.size _).alloc (by have := b7.size; simp; omega) _⟩
      · have HU := Lib.hid (show cofS S 0 0 N = some [(N, notR T, false)] by rw [HO.out]; unfold absL; rw [HGO.out, if_pos ht]; rfl)
        rw [ht] at K
        clear ht
        go_wp2_with fail
        refine (K.out _ HR.out.at).mono ?_
        rintro e w7 ⟨v7, rfl, q7, hb7⟩
        obtain ⟨pa, pc, rfl, _⟩ := id q7
        have b7 := HBW.out.trans (hb7.mono HBW.out.size)
        have h3 := (hb7.cell (p := ⟨w.heap.size, 3, none⟩) zw).trans f3
        have z7 : w.heap.size < w7.heap.size := by have := hb7.size; omega
        have zz7 := hb7.size
        have HT7 := Lib.hid (made_one (x := N) (f := false) (cap := 1) (resNew (ob := .cells #[.slice pa (notR T).length pc] 81) q7) (by simp; omega))
        clear q7 hb7 f3
        go_wp2_with fail
        exact bodyPost_ret (v := .tuple #[.slice (some ⟨w7.heap.size + 1, 0, none⟩) 1 1, .bool true]) (by simp [results, Try.results23, go_sem]) rfl ⟨_, by rw [HU.out]; rfl, by
          rw [HU.out]
          have hsz : ∀ ob : Obj, (w7.alloc ob).heap.size = w7.heap.size + 1 := fun ob => by simp
          have := HT7.out
          rw [hsz] at this
          exact (this.mono (by have := HBW.out.size; omega)).wide (by simp), (b7.alloc b7.size _).alloc (by have := b7.size; simp; omega) _⟩
end Tmc
end Go.Proofs.Ytdhbjjolgmodjaa
