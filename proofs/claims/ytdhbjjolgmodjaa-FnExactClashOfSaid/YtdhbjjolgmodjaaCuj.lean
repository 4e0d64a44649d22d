/- The contract of the model's ClashOf for a step that tells a need, over this seat's translation. Nothing that was there before a call has changed. Condition: a shelf, needs. -/
import Derived.Test.YtdhbjjolgmodjaaCui
import Derived.Test.YtdhbjjolgmodjaaSpnot
namespace Go.Proofs.Ytdhbjjolgmodjaa
open Go.RowKit Go.Sort

namespace Tmc
open Foot
set_option maxRecDepth 100000 in
set_option maxHeartbeats 4000000 in
theorem specClashOf_need (u v : Value) (S : List Rel) (M : List Nd) (A B N : Int) (w : World) (hS : S.length ≤ 1048576) (hq : ∀ q ∈ S, q.2.2.2.length ≤ 1048576 ∧ ∀ p ∈ q.2.2.2, p.2.length ≤ 1048576) (hM : M.length ≤ 1048576) (hm : ∀ q ∈ M, q.2.length ≤ 1048576)
    (hs : shOk S = true) (hn : ndOk M = true) (h : RlAt w w.heap.size u S) (h2 : NdAt w w.heap.size v M) :
    Calls Try.prog 23 #[u, v, stepV 0 A B N] w (TbPost (cofN M A B N) w) := by
  obtain ⟨a, cap, rfl, hx⟩ := id h
  clear hx
  obtain ⟨a', cap', rfl, hN⟩ := id h2
  have b1 := (Below.refl w.heap.size w).alloc (Nat.le_refl _) (.cells #[.int .i64 0, .int .i64 A, .int .i64 B, .int .i64 N] 48)
  have hz : w.heap.size < (w.alloc (.cells #[.int .i64 0, .int .i64 A, .int .i64 B, .int .i64 N] 48)).heap.size := by simp
  have x0 : (w.alloc (.cells #[.int .i64 0, .int .i64 A, .int .i64 B, .int .i64 N] 48)).cell? ⟨w.heap.size, 0, none⟩ = some (.int .i64 0) := by go_simp
  have x1 : (w.alloc (.cells #[.int .i64 0, .int .i64 A, .int .i64 B, .int .i64 N] 48)).cell? ⟨w.heap.size, 1, none⟩ = some (.int .i64 A) := by go_simp
  have x2 : (w.alloc (.cells #[.int .i64 0, .int .i64 A, .int .i64 B, .int .i64 N] 48)).cell? ⟨w.heap.size, 2, none⟩ = some (.int .i64 B) := by go_simp
  have x3 : (w.alloc (.cells #[.int .i64 0, .int .i64 A, .int .i64 B, .int .i64 N] 48)).cell? ⟨w.heap.size, 3, none⟩ = some (.int .i64 N) := by go_simp
  have H1 := Lib.hid ((h.below b1).mono b1.size)
  have H2 := Lib.hid ((h2.below b1).mono b1.size)
  have HB := Lib.hid b1
  have HX := Lib.hid (And.intro x0 (And.intro x1 (And.intro x2 (And.intro x3 hz))))
  have KS : Hid (∀ V, RlAt V V.heap.size (.slice a S.length cap) S → Calls Try.prog 65 #[.slice a S.length cap] V fun e w' => e = .returned (.bool true) ∧ Below V.heap.size V w') := Lib.hid fun V g => by rw [← hs]; exact specShelfOk_any _ S V hS hq g
  have KN : Hid (∀ V, NdAt V V.heap.size (.slice a' M.length cap') M → Calls Try.prog 66 #[.slice a' M.length cap'] V fun e w' => e = .returned (.bool true) ∧ Below V.heap.size V w') := Lib.hid fun V g => by rw [← hn]; exact specNeedsOk_any _ M V hM hm g
  have KI : Hid (∀ V, Calls Try.prog 67 #[.int .i64 A, .int .i64 0, .int .i64 ((M.length : Int) - 1)] V fun e w' => e = .returned (.bool (inB A 0 ((M.length : Int) - 1))) ∧ Below V.heap.size V w') := Lib.hid fun V => l1In_below _ _ _ V
  clear h h2 b1 x0 x1 x2 x3 hz hs hn
  go_enter Try.func23, Try.ntmps23
  go_wp2_with fail
  refine (KS.out _ H1.out).mono ?_
  rintro e w2 ⟨rfl, hb⟩
  have H3 := Lib.hid ((H2.out.below hb).mono hb.size)
  have HB2 := Lib.hid (HB.out.trans (hb.mono HB.out.size))
  have n2 := Lib.hid hb
  clear hb
  go_wp2_with fail
  refine (KN.out _ H3.out).mono ?_
  rintro e w3 ⟨rfl, hb⟩
  have HB3 := Lib.hid (HB2.out.trans (hb.mono HB2.out.size))
  have n3 := n2.out.trans (hb.mono n2.out.size)
  have c0 := (n3.cell (p := ⟨w.heap.size, 0, none⟩) HX.out.2.2.2.2).trans HX.out.1
  have c1 := (n3.cell (p := ⟨w.heap.size, 1, none⟩) HX.out.2.2.2.2).trans HX.out.2.1
  have c2 := (n3.cell (p := ⟨w.heap.size, 2, none⟩) HX.out.2.2.2.2).trans HX.out.2.2.1
  have c3 := (n3.cell (p := ⟨w.heap.size, 3, none⟩) HX.out.2.2.2.2).trans HX.out.2.2.2.1
  have z3 : w.heap.size < w3.heap.size := by have := n3.size; have := HX.out.2.2.2.2; omega
  clear hb n3
  have i0 : ((M.length : Int) - 1) ≤ 1048576 := by omega
  go_wp2_with fail
  refine (KI.out _).mono ?_
  rintro e w4 ⟨rfl, hb⟩
  have HB4 := Lib.hid (HB3.out.trans (hb.mono HB3.out.size))
  have d0 := (hb.cell (p := ⟨w.heap.size, 0, none⟩) z3).trans c0
  have d1 := (hb.cell (p := ⟨w.heap.size, 1, none⟩) z3).trans c1
  have d2 := (hb.cell (p := ⟨w.heap.size, 2, none⟩) z3).trans c2
  have d3 := (hb.cell (p := ⟨w.heap.size, 3, none⟩) z3).trans c3
  have z4 : w.heap.size < w4.heap.size := by have := hb.size; omega
  clear hb c0 c1 c2 c3
  by_cases hc : 0 ≤ A ∧ A < (M.length : Int) ∧ B = 0 ∧ N = 0
  · obtain ⟨hA0, hA1, rfl, rfl⟩ := hc
    obtain ⟨k, rfl⟩ : ∃ k : Nat, A = (k : Int) := ⟨A.toNat, by omega⟩
    have hk : k < M.length := by omega
    rcases hN with hN | ⟨b, o, rfl, hB, hc⟩
    · subst hN
      simp at hk
    have hI : inB (k : Int) 0 ((M.length : Int) - 1) = true := inB_iff.2 ⟨by omega, by omega⟩
    rw [hI]
    obtain ⟨r0, na, nc, r1, hs⟩ := hc k hk
    have hx : M[k]? = some M[k] := List.getElem?_eq_getElem hk
    have hql := hm _ (List.getElem_mem hk)
    have HO := Lib.hid (cofN_at hx)
    obtain ⟨x, hxe⟩ : ∃ x, M[k].1 = x := ⟨_, rfl⟩
    obtain ⟨L, hL⟩ : ∃ L, M[k].2 = L := ⟨_, rfl⟩
    have HM := Lib.hid (And.intro hxe hL)
    rw [hxe] at r0
    rw [hL] at r1 hs hql
    have g0 := (HB4.out.cell (p := ⟨b, o + k * 2, none⟩) hB).trans r0
    have g1 := (HB4.out.cell (p := ⟨b, o + k * 2 + 1, none⟩) hB).trans r1
    have HS4 := Lib.hid ((hs.below HB4.out).mono HB4.out.size)
    have zb : b < w4.heap.size := by have := HB4.out.size; omega
    have i1 : (0 : Int) ≤ (k : Int) := by omega
    have i2 : (k : Int) < (M.length : Int) := by omega
    clear hxe hL hc hs hI r0 r1
    rcases hok : notOk L
    · have HU := Lib.hid (show cofN M (k : Int) 0 0 = none by rw [HO.out]; unfold unm; rw [HM.out.2, hok]; rfl)
      have KR : Hid (∀ V, SpAt V V.heap.size (.slice na L.length nc) L → Calls Try.prog 68 #[.agg #[.slice na L.length nc]] V (TPost false (notR L) V)) := Lib.hid fun V g => by rw [← hok]; exact specNot_any _ L V hql g
      clear hok
      go_wp2_with fail
      refine (KR.out _ HS4.out).mono ?_
      rintro e w5 ⟨v5, rfl, r5, hb⟩
      have HB5 := Lib.hid (HB4.out.trans (hb.mono HB4.out.size))
      have hb5 := HB5.out
      have z5 : w.heap.size ≤ w5.heap.size := hb5.size
      obtain ⟨pa, pc, rfl, _⟩ := id r5
      clear hb r5
      go_wp2_with fail
      exact bodyPost_ret (v := .tuple #[.slice (some ⟨w5.heap.size + 1, 0, none⟩) 0 0, .bool false]) (by simp [results, Try.results23, go_sem]) rfl ⟨_, by rw [HU.out]; rfl, by rw [HU.out]; exact TmB.nil _ _ _ _ _, by go_grown⟩
    · have HU := Lib.hid (show cofN M (k : Int) 0 0 = some [(x, notR L, true)] by rw [HO.out]; unfold unm; rw [HM.out.1, HM.out.2, hok]; rfl)
      have KR : Hid (∀ V, SpAt V V.heap.size (.slice na L.length nc) L → Calls Try.prog 68 #[.agg #[.slice na L.length nc]] V (TPost true (notR L) V)) := Lib.hid fun V g => by rw [← hok]; exact specNot_any _ L V hql g
      clear hok
      go_wp2_with fail
      refine (KR.out _ HS4.out).mono ?_
      rintro e w5 ⟨v5, rfl, r5, hb⟩
      have HB5 := Lib.hid (HB4.out.trans (hb.mono HB4.out.size))
      have hb5 := HB5.out
      have z5 : w.heap.size ≤ w5.heap.size := hb5.size
      have z6 : w.heap.size < w5.heap.size := by have := hb.size; omega
      have zb5 : b < w5.heap.size := by have := hb.size; omega
      have y1 := (hb.cell (p := ⟨w.heap.size, 1, none⟩) z4).trans d1
      have y2 := (hb.cell (p := ⟨b, o + k * 2, none⟩) zb).trans g0
      obtain ⟨pa, pc, rfl, _⟩ := id r5
      have HT := Lib.hid (made_one (x := x) (f := true) (cap := 1) (resNew (ob := .cells #[.slice pa (notR L).length pc] 81) r5) (by have := hb.size; simp; omega))
      clear hb r5 d0 d1 d2 d3 g0 g1
      go_wp2_with fail
      go_region
      go_wp2_with fail
      exact bodyPost_ret (v := .tuple #[.slice (some ⟨w5.heap.size + 1, 0, none⟩) 1 1, .bool true]) (by simp [results, Try.results23, go_sem]) rfl ⟨_, by rw [HU.out]; rfl, by
        rw [HU.out]
        have hsz : ∀ ob : Obj, (w5.alloc ob).heap.size = w5.heap.size + 1 := fun ob => by simp
        have := HT.out
        rw [hsz] at this
        exact (this.mono (by omega)).wide (by simp), by go_grown⟩
  · have HO := Lib.hid (cofN_none hc)
    have hbz := HB4.out
    have z0 : w.heap.size ≤ w4.heap.size := by omega
    by_cases hI : inB A 0 ((M.length : Int) - 1) = true
    · rw [hI]
      have hA := inB_iff.1 hI
      by_cases hB0 : B = 0
      · subst hB0
        have h4 : N ≠ 0 := fun e => hc ⟨by omega, by omega, rfl, e⟩
        have h5 : (N == 0) = false := beq_eq_false_iff_ne.2 h4
        clear h4 hc hA hI
        have v0 := cell_regrown d0
        go_wp2_with fail
        refine wp_region_quiet_below (by kernel_rfl) (by kernel_rfl) ?_
        repeat (any_goals (first | go_big_quiet_step (fail) | quiet_step (fail)))
        refine wpQuiet_nil ?_
        intro w5 hw5
        have nn := quiet_end hw5
        clear hw5 v0
        have e0 := (nn.cell (p := ⟨w.heap.size, 0, none⟩) z4).trans d0
        have HB5 := Lib.hid (HB4.out.trans (nn.mono HB4.out.size))
        have hb5 := HB5.out
        have z5 : w.heap.size ≤ w5.heap.size := hb5.size
        clear nn hbz d0 d1 d2 d3 z0
        go_wp2_with fail
        exact bodyPost_ret (v := .tuple #[.slice (some ⟨w5.heap.size, 0, none⟩) 0 0, .bool false]) (by simp [results, Try.results23, go_sem]) rfl ⟨_, by rw [HO.out]; rfl, by rw [HO.out]; exact TmB.nil _ _ _ _ _, by go_grown⟩
      · have h5 : (B == 0) = false := beq_eq_false_iff_ne.2 hB0
        clear hB0 hc hA hI
        have v0 := cell_regrown d0
        go_wp2_with fail
        refine wp_region_quiet_below (by kernel_rfl) (by kernel_rfl) ?_
        repeat (any_goals (first | go_big_quiet_step (fail) | quiet_step (fail)))
        refine wpQuiet_nil ?_
        intro w5 hw5
        have nn := quiet_end hw5
        clear hw5 v0
        have e0 := (nn.cell (p := ⟨w.heap.size, 0, none⟩) z4).trans d0
        have HB5 := Lib.hid (HB4.out.trans (nn.mono HB4.out.size))
        have hb5 := HB5.out
        have z5 : w.heap.size ≤ w5.heap.size := hb5.size
        clear nn hbz d0 d1 d2 d3 z0
        go_wp2_with fail
        exact bodyPost_ret (v := .tuple #[.slice (some ⟨w5.heap.size, 0, none⟩) 0 0, .bool false]) (by simp [results, Try.results23, go_sem]) rfl ⟨_, by rw [HO.out]; rfl, by rw [HO.out]; exact TmB.nil _ _ _ _ _, by go_grown⟩
    · rw [Bool.not_eq_true] at hI
      rw [hI]
      clear hI hc
      have v0 := cell_regrown d0
      go_wp2_with fail
      refine wp_region_quiet_below (by kernel_rfl) (by kernel_rfl) ?_
      repeat (any_goals (first | go_big_quiet_step (fail) | quiet_step (fail)))
      refine wpQuiet_nil ?_
      intro w5 hw5
      have nn := quiet_end hw5
      clear hw5 v0
      have e0 := (nn.cell (p := ⟨w.heap.size, 0, none⟩) z4).trans d0
      have HB5 := Lib.hid (HB4.out.trans (nn.mono HB4.out.size))
      have hb5 := HB5.out
      have z5 : w.heap.size ≤ w5.heap.size := hb5.size
      clear nn hbz d0 d1 d2 d3 z0
      go_wp2_with fail
      exact bodyPost_ret (v := .tuple #[.slice (some ⟨w5.heap.size, 0, none⟩) 0 0, .bool false]) (by simp [results, Try.results23, go_sem]) rfl ⟨_, by rw [HO.out]; rfl, by rw [HO.out]; exact TmB.nil _ _ _ _ _, by go_grown⟩
end Tmc
end Go.Proofs.Ytdhbjjolgmodjaa
