/- Contracts of the model's ClashOf for a step of no known kind that is asked of it, and where there is no shelf or are no needs, over this seat's translation. Nothing that was there before a call has changed. Condition: at most 1048576 releases, needs, and spans of each. -/
import Derived.Test.YtdhbjjolgmodjaaCui
namespace Go.Proofs.Ytdhbjjolgmodjaa
open Go.RowKit Go.Sort

namespace Tmc
open Foot
set_option maxRecDepth 100000 in
set_option maxHeartbeats 4000000 in
theorem specClashOf_other (u v : Value) (S : List Rel) (M : List Nd) (K A B N : Int) (k0 : K ≠ 0) (k1 : K ≠ 1) (k2 : K ≠ 2) (w : World) (hS : S.length ≤ 1048576) (hq : ∀ q ∈ S, q.2.2.2.length ≤ 1048576 ∧ ∀ p ∈ q.2.2.2, p.2.length ≤ 1048576) (hM : M.length ≤ 1048576) (hm : ∀ q ∈ M, q.2.length ≤ 1048576)
    (hs : shOk S = true) (hn : ndOk M = true) (h : RlAt w w.heap.size u S) (h2 : NdAt w w.heap.size v M) :
    Calls Try.prog 23 #[u, v, stepV K A B N] w (TbPost none w) := by
  obtain ⟨a, cap, rfl, hx⟩ := id h
  clear hx
  obtain ⟨a', cap', rfl, hN⟩ := id h2
  have b1 := (Below.refl w.heap.size w).alloc (Nat.le_refl _) (.cells #[.int .i64 K, .int .i64 A, .int .i64 B, .int .i64 N] 48)
  have hz : w.heap.size < (w.alloc (.cells #[.int .i64 K, .int .i64 A, .int .i64 B, .int .i64 N] 48)).heap.size := by simp
  have x0 : (w.alloc (.cells #[.int .i64 K, .int .i64 A, .int .i64 B, .int .i64 N] 48)).cell? ⟨w.heap.size, 0, none⟩ = some (.int .i64 K) := by go_simp
  have x1 : (w.alloc (.cells #[.int .i64 K, .int .i64 A, .int .i64 B, .int .i64 N] 48)).cell? ⟨w.heap.size, 1, none⟩ = some (.int .i64 A) := by go_simp
  have x2 : (w.alloc (.cells #[.int .i64 K, .int .i64 A, .int .i64 B, .int .i64 N] 48)).cell? ⟨w.heap.size, 2, none⟩ = some (.int .i64 B) := by go_simp
  have x3 : (w.alloc (.cells #[.int .i64 K, .int .i64 A, .int .i64 B, .int .i64 N] 48)).cell? ⟨w.heap.size, 3, none⟩ = some (.int .i64 N) := by go_simp
  have H1 := Lib.hid ((h.below b1).mono b1.size)
  have H2 := Lib.hid ((h2.below b1).mono b1.size)
  have HB := Lib.hid b1
  have HX := Lib.hid (And.intro x0 (And.intro x1 (And.intro x2 (And.intro x3 hz))))
  have KS : Hid (∀ V, RlAt V V.heap.size (.slice a S.length cap) S → Calls Try.prog 65 #[.slice a S.length cap] V fun e w' => e = .returned (.bool true) ∧ Below V.heap.size V w') := Lib.hid fun V g => by rw [← hs]; exact specShelfOk_any _ S V hS hq g
  have KN : Hid (∀ V, NdAt V V.heap.size (.slice a' M.length cap') M → Calls Try.prog 66 #[.slice a' M.length cap'] V fun e w' => e = .returned (.bool true) ∧ Below V.heap.size V w') := Lib.hid fun V g => by rw [← hn]; exact specNeedsOk_any _ M V hM hm g
  have b0 : (K == 0) = false := beq_eq_false_iff_ne.2 k0
  have b2 : (K == 1) = false := beq_eq_false_iff_ne.2 k1
  have b3 : (K == 2) = false := beq_eq_false_iff_ne.2 k2
  clear k0 k1 k2 hN
  clear h h2 b1 x0 x1 x2 x3 hz hs hn
  go_enter Try.func23, Try.ntmps23
  go_wp2_with fail
  refine (KS.out _ H1.out).mono ?_
  rintro e w2 ⟨rfl, hb⟩
  have H3 := Lib.hid ((H2.out.below hb).mono hb.size)
  have HB2 := Lib.hid (HB.out.trans (hb.mono HB.out.size))
  have n2 := Lib.hid hb
  clear hb
  go_wp2_with fail
  refine (KN.out _ H3.out).mono ?_
  rintro e w3 ⟨rfl, hb⟩
  have HB3 := Lib.hid (HB2.out.trans (hb.mono HB2.out.size))
  have n3 := n2.out.trans (hb.mono n2.out.size)
  have c0 := (n3.cell (p := ⟨w.heap.size, 0, none⟩) HX.out.2.2.2.2).trans HX.out.1
  have c1 := (n3.cell (p := ⟨w.heap.size, 1, none⟩) HX.out.2.2.2.2).trans HX.out.2.1
  have c2 := (n3.cell (p := ⟨w.heap.size, 2, none⟩) HX.out.2.2.2.2).trans HX.out.2.2.1
  have c3 := (n3.cell (p := ⟨w.heap.size, 3, none⟩) HX.out.2.2.2.2).trans HX.out.2.2.2.1
  have z3 : w.heap.size < w3.heap.size := by have := n3.size; have := HX.out.2.2.2.2; omega
  clear hb n3
  have hbz := HB3.out
  have z0 : w.heap.size ≤ w3.heap.size := by omega
  have v0 := cell_regrown c0
  go_wp2_with fail
  refine wp_region_quiet_below (by kernel_rfl) (by kernel_rfl) ?_
  repeat (any_goals (first | go_big_quiet_step (fail) | quiet_step (fail)))
  refine wpQuiet_nil ?_
  intro w5 hw5
  have nn := quiet_end hw5
  clear hw5 v0
  have e0 := (nn.cell (p := ⟨w.heap.size, 0, none⟩) z3).trans c0
  have HB5 := Lib.hid (HB3.out.trans (nn.mono HB3.out.size))
  have hb5 := HB5.out
  have z5 : w.heap.size ≤ w5.heap.size := hb5.size
  clear nn hbz c0 c1 c2 c3 z0
  go_wp2_with fail
  exact bodyPost_ret (v := .tuple #[.slice (some ⟨w5.heap.size, 0, none⟩) 0 0, .bool false]) (by simp [results, Try.results23, go_sem]) rfl ⟨_, rfl, TmB.nil _ _ _ _ _, by go_grown⟩

set_option maxRecDepth 100000 in
set_option maxHeartbeats 4000000 in
theorem specClashOf_no (u v : Value) (S : List Rel) (M : List Nd) (K A B N : Int) (w : World) (hS : S.length ≤ 1048576) (hq : ∀ q ∈ S, q.2.2.2.length ≤ 1048576 ∧ ∀ p ∈ q.2.2.2, p.2.length ≤ 1048576) (hM : M.length ≤ 1048576) (hm : ∀ q ∈ M, q.2.length ≤ 1048576)
    (hno : ¬ (shOk S = true ∧ ndOk M = true)) (h : RlAt w w.heap.size u S) (h2 : NdAt w w.heap.size v M) :
    Calls Try.prog 23 #[u, v, stepV K A B N] w (TbPost none w) := by
  obtain ⟨a, cap, rfl, hx⟩ := id h
  clear hx
  obtain ⟨a', cap', rfl, hN⟩ := id h2
  have b1 := (Below.refl w.heap.size w).alloc (Nat.le_refl _) (.cells #[.int .i64 K, .int .i64 A, .int .i64 B, .int .i64 N] 48)
  have hz : w.heap.size < (w.alloc (.cells #[.int .i64 K, .int .i64 A, .int .i64 B, .int .i64 N] 48)).heap.size := by simp
  have x0 : (w.alloc (.cells #[.int .i64 K, .int .i64 A, .int .i64 B, .int .i64 N] 48)).cell? ⟨w.heap.size, 0, none⟩ = some (.int .i64 K) := by go_simp
  have x1 : (w.alloc (.cells #[.int .i64 K, .int .i64 A, .int .i64 B, .int .i64 N] 48)).cell? ⟨w.heap.size, 1, none⟩ = some (.int .i64 A) := by go_simp
  have x2 : (w.alloc (.cells #[.int .i64 K, .int .i64 A, .int .i64 B, .int .i64 N] 48)).cell? ⟨w.heap.size, 2, none⟩ = some (.int .i64 B) := by go_simp
  have x3 : (w.alloc (.cells #[.int .i64 K, .int .i64 A, .int .i64 B, .int .i64 N] 48)).cell? ⟨w.heap.size, 3, none⟩ = some (.int .i64 N) := by go_simp
  have H1 := Lib.hid ((h.below b1).mono b1.size)
  have H2 := Lib.hid ((h2.below b1).mono b1.size)
  have HB := Lib.hid b1
  have HX := Lib.hid (And.intro x0 (And.intro x1 (And.intro x2 (And.intro x3 hz))))
  have KS : Hid (∀ V, RlAt V V.heap.size (.slice a S.length cap) S → Calls Try.prog 65 #[.slice a S.length cap] V fun e w' => e = .returned (.bool (shOk S)) ∧ Below V.heap.size V w') := Lib.hid fun V g => specShelfOk_any _ S V hS hq g
  have KN : Hid (∀ V, NdAt V V.heap.size (.slice a' M.length cap') M → Calls Try.prog 66 #[.slice a' M.length cap'] V fun e w' => e = .returned (.bool (ndOk M)) ∧ Below V.heap.size V w') := Lib.hid fun V g => specNeedsOk_any _ M V hM hm g
  clear hN h h2 b1 x0 x1 x2 x3 hz
  rcases hs : shOk S
  · rw [hs] at KS
    clear hs hno
    go_enter Try.func23, Try.ntmps23
    go_wp2_with fail
    refine (KS.out _ H1.out).mono ?_
    rintro e w2 ⟨rfl, hb⟩
    have HB2 := Lib.hid (HB.out.trans (hb.mono HB.out.size))
    have hb2 := HB2.out
    have z5 : w.heap.size ≤ w2.heap.size := hb2.size
    clear hb
    go_wp2_with fail
    exact bodyPost_ret (v := .tuple #[.slice (some ⟨w2.heap.size, 0, none⟩) 0 0, .bool false]) (by simp [results, Try.results23, go_sem]) rfl ⟨_, rfl, TmB.nil _ _ _ _ _, by go_grown⟩
  · have hn : ndOk M = false := by
      rcases hn : ndOk M
      · rfl
      · exact absurd ⟨hs, hn⟩ hno
    rw [hs] at KS
    rw [hn] at KN
    clear hs hno hn
    go_enter Try.func23, Try.ntmps23
    go_wp2_with fail
    refine (KS.out _ H1.out).mono ?_
    rintro e w2 ⟨rfl, hb⟩
    have H3 := Lib.hid ((H2.out.below hb).mono hb.size)
    have HB2 := Lib.hid (HB.out.trans (hb.mono HB.out.size))
    clear hb
    go_wp2_with fail
    refine (KN.out _ H3.out).mono ?_
    rintro e w3 ⟨rfl, hb⟩
    have HB3 := Lib.hid (HB2.out.trans (hb.mono HB2.out.size))
    have hb3 := HB3.out
    have z5 : w.heap.size ≤ w3.heap.size := hb3.size
    clear hb
    go_wp2_with fail
    exact bodyPost_ret (v := .tuple #[.slice (some ⟨w3.heap.size, 0, none⟩) 0 0, .bool false]) (by simp [results, Try.results23, go_sem]) rfl ⟨_, rfl, TmB.nil _ _ _ _ _, by go_grown⟩
end Tmc
end Go.Proofs.Ytdhbjjolgmodjaa
