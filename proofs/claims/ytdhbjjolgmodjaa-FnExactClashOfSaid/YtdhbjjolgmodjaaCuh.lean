/- The contract of the program's ClashOf, over this seat's translation: the plain function clashOfL. Nothing that was there before a call has changed. Condition: at most 1048576 releases, needs, and spans of each. -/
import Derived.Test.YtdhbjjolgmodjaaCud
import Derived.Test.YtdhbjjolgmodjaaCug
import Derived.Test.YtdhbjjolgmodjaaGd
namespace Go.Proofs.Ytdhbjjolgmodjaa
open Go.RowKit Go.Sort

namespace Tmc
open Foot
theorem clashOfRelease_any (u : Value) (S : List Rel) (K A B N : Int) (w : World) (hS : S.length ≤ 1048576) (hq : ∀ q ∈ S, q.2.2.2.length ≤ 1048576 ∧ ∀ p ∈ q.2.2.2, p.2.length ≤ 1048576) (h : RlAt w w.heap.size u S) :
    Calls Try.prog 109 #[u, stepV K A B N] w (TbPost (cofR S A B N) w) := by
  by_cases hc : 0 ≤ A ∧ A < (S.length : Int) ∧ N = 0
  · obtain ⟨h1, h2, rfl⟩ := hc
    obtain ⟨k, rfl⟩ : ∃ k : Nat, A = (k : Int) := ⟨A.toNat, by omega⟩
    have hk : k < S.length := by omega
    obtain ⟨x, va, vb, vc, vd, g, Q, hxy⟩ : ∃ x va vb vc vd g Q, S[k] = (x, (va, vb, vc, vd), g, Q) := ⟨_, _, _, _, _, _, _, rfl⟩
    have hx : S[k]? = some (x, (va, vb, vc, vd), g, Q) := by rw [List.getElem?_eq_getElem hk, hxy]
    have hQ := hq _ (List.getElem_mem hk)
    rw [hxy] at hQ
    have e := cofR_at (B := B) hx
    by_cases hB : 0 ≤ B ∧ B < (Q.length : Int)
    · obtain ⟨j, rfl⟩ : ∃ j : Nat, B = (j : Int) := ⟨B.toNat, by omega⟩
      have hj : j < Q.length := by omega
      obtain ⟨y, L, hyz⟩ : ∃ y L, Q[j] = (y, L) := ⟨_, _, rfl⟩
      have hy : Q[j]? = some (y, L) := by rw [List.getElem?_eq_getElem hj, hyz]
      have hL : L.length ≤ 1048576 := by have := hQ.2 _ (List.getElem_mem hj); rwa [hyz] at this
      rw [if_pos hB, show ((j : Int)).toNat = j by omega, hy] at e
      have e' : cofR S (k : Int) (j : Int) 0 = (unm (y, L)).map fun t => twoL (x, oneL va vb vc vd, false) t := e
      rw [e']
      exact clashOfRelease_yes u S K k j x va vb vc vd g Q y L w hS hQ.1 hL hx hy h
    · rw [if_neg hB] at e
      rw [e]
      refine (clashOfRelease_no u S K _ B 0 w hS (fun q k => (hq q k).1) h (.inr ⟨k, x, va, vb, vc, vd, g, Q, rfl, hx, hB⟩)).mono ?_
      rintro e w' ⟨rfl, hb⟩
      exact ⟨_, rfl, TmB.nil _ _ _ _ _, hb⟩
  · have e : cofR S A B N = none := if_neg hc
    rw [e]
    refine (clashOfRelease_no u S K A B N w hS (fun q k => (hq q k).1) h (.inl hc)).mono ?_
    rintro e w' ⟨rfl, hb⟩
    exact ⟨_, rfl, TmB.nil _ _ _ _ _, hb⟩

theorem shOk_le {S : List Rel} (h : shOk S = true) : S.length ≤ 30 := by
  unfold shOk at h
  rw [Bool.and_eq_true, decide_eq_true_eq] at h
  exact h.2
/-- The clash of a step, by its kind. -/
def cofL (S : List Rel) (M : List Nd) (K A B N : Int) : Option (List Tm) :=
  if K = 0 then cofN M A B N else if K = 1 then cofR S A B N else if K = 2 then cofS S A B N else none
def clashOfL (S : List Rel) (M : List Nd) (K A B N : Int) : Option (List Tm) := if shOk S = true ∧ ndOk M = true then cofL S M K A B N else none

set_option maxRecDepth 100000 in
set_option maxHeartbeats 2000000 in
theorem clashOf_any (u v : Value) (S : List Rel) (M : List Nd) (K A B N : Int) (w : World) (hS : S.length ≤ 30) (hq : ∀ q ∈ S, q.2.2.2.length ≤ 1048576 ∧ ∀ p ∈ q.2.2.2, p.2.length ≤ 1048576) (hM : M.length ≤ 1048576) (hm : ∀ q ∈ M, q.2.length ≤ 1048576)
    (h : RlAt w w.heap.size u S) (h2 : NdAt w w.heap.size v M) :
    Calls Try.prog 75 #[u, v, stepV K A B N] w (TbPost (cofL S M K A B N) w) := by
  obtain ⟨a, cap, rfl, hx⟩ := id h
  clear hx
  obtain ⟨a', cap', rfl, hx⟩ := id h2
  clear hx
  have b1 := (Below.refl w.heap.size w).alloc (Nat.le_refl _) (.cells #[.int .i64 K, .int .i64 A, .int .i64 B, .int .i64 N] 48)
  have H1 := Lib.hid ((h.below b1).mono b1.size)
  have H2 := Lib.hid ((h2.below b1).mono b1.size)
  have HB := Lib.hid b1
  clear h h2 b1
  by_cases k0 : K = 0
  · subst k0
    have HU := Lib.hid (show cofL S M 0 A B N = cofN M A B N from if_pos rfl)
    go_enter Try.func75, Try.ntmps75
    go_wp2_with fail
    refine (clashOfNeed_any _ M 0 A B N _ hM hm H2.out).mono ?_
    rintro e w2 ⟨r, rfl, hT, hb⟩
    have HT := Lib.hid hT
    have HB2 := Lib.hid (HB.out.trans (hb.mono HB.out.size))
    clear hT hb
    go_wp2_with fail
    exact bodyPost_ret (v := .tuple #[r, .bool (cofN M A B N).isSome]) (by simp [results, Try.results75, go_sem]) rfl ⟨_, by rw [HU.out], by rw [HU.out]; exact HT.out.mono HB.out.size, HB2.out⟩
  have k0b : (K == 0) = false := beq_eq_false_iff_ne.2 k0
  by_cases k1 : K = 1
  · subst k1
    have HU := Lib.hid (show cofL S M 1 A B N = cofR S A B N from (if_neg (by decide)).trans (if_pos rfl))
    go_enter Try.func75, Try.ntmps75
    go_wp2_with fail
    refine (clashOfRelease_any _ S 1 A B N _ (by omega) hq H1.out).mono ?_
    rintro e w2 ⟨r, rfl, hT, hb⟩
    have HT := Lib.hid hT
    have HB2 := Lib.hid (HB.out.trans (hb.mono HB.out.size))
    clear hT hb
    go_wp2_with fail
    exact bodyPost_ret (v := .tuple #[r, .bool (cofR S A B N).isSome]) (by simp [results, Try.results75, go_sem]) rfl ⟨_, by rw [HU.out], by rw [HU.out]; exact HT.out.mono HB.out.size, HB2.out⟩
  have k1b : (K == 1) = false := beq_eq_false_iff_ne.2 k1
  by_cases k2 : K = 2
  · subst k2
    have HU := Lib.hid (show cofL S M 2 A B N = cofS S A B N from (if_neg (by decide)).trans ((if_neg (by decide)).trans (if_pos rfl)))
    go_enter Try.func75, Try.ntmps75
    go_wp2_with fail
    refine (clashOfShelf_any _ S 2 A B N _ hS H1.out).mono ?_
    rintro e w2 ⟨r, rfl, hT, hb⟩
    have HT := Lib.hid hT
    have HB2 := Lib.hid (HB.out.trans (hb.mono HB.out.size))
    clear hT hb
    go_wp2_with fail
    exact bodyPost_ret (v := .tuple #[r, .bool (cofS S A B N).isSome]) (by simp [results, Try.results75, go_sem]) rfl ⟨_, by rw [HU.out], by rw [HU.out]; exact HT.out.mono HB.out.size, HB2.out⟩
  have k2b : (K == 2) = false := beq_eq_false_iff_ne.2 k2
  have HU := Lib.hid (show cofL S M K A B N = none from (if_neg k0).trans ((if_neg k1).trans (if_neg k2)))
  have hb := HB.out
  clear k0 k1 k2
  go_enter Try.func75, Try.ntmps75
  go_wp2_with fail
  exact bodyPost_ret (v := .tuple #[.slice none 0 0, .bool false]) (by simp [results, Try.results75, go_sem]) rfl ⟨_, by rw [HU.out]; rfl, by rw [HU.out]; exact TmB.nil _ _ _ _ _, hb⟩

set_option maxRecDepth 100000 in
set_option maxHeartbeats 2000000 in
theorem implClashOf_any (u v : Value) (S : List Rel) (M : List Nd) (K A B N : Int) (w : World) (hS : S.length ≤ 1048576) (hq : ∀ q ∈ S, q.2.2.2.length ≤ 1048576 ∧ ∀ p ∈ q.2.2.2, p.2.length ≤ 1048576) (hM : M.length ≤ 1048576) (hm : ∀ q ∈ M, q.2.length ≤ 1048576)
    (h : RlAt w w.heap.size u S) (h2 : NdAt w w.heap.size v M) :
    Calls Try.prog 27 #[u, v, stepV K A B N] w (TbPost (clashOfL S M K A B N) w) := by
  obtain ⟨a, cap, rfl, hx⟩ := id h
  clear hx
  obtain ⟨a', cap', rfl, hx⟩ := id h2
  clear hx
  have b1 := (Below.refl w.heap.size w).alloc (Nat.le_refl _) (.cells #[.int .i64 K, .int .i64 A, .int .i64 B, .int .i64 N] 48)
  have hz : w.heap.size < (w.alloc (.cells #[.int .i64 K, .int .i64 A, .int .i64 B, .int .i64 N] 48)).heap.size := by simp
  have x0 : (w.alloc (.cells #[.int .i64 K, .int .i64 A, .int .i64 B, .int .i64 N] 48)).cell? ⟨w.heap.size, 0, none⟩ = some (.int .i64 K) := by go_simp
  have x1 : (w.alloc (.cells #[.int .i64 K, .int .i64 A, .int .i64 B, .int .i64 N] 48)).cell? ⟨w.heap.size, 1, none⟩ = some (.int .i64 A) := by go_simp
  have x2 : (w.alloc (.cells #[.int .i64 K, .int .i64 A, .int .i64 B, .int .i64 N] 48)).cell? ⟨w.heap.size, 2, none⟩ = some (.int .i64 B) := by go_simp
  have x3 : (w.alloc (.cells #[.int .i64 K, .int .i64 A, .int .i64 B, .int .i64 N] 48)).cell? ⟨w.heap.size, 3, none⟩ = some (.int .i64 N) := by go_simp
  have H1 := Lib.hid ((h.below b1).mono b1.size)
  have H2 := Lib.hid ((h2.below b1).mono b1.size)
  have HB := Lib.hid b1
  have HX := Lib.hid (And.intro x0 (And.intro x1 (And.intro x2 (And.intro x3 hz))))
  have KS : Hid (∀ V, RlAt V V.heap.size (.slice a S.length cap) S → Calls Try.prog 73 #[.slice a S.length cap] V fun e w' => e = .returned (.bool (shOk S)) ∧ Below V.heap.size V w') := Lib.hid fun V g => implShelfOk_any _ S V hS hq g
  have KN : Hid (∀ V, NdAt V V.heap.size (.slice a' M.length cap') M → Calls Try.prog 74 #[.slice a' M.length cap'] V fun e w' => e = .returned (.bool (ndOk M)) ∧ Below V.heap.size V w') := Lib.hid fun V g => implNeedsOk_any _ M V hM hm g
  clear h h2 b1 x0 x1 x2 x3 hz
  rcases hs : shOk S
  · have HU := Lib.hid (show clashOfL S M K A B N = none from if_neg (by rw [hs]; simp))
    rw [hs] at KS
    clear hs
    go_enter Try.func27, Try.ntmps27
    go_wp2_with fail
    refine (KS.out _ H1.out).mono ?_
    rintro e w2 ⟨rfl, hb⟩
    have HB2 := Lib.hid (HB.out.trans (hb.mono HB.out.size))
    clear hb
    go_wp2_with fail
    exact bodyPost_ret (v := .tuple #[.slice none 0 0, .bool false]) (by simp [results, Try.results27, go_sem]) rfl ⟨_, by rw [HU.out]; rfl, by rw [HU.out]; exact TmB.nil _ _ _ _ _, HB2.out⟩
  rcases hn : ndOk M
  · have HU := Lib.hid (show clashOfL S M K A B N = none from if_neg (by rw [hn]; simp))
    rw [hs] at KS
    rw [hn] at KN
    clear hs hn
    go_enter Try.func27, Try.ntmps27
    go_wp2_with fail
    refine (KS.out _ H1.out).mono ?_
    rintro e w2 ⟨rfl, hb⟩
    have H3 := Lib.hid ((H2.out.below hb).mono hb.size)
    have HB2 := Lib.hid (HB.out.trans (hb.mono HB.out.size))
    clear hb
    go_wp2_with fail
    refine (KN.out _ H3.out).mono ?_
    rintro e w3 ⟨rfl, hb⟩
    have HB3 := Lib.hid (HB2.out.trans (hb.mono HB2.out.size))
    clear hb
    go_wp2_with fail
    exact bodyPost_ret (v := .tuple #[.slice none 0 0, .bool false]) (by simp [results, Try.results27, go_sem]) rfl ⟨_, by rw [HU.out]; rfl, by rw [HU.out]; exact TmB.nil _ _ _ _ _, HB3.out⟩
  have HU := Lib.hid (show clashOfL S M K A B N = cofL S M K A B N from if_pos ⟨hs, hn⟩)
  have hS30 := Lib.hid (show S.length ≤ 30 from shOk_le hs)
  rw [hs] at KS
  rw [hn] at KN
  clear hs hn
  go_enter Try.func27, Try.ntmps27
  go_wp2_with fail
  refine (KS.out _ H1.out).mono ?_
  rintro e w2 ⟨rfl, hb⟩
  have H3 := Lib.hid ((H2.out.below hb).mono hb.size)
  have H4 := Lib.hid ((H1.out.below hb).mono hb.size)
  have HB2 := Lib.hid (HB.out.trans (hb.mono HB.out.size))
  have n2 := Lib.hid hb
  clear hb
  go_wp2_with fail
  refine (KN.out _ H3.out).mono ?_
  rintro e w3 ⟨rfl, hb⟩
  have H5 := Lib.hid ((H3.out.below hb).mono hb.size)
  have H6 := Lib.hid ((H4.out.below hb).mono hb.size)
  have HB3 := Lib.hid (HB2.out.trans (hb.mono HB2.out.size))
  have n3 := n2.out.trans (hb.mono n2.out.size)
  have c0 := (n3.cell (p := ⟨w.heap.size, 0, none⟩) HX.out.2.2.2.2).trans HX.out.1
  have c1 := (n3.cell (p := ⟨w.heap.size, 1, none⟩) HX.out.2.2.2.2).trans HX.out.2.1
  have c2 := (n3.cell (p := ⟨w.heap.size, 2, none⟩) HX.out.2.2.2.2).trans HX.out.2.2.1
  have c3 := (n3.cell (p := ⟨w.heap.size, 3, none⟩) HX.out.2.2.2.2).trans HX.out.2.2.2.1
  clear hb n3
  go_wp2_with fail
  refine (clashOf_any _ _ S M K A B N _ hS30.out hq hM hm H6.out H5.out).mono ?_
  rintro e w4 ⟨r, rfl, hT, hb⟩
  have HT := Lib.hid hT
  have HB4 := Lib.hid (HB3.out.trans (hb.mono HB3.out.size))
  clear hT hb
  go_wp2_with fail
  exact bodyPost_ret (v := .tuple #[r, .bool (cofL S M K A B N).isSome]) (by simp [results, Try.results27, go_sem]) rfl ⟨_, by rw [HU.out], by rw [HU.out]; exact HT.out.mono HB3.out.size, HB4.out⟩
end Tmc
end Go.Proofs.Ytdhbjjolgmodjaa
