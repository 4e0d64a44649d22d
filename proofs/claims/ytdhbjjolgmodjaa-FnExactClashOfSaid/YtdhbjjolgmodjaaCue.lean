/- The contract of the program's clashOfRelease, over this seat's translation. Nothing that was there before a call has changed. Condition: at most 1048576 releases, needs of each and spans of these. -/
import Derived.Test.YtdhbjjolgmodjaaGs
import Derived.BigQuiet
namespace Go.Proofs.Ytdhbjjolgmodjaa
open Go.RowKit Go.Sort

namespace Tmc
open Foot
def twoL (a t : Tm) : List Tm := if t.1 < a.1 then [t, a] else [a, t]
/-- The clash of a release and a need of it, by their places. -/
def cofR (S : List Rel) (A B N : Int) : Option (List Tm) :=
  if 0 ≤ A ∧ A < (S.length : Int) ∧ N = 0 then
    (S[A.toNat]?).bind fun x => if 0 ≤ B ∧ B < (x.2.2.2.length : Int) then (x.2.2.2[B.toNat]?).bind fun n => (unm n).map fun t => twoL (x.1, oneL x.2.1.1 x.2.1.2.1 x.2.1.2.2.1 x.2.1.2.2.2, false) t else none
  else none
theorem cofR_at {S : List Rel} {k : Nat} {x : Int} {a b c d : Int} {g : Bool} {Q : List Nd} {B : Int} (h : S[k]? = some (x, (a, b, c, d), g, Q)) :
    cofR S (k : Int) B 0 = if 0 ≤ B ∧ B < (Q.length : Int) then (Q[B.toNat]?).bind fun n => (unm n).map fun t => twoL (x, oneL a b c d, false) t else none := by
  have hk := (List.getElem?_eq_some_iff.1 h).1
  unfold cofR
  rw [if_pos ⟨by omega, by omega, rfl⟩, show ((k : Int)).toNat = k by omega, h]
  rfl

set_option maxRecDepth 100000 in
set_option maxHeartbeats 4000000 in
theorem clashOfRelease_no (u : Value) (S : List Rel) (K A B N : Int) (w : World) (hS : S.length ≤ 1048576) (hq : ∀ q ∈ S, q.2.2.2.length ≤ 1048576) (h : RlAt w w.heap.size u S)
    (hno : ¬ (0 ≤ A ∧ A < (S.length : Int) ∧ N = 0) ∨ ∃ k x a b c d g Q, A = ((k : Nat) : Int) ∧ S[k]? = some (x, (a, b, c, d), g, Q) ∧ ¬ (0 ≤ B ∧ B < ((Q : List Nd).length : Int))) :
    Calls Try.prog 109 #[u, stepV K A B N] w fun e w' => e = .returned (.tuple #[.slice none 0 0, .bool false]) ∧ Below w.heap.size w w' := by
  obtain ⟨sa, sc, rfl, h0⟩ := h
  have b1 := (Below.refl w.heap.size w).alloc (Nat.le_refl _) (.cells #[.int .i64 K, .int .i64 A, .int .i64 B, .int .i64 N] 48)
  have v1 := cell_regrown (show (w.alloc (.cells #[.int .i64 K, .int .i64 A, .int .i64 B, .int .i64 N] 48)).cell? ⟨w.heap.size, 1, none⟩ = some (.int .i64 A) by go_simp)
  have v2 := cell_regrown (show (w.alloc (.cells #[.int .i64 K, .int .i64 A, .int .i64 B, .int .i64 N] 48)).cell? ⟨w.heap.size, 2, none⟩ = some (.int .i64 B) by go_simp)
  have v3 := cell_regrown (show (w.alloc (.cells #[.int .i64 K, .int .i64 A, .int .i64 B, .int .i64 N] 48)).cell? ⟨w.heap.size, 3, none⟩ = some (.int .i64 N) by go_simp)
  by_cases h1 : A < 0
  · clear hno h0
    go_enter Try.func109, Try.ntmps109
    go_wp2_with fail
    refine wp_region_quiet_below (by kernel_rfl) (by kernel_rfl) ?_
    repeat (any_goals (first | go_big_quiet_step (fail) | quiet_step (fail)))
    refine wpQuiet_nil ?_
    intro W2 hw2
    have nn := quiet_end hw2
    clear hw2 v1 v2 v3
    have HB := Lib.hid (b1.trans (nn.mono b1.size))
    go_wp2_with fail
    exact bodyPost_ret (v := .tuple #[.slice none 0 0, .bool false]) (by simp [results, Try.results109, go_sem]) rfl ⟨rfl, HB.out⟩
  have h1b : decide (A < 0) = false := decide_eq_false h1
  by_cases h2 : (S.length : Int) ≤ A
  · clear hno h0
    go_enter Try.func109, Try.ntmps109
    go_wp2_with fail
    refine wp_region_quiet_below (by kernel_rfl) (by kernel_rfl) ?_
    repeat (any_goals (first | go_big_quiet_step (fail) | quiet_step (fail)))
    refine wpQuiet_nil ?_
    intro W2 hw2
    have nn := quiet_end hw2
    clear hw2 v1 v2 v3
    have HB := Lib.hid (b1.trans (nn.mono b1.size))
    go_wp2_with fail
    exact bodyPost_ret (v := .tuple #[.slice none 0 0, .bool false]) (by simp [results, Try.results109, go_sem]) rfl ⟨rfl, HB.out⟩
  have h2b : decide ((S.length : Int) ≤ A) = false := decide_eq_false h2
  by_cases h3 : B < 0
  · clear hno h0
    go_enter Try.func109, Try.ntmps109
    go_wp2_with fail
    refine wp_region_quiet_below (by kernel_rfl) (by kernel_rfl) ?_
    repeat (any_goals (first | go_big_quiet_step (fail) | quiet_step (fail)))
    refine wpQuiet_nil ?_
    intro W2 hw2
    have nn := quiet_end hw2
    clear hw2 v1 v2 v3
    have HB := Lib.hid (b1.trans (nn.mono b1.size))
    go_wp2_with fail
    exact bodyPost_ret (v := .tuple #[.slice none 0 0, .bool false]) (by simp [results, Try.results109, go_sem]) rfl ⟨rfl, HB.out⟩
  have h3b : decide (B < 0) = false := decide_eq_false h3
  obtain ⟨k, rfl⟩ : ∃ k : Nat, A = (k : Int) := ⟨A.toNat, by omega⟩
  have hk : k < S.length := by omega
  rcases h0 with h0 | ⟨b, o, rfl, hB, hc⟩
  · subst h0
    exact absurd hk (by simp)
  obtain ⟨x, va, vb, vc, vd, g, Q, hxy⟩ : ∃ x va vb vc vd g Q, S[k] = (x, (va, vb, vc, vd), g, Q) := ⟨_, _, _, _, _, _, _, rfl⟩
  obtain ⟨_, ad, cp, c6, _⟩ := hc k hk
  rw [hxy] at c6
  simp only at c6
  have hQ : Q.length ≤ 1048576 := by have := hq _ (List.getElem_mem hk); rwa [hxy] at this
  have v6 := cell_regrown ((b1.cell (p := ⟨b, o + k * 7 + 6, none⟩) hB).trans c6)
  by_cases h4 : (Q.length : Int) ≤ B
  · clear hno hc hxy
    go_enter Try.func109, Try.ntmps109
    go_wp2_with fail
    refine wp_region_quiet_below (by kernel_rfl) (by kernel_rfl) ?_
    repeat (any_goals (first | go_big_quiet_step (fail) | quiet_step (fail)))
    refine wpQuiet_nil ?_
    intro W2 hw2
    have nn := quiet_end hw2
    clear hw2 v1 v2 v3 v6
    have HB := Lib.hid (b1.trans (nn.mono b1.size))
    go_wp2_with fail
    exact bodyPost_ret (v := .tuple #[.slice none 0 0, .bool false]) (by simp [results, Try.results109, go_sem]) rfl ⟨rfl, HB.out⟩
  have h4b : decide ((Q.length : Int) ≤ B) = false := decide_eq_false h4
  have hN : N ≠ 0 := fun e => by
    rcases hno with hno | ⟨k', x', a', b', c', d', g', Q', e1, e2, e3⟩
    · exact hno ⟨by omega, by omega, e⟩
    · obtain rfl : k = k' := by omega
      rw [List.getElem?_eq_getElem hk, hxy] at e2
      simp only [Option.some.injEq, Prod.mk.injEq] at e2
      rw [← e2.2.2.2] at e3
      exact e3 ⟨by omega, by omega⟩
  have h5 : (N == 0) = false := beq_eq_false_iff_ne.2 hN
  have h6 : (N != 0) = true := bne_iff_ne.2 hN
  clear hno hc hxy hN
  go_enter Try.func109, Try.ntmps109
  go_wp2_with fail
  refine wp_region_quiet_below (by kernel_rfl) (by kernel_rfl) ?_
  repeat (any_goals (first | go_big_quiet_step (fail) | quiet_step (fail)))
  refine wpQuiet_nil ?_
  intro W2 hw2
  have nn := quiet_end hw2
  clear hw2 v1 v2 v3 v6
  have HB := Lib.hid (b1.trans (nn.mono b1.size))
  go_wp2_with fail
  exact bodyPost_ret (v := .tuple #[.slice none 0 0, .bool false]) (by simp [results, Try.results109, go_sem]) rfl ⟨rfl, HB.out⟩
end Tmc
end Go.Proofs.Ytdhbjjolgmodjaa
