/- Contracts of LockChanges, the program's and the model's, and of what they call, over this seat's translation, as plain functions tell them; nothing that was there before a call has changed. Condition: at most 1048576 of each row. -/
import Derived.Test.YtmhamoeibkpnpaaGg
import Derived.Test.YtmhamoeibkpnpaaPkmk
import Derived.Test.YtmhamoeibkpnpaaIn
import Derived.Deep.CutRange
import Derived.BigQuiet
namespace Go.Proofs.Ytmhamoeibkpnpaa
open Go.RowKit Go.Sort

namespace Lkc
open Cpu
theorem pickEq_alike (n a b c d : Int) (V : World) : (binOp .eql 71 (pick n a b c d) (pick n a b c d)).run Try.prog V = .ok (.bool true) V := by
  go_simp
theorem pickEq_differ {n a b c d m p q r s : Int} (h : ¬ (n = m ∧ a = p ∧ b = q ∧ c = r ∧ d = s)) (V : World) : (binOp .eql 71 (pick n a b c d) (pick m p q r s)).run Try.prog V = .ok (.bool false) V := by
  by_cases h0 : n = m
  · by_cases h1 : a = p
    · by_cases h2 : b = q
      · by_cases h3 : c = r
        · have h4 : (d == s) = false := by rw [beq_eq_false_iff_ne]; exact fun e => h ⟨h0, h1, h2, h3, e⟩
          subst h0; subst h1; subst h2; subst h3
          go_simp
        · have h4 : (c == r) = false := by rw [beq_eq_false_iff_ne]; exact h3
          subst h0; subst h1; subst h2
          go_simp
      · have h4 : (b == q) = false := by rw [beq_eq_false_iff_ne]; exact h2
        subst h0; subst h1
        go_simp
    · have h4 : (a == p) = false := by rw [beq_eq_false_iff_ne]; exact h1
      subst h0
      go_simp
  · have h4 : (n == m) = false := by rw [beq_eq_false_iff_ne]; exact h0
    go_simp
/-- The picks that are to be kept. -/
def keptL (D : List Pk) (F : List Int) : List Pk := D.filter fun x => !decide (x.1 ∈ F)
/-- How many picks stand in none of two rows. -/
def lostL (K C O : List Pk) : Nat := (K.filter fun x => !decide (x ∈ C) && !decide (x ∈ O)).length
def changesL (D : List Pk) (F : List Int) (C : List Pk) : Int := if (pkOk D && pkOk C) = true then (lostL (keptL D F) C [] : Int) else -1
theorem filt_step (f : Pk → Bool) {M : List Pk} {k : Nat} {x : Pk} (h : M[k]? = some x) : (M.take (k + 1)).filter f = (M.take k).filter f ++ if f x = true then [x] else [] := by
  obtain ⟨h1, e1⟩ := List.getElem?_eq_some_iff.1 h
  rw [List.take_succ_eq_append_getElem h1, e1, List.filter_append]
  congr 1
  by_cases hf : f x = true <;> simp [hf]
theorem kept_len (D : List Pk) (F : List Int) : (keptL D F).length ≤ D.length := List.length_filter_le _ _
theorem lost_len (K C O : List Pk) : lostL K C O ≤ K.length := List.length_filter_le _ _
theorem lost_spec (D : List Pk) (F : List Int) (C : List Pk) : lostL (keptL D F) C [] = (D.filter fun x => !decide (x.1 ∈ F) && !decide (x ∈ C)).length := by
  unfold lostL keptL
  rw [List.filter_filter]
  congr 1
  apply List.filter_congr
  intro x _
  simp [Bool.and_comm]
theorem istep {N : List Int} {u : Value} {w V : World} (h : InAt w w.heap.size u N) (hb : Below w.heap.size w V) : InAt V V.heap.size u N := (h.below hb).mono hb.size

set_option maxRecDepth 100000 in
set_option maxHeartbeats 4000000 in
theorem numberAmong_any (u : Value) (N : List Int) (n : Int) (w : World) (hl : N.length ≤ 1048576) (h : InAt w w.heap.size u N) :
    Calls Try.prog 73 #[u, .int .i64 n] w fun e w' => e = .returned (.bool (decide (n ∈ N))) ∧ Below w.heap.size w w' := by
  obtain ⟨xa, ca, rfl, h⟩ := h
  go_enter Try.func73, Try.ntmps73
  go_wp2_with fail
  go_loopw [9] (fun i wr => ∃ k : Nat, k ≤ N.length ∧ i = .int .i64 (k : Int) ∧ n ∉ N.take k ∧ Below w.heap.size w wr) (fun i _ => N.length - (intOf i).toNat)
  case atStart => exact ⟨0, Nat.zero_le _, rfl, by simp, Below.refl _ _⟩
  case round =>
    obtain ⟨k, hk, rfl, ht, hb⟩ := hrel
    have HT := Lib.hid ht
    clear ht
    by_cases hlt : k < N.length
    · rcases h with h | ⟨g, o, rfl, hB, hc⟩
      · subst h
        exact absurd hlt (by simp)
      obtain ⟨x, hx⟩ : ∃ x, N[k] = x := ⟨_, rfl⟩
      have k0 := (hb.cell (p := ⟨g, o + k, none⟩) hB).trans (hc k hlt)
      rw [hx] at k0
      have HX := Lib.hid hx
      clear hx hc
      have j0 : (0 : Int) ≤ (k : Int) := by omega
      have j1 : (k : Int) < (N.length : Int) := by omega
      by_cases hn : x = n
      · have HF := Lib.hid (show decide (n ∈ N) = true from decide_eq_true (by rw [← hn, ← HX.out]; exact List.getElem_mem hlt))
        subst hn
        go_wp2_with fail
        go_ret
        exact ⟨by rw [HF.out]; rfl, hb⟩
      · have hz : (x == n) = false := by rw [beq_eq_false_iff_ne]; exact hn
        have HP := Lib.hid (show n ∉ N.take (k + 1) by
          rw [List.take_succ_eq_append_getElem hlt, HX.out]
          intro m
          rcases List.mem_append.1 m with m | m
          · exact HT.out m
          · simp at m; exact hn m.symm)
        go_wp2_with fail
        go_roundw
        case rel => exact ⟨k + 1, by omega, by go_num, HP.out, hb⟩
        case measure => simp [intOf]; omega
    · obtain rfl : k = N.length := by omega
      have HF := Lib.hid (show decide (n ∈ N) = false from decide_eq_false (by have := HT.out; rwa [List.take_length] at this))
      go_wp2_with fail
      go_ret
      exact ⟨by rw [HF.out]; rfl, hb⟩

set_option maxRecDepth 100000 in
set_option maxHeartbeats 4000000 in
theorem l7Free_any (u : Value) (N : List Int) (n : Int) (w : World) (hl : N.length ≤ 1048576) (h : InAt w w.heap.size u N) :
    Calls Try.prog 43 #[u, .int .i64 n] w fun e w' => e = .returned (.bool (decide (n ∈ N))) ∧ Below w.heap.size w w' := by
  obtain ⟨xa, ca, rfl, h⟩ := h
  go_enter Try.func43, Try.ntmps43
  go_wp2_with fail
  go_loopw [5] (fun i wr => ∃ k : Nat, k ≤ N.length ∧ i = .int .i64 (k : Int) ∧ n ∉ N.take k ∧ Below w.heap.size w wr) (fun i _ => N.length - (intOf i).toNat)
  case atStart => exact ⟨0, Nat.zero_le _, rfl, by simp, Below.refl _ _⟩
  case round =>
    obtain ⟨k, hk, rfl, ht, hb⟩ := hrel
    have HT := Lib.hid ht
    clear ht
    by_cases hlt : k < N.length
    · rcases h with h | ⟨g, o, rfl, hB, hc⟩
      · subst h
        exact absurd hlt (by simp)
      obtain ⟨x, hx⟩ : ∃ x, N[k] = x := ⟨_, rfl⟩
      have k0 := (hb.cell (p := ⟨g, o + k, none⟩) hB).trans (hc k hlt)
      rw [hx] at k0
      have HX := Lib.hid hx
      clear hx hc
      have j0 : (0 : Int) ≤ (k : Int) := by omega
      have j1 : (k : Int) < (N.length : Int) := by omega
      by_cases hn : x = n
      · have HF := Lib.hid (show decide (n ∈ N) = true from decide_eq_true (by rw [← hn, ← HX.out]; exact List.getElem_mem hlt))
        subst hn
        go_wp2_with fail
        go_ret
        exact ⟨by rw [HF.out]; rfl, hb⟩
      · have hz : (x == n) = false := by rw [beq_eq_false_iff_ne]; exact hn
        have HP := Lib.hid (show n ∉ N.take (k + 1) by
          rw [List.take_succ_eq_append_getElem hlt, HX.out]
          intro m
          rcases List.mem_append.1 m with m | m
          · exact HT.out m
          · simp at m; exact hn m.symm)
        go_wp2_with fail
        go_roundw
        case rel => exact ⟨k + 1, by omega, by go_num, HP.out, hb⟩
        case measure => simp [intOf]; omega
    · obtain rfl : k = N.length := by omega
      have HF := Lib.hid (show decide (n ∈ N) = false from decide_eq_false (by have := HT.out; rwa [List.take_length] at this))
      go_wp2_with fail
      go_ret
      exact ⟨by rw [HF.out]; rfl, hb⟩

set_option maxRecDepth 100000 in
set_option maxHeartbeats 4000000 in
theorem inRow_any (z : Value) (C : List Pk) (x p q r s : Int) (w : World) (hC : C.length ≤ 1048576) (h2 : PkAt w w.heap.size z C) :
    Calls Try.prog 72 #[z, pick x p q r s] w fun e w' => e = .returned (.bool (decide ((x, p, q, r, s) ∈ C))) ∧ Below w.heap.size w w' := by
  obtain ⟨pa, pc, rfl, h0⟩ := id h2
  clear h2
  obtain ⟨w1, hw1⟩ : ∃ V : World, V = w.alloc (.cells #[.int .i64 x, .int .i64 p, .int .i64 q, .int .i64 r, .int .i64 s] 71) := ⟨_, rfl⟩
  have b1 : Below w.heap.size w w1 := by rw [hw1]; exact (Below.refl _ _).alloc (Nat.le_refl _) _
  have z1 : w.heap.size + 1 ≤ w1.heap.size := by rw [hw1]; simp
  have y0 : w1.cell? ⟨w.heap.size, 0, none⟩ = some (.int .i64 x) := by rw [hw1]; go_simp
  have y1 : w1.cell? ⟨w.heap.size, 1, none⟩ = some (.int .i64 p) := by rw [hw1]; go_simp
  have y2 : w1.cell? ⟨w.heap.size, 2, none⟩ = some (.int .i64 q) := by rw [hw1]; go_simp
  have y3 : w1.cell? ⟨w.heap.size, 3, none⟩ = some (.int .i64 r) := by rw [hw1]; go_simp
  have y4 : w1.cell? ⟨w.heap.size, 4, none⟩ = some (.int .i64 s) := by rw [hw1]; go_simp
  go_enter Try.func72, Try.ntmps72
  go_upto_region 1 with fail
  rw [← hw1]
  clear hw1
  go_wp2_with fail
  go_loopw [9] (fun i wr => ∃ k : Nat, k ≤ C.length ∧ i = .int .i64 (k : Int) ∧ (x, p, q, r, s) ∉ C.take k ∧ Below w1.heap.size w1 wr) (fun i _ => C.length - (intOf i).toNat)
  case atStart => exact ⟨0, Nat.zero_le _, rfl, by simp, Below.refl _ _⟩
  case round =>
    obtain ⟨k, hk, rfl, he, hb⟩ := hrel
    have HE := Lib.hid he
    clear he
    have bw : Below w.heap.size w wr := b1.trans (hb.mono b1.size)
    by_cases hlt : k < C.length
    · rcases h0 with h0 | ⟨b, o, rfl, hB, hc⟩
      · subst h0
        exact absurd hlt (by simp)
      obtain ⟨m, a, b', c, d, hxy⟩ : ∃ x a b c d, C[k] = (x, a, b, c, d) := ⟨_, _, _, _, _, rfl⟩
      obtain ⟨q0, q1, q2, q3, q4⟩ := hc k hlt
      rw [hxy] at q0 q1 q2 q3 q4
      simp only at q0 q1 q2 q3 q4
      have r0 := (bw.cell (p := ⟨b, o + k * 5, none⟩) hB).trans q0
      have r1 := (bw.cell (p := ⟨b, o + k * 5 + 1, none⟩) hB).trans q1
      have r2 := (bw.cell (p := ⟨b, o + k * 5 + 2, none⟩) hB).trans q2
      have r3 := (bw.cell (p := ⟨b, o + k * 5 + 3, none⟩) hB).trans q3
      have r4 := (bw.cell (p := ⟨b, o + k * 5 + 4, none⟩) hB).trans q4
      have v0 := (hb.cell (p := ⟨w.heap.size, 0, none⟩) (by show w.heap.size < w1.heap.size; omega)).trans y0
      have v1 := (hb.cell (p := ⟨w.heap.size, 1, none⟩) (by show w.heap.size < w1.heap.size; omega)).trans y1
      have v2 := (hb.cell (p := ⟨w.heap.size, 2, none⟩) (by show w.heap.size < w1.heap.size; omega)).trans y2
      have v3 := (hb.cell (p := ⟨w.heap.size, 3, none⟩) (by show w.heap.size < w1.heap.size; omega)).trans y3
      have v4 := (hb.cell (p := ⟨w.heap.size, 4, none⟩) (by show w.heap.size < w1.heap.size; omega)).trans y4
      have HXY := Lib.hid hxy
      have i0 : (0 : Int) ≤ (k : Int) := by omega
      have i1 : (k : Int) < (C.length : Int) := by omega
      clear hc hxy q0 q1 q2 q3 q4
      have hx := hb.alloc hb.size (.cells #[.int .i64 m, .int .i64 a, .int .i64 b', .int .i64 c, .int .i64 d] 71)
      have bx := bw.alloc bw.size (.cells #[.int .i64 m, .int .i64 a, .int .i64 b', .int .i64 c, .int .i64 d] 71)
      have zz : w.heap.size < wr.heap.size := by have := hb.size; omega
      have zn1 := Nat.ne_of_lt zz
      have zn2 := (Nat.ne_of_lt zz).symm
      by_cases hv : m = x ∧ a = p ∧ b' = q ∧ c = r ∧ d = s
      · obtain ⟨rfl, rfl, rfl, rfl, rfl⟩ := hv
        have hpe := pickEq_alike m a b' c d
        have HT := Lib.hid (show decide ((m, a, b', c, d) ∈ C) = true from decide_eq_true (by rw [← HXY.out]; exact List.getElem_mem hlt))
        go_wp2_with fail
        go_ret
        exact ⟨by rw [HT.out]; rfl, bx⟩
      · have hpe := pickEq_differ hv
        have HT := Lib.hid (show (x, p, q, r, s) ∉ C.take (k + 1) by
          rw [List.take_succ_eq_append_getElem hlt, HXY.out]
          intro mm
          rcases List.mem_append.1 mm with mm | mm
          · exact HE.out mm
          · simp only [List.mem_singleton, Prod.mk.injEq] at mm
            exact hv ⟨mm.1.symm, mm.2.1.symm, mm.2.2.1.symm, mm.2.2.2.1.symm, mm.2.2.2.2.symm⟩)
        clear hv
        go_wp2_with fail
        go_roundw
        case rel => exact ⟨k + 1, by omega, by go_num, HT.out, hx⟩
        case measure => simp [intOf]; omega
    · obtain rfl : k = C.length := by omega
      have HQ := Lib.hid (show decide ((x, p, q, r, s) ∈ C) = false from decide_eq_false (by have := HE.out; rwa [List.take_length] at this))
      go_wp2_with fail
      go_ret
      exact ⟨by rw [HQ.out]; rfl, bw⟩

set_option maxRecDepth 100000 in
set_option maxHeartbeats 4000000 in
theorem l4Held_mem (z : Value) (C : List Pk) (x p q r s : Int) (w : World) (hC : C.length ≤ 1048576) (h2 : PkAt w w.heap.size z C) :
    Calls Try.prog 44 #[z, pick x p q r s] w fun e w' => e = .returned (.bool (decide ((x, p, q, r, s) ∈ C))) ∧ Below w.heap.size w w' := by
  obtain ⟨pa, pc, rfl, h0⟩ := id h2
  clear h2
  obtain ⟨w1, hw1⟩ : ∃ V : World, V = w.alloc (.cells #[.int .i64 x, .int .i64 p, .int .i64 q, .int .i64 r, .int .i64 s] 71) := ⟨_, rfl⟩
  have b1 : Below w.heap.size w w1 := by rw [hw1]; exact (Below.refl _ _).alloc (Nat.le_refl _) _
  have z1 : w.heap.size + 1 ≤ w1.heap.size := by rw [hw1]; simp
  have y0 : w1.cell? ⟨w.heap.size, 0, none⟩ = some (.int .i64 x) := by rw [hw1]; go_simp
  have y1 : w1.cell? ⟨w.heap.size, 1, none⟩ = some (.int .i64 p) := by rw [hw1]; go_simp
  have y2 : w1.cell? ⟨w.heap.size, 2, none⟩ = some (.int .i64 q) := by rw [hw1]; go_simp
  have y3 : w1.cell? ⟨w.heap.size, 3, none⟩ = some (.int .i64 r) := by rw [hw1]; go_simp
  have y4 : w1.cell? ⟨w.heap.size, 4, none⟩ = some (.int .i64 s) := by rw [hw1]; go_simp
  go_enter Try.func44, Try.ntmps44
  go_upto_region 1 with fail
  rw [← hw1]
  clear hw1
  go_wp2_with fail
  go_loopw [5] (fun i wr => ∃ k : Nat, k ≤ C.length ∧ i = .int .i64 (k : Int) ∧ (x, p, q, r, s) ∉ C.take k ∧ Below w1.heap.size w1 wr) (fun i _ => C.length - (intOf i).toNat)
  case atStart => exact ⟨0, Nat.zero_le _, rfl, by simp, Below.refl _ _⟩
  case round =>
    obtain ⟨k, hk, rfl, he, hb⟩ := hrel
    have HE := Lib.hid he
    clear he
    have bw : Below w.heap.size w wr := b1.trans (hb.mono b1.size)
    by_cases hlt : k < C.length
    · rcases h0 with h0 | ⟨b, o, rfl, hB, hc⟩
      · subst h0
        exact absurd hlt (by simp)
      obtain ⟨m, a, b', c, d, hxy⟩ : ∃ x a b c d, C[k] = (x, a, b, c, d) := ⟨_, _, _, _, _, rfl⟩
      obtain ⟨q0, q1, q2, q3, q4⟩ := hc k hlt
      rw [hxy] at q0 q1 q2 q3 q4
      simp only at q0 q1 q2 q3 q4
      have r0 := (bw.cell (p := ⟨b, o + k * 5, none⟩) hB).trans q0
      have r1 := (bw.cell (p := ⟨b, o + k * 5 + 1, none⟩) hB).trans q1
      have r2 := (bw.cell (p := ⟨b, o + k * 5 + 2, none⟩) hB).trans q2
      have r3 := (bw.cell (p := ⟨b, o + k * 5 + 3, none⟩) hB).trans q3
      have r4 := (bw.cell (p := ⟨b, o + k * 5 + 4, none⟩) hB).trans q4
      have t0 := cell_regrown r0
      have t1 := cell_regrown r1
      have t2 := cell_regrown r2
      have t3 := cell_regrown r3
      have t4 := cell_regrown r4
      have v0 := (hb.cell (p := ⟨w.heap.size, 0, none⟩) (by show w.heap.size < w1.heap.size; omega)).trans y0
      have v1 := (hb.cell (p := ⟨w.heap.size, 1, none⟩) (by show w.heap.size < w1.heap.size; omega)).trans y1
      have v2 := (hb.cell (p := ⟨w.heap.size, 2, none⟩) (by show w.heap.size < w1.heap.size; omega)).trans y2
      have v3 := (hb.cell (p := ⟨w.heap.size, 3, none⟩) (by show w.heap.size < w1.heap.size; omega)).trans y3
      have v4 := (hb.cell (p := ⟨w.heap.size, 4, none⟩) (by show w.heap.size < w1.heap.size; omega)).trans y4
      have u0 := cell_regrown v0
      have u1 := cell_regrown v1
      have u2 := cell_regrown v2
      have u3 := cell_regrown v3
      have u4 := cell_regrown v4
      clear r0 r1 r2 r3 r4 v0 v1 v2 v3 v4
      have HXY := Lib.hid hxy
      have i0 : (0 : Int) ≤ (k : Int) := by omega
      have i1 : (k : Int) < (C.length : Int) := by omega
      clear hc hxy q0 q1 q2 q3 q4
      by_cases hv : m = x ∧ a = p ∧ b' = q ∧ c = r ∧ d = s
      · obtain ⟨rfl, rfl, rfl, rfl, rfl⟩ := hv
        have hpe := pickEq_alike m a b' c d
        have HT := Lib.hid (show decide ((m, a, b', c, d) ∈ C) = true from decide_eq_true (by rw [← HXY.out]; exact List.getElem_mem hlt))
        go_wp2_with fail
        refine wp_region_quiet_below (by kernel_rfl) (by kernel_rfl) ?_
        repeat (any_goals (first | go_big_quiet_step (fail) | quiet_step (fail)))
        refine wpQuiet_nil ?_
        intro W2 hw2
        have nn := quiet_end hw2
        clear hw2 t0 t1 t2 t3 t4 u0 u1 u2 u3 u4
        go_wp2_with fail
        go_ret
        exact ⟨by rw [HT.out]; rfl, bw.trans (nn.mono bw.size)⟩
      · have hpe := pickEq_differ hv
        have HT := Lib.hid (show (x, p, q, r, s) ∉ C.take (k + 1) by
          rw [List.take_succ_eq_append_getElem hlt, HXY.out]
          intro mm
          rcases List.mem_append.1 mm with mm | mm
          · exact HE.out mm
          · simp only [List.mem_singleton, Prod.mk.injEq] at mm
            exact hv ⟨mm.1.symm, mm.2.1.symm, mm.2.2.1.symm, mm.2.2.2.1.symm, mm.2.2.2.2.symm⟩)
        clear hv
        go_wp2_with fail
        refine wp_region_quiet_below (by kernel_rfl) (by kernel_rfl) ?_
        repeat (any_goals (first | go_big_quiet_step (fail) | quiet_step (fail)))
        refine wpQuiet_nil ?_
        intro W2 hw2
        have nn := quiet_end hw2
        clear hw2 t0 t1 t2 t3 t4 u0 u1 u2 u3 u4
        go_wp2_with fail
        go_roundw
        case rel => exact ⟨k + 1, by omega, by go_num, HT.out, hb.trans (nn.mono hb.size)⟩
        case measure => simp [intOf]; omega
    · obtain rfl : k = C.length := by omega
      have HQ := Lib.hid (show decide ((x, p, q, r, s) ∈ C) = false from decide_eq_false (by have := HE.out; rwa [List.take_length] at this))
      go_wp2_with fail
      go_ret
      exact ⟨by rw [HQ.out]; rfl, bw⟩

set_option maxRecDepth 100000 in
set_option maxHeartbeats 4000000 in
theorem picksNotFree_any (v u : Value) (M : List Pk) (F : List Int) (w : World) (hl : M.length ≤ 1048576) (hF : F.length ≤ 1048576) (h : PkAt w w.heap.size v M) (h' : InAt w w.heap.size u F) :
    Calls Try.prog 41 #[v, u] w fun e w' => ∃ r, e = .returned r ∧ KOwn w' w.heap.size r (keptL M F) ∧ Below w.heap.size w w' := by
  obtain ⟨i0, hi, hz0, hz1, hz2⟩ := info_parts infoPick
  obtain ⟨a, cap, rfl, h0⟩ := id h
  have H' := Lib.hid h'
  have HH := Lib.hid h0
  clear h h' h0
  go_enter Try.func41, Try.ntmps41
  go_wp2_with fail
  go_loopw [5, 10] (fun r i wr => ∃ k : Nat, k ≤ M.length ∧ i = .int .i64 (k : Int) ∧ KOwn wr w.heap.size r (keptL (M.take k) F) ∧ Below w.heap.size w wr) (fun _ i _ => M.length - (intOf i).toNat)
  case atStart => exact ⟨0, Nat.zero_le _, rfl, World.ownsRow_nil _ _ _ _, Below.refl _ _⟩
  case round =>
    obtain ⟨k, hk, rfl, hown, hb⟩ := hrel
    obtain ⟨va, vc, hv, hx⟩ := id (KOwn.pb hown).at
    subst hv
    have HO := Lib.hid hown
    have hkl : (keptL (M.take k) F).length ≤ k := Nat.le_trans (kept_len _ _) (List.length_take_le _ _)
    clear hx hown
    by_cases hlt : k < M.length
    · rcases HH.out with h | ⟨b, o, rfl, hB, hc⟩
      · subst h
        exact absurd hlt (by simp)
      obtain ⟨x, a1, b1, c1, d1, hxy⟩ : ∃ x a1 b1 c1 d1, M[k] = (x, a1, b1, c1, d1) := ⟨_, _, _, _, _, rfl⟩
      have m := (hc k hlt).below hb hB
      rw [hxy] at m
      obtain ⟨k0, k1, k2, k3, k4⟩ := m
      simp only at k0 k1 k2 k3 k4
      have HST := Lib.hid (filt_step (fun x => !decide (x.1 ∈ F)) (show M[k]? = some (x, a1, b1, c1, d1) by rw [List.getElem?_eq_getElem hlt, hxy]))
      clear hxy hc
      have hbz := hb.size
      obtain ⟨w2, hw2⟩ : ∃ V : World, V = wr.alloc (.cells #[.int .i64 x, .int .i64 a1, .int .i64 b1, .int .i64 c1, .int .i64 d1] 71) := ⟨_, rfl⟩
      have b12 : Below wr.heap.size wr w2 := by rw [hw2]; exact (Below.refl _ _).alloc (Nat.le_refl _) _
      have y0 : w2.cell? ⟨wr.heap.size, 0, none⟩ = some (.int .i64 x) := by rw [hw2]; go_simp
      have y1 : w2.cell? ⟨wr.heap.size, 1, none⟩ = some (.int .i64 a1) := by rw [hw2]; go_simp
      have y2 : w2.cell? ⟨wr.heap.size, 2, none⟩ = some (.int .i64 b1) := by rw [hw2]; go_simp
      have y3 : w2.cell? ⟨wr.heap.size, 3, none⟩ = some (.int .i64 c1) := by rw [hw2]; go_simp
      have y4 : w2.cell? ⟨wr.heap.size, 4, none⟩ = some (.int .i64 d1) := by rw [hw2]; go_simp
      have z12 : wr.heap.size < w2.heap.size := by rw [hw2]; simp
      have b2 := hb.trans (b12.mono hbz)
      have HO2 := Lib.hid (KOwn.below HO.out b12)
      have KN : Hid (∀ V, Below w.heap.size w V → Calls Try.prog 73 #[u, .int .i64 x] V fun e w' => e = .returned (.bool (decide (x ∈ F))) ∧ Below V.heap.size V w') := Lib.hid fun V g => numberAmong_any _ F x V hF (istep H'.out g)
      by_cases hin : x ∈ F
      · rw [decide_eq_true hin] at KN
        have HQ := Lib.hid (show keptL (M.take (k + 1)) F = keptL (M.take k) F by
          show (M.take (k + 1)).filter _ = _
          rw [HST.out]
          simp [hin, keptL])
        clear hin
        go_upto_region 5 with fail
        rw [← hw2]
        clear hw2 k0 k1 k2 k3 k4
        go_wp2_with fail
        refine (KN.out _ b2).mono ?_
        rintro e w3 ⟨rfl, hb3⟩
        have HR := Lib.hid (show ∃ k' : Nat, k' ≤ M.length ∧ Value.int .i64 ((k : Int) + 1) = .int .i64 (k' : Int) ∧ KOwn w3 w.heap.size (.slice va (keptL (M.take k) F).length vc) (keptL (M.take k') F) ∧ Below w.heap.size w w3 from ⟨k + 1, by omega, by go_num, by rw [HQ.out]; exact KOwn.below HO2.out hb3, b2.trans (hb3.mono b2.size)⟩)
        clear hb3 b2 hb
        go_wp2_with fail
        go_roundw
        case rel => exact HR.out
        case measure => simp [intOf]; omega
      · rw [decide_eq_false hin] at KN
        have HQ := Lib.hid (show keptL (M.take (k + 1)) F = keptL (M.take k) F ++ [(x, a1, b1, c1, d1)] by
          show (M.take (k + 1)).filter _ = _
          rw [HST.out]
          simp [hin, keptL])
        clear hin
        go_upto_region 5 with fail
        rw [← hw2]
        clear hw2 k0 k1 k2 k3 k4
        go_wp2_with fail
        refine (KN.out _ b2).mono ?_
        rintro e w3 ⟨rfl, hb3⟩
        have v0 := (hb3.cell (p := ⟨wr.heap.size, 0, none⟩) z12).trans y0
        have v1 := (hb3.cell (p := ⟨wr.heap.size, 1, none⟩) z12).trans y1
        have v2 := (hb3.cell (p := ⟨wr.heap.size, 2, none⟩) z12).trans y2
        have v3 := (hb3.cell (p := ⟨wr.heap.size, 3, none⟩) z12).trans y3
        have v4 := (hb3.cell (p := ⟨wr.heap.size, 4, none⟩) z12).trans y4
        have b3 := b2.trans (hb3.mono b2.size)
        have z3 := b3.size
        have o3 := KOwn.below HO2.out hb3
        clear hb3 b2 y0 y1 y2 y3 y4
        go_wp2_with (at_builtin; refine wpList_append_own _ rfl _ _ 23 rfl w.heap.size 71 i0 (.agg #[.int .i64 0, .int .i64 0, .int .i64 0, .int .i64 0, .int .i64 0]) 5 40 Try.underlying23 hi hz0 hz1 hz2 rfl (by decide) _ _ _ rfl (KOwn.below o3 ((Below.refl w3.heap.size w3).alloc (Nat.le_refl _) (.cells #[.int .i64 x, .int .i64 a1, .int .i64 b1, .int .i64 c1, .int .i64 d1] 71))) ⟨w3.heap.size, 0, none⟩ 1 1 [.int .i64 x, .int .i64 a1, .int .i64 b1, .int .i64 c1, .int .i64 d1] rfl rfl (pick_new w3 x a1 b1 c1 d1) (pick_one _ _ _ _ _) (by unfold maxLen; omega) (by omega) (by simp; omega) ?_)
        intro v' w5 hown' hgrow hnn
        have HR := Lib.hid (show ∃ k' : Nat, k' ≤ M.length ∧ Value.int .i64 ((k : Int) + 1) = .int .i64 (k' : Int) ∧ KOwn w5 w.heap.size v' (keptL (M.take k') F) ∧ Below w.heap.size w w5 from ⟨k + 1, by omega, by go_num, by rw [HQ.out]; exact KOwn.push hown', KOwn.gone o3 b3 z3 hgrow⟩)
        clear hown' hgrow hnn o3 b3
        go_wp2_with fail
        go_roundw
        case rel => exact HR.out
        case measure => simp [intOf]; omega
    · obtain rfl : k = M.length := by omega
      have HQ := Lib.hid (show keptL (M.take M.length) F = keptL M F by rw [List.take_length])
      go_wp2_with fail
      go_ret
      exact ⟨_, rfl, by have := HO.out; rw [HQ.out] at this; rwa [HQ.out], hb⟩

set_option maxRecDepth 100000 in
set_option maxHeartbeats 4000000 in
theorem picksLost_any (v u z : Value) (M C O : List Pk) (w : World) (hl : M.length ≤ 1048576) (hC : C.length ≤ 1048576) (hO : O.length ≤ 1048576) (h : PkAt w w.heap.size v M) (h' : PkAt w w.heap.size u C) (h2 : PkAt w w.heap.size z O) :
    Calls Try.prog 40 #[v, u, z] w fun e w' => e = .returned (.int .i64 (lostL M C O : Int)) ∧ Below w.heap.size w w' := by
  obtain ⟨a, cap, rfl, h0⟩ := id h
  have H' := Lib.hid h'
  have H2 := Lib.hid h2
  have HH := Lib.hid h0
  clear h h' h0 h2
  go_enter Try.func40, Try.ntmps40
  go_wp2_with fail
  go_loopw [7, 12] (fun n i wr => ∃ k : Nat, k ≤ M.length ∧ i = .int .i64 (k : Int) ∧ n = .int .i64 (lostL (M.take k) C O : Int) ∧ Below w.heap.size w wr) (fun _ i _ => M.length - (intOf i).toNat)
  case atStart => exact ⟨0, Nat.zero_le _, rfl, rfl, Below.refl _ _⟩
  case round =>
    obtain ⟨k, hk, rfl, rfl, hb⟩ := hrel
    have hll : lostL (M.take k) C O ≤ k := Nat.le_trans (lost_len _ _ _) (List.length_take_le _ _)
    by_cases hlt : k < M.length
    · rcases HH.out with h | ⟨b, o, rfl, hB, hc⟩
      · subst h
        exact absurd hlt (by simp)
      obtain ⟨x, a1, b1, c1, d1, hxy⟩ : ∃ x a1 b1 c1 d1, M[k] = (x, a1, b1, c1, d1) := ⟨_, _, _, _, _, rfl⟩
      have m := (hc k hlt).below hb hB
      rw [hxy] at m
      obtain ⟨k0, k1, k2, k3, k4⟩ := m
      simp only at k0 k1 k2 k3 k4
      have HST := Lib.hid (filt_step (fun x => !decide (x ∈ C) && !decide (x ∈ O)) (show M[k]? = some (x, a1, b1, c1, d1) by rw [List.getElem?_eq_getElem hlt, hxy]))
      clear hxy hc
      have hbz := hb.size
      obtain ⟨w2, hw2⟩ : ∃ V : World, V = wr.alloc (.cells #[.int .i64 x, .int .i64 a1, .int .i64 b1, .int .i64 c1, .int .i64 d1] 71) := ⟨_, rfl⟩
      have b12 : Below wr.heap.size wr w2 := by rw [hw2]; exact (Below.refl _ _).alloc (Nat.le_refl _) _
      have y0 : w2.cell? ⟨wr.heap.size, 0, none⟩ = some (.int .i64 x) := by rw [hw2]; go_simp
      have y1 : w2.cell? ⟨wr.heap.size, 1, none⟩ = some (.int .i64 a1) := by rw [hw2]; go_simp
      have y2 : w2.cell? ⟨wr.heap.size, 2, none⟩ = some (.int .i64 b1) := by rw [hw2]; go_simp
      have y3 : w2.cell? ⟨wr.heap.size, 3, none⟩ = some (.int .i64 c1) := by rw [hw2]; go_simp
      have y4 : w2.cell? ⟨wr.heap.size, 4, none⟩ = some (.int .i64 d1) := by rw [hw2]; go_simp
      have z12 : wr.heap.size < w2.heap.size := by rw [hw2]; simp
      have b2 := hb.trans (b12.mono hbz)
      have KC : Hid (∀ V, Below w.heap.size w V → Calls Try.prog 72 #[u, pick x a1 b1 c1 d1] V fun e w' => e = .returned (.bool (decide ((x, a1, b1, c1, d1) ∈ C))) ∧ Below V.heap.size V w') := Lib.hid fun V g => inRow_any _ C x a1 b1 c1 d1 V hC (H'.out.stepAt g)
      have KO : Hid (∀ V, Below w.heap.size w V → Calls Try.prog 72 #[z, pick x a1 b1 c1 d1] V fun e w' => e = .returned (.bool (decide ((x, a1, b1, c1, d1) ∈ O))) ∧ Below V.heap.size V w') := Lib.hid fun V g => inRow_any _ O x a1 b1 c1 d1 V hO (H2.out.stepAt g)
      by_cases hin : (x, a1, b1, c1, d1) ∈ C
      · rw [decide_eq_true hin] at KC
        have HQ := Lib.hid (show lostL (M.take (k + 1)) C O = lostL (M.take k) C O by
          show ((M.take (k + 1)).filter _).length = _
          rw [HST.out]
          simp [hin, lostL])
        clear hin KO
        go_upto_region 5 with fail
        rw [← hw2]
        clear hw2 k0 k1 k2 k3 k4
        go_wp2_with fail
        refine (KC.out _ b2).mono ?_
        rintro e w3 ⟨rfl, hb3⟩
        have HB := Lib.hid (b2.trans (hb3.mono b2.size))
        clear hb3 b2 hb
        go_wp2_with fail
        go_roundw
        case rel => exact ⟨k + 1, by omega, by go_num, by rw [HQ.out], HB.out⟩
        case measure => simp [intOf]; omega
      · rw [decide_eq_false hin] at KC
        by_cases hio : (x, a1, b1, c1, d1) ∈ O
        · rw [decide_eq_true hio] at KO
          have HQ := Lib.hid (show lostL (M.take (k + 1)) C O = lostL (M.take k) C O by
            show ((M.take (k + 1)).filter _).length = _
            rw [HST.out]
            simp [hin, hio, lostL])
          clear hin hio
          go_upto_region 5 with fail
          rw [← hw2]
          clear hw2 k0 k1 k2 k3 k4
          go_wp2_with fail
          refine (KC.out _ b2).mono ?_
          rintro e w3 ⟨rfl, hb3⟩
          have v0 := (hb3.cell (p := ⟨wr.heap.size, 0, none⟩) z12).trans y0
          have v1 := (hb3.cell (p := ⟨wr.heap.size, 1, none⟩) z12).trans y1
          have v2 := (hb3.cell (p := ⟨wr.heap.size, 2, none⟩) z12).trans y2
          have v3 := (hb3.cell (p := ⟨wr.heap.size, 3, none⟩) z12).trans y3
          have v4 := (hb3.cell (p := ⟨wr.heap.size, 4, none⟩) z12).trans y4
          have b3 := b2.trans (hb3.mono b2.size)
          clear hb3 b2 y0 y1 y2 y3 y4
          go_wp2_with fail
          refine (KO.out _ b3).mono ?_
          rintro e w4 ⟨rfl, hb4⟩
          have HB := Lib.hid (b3.trans (hb4.mono b3.size))
          clear hb4 b3 hb
          go_wp2_with fail
          go_roundw
          case rel => exact ⟨k + 1, by omega, by go_num, by rw [HQ.out], HB.out⟩
          case measure => simp [intOf]; omega
        · rw [decide_eq_false hio] at KO
          have HQ := Lib.hid (show lostL (M.take (k + 1)) C O = lostL (M.take k) C O + 1 by
            show ((M.take (k + 1)).filter _).length = _
            rw [HST.out]
            simp [hin, hio, lostL])
          clear hin hio
          go_upto_region 5 with fail
          rw [← hw2]
          clear hw2 k0 k1 k2 k3 k4
          go_wp2_with fail
          refine (KC.out _ b2).mono ?_
          rintro e w3 ⟨rfl, hb3⟩
          have v0 := (hb3.cell (p := ⟨wr.heap.size, 0, none⟩) z12).trans y0
          have v1 := (hb3.cell (p := ⟨wr.heap.size, 1, none⟩) z12).trans y1
          have v2 := (hb3.cell (p := ⟨wr.heap.size, 2, none⟩) z12).trans y2
          have v3 := (hb3.cell (p := ⟨wr.heap.size, 3, none⟩) z12).trans y3
          have v4 := (hb3.cell (p := ⟨wr.heap.size, 4, none⟩) z12).trans y4
          have b3 := b2.trans (hb3.mono b2.size)
          clear hb3 b2 y0 y1 y2 y3 y4
          go_wp2_with fail
          refine (KO.out _ b3).mono ?_
          rintro e w4 ⟨rfl, hb4⟩
          have HB := Lib.hid (b3.trans (hb4.mono b3.size))
          clear hb4 b3 hb
          go_wp2_with fail
          go_roundw
          case rel => exact ⟨k + 1, by omega, by go_num, by rw [HQ.out]; go_num, HB.out⟩
          case measure => simp [intOf]; omega
    · obtain rfl : k = M.length := by omega
      have HQ := Lib.hid (show lostL (M.take M.length) C O = lostL M C O by rw [List.take_length])
      go_wp2_with fail
      go_ret
      exact ⟨by rw [HQ.out]; rfl, hb⟩

set_option maxRecDepth 100000 in
set_option maxHeartbeats 2000000 in
theorem implChanges_none (v u z : Value) (D : List Pk) (C : List Pk) (w : World) (hD : D.length ≤ 1048576) (hC : C.length ≤ 1048576) (h : PkAt w w.heap.size v D) (h2 : PkAt w w.heap.size z C) (hn : (pkOk D && pkOk C) = false) :
    Calls Try.prog 9 #[v, u, z] w fun e w' => e = .returned (.int .i64 (-1)) ∧ Below w.heap.size w w' := by
  have KD : Hid (∀ V, Below w.heap.size w V → Calls Try.prog 11 #[v] V fun e w' => e = .returned (.bool (pkOk D)) ∧ Below V.heap.size V w') := Lib.hid fun V g => implPicksOk_any _ D V hD (h.stepAt g)
  have KC : Hid (∀ V, Below w.heap.size w V → Calls Try.prog 11 #[z] V fun e w' => e = .returned (.bool (pkOk C)) ∧ Below V.heap.size V w') := Lib.hid fun V g => implPicksOk_any _ C V hC (h2.stepAt g)
  clear h h2
  rcases hd : pkOk D
  · rw [hd] at KD
    clear hd hn KC
    go_enter Try.func9, Try.ntmps9
    go_wp2_with fail
    refine (KD.out _ (Below.refl _ _)).mono ?_
    rintro e w1 ⟨rfl, hb⟩
    go_wp2_with fail
    go_ret
    exact ⟨rfl, hb⟩
  · rw [hd] at KD hn
    have hc : pkOk C = false := by simpa using hn
    rw [hc] at KC
    clear hd hn hc
    go_enter Try.func9, Try.ntmps9
    go_wp2_with fail
    refine (KD.out _ (Below.refl _ _)).mono ?_
    rintro e w1 ⟨rfl, hb⟩
    go_wp2_with fail
    refine (KC.out _ hb).mono ?_
    rintro e w2 ⟨rfl, hb2⟩
    go_wp2_with fail
    go_ret
    exact ⟨rfl, hb.trans (hb2.mono hb.size)⟩

set_option maxRecDepth 100000 in
set_option maxHeartbeats 2000000 in
theorem implChanges_any (v u z : Value) (D : List Pk) (F : List Int) (C : List Pk) (w : World) (hD : D.length ≤ 1048576) (hF : F.length ≤ 1048576) (hC : C.length ≤ 1048576) (h : PkAt w w.heap.size v D) (h1 : InAt w w.heap.size u F) (h2 : PkAt w w.heap.size z C) :
    Calls Try.prog 9 #[v, u, z] w fun e w' => e = .returned (.int .i64 (changesL D F C)) ∧ Below w.heap.size w w' := by
  rcases hn : (pkOk D && pkOk C)
  · have e : changesL D F C = -1 := by unfold changesL; rw [hn]; rfl
    rw [e]
    exact implChanges_none v u z D C w hD hC h h2 hn
  · have HE := Lib.hid (show changesL D F C = (lostL (keptL D F) C [] : Int) by unfold changesL; rw [if_pos hn])
    have hd : pkOk D = true := by rw [Bool.and_eq_true] at hn; exact hn.1
    have hc : pkOk C = true := by rw [Bool.and_eq_true] at hn; exact hn.2
    have KD : Hid (∀ V, Below w.heap.size w V → Calls Try.prog 11 #[v] V fun e w' => e = .returned (.bool true) ∧ Below V.heap.size V w') := Lib.hid fun V g => by have := implPicksOk_any _ D V hD (h.stepAt g); rwa [hd] at this
    have KC : Hid (∀ V, Below w.heap.size w V → Calls Try.prog 11 #[z] V fun e w' => e = .returned (.bool true) ∧ Below V.heap.size V w') := Lib.hid fun V g => by have := implPicksOk_any _ C V hC (h2.stepAt g); rwa [hc] at this
    have KF := Lib.hid fun V (g : Below w.heap.size w V) => picksNotFree_any v u D F V hD hF (h.stepAt g) (istep h1 g)
    have hkl := kept_len D F
    have H2 := Lib.hid h2
    clear h h1 h2 hn hd hc
    go_enter Try.func9, Try.ntmps9
    go_wp2_with fail
    refine (KD.out _ (Below.refl _ _)).mono ?_
    rintro e w1 ⟨rfl, hb⟩
    have n1 := hb
    clear hb
    go_wp2_with fail
    refine (KC.out _ n1).mono ?_
    rintro e w2 ⟨rfl, hb⟩
    have n2 := n1.trans (hb.mono n1.size)
    clear hb n1
    go_wp2_with fail
    refine (KF.out _ n2).mono ?_
    rintro e w3 ⟨r, rfl, hr, hb⟩
    have n3 := n2.trans (hb.mono n2.size)
    clear hb n2
    go_wp2_with fail
    refine (picksLost_any _ _ _ (keptL D F) C [] _ (by omega) hC (by simp) (KOwn.pb hr).at (H2.out.stepAt n3) ⟨_, _, rfl, .inl rfl⟩).mono ?_
    rintro e w4 ⟨rfl, hb⟩
    have n4 := n3.trans (hb.mono n3.size)
    clear hb n3
    go_wp2_with fail
    go_ret
    exact ⟨by rw [HE.out]; rfl, n4⟩

set_option maxRecDepth 100000 in
set_option maxHeartbeats 2000000 in
theorem specChanges_none (v u z : Value) (D : List Pk) (C : List Pk) (w : World) (hD : D.length ≤ 1048576) (hC : C.length ≤ 1048576) (h : PkAt w w.heap.size v D) (h2 : PkAt w w.heap.size z C) (hn : (pkOk D && pkOk C) = false) :
    Calls Try.prog 10 #[v, u, z] w fun e w' => e = .returned (.int .i64 (-1)) ∧ Below w.heap.size w w' := by
  have KD : Hid (∀ V, Below w.heap.size w V → Calls Try.prog 42 #[v] V fun e w' => e = .returned (.bool (pkOk D)) ∧ Below V.heap.size V w') := Lib.hid fun V g => specPicksOk_any _ D V hD (h.stepAt g)
  have KC : Hid (∀ V, Below w.heap.size w V → Calls Try.prog 42 #[z] V fun e w' => e = .returned (.bool (pkOk C)) ∧ Below V.heap.size V w') := Lib.hid fun V g => specPicksOk_any _ C V hC (h2.stepAt g)
  clear h h2
  rcases hd : pkOk D
  · rw [hd] at KD
    clear hd hn KC
    go_enter Try.func10, Try.ntmps10
    go_wp2_with fail
    refine (KD.out _ (Below.refl _ _)).mono ?_
    rintro e w1 ⟨rfl, hb⟩
    go_wp2_with fail
    go_ret
    exact ⟨rfl, hb⟩
  · rw [hd] at KD hn
    have hc : pkOk C = false := by simpa using hn
    rw [hc] at KC
    clear hd hn hc
    go_enter Try.func10, Try.ntmps10
    go_wp2_with fail
    refine (KD.out _ (Below.refl _ _)).mono ?_
    rintro e w1 ⟨rfl, hb⟩
    go_wp2_with fail
    refine (KC.out _ hb).mono ?_
    rintro e w2 ⟨rfl, hb2⟩
    go_wp2_with fail
    go_ret
    exact ⟨rfl, hb.trans (hb2.mono hb.size)⟩

set_option maxRecDepth 100000 in
set_option maxHeartbeats 4000000 in
theorem specChanges_any (v u z : Value) (D : List Pk) (F : List Int) (C : List Pk) (w : World) (hD : D.length ≤ 1048576) (hF : F.length ≤ 1048576) (hC : C.length ≤ 1048576) (h : PkAt w w.heap.size v D) (h1 : InAt w w.heap.size u F) (h2 : PkAt w w.heap.size z C) :
    Calls Try.prog 10 #[v, u, z] w fun e w' => e = .returned (.int .i64 (changesL D F C)) ∧ Below w.heap.size w w' := by
  rcases hn : (pkOk D && pkOk C)
  · have e : changesL D F C = -1 := by unfold changesL; rw [hn]; rfl
    rw [e]
    exact specChanges_none v u z D C w hD hC h h2 hn
  · have HE := Lib.hid (show changesL D F C = ((D.filter fun x => !decide (x.1 ∈ F) && !decide (x ∈ C)).length : Int) by unfold changesL; rw [if_pos hn, lost_spec])
    have hd : pkOk D = true := by rw [Bool.and_eq_true] at hn; exact hn.1
    have hc : pkOk C = true := by rw [Bool.and_eq_true] at hn; exact hn.2
    have KD : Hid (∀ V, Below w.heap.size w V → Calls Try.prog 42 #[v] V fun e w' => e = .returned (.bool true) ∧ Below V.heap.size V w') := Lib.hid fun V g => by have := specPicksOk_any _ D V hD (h.stepAt g); rwa [hd] at this
    have KC : Hid (∀ V, Below w.heap.size w V → Calls Try.prog 42 #[z] V fun e w' => e = .returned (.bool true) ∧ Below V.heap.size V w') := Lib.hid fun V g => by have := specPicksOk_any _ C V hC (h2.stepAt g); rwa [hc] at this
    obtain ⟨a, cap, rfl, h0⟩ := id h
    have HH := Lib.hid h0
    have H1 := Lib.hid h1
    have H2 := Lib.hid h2
    clear h h0 h1 h2 hn hd hc
    go_enter Try.func10, Try.ntmps10
    go_wp2_with fail
    refine (KD.out _ (Below.refl _ _)).mono ?_
    rintro e w1 ⟨rfl, hb⟩
    have n1 := hb
    clear hb
    go_wp2_with fail
    refine (KC.out _ n1).mono ?_
    rintro e w2 ⟨rfl, hb⟩
    have n2 := n1.trans (hb.mono n1.size)
    clear hb n1
    go_wp2_with fail
    go_loopw [7, 8] (fun n i wr => ∃ k : Nat, k ≤ D.length ∧ i = .int .i64 (k : Int) ∧ n = .int .i64 (((D.take k).filter fun x => !decide (x.1 ∈ F) && !decide (x ∈ C)).length : Int) ∧ Below w.heap.size w wr) (fun _ i _ => D.length - (intOf i).toNat)
    case atStart => exact ⟨0, Nat.zero_le _, rfl, rfl, n2⟩
    case round =>
      obtain ⟨k, hk, rfl, rfl, hb⟩ := hrel
      have hll : ((D.take k).filter fun x => !decide (x.1 ∈ F) && !decide (x ∈ C)).length ≤ k := Nat.le_trans (List.length_filter_le _ _) (List.length_take_le _ _)
      by_cases hlt : k < D.length
      · rcases HH.out with h | ⟨b, o, rfl, hB, hc⟩
        · subst h
          exact absurd hlt (by simp)
        obtain ⟨x, a1, b1, c1, d1, hxy⟩ : ∃ x a1 b1 c1 d1, D[k] = (x, a1, b1, c1, d1) := ⟨_, _, _, _, _, rfl⟩
        have m := hc k hlt
        rw [hxy] at m
        have HM := Lib.hid m
        obtain ⟨k0, k1, k2, k3, k4⟩ := m.below hb hB
        simp only at k0 k1 k2 k3 k4
        have HST := Lib.hid (filt_step (fun x => !decide (x.1 ∈ F) && !decide (x ∈ C)) (show D[k]? = some (x, a1, b1, c1, d1) by rw [List.getElem?_eq_getElem hlt, hxy]))
        clear hxy hc m
        have i0 : (0 : Int) ≤ (k : Int) := by omega
        have i1 : (k : Int) < (D.length : Int) := by omega
        have KN : Hid (∀ V, Below w.heap.size w V → Calls Try.prog 43 #[u, .int .i64 x] V fun e w' => e = .returned (.bool (decide (x ∈ F))) ∧ Below V.heap.size V w') := Lib.hid fun V g => l7Free_any _ F x V hF (istep H1.out g)
        have KH : Hid (∀ V, Below w.heap.size w V → Calls Try.prog 44 #[z, pick x a1 b1 c1 d1] V fun e w' => e = .returned (.bool (decide ((x, a1, b1, c1, d1) ∈ C))) ∧ Below V.heap.size V w') := Lib.hid fun V g => l4Held_mem _ C x a1 b1 c1 d1 V hC (H2.out.stepAt g)
        by_cases hf : x ∈ F
        · rw [decide_eq_true hf] at KN
          have HQ := Lib.hid (show ((D.take (k + 1)).filter fun x => !decide (x.1 ∈ F) && !decide (x ∈ C)).length = ((D.take k).filter fun x => !decide (x.1 ∈ F) && !decide (x ∈ C)).length by rw [HST.out]; simp [hf])
          clear hf KH
          generalize hcc : ((D.take k).filter fun x => !decide (x.1 ∈ F) && !decide (x ∈ C)).length = cc at *
          clear hcc
          go_wp2_with fail
          refine (KN.out _ hb).mono ?_
          rintro e w3 ⟨rfl, hb3⟩
          have HB := Lib.hid (hb.trans (hb3.mono hb.size))
          clear hb3 hb k0 k1 k2 k3 k4
          go_wp2_with fail
          go_roundw
          case rel => exact ⟨k + 1, by omega, by go_num, by rw [HQ.out], HB.out⟩
          case measure => simp [intOf]; omega
        · rw [decide_eq_false hf] at KN
          by_cases hh : (x, a1, b1, c1, d1) ∈ C
          · rw [decide_eq_true hh] at KH
            have HQ := Lib.hid (show ((D.take (k + 1)).filter fun x => !decide (x.1 ∈ F) && !decide (x ∈ C)).length = ((D.take k).filter fun x => !decide (x.1 ∈ F) && !decide (x ∈ C)).length by rw [HST.out]; simp [hf, hh])
            clear hf hh
            generalize hcc : ((D.take k).filter fun x => !decide (x.1 ∈ F) && !decide (x ∈ C)).length = cc at *
            clear hcc
            go_wp2_with fail
            refine (KN.out _ hb).mono ?_
            rintro e w3 ⟨rfl, hb3⟩
            have b3 := hb.trans (hb3.mono hb.size)
            obtain ⟨q0, q1, q2, q3, q4⟩ := HM.out.below b3 hB
            simp only at q0 q1 q2 q3 q4
            clear hb3 hb k0 k1 k2 k3 k4
            go_wp2_with fail
            refine (KH.out _ b3).mono ?_
            rintro e w4 ⟨rfl, hb4⟩
            have HB := Lib.hid (b3.trans (hb4.mono b3.size))
            clear hb4 b3 q0 q1 q2 q3 q4
            go_wp2_with fail
            go_roundw
            case rel => exact ⟨k + 1, by omega, by go_num, by rw [HQ.out], HB.out⟩
            case measure => simp [intOf]; omega
          · rw [decide_eq_false hh] at KH
            have HQ := Lib.hid (show ((D.take (k + 1)).filter fun x => !decide (x.1 ∈ F) && !decide (x ∈ C)).length = ((D.take k).filter fun x => !decide (x.1 ∈ F) && !decide (x ∈ C)).length + 1 by rw [HST.out]; simp [hf, hh])
            clear hf hh
            generalize hcc : ((D.take k).filter fun x => !decide (x.1 ∈ F) && !decide (x ∈ C)).length = cc at *
            clear hcc
            go_wp2_with fail
            refine (KN.out _ hb).mono ?_
            rintro e w3 ⟨rfl, hb3⟩
            have b3 := hb.trans (hb3.mono hb.size)
            obtain ⟨q0, q1, q2, q3, q4⟩ := HM.out.below b3 hB
            simp only at q0 q1 q2 q3 q4
            clear hb3 hb k0 k1 k2 k3 k4
            go_wp2_with fail
            refine (KH.out _ b3).mono ?_
            rintro e w4 ⟨rfl, hb4⟩
            have HB := Lib.hid (b3.trans (hb4.mono b3.size))
            clear hb4 b3 q0 q1 q2 q3 q4
            go_wp2_with fail
            go_roundw
            case rel => exact ⟨k + 1, by omega, by go_num, by rw [HQ.out]; go_num, HB.out⟩
            case measure => simp [intOf]; omega
      · obtain rfl : k = D.length := by omega
        have HQ := Lib.hid (show ((D.take D.length).filter fun x => !decide (x.1 ∈ F) && !decide (x ∈ C)).length = (D.filter fun x => !decide (x.1 ∈ F) && !decide (x ∈ C)).length by rw [List.take_length])
        go_wp2_with fail
        go_ret
        exact ⟨by rw [HE.out, HQ.out]; rfl, hb⟩
end Lkc
end Go.Proofs.Ytmhamoeibkpnpaa
