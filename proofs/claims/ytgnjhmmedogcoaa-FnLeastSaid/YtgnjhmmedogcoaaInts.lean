/- Contracts of the laws' sameInts and hasInt, over this seat's translation: two rows that hold the same numbers are the same; whether a number stands in a row; nothing that was there before the call has changed. Condition: at most 1048576 numbers. -/
import Derived.Test.YtgnjhmmedogcoaaIn
import Derived.Deep.CutRange
namespace Go.Proofs.Ytgnjhmmedogcoaa
open Go.RowKit Go.Sort

namespace Its
theorem stepAt {N : List Int} {u : Value} {w V : World} (h : InAt w w.heap.size u N) (hb : Below w.heap.size w V) : InAt V V.heap.size u N := (h.below hb).mono hb.size
set_option maxRecDepth 100000 in
set_option maxHeartbeats 4000000 in
theorem sameInts_eq (u v : Value) (N : List Int) (w : World) (hl : N.length ≤ 1048576) (h : InAt w w.heap.size u N) (h' : InAt w w.heap.size v N) :
    Calls Try.prog 34 #[u, v] w fun e w' => e = .returned (.bool true) ∧ Below w.heap.size w w' := by
  obtain ⟨xa, ca, rfl, h⟩ := h
  obtain ⟨xb, cb, rfl, h'⟩ := h'
  have hle : ((N.length : Int) == (N.length : Int)) = true := by rw [beq_iff_eq]
  go_enter Try.func34, Try.ntmps34
  go_wp2_with fail
  go_loopw [5] (fun i wr => ∃ k : Nat, k ≤ N.length ∧ i = .int .i64 (k : Int) ∧ Below w.heap.size w wr) (fun i _ => N.length - (intOf i).toNat)
  case atStart => exact ⟨0, Nat.zero_le _, rfl, Below.refl _ _⟩
  case round =>
    obtain ⟨k, hk, rfl, hb⟩ := hrel
    by_cases hlt : k < N.length
    · rcases h with h | ⟨g, o, rfl, hB, hc⟩
      · subst h
        exact absurd hlt (by simp)
      rcases h' with h' | ⟨g', o', rfl, hB', hc'⟩
      · subst h'
        exact absurd hlt (by simp)
      obtain ⟨x, hx⟩ : ∃ x, N[k] = x := ⟨_, rfl⟩
      have k0 := (hb.cell (p := ⟨g, o + k, none⟩) hB).trans (hc k hlt)
      have l0 := (hb.cell (p := ⟨g', o' + k, none⟩) hB').trans (hc' k hlt)
      rw [hx] at k0 l0
      clear hx hc hc'
      have j0 : (0 : Int) ≤ (k : Int) := by omega
      have j1 : (k : Int) < (N.length : Int) := by omega
      have t0 := cell_regrown k0
      have u0 := cell_regrown l0
      clear k0 l0
      go_wp2_with fail
      refine wp_region_quiet_below (by kernel_rfl) (by kernel_rfl) ?_
      repeat (any_goals (first | go_big_quiet_step (fail) | quiet_step (fail)))
      refine wpQuiet_nil ?_
      intro W2 hw2
      have nn := quiet_end hw2
      clear hw2 t0 u0
      have HBB := Lib.hid (hb.trans (nn.mono hb.size))
      go_wp2_with fail
      go_roundw
      case rel => exact ⟨k + 1, by omega, by go_num, HBB.out⟩
      case measure => simp [intOf]; omega
    · obtain rfl : k = N.length := by omega
      go_wp2_with fail
      go_ret
      exact ⟨rfl, hb⟩
set_option maxRecDepth 100000 in
set_option maxHeartbeats 4000000 in
theorem hasInt_any (u : Value) (N : List Int) (n : Int) (w : World) (hl : N.length ≤ 1048576) (h : InAt w w.heap.size u N) :
    Calls Try.prog 35 #[u, .int .i64 n] w fun e w' => e = .returned (.bool (decide (n ∈ N))) ∧ Below w.heap.size w w' := by
  obtain ⟨xa, ca, rfl, h⟩ := h
  go_enter Try.func35, Try.ntmps35
  go_wp2_with fail
  go_loopw [5] (fun i wr => ∃ k : Nat, k ≤ N.length ∧ i = .int .i64 (k : Int) ∧ n ∉ N.take k ∧ Below w.heap.size w wr) (fun i _ => N.length - (intOf i).toNat)
  case atStart => exact ⟨0, Nat.zero_le _, rfl, by simp, Below.refl _ _⟩
  case round =>
    obtain ⟨k, hk, rfl, ht, hb⟩ := hrel
    have HT := Lib.hid ht
    clear ht
    by_cases hlt : k < N.length
    · rcases h with h | ⟨g, o, rfl, hB, hc⟩
      · subst h
        exact absurd hlt (by simp)
      obtain ⟨x, hx⟩ : ∃ x, N[k] = x := ⟨_, rfl⟩
      have k0 := (hb.cell (p := ⟨g, o + k, none⟩) hB).trans (hc k hlt)
      rw [hx] at k0
      have HX := Lib.hid hx
      clear hx hc
      have j0 : (0 : Int) ≤ (k : Int) := by omega
      have j1 : (k : Int) < (N.length : Int) := by omega
      by_cases hn : x = n
      · have HF := Lib.hid (show decide (n ∈ N) = true from decide_eq_true (by rw [← hn, ← HX.out]; exact List.getElem_mem hlt))
        subst hn
        go_wp2_with fail
        go_ret
        exact ⟨by rw [HF.out]; rfl, hb⟩
      · have hz : (x == n) = false := by rw [beq_eq_false_iff_ne]; exact hn
        have HP := Lib.hid (show n ∉ N.take (k + 1) by
          rw [List.take_succ_eq_append_getElem hlt, HX.out]
          intro m
          rcases List.mem_append.1 m with m | m
          · exact HT.out m
          · simp at m; exact hn m.symm)
        go_wp2_with fail
        go_roundw
        case rel => exact ⟨k + 1, by omega, by go_num, HP.out, hb⟩
        case measure => simp [intOf]; omega
    · obtain rfl : k = N.length := by omega
      have HF := Lib.hid (show decide (n ∈ N) = false from decide_eq_false (by have := HT.out; rwa [List.take_length] at this))
      go_wp2_with fail
      go_ret
      exact ⟨by rw [HF.out]; rfl, hb⟩
end Its
end Go.Proofs.Ytgnjhmmedogcoaa
