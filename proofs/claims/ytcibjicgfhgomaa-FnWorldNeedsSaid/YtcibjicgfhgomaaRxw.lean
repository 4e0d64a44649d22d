/- Contracts of the laws' functions sameInts, sameRan, hasInt and allOpen, over this seat's translation; nothing that was there before a call has changed. Condition: at most 1048576 numbers. -/
import Derived.Test.YtcibjicgfhgomaaDrm
import Derived.Test.YtcibjicgfhgomaaRnw
import Derived.Handy
namespace Go.Proofs.Ytcibjicgfhgomaa
open Go.RowKit Go.Sort
namespace Rxw
open Rnw Drm Obl
set_option maxRecDepth 100000 in
set_option maxHeartbeats 2000000 in
theorem sameInts_same {v v' : Value} {L : List Int} {w : World} (hl : L.length ≤ 1048576) (h : InAt w w.heap.size v L) (h' : InAt w w.heap.size v' L) :
    Calls Try.prog 37 #[v, v'] w fun e w' => e = .returned (.bool true) ∧ Below w.heap.size w w' := by
  obtain ⟨a, cap, rfl, hc⟩ := h
  obtain ⟨a', cap', rfl, hc'⟩ := h'
  have H := Lib.hid hc
  have H' := Lib.hid hc'
  clear hc hc'
  have hz : ((L.length : Int) != (L.length : Int)) = false := by simp
  go_enter Try.func37, Try.ntmps37
  go_wp2
  go_loopw [5] (fun i wr => ∃ k : Nat, k ≤ L.length ∧ i = .int .i64 (k : Int) ∧ Below w.heap.size w wr) (fun i _ => L.length - (intOf i).toNat)
  case atStart => exact ⟨0, Nat.zero_le _, rfl, Below.refl _ _⟩
  case round =>
    obtain ⟨k, hk, rfl, hb⟩ := hrel
    by_cases hlt : k < L.length
    · rcases H.out with h1 | ⟨b, o, rfl, hB, hc⟩
      · subst h1
        exact absurd hlt (by simp)
      rcases H'.out with h2 | ⟨b', o', rfl, hB', hc'⟩
      · subst h2
        exact absurd hlt (by simp)
      obtain ⟨x, hx⟩ : ∃ x, L[k] = x := ⟨_, rfl⟩
      have c := hc k hlt
      have c' := hc' k hlt
      rw [hx] at c c'
      have k0 := (hb.cell (p := ⟨b, o + k, none⟩) hB).trans c
      have l0 := (hb.cell (p := ⟨b', o' + k, none⟩) hB').trans c'
      have HB := Lib.hid hb
      clear hc hc' c c' hx hb
      have i0 : (0 : Int) ≤ (k : Int) := by omega
      have i1 : (k : Int) < (L.length : Int) := by omega
      have hE : (x != x) = false := by simp
      go_wp2_with fail
      go_quiet (fail)
      go_wp2_with fail
      go_roundw
      case rel => exact ⟨k + 1, by omega, by go_num, HB.out.trans ⟨rfl, rfl, rfl, Nat.le_refl _, fun _ _ => rfl⟩⟩
      case measure => simp [intOf]; omega
    · obtain rfl : k = L.length := by omega
      go_wp2_with fail
      go_ret
      exact ⟨rfl, hb⟩
set_option maxRecDepth 100000 in
set_option maxHeartbeats 2000000 in
theorem sameRan_same (c : Int) (o : ByteArray) {N : List Int} {v v' : Value} {w : World} (hl : N.length ≤ 1048576) (h : InAt w w.heap.size v N) (h' : InAt w w.heap.size v' N) :
    Calls Try.prog 44 #[ranV c o v, ranV c o v'] w fun e w' => e = .returned (.bool true) ∧ Below w.heap.size w w' := by
  have h1 : (c == c) = true := by simp
  have h2 : (o.toList == o.toList) = true := by simp
  obtain ⟨a, cap, rfl, x1⟩ := id h
  obtain ⟨a', cap', rfl, x2⟩ := id h'
  clear x1 x2
  have b0 := ((Below.refl w.heap.size w).alloc (Nat.le_refl _) (.cells #[.int .i64 c, .string o, .slice a N.length cap] 59)).alloc (by simp) (.cells #[.int .i64 c, .string o, .slice a' N.length cap'] 59)
  have K := Lib.hid (fun V (g : Below w.heap.size w V) => sameInts_same (v := .slice a N.length cap) (v' := .slice a' N.length cap') (w := V) hl (h.stepAt g) (h'.stepAt g))
  have HB := Lib.hid b0
  clear h h' b0
  go_enter Try.func44, Try.ntmps44
  go_wp2_with fail
  refine (K.out _ HB.out).mono ?_
  rintro e w2 ⟨rfl, hb⟩
  have b2 := HB.out.trans (hb.mono HB.out.size)
  clear hb
  go_wp2_with fail
  go_ret
  exact ⟨rfl, b2⟩

set_option maxRecDepth 100000 in
set_option maxHeartbeats 4000000 in
theorem hasInt_any (u : Value) (N : List Int) (n : Int) (w : World) (hl : N.length ≤ 1048576) (h : InAt w w.heap.size u N) :
    Calls Try.prog 38 #[u, .int .i64 n] w fun e w' => e = .returned (.bool (decide (n ∈ N))) ∧ Below w.heap.size w w' := by
  obtain ⟨xa, ca, rfl, h⟩ := h
  go_enter Try.func38, Try.ntmps38
  go_wp2_with fail
  go_loopw [5] (fun i wr => ∃ k : Nat, k ≤ N.length ∧ i = .int .i64 (k : Int) ∧ n ∉ N.take k ∧ Below w.heap.size w wr) (fun i _ => N.length - (intOf i).toNat)
  case atStart => exact ⟨0, Nat.zero_le _, rfl, by simp, Below.refl _ _⟩
  case round =>
    obtain ⟨k, hk, rfl, ht, hb⟩ := hrel
    have HT := Lib.hid ht
    clear ht
    by_cases hlt : k < N.length
    · rcases h with h | ⟨g, o, rfl, hB, hc⟩
      · subst h
        exact absurd hlt (by simp)
      obtain ⟨x, hx⟩ : ∃ x, N[k] = x := ⟨_, rfl⟩
      have k0 := (hb.cell (p := ⟨g, o + k, none⟩) hB).trans (hc k hlt)
      rw [hx] at k0
      have HX := Lib.hid hx
      clear hx hc
      have j0 : (0 : Int) ≤ (k : Int) := by omega
      have j1 : (k : Int) < (N.length : Int) := by omega
      by_cases hn : x = n
      · have HF := Lib.hid (show decide (n ∈ N) = true from decide_eq_true (by rw [← hn, ← HX.out]; exact List.getElem_mem hlt))
        subst hn
        go_wp2_with fail
        go_ret
        exact ⟨by rw [HF.out]; rfl, hb⟩
      · have hz : (x == n) = false := by rw [beq_eq_false_iff_ne]; exact hn
        have HP := Lib.hid (show n ∉ N.take (k + 1) by
          rw [List.take_succ_eq_append_getElem hlt, HX.out]
          intro m
          rcases List.mem_append.1 m with m | m
          · exact HT.out m
          · simp at m; exact hn m.symm)
        go_wp2_with fail
        go_roundw
        case rel => exact ⟨k + 1, by omega, by go_num, HP.out, hb⟩
        case measure => simp [intOf]; omega
    · obtain rfl : k = N.length := by omega
      have HF := Lib.hid (show decide (n ∈ N) = false from decide_eq_false (by have := HT.out; rwa [List.take_length] at this))
      go_wp2_with fail
      go_ret
      exact ⟨by rw [HF.out]; rfl, hb⟩


theorem rep_push (k : Nat) : List.replicate k true ++ [true] = List.replicate (k + 1) true := by rw [List.replicate_succ']
end Rxw
end Go.Proofs.Ytcibjicgfhgomaa
