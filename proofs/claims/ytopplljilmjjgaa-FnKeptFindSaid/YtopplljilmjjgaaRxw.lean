/- Contracts of the laws' functions sameInts, sameRan, hasInt and allOpen, over this seat's translation; nothing that was there before a call has changed. Condition: at most 1048576 numbers. -/
import Derived.Test.YtopplljilmjjgaaDrm
import Derived.Test.YtopplljilmjjgaaRnw
import Derived.Handy
namespace Go.Proofs.Ytopplljilmjjgaa
open Go.RowKit Go.Sort
namespace Rxw
open Rnw Drm Obl
set_option maxRecDepth 100000 in
set_option maxHeartbeats 2000000 in
theorem sameInts_same {v v' : Value} {L : List Int} {w : World} (hl : L.length ≤ 1048576) (h : InAt w w.heap.size v L) (h' : InAt w w.heap.size v' L) :
    Calls Try.prog 65 #[v, v'] w fun e w' => e = .returned (.bool true) ∧ Below w.heap.size w w' := by
  obtain ⟨a, cap, rfl, hc⟩ := h
  obtain ⟨a', cap', rfl, hc'⟩ := h'
  have H := Lib.hid hc
  have H' := Lib.hid hc'
  clear hc hc'
  have hz : ((L.length : Int) != (L.length : Int)) = false := by simp
  go_enter Try.func65, Try.ntmps65
  go_wp2
  go_loopw [5] (fun i wr => ∃ k : Nat, k ≤ L.length ∧ i = .int .i64 (k : Int) ∧ Below w.heap.size w wr) (fun i _ => L.length - (intOf i).toNat)
  case atStart => exact ⟨0, Nat.zero_le _, rfl, Below.refl _ _⟩
  case round =>
    obtain ⟨k, hk, rfl, hb⟩ := hrel
    by_cases hlt : k < L.length
    · rcases H.out with h1 | ⟨b, o, rfl, hB, hc⟩
      · subst h1
        exact absurd hlt (by simp)
      rcases H'.out with h2 | ⟨b', o', rfl, hB', hc'⟩
      · subst h2
        exact absurd hlt (by simp)
      obtain ⟨x, hx⟩ : ∃ x, L[k] = x := ⟨_, rfl⟩
      have c := hc k hlt
      have c' := hc' k hlt
      rw [hx] at c c'
      have k0 := (hb.cell (p := ⟨b, o + k, none⟩) hB).trans c
      have l0 := (hb.cell (p := ⟨b', o' + k, none⟩) hB').trans c'
      have HB := Lib.hid hb
      clear hc hc' c c' hx hb
      have i0 : (0 : Int) ≤ (k : Int) := by omega
      have i1 : (k : Int) < (L.length : Int) := by omega
      have hE : (x != x) = false := by simp
      go_wp2_with fail
      go_quiet (fail)
      go_wp2_with fail
      go_roundw
      case rel => exact ⟨k + 1, by omega, by go_num, HB.out.trans ⟨rfl, rfl, rfl, Nat.le_refl _, fun _ _ => rfl⟩⟩
      case measure => simp [intOf]; omega
    · obtain rfl : k = L.length := by omega
      go_wp2_with fail
      go_ret
      exact ⟨rfl, hb⟩
theorem rep_push (k : Nat) : List.replicate k true ++ [true] = List.replicate (k + 1) true := by rw [List.replicate_succ']
end Rxw
end Go.Proofs.Ytopplljilmjjgaa
