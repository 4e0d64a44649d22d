/- Contracts of the laws' functions that copy, measure and compare ranges, over this seat's translation; nothing that was there before the call has changed. Condition: at most 1048576 spans. -/
import Derived.Test.YtdjnfmekbjmdhaaSpto
import Derived.BigQuiet
import Derived.Handy
namespace Go.Proofs.Ytdjnfmekbjmdhaa
open Go.RowKit Go.Sort

def RngPost (L : List (Int × Int)) (w : World) (e : Ending) (w' : World) : Prop :=
  ∃ g, e = .returned (.agg #[.slice (some ⟨g, 0, none⟩) L.length L.length]) ∧ SpBlk w' g L.length L ∧ w.heap.size ≤ g ∧ Below w.heap.size w w'

set_option maxHeartbeats 1000000 in
theorem toRange_any (v : Value) (L : List (Int × Int)) (w : World) (h : SpAt w w.heap.size v L) (hl : L.length ≤ 1048576) : Calls Try.prog 103 #[.agg #[v]] w (RngPost L w) := by
  have h' := h
  obtain ⟨a, cap, rfl, _⟩ := h'
  have b0 := (((Below.refl w.heap.size w).alloc (Nat.le_refl _) (.cells #[.slice a L.length cap] 87)).alloc (by simp) (.cells #[.slice none 0 0] 95)).alloc (by simp; omega) (.cells #[.slice none 0 0] 95)
  have h1 := (h.below b0).mono b0.size
  have HB := Lib.hid b0
  go_enter Try.func103, Try.ntmps103
  go_wp2_with fail
  refine (toSpanS_any _ L _ h1 hl).mono ?_
  rintro e w1 ⟨g, rfl, hblk, hg, hb1⟩
  obtain ⟨hc, hf⟩ : (∀ b o, b < w.heap.size + 1 + 1 + 1 → w1.cell? ⟨b, o, none⟩ = _) ∧ (∀ b o, b < w.heap.size + 1 + 1 + 1 → w1.frozen? ⟨b, o, none⟩ = _) :=
    ⟨fun b o hbo => hb1.cell (p := ⟨b, o, none⟩) (by simpa using hbo), fun b o hbo => hb1.frozen (p := ⟨b, o, none⟩) (by simpa using hbo)⟩
  have hg' : w.heap.size + 3 ≤ g := by simp at hg; omega
  have b1 := HB.out.trans (hb1.mono b0.size)
  clear b0 h1 hb1 h hg HB
  go_wp2_with fail
  exact bodyPost_ret (v := .agg #[.slice (some ⟨g, 0, none⟩) L.length L.length]) (by simp [results, Try.results103, go_sem, hc]) rfl
    ⟨g, rfl, (hblk.kept (Below.heap_setCell _ _ _ _ (by simp; omega))).kept (Below.heap_setCell _ _ _ _ (by simp; omega)), by omega, by go_grown⟩

set_option maxHeartbeats 400000 in
theorem szSpanS_any (a : Option Addr) (len cap : Nat) (left : Int) (w : World) (h0 : 0 ≤ left) (h1 : left ≤ 1048576) (hl : len ≤ 9223372036854775807) :
    Calls Try.prog 120 #[.slice a len cap, .int .i64 left] w fun e w' => e = .returned (.int .i64 (if left < (len : Int) then -1 else left - len)) ∧ w = w' := by
  by_cases h : left < (len : Int)
  · rw [if_pos h]
    go_enter Try.func120, Try.ntmps120
    go_wp2
    go_ret
    exact ⟨rfl, rfl⟩
  · rw [if_neg h]
    go_enter Try.func120, Try.ntmps120
    go_wp2
    go_ret
    exact ⟨rfl, rfl⟩

set_option maxHeartbeats 400000 in
theorem szRange_any (a : Option Addr) (len cap : Nat) (left : Int) (w : World) (h0 : 0 ≤ left) (h1 : left ≤ 1048576) (hl : len ≤ 9223372036854775807) :
    Calls Try.prog 99 #[.agg #[.slice a len cap], .int .i64 left] w fun e w' => e = .returned (.int .i64 (if left < (len : Int) then -1 else left - len)) ∧ Below w.heap.size w w' := by
  have K := Lib.hid fun V => szSpanS_any a len cap left V h0 h1 hl
  by_cases h : left < (len : Int)
  · rw [if_pos h] at K ⊢
    go_enter Try.func99, Try.ntmps99
    go_wp2_with (go_at_call 120; refine (K.out _).mono ?_; rintro e w' ⟨rfl, rfl⟩)
    go_ret
    exact ⟨rfl, (Below.refl _ _).alloc (Nat.le_refl _) _⟩
  · rw [if_neg h] at K ⊢
    go_enter Try.func99, Try.ntmps99
    go_wp2_with (go_at_call 120; refine (K.out _).mono ?_; rintro e w' ⟨rfl, rfl⟩)
    go_ret
    exact ⟨rfl, (Below.refl _ _).alloc (Nat.le_refl _) _⟩

set_option maxHeartbeats 400000 in
theorem eqSpan_any (a b c d : Int) (w : World) : Calls Try.prog 128 #[span a b, span c d] w fun e w' => e = .returned (.bool (decide (a = c ∧ b = d))) ∧ Below w.heap.size w w' := by
  have fin : ∀ o p, Below w.heap.size w ((w.alloc o).alloc p) := fun o p => ((Below.refl _ _).alloc (Nat.le_refl _) o).alloc (by simp) p
  by_cases h1 : a = c
  · by_cases h2 : b = d
    · subst h1; subst h2
      go_enter Try.func128, Try.ntmps128
      go_wp2
      go_ret
      exact ⟨by simp, fin _ _⟩
    · subst h1
      go_enter Try.func128, Try.ntmps128
      go_wp2
      go_ret
      exact ⟨by simp [h2], fin _ _⟩
  · go_enter Try.func128, Try.ntmps128
    go_wp2
    go_ret
    exact ⟨by simp [h1], fin _ _⟩

end Go.Proofs.Ytdjnfmekbjmdhaa
