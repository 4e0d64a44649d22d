/- The contract of the laws' functions that compare rows of spans and ranges, over this seat's translation: they answer whether the spans are the same; nothing that was there before the call has changed. Condition: at most 1048576 spans. -/
import Derived.Test.YtdjnfmekbjmdhaaSprng
namespace Go.Proofs.Ytdjnfmekbjmdhaa
open Go.RowKit Go.Sort

/-- What the loop of eqSpanS keeps: the first k spans are alike. -/
def EqRel (L M : List (Int × Int)) (w : World) (i : Value) (wr : World) : Prop :=
  ∃ k : Nat, k ≤ L.length ∧ i = .int .i64 (k : Int) ∧ L.take k = M.take k ∧ Below w.heap.size w wr

theorem eq_push {L M : List (Int × Int)} {w wr : World} {k : Nat} {x y : Int} (hk : k < L.length) (hL : L[k]? = some (x, y)) (hM : M[k]? = some (x, y)) (ht : L.take k = M.take k) (hb : Below w.heap.size w wr) :
    EqRel L M w (.int .i64 ((k : Int) + 1)) wr :=
  ⟨k + 1, by omega, by go_num, by rw [List.take_add_one, List.take_add_one, hL, hM, ht], hb⟩

theorem differ_at {L M : List (Int × Int)} {k : Nat} {x y x' y' : Int} (hL : L[k]? = some (x, y)) (hM : M[k]? = some (x', y')) (h : ¬ (x = x' ∧ y = y')) : ¬ L = M := by
  rintro rfl
  rw [hL] at hM
  simp only [Option.some.injEq, Prod.mk.injEq] at hM
  exact h hM

set_option maxHeartbeats 1000000 in
theorem eqSpanS_same (a a' : Option Addr) (cap cap' : Nat) (L M : List (Int × Int)) (w : World) (hl : L.length ≤ 1048576) (hLM : M.length = L.length)
    (h : SpAt w w.heap.size (.slice a L.length cap) L) (h' : SpAt w w.heap.size (.slice a' M.length cap') M) :
    Calls Try.prog 123 #[.slice a L.length cap, .slice a' L.length cap'] w fun e w' => e = .returned (.bool (decide (L = M))) ∧ Below w.heap.size w w' := by
  have H := Lib.hid h
  have H' := Lib.hid h'
  have HLM := Lib.hid hLM
  clear h h' hLM
  have hz : ((L.length : Int) != (L.length : Int)) = false := by simp
  go_enter Try.func123, Try.ntmps123
  go_wp2
  go_loopw [5] (fun i wr => EqRel L M w i wr) (fun i _ => L.length - (intOf i).toNat)
  case atStart => exact ⟨0, Nat.zero_le _, rfl, rfl, Below.refl _ _⟩
  case round =>
    obtain ⟨k, hk, rfl, ht, hb⟩ := hrel
    have HT := Lib.hid ht
    clear ht
    by_cases hlt : k < L.length
    · obtain ⟨a1, cap1, e1, h1⟩ := H.out
      obtain ⟨a2, cap2, e2, h2⟩ := H'.out
      simp only [Value.slice.injEq] at e1 e2
      obtain ⟨rfl, _, rfl⟩ := e1
      obtain ⟨rfl, _, rfl⟩ := e2
      rcases h1 with h1 | ⟨b, o, rfl, hB, hc⟩
      · subst h1
        exact absurd hlt (by simp)
      rcases h2 with h2 | ⟨b', o', rfl, hB', hc'⟩
      · have := HLM.out
        subst h2
        simp at this
        omega
      have hlt' : k < M.length := by have := HLM.out; omega
      obtain ⟨x, y, hxy⟩ : ∃ x y, L[k] = (x, y) := ⟨_, _, rfl⟩
      obtain ⟨x', y', hxy'⟩ : ∃ x y, M[k] = (x, y) := ⟨_, _, rfl⟩
      have c := hc k hlt
      have c' := hc' k hlt'
      rw [hxy] at c
      rw [hxy'] at c'
      have k0 := cell_regrown ((hb.cell (p := ⟨b, o + k * 2, none⟩) hB).trans c.1)
      have k1 := cell_regrown ((hb.cell (p := ⟨b, o + k * 2 + 1, none⟩) hB).trans c.2)
      have l0 := cell_regrown ((hb.cell (p := ⟨b', o' + k * 2, none⟩) hB').trans c'.1)
      have l1 := cell_regrown ((hb.cell (p := ⟨b', o' + k * 2 + 1, none⟩) hB').trans c'.2)
      have HX := Lib.hid (show L[k]? = some (x, y) by rw [List.getElem?_eq_getElem hlt, hxy])
      have HX' := Lib.hid (show M[k]? = some (x', y') by rw [List.getElem?_eq_getElem hlt', hxy'])
      clear hc hc' c c' hxy hxy'
      simp only at k0 k1 l0 l1
      have i0 : (0 : Int) ≤ (k : Int) := by omega
      have i1 : (k : Int) < (L.length : Int) := by omega
      by_cases heq : x = x' ∧ y = y'
      · have K : Hid (∀ V, Calls Try.prog 128 #[span x y, span x' y'] V fun e w' => e = .returned (.bool true) ∧ Below V.heap.size V w') := Lib.hid fun V => by
          have := eqSpan_any x y x' y' V
          rwa [decide_eq_true heq] at this
        have HE := Lib.hid heq
        clear heq
        go_wp2_with fail
        refine wp_region_quiet_below (by kernel_rfl) (by kernel_rfl) ?_
        repeat (any_goals (first | go_big_quiet_step ((go_at_call 128; exact Calls.regrown_of (K.out _))) | quiet_step ((go_at_call 128; exact Calls.regrown_of (K.out _)))))
        refine wpQuiet_nil ?_
        intro W2 hw
        have hb2 := quiet_end hw
        have HP := Lib.hid (eq_push (w := w) hlt HX.out (by have := HX'.out; rwa [← HE.out.1, ← HE.out.2] at this) HT.out (hb.trans (hb2.mono hb.size)))
        clear hw k0 k1 l0 l1 hb hb2
        go_wp2_with fail
        go_roundw
        case rel => exact HP.out
        case measure => simp [intOf]; omega
      · have K : Hid (∀ V, Calls Try.prog 128 #[span x y, span x' y'] V fun e w' => e = .returned (.bool false) ∧ Below V.heap.size V w') := Lib.hid fun V => by
          have := eqSpan_any x y x' y' V
          rwa [decide_eq_false heq] at this
        have HN := Lib.hid (differ_at HX.out HX'.out heq)
        clear heq
        go_wp2_with fail
        refine wp_region_quiet_below (by kernel_rfl) (by kernel_rfl) ?_
        repeat (any_goals (first | go_big_quiet_step ((go_at_call 128; exact Calls.regrown_of (K.out _))) | quiet_step ((go_at_call 128; exact Calls.regrown_of (K.out _)))))
        refine wpQuiet_nil ?_
        intro W2 hw
        have hb2 := quiet_end hw
        clear hw k0 k1 l0 l1
        go_wp2_with fail
        go_ret
        exact ⟨by rw [decide_eq_false HN.out]; rfl, hb.trans (hb2.mono hb.size)⟩
    · have hend : L = M := by
        have h1 := HT.out
        have h2 := HLM.out
        rwa [List.take_of_length_le (by omega), List.take_of_length_le (by omega)] at h1
      have HE := Lib.hid (decide_eq_true hend)
      clear hend
      go_wp2_with fail
      go_ret
      exact ⟨by rw [HE.out]; rfl, hb⟩

end Go.Proofs.Ytdjnfmekbjmdhaa
