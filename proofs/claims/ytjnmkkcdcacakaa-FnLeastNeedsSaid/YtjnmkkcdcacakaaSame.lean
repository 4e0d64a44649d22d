/- The contract of the laws' function that compares two ranges span by span, over this seat's translation: it answers whether the spans are the same; nothing that was there before the call has changed. Condition: at most 1048576 spans. -/
import Derived.Test.YtjnmkkcdcacakaaGb
import Derived.IntWalk
namespace Go.Proofs.Ytjnmkkcdcacakaa
open Go.RowKit Go.Sort

theorem span_differ {x y x' y' : Int} (h : ¬ (x = x' ∧ y = y')) (V : World) : (binOp .neq 74 (span x y) (span x' y')).run Try.prog V = .ok (.bool true) V := by
  by_cases h1 : x = x'
  · have h2 : ¬ y = y' := fun e => h ⟨h1, e⟩
    subst h1
    have b2 : (y == y') = false := by rw [beq_eq_false_iff_ne]; exact h2
    go_simp
  · have b1 : (x == x') = false := by rw [beq_eq_false_iff_ne]; exact h1
    go_simp
theorem span_alike {x y x' y' : Int} (h : x = x' ∧ y = y') (V : World) : (binOp .neq 74 (span x y) (span x' y')).run Try.prog V = .ok (.bool false) V := by
  obtain ⟨rfl, rfl⟩ := h
  go_simp

/-- What the loop keeps: the first k spans are alike. -/
def SameRel (L M : List (Int × Int)) (w1 : World) (i : Value) (wr : World) : Prop :=
  ∃ k : Nat, k ≤ L.length ∧ i = .int .i64 (k : Int) ∧ L.take k = M.take k ∧ Below w1.heap.size w1 wr

set_option maxHeartbeats 2000000 in
theorem sameRange_any (v v' : Value) (L M : List (Int × Int)) (w : World) (hl : L.length ≤ 1048576) (_hm : M.length ≤ 1048576)
    (h : SpAt w w.heap.size v L) (h' : SpAt w w.heap.size v' M) :
    Calls Try.prog 85 #[.agg #[v], .agg #[v']] w fun e w' => e = .returned (.bool (decide (L = M))) ∧ Below w.heap.size w w' := by
  obtain ⟨a, cap, rfl, hc⟩ := h
  obtain ⟨a', cap', rfl, hc'⟩ := h'
  have H := Lib.hid hc
  have H' := Lib.hid hc'
  clear hc hc'
  by_cases hLM : M.length = L.length
  · have HLM := Lib.hid hLM
    have hz : ((L.length : Int) != (L.length : Int)) = false := by simp
    rw [hLM]
    clear hLM
    obtain ⟨w1, hw1⟩ : ∃ V : World, V = (w.alloc (.cells #[.slice a L.length cap] 35)).alloc (.cells #[.slice a' L.length cap'] 35) := ⟨_, rfl⟩
    have b1 : Below w.heap.size w w1 := by
      rw [hw1]
      exact ((Below.refl w.heap.size w).alloc (Nat.le_refl _) _).alloc (by simp) _
    have p0 : w1.cell? ⟨w.heap.size, 0, none⟩ = some (.slice a L.length cap) := by rw [hw1]; go_simp
    have p1 : w1.cell? ⟨w.heap.size + 1, 0, none⟩ = some (.slice a' L.length cap') := by rw [hw1]; go_simp
    have s1 : w.heap.size + 2 ≤ w1.heap.size := by rw [hw1]; simp
    go_enter Try.func85, Try.ntmps85
    go_wp2
    rw [← hw1]
    clear hw1
    go_loopw [5] (fun i wr => SameRel L M w1 i wr) (fun i _ => L.length - (intOf i).toNat)
    case atStart => exact ⟨0, Nat.zero_le _, rfl, rfl, Below.refl _ _⟩
    case round =>
      obtain ⟨k, hk, rfl, ht, hb⟩ := hrel
      have HT := Lib.hid ht
      have q0 := (hb.cell (p := ⟨w.heap.size, 0, none⟩) (by show w.heap.size < w1.heap.size; omega)).trans p0
      have q1 := (hb.cell (p := ⟨w.heap.size + 1, 0, none⟩) (by show w.heap.size + 1 < w1.heap.size; omega)).trans p1
      clear ht
      by_cases hlt : k < L.length
      · rcases H.out with h1 | ⟨b, o, rfl, hB, hc⟩
        · subst h1
          exact absurd hlt (by simp)
        rcases H'.out with h2 | ⟨b', o', rfl, hB', hc'⟩
        · have := HLM.out
          subst h2
          simp at this
          omega
        have hlt' : k < M.length := by have := HLM.out; omega
        obtain ⟨x, y, hxy⟩ : ∃ x y, L[k] = (x, y) := ⟨_, _, rfl⟩
        obtain ⟨x', y', hxy'⟩ : ∃ x y, M[k] = (x, y) := ⟨_, _, rfl⟩
        have c := hc k hlt
        have c' := hc' k hlt'
        rw [hxy] at c
        rw [hxy'] at c'
        have bb := b1.trans (hb.mono b1.size)
        have k0 := (bb.cell (p := ⟨b, o + k * 2, none⟩) hB).trans c.1
        have k1 := (bb.cell (p := ⟨b, o + k * 2 + 1, none⟩) hB).trans c.2
        have l0 := (bb.cell (p := ⟨b', o' + k * 2, none⟩) hB').trans c'.1
        have l1 := (bb.cell (p := ⟨b', o' + k * 2 + 1, none⟩) hB').trans c'.2
        have HX := Lib.hid (show L[k]? = some (x, y) by rw [List.getElem?_eq_getElem hlt, hxy])
        have HX' := Lib.hid (show M[k]? = some (x', y') by rw [List.getElem?_eq_getElem hlt', hxy'])
        have BB := Lib.hid bb
        have HB := Lib.hid hb
        clear hc hc' c c' hxy hxy' bb hb
        simp only at k0 k1 l0 l1
        have i0 : (0 : Int) ≤ (k : Int) := by omega
        have i1 : (k : Int) < (L.length : Int) := by omega
        by_cases heq : x = x' ∧ y = y'
        · have hE := span_alike heq
          have HE := Lib.hid heq
          clear heq
          go_wp2_with fail
          go_quiet (fail)
          go_wp2_with fail
          go_roundw
          case rel =>
            refine ⟨k + 1, by omega, by go_num, ?_, HB.out.trans ⟨rfl, rfl, rfl, Nat.le_refl _, fun _ _ => rfl⟩⟩
            rw [List.take_add_one, List.take_add_one, HX.out, HX'.out, HT.out, HE.out.1, HE.out.2]
          case measure => simp [intOf]; omega
        · have hE := span_differ heq
          have HD := Lib.hid (decide_eq_false (p := L = M) (differ_at HX.out HX'.out heq))
          clear heq
          go_wp2_with fail
          go_quiet (fail)
          go_wp2_with fail
          go_ret
          exact ⟨by rw [HD.out]; rfl, BB.out.trans ⟨rfl, rfl, rfl, Nat.le_refl _, fun _ _ => rfl⟩⟩
      · obtain rfl : k = L.length := by omega
        have hd : L = M := by
          have := HT.out
          rw [List.take_length] at this
          rw [this]
          have := HLM.out
          rw [← this, List.take_length]
        have HD := Lib.hid (decide_eq_true hd)
        clear hd
        go_wp2_with fail
        go_ret
        exact ⟨by rw [HD.out]; rfl, b1.trans (hb.mono b1.size)⟩
  · have hz : ((L.length : Int) != (M.length : Int)) = true := by rw [bne_iff_ne]; omega
    have HD := Lib.hid (decide_eq_false (p := L = M) (fun e => hLM (by rw [e])))
    clear hLM
    go_enter Try.func85, Try.ntmps85
    go_wp2
    go_ret
    exact ⟨by rw [HD.out]; rfl, ((Below.refl w.heap.size w).alloc (Nat.le_refl _) _).alloc (by simp) _⟩

end Go.Proofs.Ytjnmkkcdcacakaa
