/- Groundwork over this seat's translation: Same, Tmsz, Tmeq, Tsm in one text; the conditions stand at each part. -/
import Derived.Test.YtgnjhmmedogcoaaGb
import Derived.IntWalk
import Derived.Test.YtgnjhmmedogcoaaTm
import Derived.Deep.RegionHeld3
import Derived.BigQuiet

/- The contract of the laws' function that compares two ranges span by span, over this seat's translation: it answers whether the spans are the same; nothing that was there before the call has changed. Condition: at most 1048576 spans. -/
namespace Go.Proofs.Ytgnjhmmedogcoaa
open Go.RowKit Go.Sort

theorem span_differ {x y x' y' : Int} (h : ¬ (x = x' ∧ y = y')) (V : World) : (binOp .neq 73 (span x y) (span x' y')).run Try.prog V = .ok (.bool true) V := by
  by_cases h1 : x = x'
  · have h2 : ¬ y = y' := fun e => h ⟨h1, e⟩
    subst h1
    have b2 : (y == y') = false := by rw [beq_eq_false_iff_ne]; exact h2
    go_simp
  · have b1 : (x == x') = false := by rw [beq_eq_false_iff_ne]; exact h1
    go_simp
theorem span_alike {x y x' y' : Int} (h : x = x' ∧ y = y') (V : World) : (binOp .neq 73 (span x y) (span x' y')).run Try.prog V = .ok (.bool false) V := by
  obtain ⟨rfl, rfl⟩ := h
  go_simp

/-- What the loop keeps: the first k spans are alike. -/
def SameRel (L M : List (Int × Int)) (w1 : World) (i : Value) (wr : World) : Prop :=
  ∃ k : Nat, k ≤ L.length ∧ i = .int .i64 (k : Int) ∧ L.take k = M.take k ∧ Below w1.heap.size w1 wr

set_option maxHeartbeats 2000000 in
theorem sameRange_any (v v' : Value) (L M : List (Int × Int)) (w : World) (hl : L.length ≤ 1048576) (_hm : M.length ≤ 1048576)
    (h : SpAt w w.heap.size v L) (h' : SpAt w w.heap.size v' M) :
    Calls Try.prog 79 #[.agg #[v], .agg #[v']] w fun e w' => e = .returned (.bool (decide (L = M))) ∧ Below w.heap.size w w' := by
  obtain ⟨a, cap, rfl, hc⟩ := h
  obtain ⟨a', cap', rfl, hc'⟩ := h'
  have H := Lib.hid hc
  have H' := Lib.hid hc'
  clear hc hc'
  by_cases hLM : M.length = L.length
  · have HLM := Lib.hid hLM
    have hz : ((L.length : Int) != (L.length : Int)) = false := by simp
    rw [hLM]
    clear hLM
    obtain ⟨w1, hw1⟩ : ∃ V : World, V = (w.alloc (.cells #[.slice a L.length cap] 57)).alloc (.cells #[.slice a' L.length cap'] 57) := ⟨_, rfl⟩
    have b1 : Below w.heap.size w w1 := by
      rw [hw1]
      exact ((Below.refl w.heap.size w).alloc (Nat.le_refl _) _).alloc (by simp) _
    have p0 : w1.cell? ⟨w.heap.size, 0, none⟩ = some (.slice a L.length cap) := by rw [hw1]; go_simp
    have p1 : w1.cell? ⟨w.heap.size + 1, 0, none⟩ = some (.slice a' L.length cap') := by rw [hw1]; go_simp
    have s1 : w.heap.size + 2 ≤ w1.heap.size := by rw [hw1]; simp
    go_enter Try.func79, Try.ntmps79
    go_wp2
    rw [← hw1]
    clear hw1
    go_loopw [5] (fun i wr => SameRel L M w1 i wr) (fun i _ => L.length - (intOf i).toNat)
    case atStart => exact ⟨0, Nat.zero_le _, rfl, rfl, Below.refl _ _⟩
    case round =>
      obtain ⟨k, hk, rfl, ht, hb⟩ := hrel
      have HT := Lib.hid ht
      have q0 := (hb.cell (p := ⟨w.heap.size, 0, none⟩) (by show w.heap.size < w1.heap.size; omega)).trans p0
      have q1 := (hb.cell (p := ⟨w.heap.size + 1, 0, none⟩) (by show w.heap.size + 1 < w1.heap.size; omega)).trans p1
      clear ht
      by_cases hlt : k < L.length
      · rcases H.out with h1 | ⟨b, o, rfl, hB, hc⟩
        · subst h1
          exact absurd hlt (by simp)
        rcases H'.out with h2 | ⟨b', o', rfl, hB', hc'⟩
        · have := HLM.out
          subst h2
          simp at this
          omega
        have hlt' : k < M.length := by have := HLM.out; omega
        obtain ⟨x, y, hxy⟩ : ∃ x y, L[k] = (x, y) := ⟨_, _, rfl⟩
        obtain ⟨x', y', hxy'⟩ : ∃ x y, M[k] = (x, y) := ⟨_, _, rfl⟩
        have c := hc k hlt
        have c' := hc' k hlt'
        rw [hxy] at c
        rw [hxy'] at c'
        have bb := b1.trans (hb.mono b1.size)
        have k0 := (bb.cell (p := ⟨b, o + k * 2, none⟩) hB).trans c.1
        have k1 := (bb.cell (p := ⟨b, o + k * 2 + 1, none⟩) hB).trans c.2
        have l0 := (bb.cell (p := ⟨b', o' + k * 2, none⟩) hB').trans c'.1
        have l1 := (bb.cell (p := ⟨b', o' + k * 2 + 1, none⟩) hB').trans c'.2
        have HX := Lib.hid (show L[k]? = some (x, y) by rw [List.getElem?_eq_getElem hlt, hxy])
        have HX' := Lib.hid (show M[k]? = some (x', y') by rw [List.getElem?_eq_getElem hlt', hxy'])
        have BB := Lib.hid bb
        have HB := Lib.hid hb
        clear hc hc' c c' hxy hxy' bb hb
        simp only at k0 k1 l0 l1
        have i0 : (0 : Int) ≤ (k : Int) := by omega
        have i1 : (k : Int) < (L.length : Int) := by omega
        by_cases heq : x = x' ∧ y = y'
        · have hE := span_alike heq
          have HE := Lib.hid heq
          clear heq
          go_wp2_with fail
          go_quiet (fail)
          go_wp2_with fail
          go_roundw
          case rel =>
            refine ⟨k + 1, by omega, by go_num, ?_, HB.out.trans ⟨rfl, rfl, rfl, Nat.le_refl _, fun _ _ => rfl⟩⟩
            rw [List.take_add_one, List.take_add_one, HX.out, HX'.out, HT.out, HE.out.1, HE.out.2]
          case measure => simp [intOf]; omega
        · have hE := span_differ heq
          have HD := Lib.hid (decide_eq_false (p := L = M) (differ_at HX.out HX'.out heq))
          clear heq
          go_wp2_with fail
          go_quiet (fail)
          go_wp2_with fail
          go_ret
          exact ⟨by rw [HD.out]; rfl, BB.out.trans ⟨rfl, rfl, rfl, Nat.le_refl _, fun _ _ => rfl⟩⟩
      · obtain rfl : k = L.length := by omega
        have hd : L = M := by
          have := HT.out
          rw [List.take_length] at this
          rw [this]
          have := HLM.out
          rw [← this, List.take_length]
        have HD := Lib.hid (decide_eq_true hd)
        clear hd
        go_wp2_with fail
        go_ret
        exact ⟨by rw [HD.out]; rfl, b1.trans (hb.mono b1.size)⟩
  · have hz : ((L.length : Int) != (M.length : Int)) = true := by rw [bne_iff_ne]; omega
    have HD := Lib.hid (decide_eq_false (p := L = M) (fun e => hLM (by rw [e])))
    clear hLM
    go_enter Try.func79, Try.ntmps79
    go_wp2
    go_ret
    exact ⟨by rw [HD.out]; rfl, ((Below.refl w.heap.size w).alloc (Nat.le_refl _) _).alloc (by simp) _⟩

end Go.Proofs.Ytgnjhmmedogcoaa

/- Contracts of the laws' functions that measure terms, over this seat's translation: what is left of a measure behind all terms and their spans, or -1; nothing that was there before the call has changed. Condition: no row is longer than any slice can be. -/
namespace Go.Proofs.Ytgnjhmmedogcoaa
open Go.RowKit Go.Sort

/-- What the loop of szTermS keeps: what is left, and what it will take. -/
def TSzRel (M : List Tm) (T : Int) (w : World) (s i : Value) (wr : World) : Prop :=
  ∃ (k : Nat) (r : Int), k ≤ M.length ∧ i = .int .i64 (k : Int) ∧ s = .int .i64 r ∧ 0 ≤ r ∧ r ≤ 1048576 ∧ r - (tmSz (M.drop k) : Int) = T ∧ Below w.heap.size w wr

theorem tsz_push {M : List Tm} {T r : Int} {w wr : World} {k : Nat} {x : Int} {f : Bool} {L : List (Int × Int)} (hM : M[k]? = some (x, L, f)) (h0 : 0 ≤ r) (h1 : r ≤ 1048576) (hT : r - (tmSz (M.drop k) : Int) = T) (hn : ¬ r < (L.length : Int)) (hb : Below w.heap.size w wr) :
    TSzRel M T w (.int .i64 (r - (L.length : Int))) (.int .i64 ((k : Int) + 1)) wr := by
  have hk : k < M.length := (List.getElem?_eq_some_iff.1 hM).1
  have hd := tmSz_drop M k _ hM
  simp only at hd
  exact ⟨k + 1, r - (L.length : Int), by omega, by go_num, rfl, by omega, by omega, by omega, hb⟩

end Go.Proofs.Ytgnjhmmedogcoaa

/- Contracts of the laws' functions that compare terms, over this seat's translation: they answer whether the terms are the same; nothing that was there before the call has changed. Condition: at most 1048576 terms, and spans of each. -/
namespace Go.Proofs.Ytgnjhmmedogcoaa
open Go.RowKit Go.Sort

/-- What the loop of eqTermS keeps: the first k terms are alike. -/
def TEqRel (M N : List Tm) (w : World) (i : Value) (wr : World) : Prop :=
  ∃ k : Nat, k ≤ M.length ∧ i = .int .i64 (k : Int) ∧ M.take k = N.take k ∧ Below w.heap.size w wr

theorem teq_push {M N : List Tm} {w wr : World} {k : Nat} {q : Tm} (hk : k < M.length) (hM : M[k]? = some q) (hN : N[k]? = some q) (ht : M.take k = N.take k) (hb : Below w.heap.size w wr) :
    TEqRel M N w (.int .i64 ((k : Int) + 1)) wr :=
  ⟨k + 1, by omega, by go_num, by rw [List.take_add_one, List.take_add_one, hM, hN, ht], hb⟩

theorem tdiffer_at {M N : List Tm} {k : Nat} {q q' : Tm} (hM : M[k]? = some q) (hN : N[k]? = some q') (h : ¬ (q.1 = q'.1 ∧ q.2.1 = q'.2.1 ∧ q.2.2 = q'.2.2)) : ¬ M = N := by
  rintro rfl
  rw [hM] at hN
  cases hN
  exact h ⟨rfl, rfl, rfl⟩

end Go.Proofs.Ytgnjhmmedogcoaa

/- The contract of the laws' function that compares rows of terms, over this seat's translation, for one row at two places: it answers yes; nothing that was there before a call has changed. Condition: at most 1048576 terms, and spans of each. -/
namespace Go.Proofs.Ytgnjhmmedogcoaa
open Go.RowKit Go.Sort

namespace Tsm
end Tsm
end Go.Proofs.Ytgnjhmmedogcoaa
