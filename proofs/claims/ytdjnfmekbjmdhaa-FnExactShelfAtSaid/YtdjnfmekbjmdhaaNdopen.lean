/- A slice of needs that comes in by value holds some list of needs. -/
import Derived.Test.YtdjnfmekbjmdhaaSpopen
import Derived.Test.YtdjnfmekbjmdhaaNd
namespace Go.Proofs.Ytdjnfmekbjmdhaa
open Go.ChangeShapes Go.WideShapes Go.ChangeAt Go.RowKit Go.Joins Go.Deep

theorem lawNeed_cells : Try.prog.cellsOf 89 = 2 := by kernel_rfl

section
variable {H : Type} {enc : TypeId × Value → H} {w : World} {held : Bool}

/-- A row of elements, out of its opened slice. -/
theorem choose_row {α : Type} [Inhabited α] {len : Nat} {p : Nat → α → Prop} (h : ∀ i, i < len → ∃ q, p i q) : ∃ X : List α, X.length = len ∧ ∀ i (hi : i < X.length), p i X[i] := by
  obtain ⟨X, hX⟩ := choose_lt h
  refine ⟨(List.range len).map X, by simp, fun i hi => ?_⟩
  have hi' : i < len := by simpa using hi
  simpa using hX i hi'

set_option maxRecDepth 100000 in
theorem open_spans_trod {fuel : Nat} {cs : List Value} {x : DataW H × List MemPlace} (h : DataW.trod enc Try.prog w 0 (fun _ => true) held fuel 85 cs = some x) :
    ∃ a cap L, cs = [.slice a L.length cap] ∧ SpAt w w.heap.size (.slice a L.length cap) L ∧ L.length ≤ maxLen := by
  rcases open_slice Try.underlying85 h with ⟨hcs, _⟩ | ⟨a, len, cap, m, k, D, Pl, hcs, _, hl, hm, hmm, _, hel⟩
  · subst hcs
    exact ⟨none, 0, [], rfl, ⟨_, _, rfl, .inl rfl⟩, Nat.zero_le _⟩
  · subst hcs
    simp at hmm
    subst hmm
    rw [lawSpan_cells] at hel
    obtain ⟨X, hlen, hX⟩ := choose_row (α := Int × Int) (p := fun i q => w.cell? (a.add (i * 2)) = some (.int .i64 q.1) ∧ w.cell? ((a.add (i * 2)).add 1) = some (.int .i64 q.2)) (fun i (hi : i < len) => by
      obtain ⟨cs', h1, h2⟩ := hel i (by omega)
      obtain ⟨q, rfl⟩ := open_span h2
      obtain ⟨_, _, h3⟩ := World.cells?_some h1
      have e0 := h3 0 (by omega)
      have e1 := h3 1 (by omega)
      rw [add_none] at e0
      exact ⟨q, e0, e1⟩)
    subst hlen
    refine ⟨some a, m, X, rfl, ?_, by omega⟩
    by_cases hz : X.length = 0
    · exact ⟨_, _, rfl, .inl (List.length_eq_zero_iff.1 hz)⟩
    · have c0 := (hX 0 (by omega)).1
      obtain ⟨b, o, spot⟩ := a
      rw [Nat.zero_mul, add_none] at c0
      have hspot : spot = none := by simpa using World.cell?_spot c0
      subst hspot
      refine ⟨_, _, rfl, .inr ⟨b, o, rfl, ?_, fun i hi => ?_⟩⟩
      · have := World.block_lt_of_cell? w _ c0
        simpa using this
      · obtain ⟨e0, e1⟩ := hX i hi
        rw [plain_add] at e0 e1
        rw [plain_add] at e1
        exact ⟨e0, e1⟩

set_option maxRecDepth 100000 in
theorem open_range_trod {fuel : Nat} {cs : List Value} {x : DataW H × List MemPlace} (hl : cs.length = 1) (h : DataW.trod enc Try.prog w 0 (fun _ => true) held fuel 87 cs = some x) :
    ∃ a cap L, cs = [.slice a L.length cap] ∧ SpAt w w.heap.size (.slice a L.length cap) L ∧ L.length ≤ maxLen := by
  match cs, hl with
  | [c0], _ =>
    obtain ⟨y0, n, _, _, h0⟩ := trod_struct1 Try.underlying87 h
    simp [lawSpans_cells] at h0
    exact open_spans_trod h0

set_option maxRecDepth 100000 in
theorem open_need_trod {fuel : Nat} {cs : List Value} {x : DataW H × List MemPlace} (h : DataW.trod enc Try.prog w 0 (fun _ => true) held fuel 89 cs = some x) :
    ∃ (q : Nd) (a : Option Addr) (cap : Nat), cs = [.int .i64 q.1, .slice a q.2.length cap] ∧ SpAt w w.heap.size (.slice a q.2.length cap) q.2 ∧ q.2.length ≤ maxLen := by
  obtain ⟨y0, y1, n, _, hl, h0, h1⟩ := trod_struct2 Try.underlying89 h
  rw [lawNeed_cells] at hl
  match cs, hl with
  | [c0, c1], _ =>
    obtain ⟨z, e0, _, _⟩ := DataW.trod_int Try.underlying3 h0
    simp [int_cells, lawRange_cells] at e0 h1
    obtain ⟨a, cap, L, e1, hs, hm⟩ := open_range_trod (by simp) h1
    simp at e1
    subst e0; subst e1
    exact ⟨(z, L), a, cap, rfl, hs, hm⟩

set_option maxRecDepth 100000 in
theorem open_needs_trod {fuel : Nat} {cs : List Value} {x : DataW H × List MemPlace} (h : DataW.trod enc Try.prog w 0 (fun _ => true) held fuel 33 cs = some x) :
    ∃ a cap M, cs = [.slice a M.length cap] ∧ NdAt w w.heap.size (.slice a M.length cap) M ∧ M.length ≤ maxLen ∧ ∀ q ∈ M, q.2.length ≤ maxLen := by
  rcases open_slice Try.underlying33 h with ⟨hcs, _⟩ | ⟨a, len, cap, m, k, D, Pl, hcs, _, hl, hm, hmm, _, hel⟩
  · subst hcs
    exact ⟨none, 0, [], rfl, ⟨_, _, rfl, .inl rfl⟩, Nat.zero_le _, by simp⟩
  · subst hcs
    simp at hmm
    subst hmm
    rw [lawNeed_cells] at hel
    obtain ⟨X, hlen, hX⟩ := choose_row (α := Nd) (p := fun i q => (w.cell? (a.add (i * 2)) = some (.int .i64 q.1) ∧ ∃ a' cap', w.cell? ((a.add (i * 2)).add 1) = some (.slice a' q.2.length cap') ∧ SpAt w w.heap.size (.slice a' q.2.length cap') q.2) ∧ q.2.length ≤ maxLen) (fun i (hi : i < len) => by
      obtain ⟨cs', h1, h2⟩ := hel i (by omega)
      obtain ⟨q, a', cap', rfl, hs, hq⟩ := open_need_trod h2
      obtain ⟨_, _, h3⟩ := World.cells?_some h1
      have e0 := h3 0 (by omega)
      have e1 := h3 1 (by omega)
      rw [add_none] at e0
      exact ⟨q, ⟨e0, a', cap', e1, hs⟩, hq⟩)
    subst hlen
    refine ⟨some a, m, X, rfl, ?_, by omega, fun q hq => ?_⟩
    · by_cases hz : X.length = 0
      · exact ⟨_, _, rfl, .inl (List.length_eq_zero_iff.1 hz)⟩
      · have c0 := (hX 0 (by omega)).1.1
        obtain ⟨b, o, spot⟩ := a
        rw [Nat.zero_mul, add_none] at c0
        have hspot : spot = none := by simpa using World.cell?_spot c0
        subst hspot
        refine ⟨_, _, rfl, .inr ⟨b, o, rfl, ?_, fun i hi => ?_⟩⟩
        · have := World.block_lt_of_cell? w _ c0
          simpa using this
        · obtain ⟨⟨e0, a', cap', e1, hs⟩, _⟩ := hX i hi
          rw [plain_add] at e0 e1
          rw [plain_add] at e1
          exact ⟨e0, a', cap', e1, hs⟩
    · obtain ⟨i, hi, rfl⟩ := List.getElem_of_mem hq
      exact (hX i hi).2

set_option maxRecDepth 100000 in
theorem open_needs {b0 : Nat} {v : Value} {d : DataW H} {p : List MemPlace} (hv : Value.okWide Try.prog w .any b0 33 v)
    (h : DataW.Trod enc Try.prog w 0 (fun _ => true) held 33 v d p) : ∃ a cap M, v = .slice a M.length cap ∧ NdAt w w.heap.size (.slice a M.length cap) M ∧ M.length ≤ maxLen ∧ ∀ q ∈ M, q.2.length ≤ maxLen := by
  obtain ⟨a0, len0, cap0, rfl⟩ := okWide_slice Try.underlying33 hv
  obtain ⟨fuel, hf⟩ := h
  obtain ⟨a, cap, M, hc, hs, hm, hq⟩ := open_needs_trod hf
  simp [Value.cells] at hc
  obtain ⟨rfl, rfl, rfl⟩ := hc
  exact ⟨_, _, M, rfl, hs, hm, hq⟩
end
end Go.Proofs.Ytdjnfmekbjmdhaa
