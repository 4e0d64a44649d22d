/- A slice of terms that comes in by value holds some list of terms. -/
import Derived.Test.YtdhbjjolgmodjaaGc
import Derived.Test.YtdhbjjolgmodjaaTm
namespace Go.Proofs.Ytdhbjjolgmodjaa
open Go.ChangeShapes Go.WideShapes Go.ChangeAt Go.RowKit Go.Joins Go.Deep

theorem lawTerm_cells : Try.prog.cellsOf 78 = 3 := by kernel_rfl

section
variable {H : Type} {enc : TypeId × Value → H} {w : World} {held : Bool}

set_option maxRecDepth 100000 in
theorem open_term_trod {fuel : Nat} {cs : List Value} {x : DataW H × List MemPlace} (h : DataW.trod enc Try.prog w 0 (fun _ => true) held fuel 78 cs = some x) :
    ∃ (q : Tm) (a : Option Addr) (cap : Nat), cs = [.int .i64 q.1, .slice a q.2.1.length cap, .bool q.2.2] ∧ SpAt w w.heap.size (.slice a q.2.1.length cap) q.2.1 ∧ q.2.1.length ≤ maxLen := by
  obtain ⟨y0, y1, y2, n, _, hl, h0, h1, h2⟩ := trod_struct3 Try.underlying78 h
  rw [lawTerm_cells] at hl
  match cs, hl with
  | [c0, c1, c2], _ =>
    obtain ⟨z, e0, _, _⟩ := DataW.trod_int Try.underlying3 h0
    obtain ⟨f, e2, _, _⟩ := DataW.trod_bool Try.underlying4 h2
    simp [int_cells, bool_cells, lawRange_cells] at e0 h1 e2
    obtain ⟨a, cap, L, e1, hs, hm⟩ := open_range_trod (by simp) h1
    simp at e1
    subst e0; subst e1; subst e2
    exact ⟨(z, L, f), a, cap, rfl, hs, hm⟩

set_option maxRecDepth 100000 in
theorem open_terms_trod {fuel : Nat} {cs : List Value} {x : DataW H × List MemPlace} (h : DataW.trod enc Try.prog w 0 (fun _ => true) held fuel 22 cs = some x) :
    ∃ a cap M, cs = [.slice a M.length cap] ∧ TmAt w w.heap.size (.slice a M.length cap) M ∧ M.length ≤ maxLen ∧ ∀ q ∈ M, q.2.1.length ≤ maxLen := by
  rcases open_slice Try.underlying22 h with ⟨hcs, _⟩ | ⟨a, len, cap, m, k, D, Pl, hcs, _, hl, hm, hmm, _, hel⟩
  · subst hcs
    exact ⟨none, 0, [], rfl, ⟨_, _, rfl, .inl rfl⟩, Nat.zero_le _, by simp⟩
  · subst hcs
    simp at hmm
    subst hmm
    rw [lawTerm_cells] at hel
    obtain ⟨X, hlen, hX⟩ := choose_row (α := Tm) (p := fun i q => (w.cell? (a.add (i * 3)) = some (.int .i64 q.1) ∧ ∃ a' cap', w.cell? ((a.add (i * 3)).add 1) = some (.slice a' q.2.1.length cap') ∧ SpAt w w.heap.size (.slice a' q.2.1.length cap') q.2.1 ∧ w.cell? ((a.add (i * 3)).add 2) = some (.bool q.2.2)) ∧ q.2.1.length ≤ maxLen) (fun i (hi : i < len) => by
      obtain ⟨cs', h1, h2⟩ := hel i (by omega)
      obtain ⟨q, a', cap', rfl, hs, hq⟩ := open_term_trod h2
      obtain ⟨_, _, h3⟩ := World.cells?_some h1
      have e0 := h3 0 (by omega)
      have e1 := h3 1 (by omega)
      have e2 := h3 2 (by omega)
      rw [add_none] at e0
      exact ⟨q, ⟨e0, a', cap', e1, hs, e2⟩, hq⟩)
    subst hlen
    refine ⟨some a, m, X, rfl, ?_, by omega, fun q hq => ?_⟩
    · by_cases hz : X.length = 0
      · exact ⟨_, _, rfl, .inl (List.length_eq_zero_iff.1 hz)⟩
      · have c0 := (hX 0 (by omega)).1.1
        obtain ⟨b, o, spot⟩ := a
        rw [Nat.zero_mul, add_none] at c0
        have hspot : spot = none := by simpa using World.cell?_spot c0
        subst hspot
        refine ⟨_, _, rfl, .inr ⟨b, o, rfl, ?_, fun i hi => ?_⟩⟩
        · have := World.block_lt_of_cell? w _ c0
          simpa using this
        · obtain ⟨⟨e0, a', cap', e1, hs, e2⟩, _⟩ := hX i hi
          rw [plain_add] at e0 e1 e2
          rw [plain_add] at e1 e2
          exact ⟨e0, a', cap', e1, hs, e2⟩
    · obtain ⟨i, hi, rfl⟩ := List.getElem_of_mem hq
      exact (hX i hi).2

set_option maxRecDepth 100000 in
theorem open_terms {b0 : Nat} {v : Value} {d : DataW H} {p : List MemPlace} (hv : Value.okWide Try.prog w .any b0 22 v)
    (h : DataW.Trod enc Try.prog w 0 (fun _ => true) held 22 v d p) : ∃ a cap M, v = .slice a M.length cap ∧ TmAt w w.heap.size (.slice a M.length cap) M ∧ M.length ≤ maxLen ∧ ∀ q ∈ M, q.2.1.length ≤ maxLen := by
  obtain ⟨a0, len0, cap0, rfl⟩ := okWide_slice Try.underlying22 hv
  obtain ⟨fuel, hf⟩ := h
  obtain ⟨a, cap, M, hc, hs, hm, hq⟩ := open_terms_trod hf
  simp [Value.cells] at hc
  obtain ⟨rfl, rfl, rfl⟩ := hc
  exact ⟨_, _, M, rfl, hs, hm, hq⟩
end
end Go.Proofs.Ytdhbjjolgmodjaa
