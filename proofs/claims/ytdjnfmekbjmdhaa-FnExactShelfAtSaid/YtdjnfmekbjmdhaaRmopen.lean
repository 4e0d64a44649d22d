/- A slice of releases that comes in by value holds some list of releases. -/
import Derived.Test.YtdjnfmekbjmdhaaNdopen
import Derived.Test.YtdjnfmekbjmdhaaRm
namespace Go.Proofs.Ytdjnfmekbjmdhaa
open Go.ChangeShapes Go.WideShapes Go.ChangeAt Go.RowKit Go.Joins Go.Deep

theorem lawVersion_cells : Try.prog.cellsOf 24 = 4 := by kernel_rfl
theorem lawRelease_cells : Try.prog.cellsOf 35 = 7 := by kernel_rfl
theorem bool_cells : Try.prog.cellsOf 4 = 1 := by kernel_rfl
theorem lawNeeds_cells : Try.prog.cellsOf 33 = 1 := by kernel_rfl

section
variable {H : Type} {enc : TypeId × Value → H} {w : World} {held : Bool}

set_option maxRecDepth 100000 in
theorem open_ver_trod {fuel : Nat} {cs : List Value} {x : DataW H × List MemPlace} (h : DataW.trod enc Try.prog w 0 (fun _ => true) held fuel 24 cs = some x) :
    ∃ a b c d : Int, cs = [.int .i64 a, .int .i64 b, .int .i64 c, .int .i64 d] := by
  obtain ⟨y0, y1, y2, y3, n, _, hl, h0, h1, h2, h3⟩ := trod_struct4 Try.underlying24 h
  rw [lawVersion_cells] at hl
  match cs, hl with
  | [c0, c1, c2, c3], _ =>
    obtain ⟨a, e0, _, _⟩ := DataW.trod_int Try.underlying3 h0
    obtain ⟨b, e1, _, _⟩ := DataW.trod_int Try.underlying3 h1
    obtain ⟨c, e2, _, _⟩ := DataW.trod_int Try.underlying3 h2
    obtain ⟨d, e3, _, _⟩ := DataW.trod_int Try.underlying3 h3
    simp [int_cells] at e0 e1 e2 e3
    subst e0; subst e1; subst e2; subst e3
    exact ⟨a, b, c, d, rfl⟩

set_option maxRecDepth 100000 in
theorem open_rel_trod {fuel : Nat} {cs : List Value} {x : DataW H × List MemPlace} (h : DataW.trod enc Try.prog w 0 (fun _ => true) held fuel 35 cs = some x) :
    ∃ (q : Rel) (a : Option Addr) (cap : Nat), cs = [.int .i64 q.1, .int .i64 q.2.1.1, .int .i64 q.2.1.2.1, .int .i64 q.2.1.2.2.1, .int .i64 q.2.1.2.2.2, .bool q.2.2.1, .slice a q.2.2.2.length cap] ∧
      NdAt w w.heap.size (.slice a q.2.2.2.length cap) q.2.2.2 ∧ q.2.2.2.length ≤ maxLen ∧ ∀ p ∈ q.2.2.2, p.2.length ≤ maxLen := by
  obtain ⟨y0, y1, y2, y3, n, _, hl, h0, h1, h2, h3⟩ := trod_struct4 Try.underlying35 h
  rw [lawRelease_cells] at hl
  match cs, hl with
  | [c0, c1, c2, c3, c4, c5, c6], _ =>
    obtain ⟨z, e0, _, _⟩ := DataW.trod_int Try.underlying3 h0
    simp [lawVersion_cells] at h1
    obtain ⟨a, b, c, d, e1⟩ := open_ver_trod h1
    obtain ⟨f, e2, _⟩ := DataW.trod_bool Try.underlying4 h2
    simp [lawNeeds_cells] at h3
    obtain ⟨a', cap, M, e3, hs, hm, hq⟩ := open_needs_trod h3
    simp [int_cells, bool_cells] at e0 e1 e2 e3
    obtain ⟨rfl, rfl, rfl, rfl⟩ := e1
    subst e0; subst e2; subst e3
    exact ⟨(z, (a, b, c, d), f, M), a', cap, rfl, hs, hm, hq⟩

set_option maxRecDepth 100000 in
theorem open_rels_trod {fuel : Nat} {cs : List Value} {x : DataW H × List MemPlace} (h : DataW.trod enc Try.prog w 0 (fun _ => true) held fuel 22 cs = some x) :
    ∃ a cap S, cs = [.slice a S.length cap] ∧ RlAt w w.heap.size (.slice a S.length cap) S ∧ S.length ≤ maxLen ∧ ∀ q ∈ S, q.2.2.2.length ≤ maxLen ∧ ∀ p ∈ q.2.2.2, p.2.length ≤ maxLen := by
  rcases open_slice Try.underlying22 h with ⟨hcs, _⟩ | ⟨a, len, cap, m, k, D, Pl, hcs, _, hl, hm, hmm, _, hel⟩
  · subst hcs
    exact ⟨none, 0, [], rfl, ⟨_, _, rfl, .inl rfl⟩, Nat.zero_le _, by simp⟩
  · subst hcs
    simp at hmm
    subst hmm
    rw [lawRelease_cells] at hel
    obtain ⟨X, hlen, hX⟩ := choose_row (α := Rel) (p := fun i q => ((w.cell? (a.add (i * 7)) = some (.int .i64 q.1) ∧ w.cell? ((a.add (i * 7)).add 1) = some (.int .i64 q.2.1.1) ∧ w.cell? ((a.add (i * 7)).add 2) = some (.int .i64 q.2.1.2.1) ∧ w.cell? ((a.add (i * 7)).add 3) = some (.int .i64 q.2.1.2.2.1) ∧
        w.cell? ((a.add (i * 7)).add 4) = some (.int .i64 q.2.1.2.2.2) ∧ w.cell? ((a.add (i * 7)).add 5) = some (.bool q.2.2.1)) ∧ ∃ a' cap', w.cell? ((a.add (i * 7)).add 6) = some (.slice a' q.2.2.2.length cap') ∧ NdAt w w.heap.size (.slice a' q.2.2.2.length cap') q.2.2.2) ∧
        (q.2.2.2.length ≤ maxLen ∧ ∀ p ∈ q.2.2.2, p.2.length ≤ maxLen)) (fun i (hi : i < len) => by
      obtain ⟨cs', h1, h2⟩ := hel i (by omega)
      obtain ⟨q, a', cap', rfl, hs, hq⟩ := open_rel_trod h2
      obtain ⟨_, _, h3⟩ := World.cells?_some h1
      have e0 := h3 0 (by omega)
      have e1 := h3 1 (by omega)
      have e2 := h3 2 (by omega)
      have e3 := h3 3 (by omega)
      have e4 := h3 4 (by omega)
      have e5 := h3 5 (by omega)
      have e6 := h3 6 (by omega)
      rw [add_none] at e0
      exact ⟨q, ⟨⟨e0, e1, e2, e3, e4, e5⟩, a', cap', e6, hs⟩, hq⟩)
    subst hlen
    refine ⟨some a, m, X, rfl, ?_, by omega, fun q hq => ?_⟩
    · by_cases hz : X.length = 0
      · exact ⟨_, _, rfl, .inl (List.length_eq_zero_iff.1 hz)⟩
      · have c0 := (hX 0 (by omega)).1.1.1
        obtain ⟨b, o, spot⟩ := a
        rw [Nat.zero_mul, add_none] at c0
        have hspot : spot = none := by simpa using World.cell?_spot c0
        subst hspot
        refine ⟨_, _, rfl, .inr ⟨b, o, rfl, ?_, fun i hi => ?_⟩⟩
        · have := World.block_lt_of_cell? w _ c0
          simpa using this
        · obtain ⟨⟨⟨e0, e1, e2, e3, e4, e5⟩, a', cap', e6, hs⟩, _⟩ := hX i hi
          rw [plain_add] at e0 e1 e2 e3 e4 e5 e6
          rw [plain_add] at e1 e2 e3 e4 e5 e6
          exact ⟨⟨e0, e1, e2, e3, e4, e5⟩, a', cap', e6, hs⟩
    · obtain ⟨i, hi, rfl⟩ := List.getElem_of_mem hq
      exact (hX i hi).2

set_option maxRecDepth 100000 in
theorem open_rels {b0 : Nat} {v : Value} {d : DataW H} {p : List MemPlace} (hv : Value.okWide Try.prog w .any b0 22 v)
    (h : DataW.Trod enc Try.prog w 0 (fun _ => true) held 22 v d p) : ∃ a cap S, v = .slice a S.length cap ∧ RlAt w w.heap.size (.slice a S.length cap) S ∧ S.length ≤ maxLen ∧ ∀ q ∈ S, q.2.2.2.length ≤ maxLen ∧ ∀ p ∈ q.2.2.2, p.2.length ≤ maxLen := by
  obtain ⟨a0, len0, cap0, rfl⟩ := okWide_slice Try.underlying22 hv
  obtain ⟨fuel, hf⟩ := h
  obtain ⟨a, cap, S, hc, hs, hm, hq⟩ := open_rels_trod hf
  simp [Value.cells] at hc
  obtain ⟨rfl, rfl, rfl⟩ := hc
  exact ⟨_, _, S, rfl, hs, hm, hq⟩
end
end Go.Proofs.Ytdjnfmekbjmdhaa
