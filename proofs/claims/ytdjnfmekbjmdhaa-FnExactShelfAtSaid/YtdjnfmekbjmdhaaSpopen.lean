/- A range that comes in by value is a slice value that holds some list of spans. -/
import Derived.Test.YtdjnfmekbjmdhaaFrame
import Derived.Test.YtdjnfmekbjmdhaaSp
import Derived.Deep.Slices
namespace Go.Proofs.Ytdjnfmekbjmdhaa
open Go.ChangeShapes Go.WideShapes Go.ChangeAt Go.RowKit Go.Joins Go.Deep

theorem lawSpan_cells : Try.prog.cellsOf 144 = 2 := by kernel_rfl
theorem lawRange_cells : Try.prog.cellsOf 87 = 1 := by kernel_rfl
theorem int_cells : Try.prog.cellsOf 3 = 1 := by kernel_rfl
theorem lawSpans_cells : Try.prog.cellsOf 85 = 1 := by kernel_rfl

theorem add_none (a : Addr) : a.add 0 = a := by simp [Addr.add]
theorem plain_add {b o n : Nat} : (⟨b, o, none⟩ : Addr).add n = ⟨b, o + n, none⟩ := by unfold Addr.add; split <;> simp_all

section
variable {H : Type} {enc : TypeId × Value → H} {w : World} {base : Nat} {held : Bool}

set_option maxRecDepth 100000 in
theorem open_span {fuel : Nat} {cs : List Value} {x : DataW H × List MemPlace} {spare : Nat → Bool} (h : DataW.trod enc Try.prog w base spare held fuel 144 cs = some x) : ∃ p : Int × Int, cs = [.int .i64 p.1, .int .i64 p.2] := by
  obtain ⟨y0, y1, n, _, hl, h0, h1⟩ := trod_struct2 Try.underlying144 h
  rw [lawSpan_cells] at hl
  match cs, hl with
  | [c0, c1], _ =>
    obtain ⟨a, e0, _, _⟩ := DataW.trod_int Try.underlying3 h0
    obtain ⟨b, e1, _, _⟩ := DataW.trod_int Try.underlying3 h1
    simp [int_cells] at e0 e1
    subst e0; subst e1
    exact ⟨(a, b), rfl⟩

set_option maxRecDepth 100000 in
theorem open_range {b0 : Nat} {v : Value} {d : DataW H} {p : List MemPlace} (hv : Value.okWide Try.prog w .any b0 87 v)
    (h : DataW.Trod enc Try.prog w 0 (fun _ => true) true 87 v d p) : ∃ a cap L, v = .agg #[.slice a L.length cap] ∧ SpAt w w.heap.size (.slice a L.length cap) L ∧ L.length ≤ maxLen := by
  obtain ⟨cs, rfl, hsz⟩ := okWide_struct Try.underlying87 hv
  obtain ⟨l⟩ := cs
  match l, hsz.trans lawRange_cells with
  | [c0], _ =>
    obtain ⟨fuel, hf⟩ := h
    obtain ⟨y0, n, _, _, h0⟩ := trod_struct1 Try.underlying87 hf
    simp [Value.cells, lawSpans_cells] at h0
    rcases open_slice Try.underlying85 h0 with ⟨hcs, _⟩ | ⟨a, len, cap, m, k, D, Pl, hcs, _, hl, hm, hmm, _, hel⟩
    · simp at hcs
      subst hcs
      exact ⟨none, 0, [], rfl, ⟨_, _, rfl, .inl rfl⟩, Nat.zero_le _⟩
    · simp at hcs
      subst hcs
      simp at hmm
      subst hmm
      rw [lawSpan_cells] at hel
      obtain ⟨X, hX⟩ := choose_lt (α := Int × Int) (p := fun i q => w.cell? (a.add (i * 2)) = some (.int .i64 q.1) ∧ w.cell? ((a.add (i * 2)).add 1) = some (.int .i64 q.2)) (fun i (hi : i < len) => by
        obtain ⟨cs', h1, h2⟩ := hel i (by omega)
        obtain ⟨q, rfl⟩ := open_span h2
        obtain ⟨_, _, h3⟩ := World.cells?_some h1
        have e0 := h3 0 (by omega)
        have e1 := h3 1 (by omega)
        rw [add_none] at e0
        exact ⟨q, e0, e1⟩)
      have hlen : ((List.range len).map X).length = len := by simp
      refine ⟨some a, m, (List.range len).map X, by rw [hlen], ?_, by rw [hlen]; omega⟩
      by_cases hz : len = 0
      · subst hz
        exact ⟨_, _, rfl, .inl rfl⟩
      · have c0 := (hX 0 (by omega)).1
        obtain ⟨b, o, spot⟩ := a
        rw [Nat.zero_mul, add_none] at c0
        have hspot : spot = none := by simpa using World.cell?_spot c0
        subst hspot
        refine ⟨_, _, rfl, .inr ⟨b, o, rfl, ?_, fun i hi => ?_⟩⟩
        · have := World.block_lt_of_cell? w _ c0
          simpa using this
        · have hi' : i < len := by simpa using hi
          obtain ⟨e0, e1⟩ := hX i hi'
          rw [plain_add] at e0 e1
          rw [plain_add] at e1
          simp only [List.getElem_map, List.getElem_range]
          exact ⟨e0, e1⟩
end
end Go.Proofs.Ytdjnfmekbjmdhaa
