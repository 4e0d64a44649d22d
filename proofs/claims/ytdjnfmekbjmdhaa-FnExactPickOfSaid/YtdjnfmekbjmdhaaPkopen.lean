/- A slice of picks that comes in by value holds some list of picks. -/
import Derived.Test.YtdjnfmekbjmdhaaFrame
import Derived.Test.YtdjnfmekbjmdhaaPk
import Derived.Deep.Slices
namespace Go.Proofs.Ytdjnfmekbjmdhaa
open Go.ChangeShapes Go.WideShapes Go.ChangeAt Go.RowKit Go.Joins Go.Deep

namespace Pks
theorem add_none (a : Addr) : a.add 0 = a := by simp [Addr.add]
theorem plain_add {b o n : Nat} : (⟨b, o, none⟩ : Addr).add n = ⟨b, o + n, none⟩ := by unfold Addr.add; split <;> simp_all
theorem int_cells : Try.prog.cellsOf 3 = 1 := by kernel_rfl
theorem version_cells : Try.prog.cellsOf 24 = 4 := by kernel_rfl
theorem pick_cells : Try.prog.cellsOf 110 = 5 := by kernel_rfl

section
variable {H : Type} {enc : TypeId × Value → H} {w : World} {held : Bool}

/-- A row of elements, out of its opened slice. -/
theorem choose_row {α : Type} [Inhabited α] {len : Nat} {p : Nat → α → Prop} (h : ∀ i, i < len → ∃ q, p i q) : ∃ X : List α, X.length = len ∧ ∀ i (hi : i < X.length), p i X[i] := by
  obtain ⟨X, hX⟩ := choose_lt h
  refine ⟨(List.range len).map X, by simp, fun i hi => ?_⟩
  have hi' : i < len := by simpa using hi
  simpa using hX i hi'

set_option maxRecDepth 100000 in
theorem open_ver_trod {fuel : Nat} {cs : List Value} {x : DataW H × List MemPlace} (h : DataW.trod enc Try.prog w 0 (fun _ => true) held fuel 24 cs = some x) :
    ∃ a b c d : Int, cs = [.int .i64 a, .int .i64 b, .int .i64 c, .int .i64 d] := by
  obtain ⟨y0, y1, y2, y3, n, _, hl, h0, h1, h2, h3⟩ := trod_struct4 Try.underlying24 h
  rw [version_cells] at hl
  match cs, hl with
  | [c0, c1, c2, c3], _ =>
    obtain ⟨a, e0, _, _⟩ := DataW.trod_int Try.underlying3 h0
    obtain ⟨b, e1, _, _⟩ := DataW.trod_int Try.underlying3 h1
    obtain ⟨c, e2, _, _⟩ := DataW.trod_int Try.underlying3 h2
    obtain ⟨d, e3, _, _⟩ := DataW.trod_int Try.underlying3 h3
    simp [int_cells] at e0 e1 e2 e3
    subst e0; subst e1; subst e2; subst e3
    exact ⟨a, b, c, d, rfl⟩

set_option maxRecDepth 100000 in
theorem open_pick_trod {fuel : Nat} {cs : List Value} {x : DataW H × List MemPlace} (h : DataW.trod enc Try.prog w 0 (fun _ => true) held fuel 110 cs = some x) :
    ∃ q : Pk, cs = [.int .i64 q.1, .int .i64 q.2.1, .int .i64 q.2.2.1, .int .i64 q.2.2.2.1, .int .i64 q.2.2.2.2] := by
  obtain ⟨y0, y1, n, _, hl, h0, h1⟩ := trod_struct2 Try.underlying110 h
  rw [pick_cells] at hl
  match cs, hl with
  | [c0, c1, c2, c3, c4], _ =>
    obtain ⟨z, e0, _, _⟩ := DataW.trod_int Try.underlying3 h0
    simp [int_cells, version_cells] at e0 h1
    obtain ⟨a, b, c, d, e1⟩ := open_ver_trod h1
    simp at e1
    obtain ⟨rfl, rfl, rfl, rfl⟩ := e1
    subst e0
    exact ⟨(z, a, b, c, d), rfl⟩

set_option maxRecDepth 100000 in
theorem open_picks_trod {fuel : Nat} {cs : List Value} {x : DataW H × List MemPlace} (h : DataW.trod enc Try.prog w 0 (fun _ => true) held fuel 57 cs = some x) :
    ∃ a cap L, cs = [.slice a L.length cap] ∧ PkAt w w.heap.size (.slice a L.length cap) L ∧ L.length ≤ maxLen := by
  rcases open_slice Try.underlying57 h with ⟨hcs, _⟩ | ⟨a, len, cap, m, k, D, Pl, hcs, _, hl, hm, hmm, _, hel⟩
  · subst hcs
    exact ⟨none, 0, [], rfl, ⟨_, _, rfl, .inl rfl⟩, Nat.zero_le _⟩
  · subst hcs
    simp at hmm
    subst hmm
    rw [pick_cells] at hel
    obtain ⟨X, hlen, hX⟩ := choose_row (α := Pk) (p := fun i q => w.cell? (a.add (i * 5)) = some (.int .i64 q.1) ∧ w.cell? ((a.add (i * 5)).add 1) = some (.int .i64 q.2.1) ∧ w.cell? ((a.add (i * 5)).add 2) = some (.int .i64 q.2.2.1) ∧ w.cell? ((a.add (i * 5)).add 3) = some (.int .i64 q.2.2.2.1) ∧ w.cell? ((a.add (i * 5)).add 4) = some (.int .i64 q.2.2.2.2)) (fun i (hi : i < len) => by
      obtain ⟨cs', h1, h2⟩ := hel i (by omega)
      obtain ⟨q, rfl⟩ := open_pick_trod h2
      obtain ⟨_, _, h3⟩ := World.cells?_some h1
      have e0 := h3 0 (by omega)
      have e1 := h3 1 (by omega)
      have e2 := h3 2 (by omega)
      have e3 := h3 3 (by omega)
      have e4 := h3 4 (by omega)
      rw [add_none] at e0
      exact ⟨q, e0, e1, e2, e3, e4⟩)
    subst hlen
    refine ⟨some a, m, X, rfl, ?_, by omega⟩
    by_cases hz : X.length = 0
    · exact ⟨_, _, rfl, .inl (List.length_eq_zero_iff.1 hz)⟩
    · have c0 := (hX 0 (by omega)).1
      obtain ⟨b, o, spot⟩ := a
      rw [Nat.zero_mul, add_none] at c0
      have hspot : spot = none := by simpa using World.cell?_spot c0
      subst hspot
      refine ⟨_, _, rfl, .inr ⟨b, o, rfl, ?_, fun i hi => ?_⟩⟩
      · have := World.block_lt_of_cell? w _ c0
        simpa using this
      · obtain ⟨e0, e1, e2, e3, e4⟩ := hX i hi
        rw [plain_add] at e0 e1 e2 e3 e4
        rw [plain_add] at e1 e2 e3 e4
        exact ⟨e0, e1, e2, e3, e4⟩
end
end Pks

set_option maxRecDepth 100000 in
theorem open_picks {H : Type} {enc : TypeId × Value → H} {w : World} {held : Bool} {b0 : Nat} {v : Value} {d : DataW H} {p : List MemPlace} (hv : Value.okWide Try.prog w .any b0 57 v)
    (h : DataW.Trod enc Try.prog w 0 (fun _ => true) held 57 v d p) : ∃ a cap L, v = .slice a L.length cap ∧ PkAt w w.heap.size (.slice a L.length cap) L ∧ L.length ≤ maxLen := by
  obtain ⟨a0, len0, cap0, rfl⟩ := okWide_slice Try.underlying57 hv
  obtain ⟨fuel, hf⟩ := h
  obtain ⟨a, cap, L, hc, hs, hm⟩ := Pks.open_picks_trod hf
  simp [Value.cells] at hc
  obtain ⟨rfl, rfl, rfl⟩ := hc
  exact ⟨_, _, L, rfl, hs, hm⟩
end Go.Proofs.Ytdjnfmekbjmdhaa
