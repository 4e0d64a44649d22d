/- Rows of one-cell values (texts, truths) in memory, over this seat's translation: what it is for a slice value to hold a list of them, for a block to be such a row, and for a row to lie between two block numbers. No condition. -/
import Derived.Test.YtopplljilmjjgaaGb
import Derived.Deep.AppendLies
namespace Go.Proofs.Ytopplljilmjjgaa
open Go.RowKit Go.Sort

theorem Out.wide {lo hi lo' hi' : Nat} {a b : World} (h : Out lo hi a b) (h1 : lo' ≤ lo) (h2 : hi ≤ hi') : Out lo' hi' a b := ⟨h.os, h.tape, h.output, h.size, fun k hk hd => h.block k hk (by omega)⟩
theorem out_refl (lo hi : Nat) (w : World) : Out lo hi w w := ⟨rfl, rfl, rfl, Nat.le_refl _, fun _ _ _ => rfl⟩
theorem Out.trans' {lo hi : Nat} {a b c : World} (h : Out lo hi a b) (k : Out lo hi b c) : Out lo hi a c :=
  ⟨k.os.trans h.os, k.tape.trans h.tape, k.output.trans h.output, Nat.le_trans h.size k.size, fun i hi hd => (k.block i (Nat.lt_of_lt_of_le hi h.size) hd).trans (h.block i hi hd)⟩
theorem Out.ofBelow {lo hi : Nat} {a b : World} (h : Below a.heap.size a b) : Out lo hi a b := ⟨h.os, h.tape, h.output, h.size, fun i hi _ => h.block i hi⟩
theorem Out.set {lo hi : Nat} {a b : World} {g o : Nat} {v : Value} (h : Out lo hi a b) (h1 : lo ≤ g) (h2 : g < hi) : Out lo hi a (b.setCell ⟨g, o, none⟩ v) :=
  ⟨h.os, h.tape, h.output, by simpa [World.setCell] using h.size, fun i hi hd => (Below.heap_setCell b ⟨g, o, none⟩ v i (fun e => by simp at e; omega)).trans (h.block i hi hd)⟩

namespace Obl
section
variable {α : Type} {mk : α → Value} {T : TypeId}

/-- A slice value that holds these, in a block below B (or is empty). -/
def OAt (mk : α → Value) (w : World) (B : Nat) (v : Value) (N : List α) : Prop :=
  ∃ a cap, v = .slice a N.length cap ∧ (N = [] ∨ ∃ b o, a = some ⟨b, o, none⟩ ∧ b < B ∧ ∀ i (h : i < N.length), w.cell? ⟨b, o + i, none⟩ = some (mk N[i]))
theorem OAt.below {w w' : World} {B : Nat} {v : Value} {N : List α} (h : OAt mk w B v N) (hb : Below B w w') : OAt mk w' B v N := by
  obtain ⟨a, cap, rfl, h⟩ := h
  refine ⟨a, cap, rfl, ?_⟩
  rcases h with h | ⟨b, o, rfl, hB, hc⟩
  · exact .inl h
  · exact .inr ⟨b, o, rfl, hB, fun i hi => (hb.cell (p := ⟨b, o + i, none⟩) hB).trans (hc i hi)⟩
theorem OAt.mono {w : World} {B B' : Nat} {v : Value} {N : List α} (h : OAt mk w B v N) (hB : B ≤ B') : OAt mk w B' v N := by
  obtain ⟨a, cap, rfl, h⟩ := h
  refine ⟨a, cap, rfl, ?_⟩
  rcases h with h | ⟨b, o, rfl, hb, hc⟩
  · exact .inl h
  · exact .inr ⟨b, o, rfl, by omega, hc⟩
theorem OAt.stepAt {N : List α} {u : Value} {w V : World} (h : OAt mk w w.heap.size u N) (hb : Below w.heap.size w V) : OAt mk V V.heap.size u N := (h.below hb).mono hb.size

/-- A block that is a row of n, the first of which are N. -/
def OBlk (mk : α → Value) (T : TypeId) (w : World) (g n : Nat) (N : List α) : Prop :=
  ∃ C : Array Value, w.heap[g]? = some (.cells C T (0, 0)) ∧ C.size = n ∧ N.length ≤ n ∧ ∀ i (h : i < N.length), C[i]? = some (mk N[i])
theorem OBlk.lt {w : World} {g n : Nat} {N : List α} (h : OBlk mk T w g n N) : g < w.heap.size := by
  obtain ⟨C, h, _⟩ := h
  exact (Array.getElem?_eq_some_iff.1 h).1
theorem OBlk.kept {w w' : World} {g n : Nat} {N : List α} (h : OBlk mk T w g n N) (hb : w'.heap[g]? = w.heap[g]?) : OBlk mk T w' g n N := by
  obtain ⟨C, h, r⟩ := h
  exact ⟨C, hb.trans h, r⟩
theorem OBlk.below {w w' : World} {g n : Nat} {N : List α} (h : OBlk mk T w g n N) (hb : Below w.heap.size w w') : OBlk mk T w' g n N := h.kept (hb.block _ h.lt)
theorem OBlk.place {w : World} {g n : Nat} {N : List α} (h : OBlk mk T w g n N) {k : Nat} (hk : k < n) : (∃ x, w.cell? ⟨g, k, none⟩ = some x) ∧ w.frozen? ⟨g, k, none⟩ = false := by
  obtain ⟨C, h, hs, _, _⟩ := h
  refine ⟨⟨C[k]'(by omega), ?_⟩, ?_⟩
  · rw [cell_of_row w g _ C _ (0, 0) h]; exact Array.getElem?_eq_getElem _
  · simp [World.frozen?, h]
theorem OBlk.cellAt {w : World} {g n : Nat} {N : List α} (h : OBlk mk T w g n N) {i : Nat} {x : α} (hx : N[i]? = some x) : w.cell? ⟨g, i, none⟩ = some (mk x) := by
  obtain ⟨hi, rfl⟩ := List.getElem?_eq_some_iff.1 hx
  obtain ⟨C, h, _, _, hc⟩ := h
  rw [cell_of_row w g _ C _ (0, 0) h]
  exact hc i hi
theorem OBlk.set {w : World} {g n : Nat} {N : List α} (h : OBlk mk T w g n N) {i : Nat} (hi : i < N.length) (x : α) : OBlk mk T (w.setCell ⟨g, i, none⟩ (mk x)) g n (N.set i x) := by
  obtain ⟨C, h, hs, hl, hc⟩ := h
  refine ⟨C.setIfInBounds i (mk x), ?_, by simpa using hs, by simpa using hl, fun j hj => ?_⟩
  · simp [World.setCell, Array.getElem?_modify, h]
  · simp only [List.length_set] at hj
    have h1 := hc j hj
    by_cases e : j = i
    · subst e
      rw [List.getElem_set_self, Array.getElem?_setIfInBounds_self_of_lt (by omega)]
    · rw [List.getElem_set_ne (fun e' => e e'.symm), Array.getElem?_setIfInBounds_ne (by omega)]
      exact h1
theorem OBlk.push {w : World} {g n : Nat} {N : List α} (h : OBlk mk T w g n N) (hk : N.length < n) (x : α) : OBlk mk T (w.setCell ⟨g, N.length, none⟩ (mk x)) g n (N ++ [x]) := by
  obtain ⟨C, h, hs, hl, hc⟩ := h
  refine ⟨C.setIfInBounds N.length (mk x), ?_, by simpa using hs, by simp; omega, fun i hi => ?_⟩
  · simp [World.setCell, Array.getElem?_modify, h]
  · simp only [List.length_append, List.length_cons, List.length_nil] at hi
    by_cases e : i < N.length
    · rw [List.getElem_append_left e, Array.getElem?_setIfInBounds_ne (by omega)]
      exact hc i e
    · obtain rfl : i = N.length := by omega
      rw [List.getElem_append_right (Nat.le_refl _), Array.getElem?_setIfInBounds_self_of_lt (by omega)]
      simp
theorem OBlk.at {w : World} {g n cap : Nat} {N : List α} (h : OBlk mk T w g n N) : OAt mk w w.heap.size (.slice (some ⟨g, 0, none⟩) N.length cap) N := by
  have hg := h.lt
  obtain ⟨C, h, _, _, hc⟩ := h
  exact ⟨_, _, rfl, .inr ⟨g, 0, rfl, hg, fun i hi => by rw [Nat.zero_add]; exact (cell_of_row w g _ C _ (0, 0) h).trans (hc i hi)⟩⟩

/-- A row of one's own, between two block numbers. -/
def OB (mk : α → Value) (T : TypeId) (N : List α) (lo hi : Nat) (v : Value) (w : World) : Prop :=
  ∃ a cap, v = .slice a N.length cap ∧ (N = [] ∨ ∃ g n, a = some ⟨g, 0, none⟩ ∧ OBlk mk T w g n N ∧ lo ≤ g ∧ g < hi)
theorem OB.at {N : List α} {lo hi : Nat} {v : Value} {w : World} (h : OB mk T N lo hi v w) : OAt mk w w.heap.size v N := by
  obtain ⟨a, cap, rfl, h⟩ := h
  rcases h with rfl | ⟨g, n, rfl, hk, _, _⟩
  · exact ⟨_, _, rfl, .inl rfl⟩
  · exact hk.at
theorem OB.kept {N : List α} {lo hi : Nat} {v : Value} {w w' : World} (h : OB mk T N lo hi v w) (hb : ∀ g, lo ≤ g → g < hi → g < w.heap.size → w'.heap[g]? = w.heap[g]?) : OB mk T N lo hi v w' := by
  obtain ⟨a, cap, rfl, h⟩ := h
  refine ⟨_, _, rfl, ?_⟩
  rcases h with h | ⟨g, n, rfl, hk, h1, h2⟩
  · exact .inl h
  · exact .inr ⟨g, n, rfl, hk.kept (hb g h1 h2 hk.lt), h1, h2⟩
theorem OB.below {N : List α} {lo hi : Nat} {v : Value} {w w' : World} (h : OB mk T N lo hi v w) (hb : Below w.heap.size w w') : OB mk T N lo hi v w' := h.kept fun g _ _ hl => hb.block g hl
theorem OB.out {N : List α} {lo hi lo' hi' : Nat} {v : Value} {w w' : World} (h : OB mk T N lo hi v w) (ho : Out lo' hi' w w') (hd : hi ≤ lo' ∨ hi' ≤ lo) : OB mk T N lo hi v w' :=
  h.kept fun g h1 h2 hl => ho.block g hl (by omega)
end

abbrev StAt := OAt Value.string
abbrev BoAt := OAt Value.bool
abbrev StB := OB Value.string 9
abbrev BoB := OB Value.bool 4
end Obl
end Go.Proofs.Ytopplljilmjjgaa
