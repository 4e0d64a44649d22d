/- Rows of picks in memory, over this seat's translation: what it is for a slice value to hold a list of picks (a name and a version's four numbers), and for a block to be such a row. No condition. -/
import Derived.Test.YtdjnfmekbjmdhaaOpenVer
import Derived.Laws.MakeOwn
namespace Go.Proofs.Ytdjnfmekbjmdhaa
open Go.RowKit Go.Sort

abbrev Pk := Int × Int × Int × Int × Int
abbrev pick (n a b c d : Int) : Value := .agg #[.int .i64 n, .int .i64 a, .int .i64 b, .int .i64 c, .int .i64 d]

/-- The cells of one pick. -/
def PkC (w : World) (b o : Nat) (x : Pk) : Prop :=
  w.cell? ⟨b, o, none⟩ = some (.int .i64 x.1) ∧ w.cell? ⟨b, o + 1, none⟩ = some (.int .i64 x.2.1) ∧ w.cell? ⟨b, o + 2, none⟩ = some (.int .i64 x.2.2.1) ∧ w.cell? ⟨b, o + 3, none⟩ = some (.int .i64 x.2.2.2.1) ∧ w.cell? ⟨b, o + 4, none⟩ = some (.int .i64 x.2.2.2.2)
theorem PkC.below {w w' : World} {B b o : Nat} {x : Pk} (h : PkC w b o x) (hb : Below B w w') (hB : b < B) : PkC w' b o x := by
  obtain ⟨h0, h1, h2, h3, h4⟩ := h
  exact ⟨(hb.cell (p := ⟨b, o, none⟩) hB).trans h0, (hb.cell (p := ⟨b, o + 1, none⟩) hB).trans h1, (hb.cell (p := ⟨b, o + 2, none⟩) hB).trans h2, (hb.cell (p := ⟨b, o + 3, none⟩) hB).trans h3, (hb.cell (p := ⟨b, o + 4, none⟩) hB).trans h4⟩

/-- A slice value that holds these picks, in a block below B (or is empty). -/
def PkAt (w : World) (B : Nat) (v : Value) (L : List Pk) : Prop :=
  ∃ a cap, v = .slice a L.length cap ∧ (L = [] ∨ ∃ b o, a = some ⟨b, o, none⟩ ∧ b < B ∧ ∀ i (h : i < L.length), PkC w b (o + i * 5) L[i])
theorem PkAt.below {w w' : World} {B : Nat} {v : Value} {L : List Pk} (h : PkAt w B v L) (hb : Below B w w') : PkAt w' B v L := by
  obtain ⟨a, cap, rfl, h⟩ := h
  refine ⟨a, cap, rfl, ?_⟩
  rcases h with h | ⟨b, o, rfl, hB, hc⟩
  · exact .inl h
  · exact .inr ⟨b, o, rfl, hB, fun i hi => (hc i hi).below hb hB⟩
theorem PkAt.mono {w : World} {B B' : Nat} {v : Value} {L : List Pk} (h : PkAt w B v L) (hB : B ≤ B') : PkAt w B' v L := by
  obtain ⟨a, cap, rfl, h⟩ := h
  refine ⟨a, cap, rfl, ?_⟩
  rcases h with h | ⟨b, o, rfl, hb, hc⟩
  · exact .inl h
  · exact .inr ⟨b, o, rfl, by omega, hc⟩
theorem PkAt.stepAt {L : List Pk} {u : Value} {w V : World} (h : PkAt w w.heap.size u L) (hb : Below w.heap.size w V) : PkAt V V.heap.size u L := (h.below hb).mono hb.size

/-- A block that is a row of n picks, the first of which are L. -/
def PkBlk (w : World) (g n : Nat) (L : List Pk) : Prop :=
  ∃ C : Array Value, w.heap[g]? = some (.cells C 106 (0, 0)) ∧ C.size = n * 5 ∧ L.length ≤ n ∧ ∀ i (h : i < L.length), C[i * 5]? = some (.int .i64 L[i].1) ∧ C[i * 5 + 1]? = some (.int .i64 L[i].2.1) ∧ C[i * 5 + 2]? = some (.int .i64 L[i].2.2.1) ∧ C[i * 5 + 3]? = some (.int .i64 L[i].2.2.2.1) ∧ C[i * 5 + 4]? = some (.int .i64 L[i].2.2.2.2)

theorem PkBlk.lt {w : World} {g n : Nat} {L : List Pk} (h : PkBlk w g n L) : g < w.heap.size := by
  obtain ⟨C, h, _⟩ := h
  exact (Array.getElem?_eq_some_iff.1 h).1
theorem PkBlk.kept {w w' : World} {g n : Nat} {L : List Pk} (h : PkBlk w g n L) (hb : w'.heap[g]? = w.heap[g]?) : PkBlk w' g n L := by
  obtain ⟨C, h, r⟩ := h
  exact ⟨C, hb.trans h, r⟩
theorem PkBlk.below {w w' : World} {g n : Nat} {L : List Pk} (h : PkBlk w g n L) (hb : Below w.heap.size w w') : PkBlk w' g n L := h.kept (hb.block _ h.lt)
theorem PkBlk.at {w : World} {g n cap : Nat} {L : List Pk} (h : PkBlk w g n L) : PkAt w w.heap.size (.slice (some ⟨g, 0, none⟩) L.length cap) L := by
  have hg := h.lt
  obtain ⟨C, h, _, _, hc⟩ := h
  refine ⟨_, _, rfl, .inr ⟨g, 0, rfl, hg, fun i hi => ?_⟩⟩
  obtain ⟨h0, h1, h2, h3, h4⟩ := hc i hi
  rw [Nat.zero_add]
  exact ⟨(cell_of_row w g _ C _ (0, 0) h).trans h0, (cell_of_row w g _ C _ (0, 0) h).trans h1, (cell_of_row w g _ C _ (0, 0) h).trans h2, (cell_of_row w g _ C _ (0, 0) h).trans h3, (cell_of_row w g _ C _ (0, 0) h).trans h4⟩

/-- Each place of such a row can be written, and is what was written then. -/
theorem PkBlk.place {w : World} {g n : Nat} {L : List Pk} (h : PkBlk w g n L) {k : Nat} (hk : k < n) :
    (∃ x, w.cell? ⟨g, k * 5, none⟩ = some x) ∧ (∃ x, w.cell? ⟨g, k * 5 + 1, none⟩ = some x) ∧ (∃ x, w.cell? ⟨g, k * 5 + 2, none⟩ = some x) ∧ (∃ x, w.cell? ⟨g, k * 5 + 3, none⟩ = some x) ∧ (∃ x, w.cell? ⟨g, k * 5 + 4, none⟩ = some x) ∧ w.frozen? ⟨g, k * 5, none⟩ = false ∧ w.frozen? ⟨g, k * 5 + 1, none⟩ = false ∧ w.frozen? ⟨g, k * 5 + 2, none⟩ = false ∧ w.frozen? ⟨g, k * 5 + 3, none⟩ = false ∧ w.frozen? ⟨g, k * 5 + 4, none⟩ = false := by
  obtain ⟨C, h, hs, _, _⟩ := h
  refine ⟨⟨C[k * 5]'(by omega), ?_⟩, ⟨C[k * 5 + 1]'(by omega), ?_⟩, ⟨C[k * 5 + 2]'(by omega), ?_⟩, ⟨C[k * 5 + 3]'(by omega), ?_⟩, ⟨C[k * 5 + 4]'(by omega), ?_⟩, ?_, ?_, ?_, ?_, ?_⟩
  · rw [cell_of_row w g _ C _ (0, 0) h]; exact Array.getElem?_eq_getElem _
  · rw [cell_of_row w g _ C _ (0, 0) h]; exact Array.getElem?_eq_getElem _
  · rw [cell_of_row w g _ C _ (0, 0) h]; exact Array.getElem?_eq_getElem _
  · rw [cell_of_row w g _ C _ (0, 0) h]; exact Array.getElem?_eq_getElem _
  · rw [cell_of_row w g _ C _ (0, 0) h]; exact Array.getElem?_eq_getElem _
  · simp [World.frozen?, h]
  · simp [World.frozen?, h]
  · simp [World.frozen?, h]
  · simp [World.frozen?, h]
  · simp [World.frozen?, h]

theorem PkBlk.push {w : World} {g n : Nat} {L : List Pk} (h : PkBlk w g n L) (hk : L.length < n) (x a1 b1 c1 d1 : Int) :
    PkBlk (((((w.setCell ⟨g, L.length * 5, none⟩ (.int .i64 x)).setCell ⟨g, L.length * 5 + 1, none⟩ (.int .i64 a1)).setCell ⟨g, L.length * 5 + 2, none⟩ (.int .i64 b1)).setCell ⟨g, L.length * 5 + 3, none⟩ (.int .i64 c1)).setCell ⟨g, L.length * 5 + 4, none⟩ (.int .i64 d1)) g n (L ++ [(x, a1, b1, c1, d1)]) := by
  obtain ⟨C, h, hs, hl, hc⟩ := h
  refine ⟨((((C.setIfInBounds (L.length * 5) (.int .i64 x)).setIfInBounds (L.length * 5 + 1) (.int .i64 a1)).setIfInBounds (L.length * 5 + 2) (.int .i64 b1)).setIfInBounds (L.length * 5 + 3) (.int .i64 c1)).setIfInBounds (L.length * 5 + 4) (.int .i64 d1), ?_, by simpa using hs, by simp; omega, fun i hi => ?_⟩
  · simp [World.setCell, Array.getElem?_modify, h]
  · simp only [List.length_append, List.length_cons, List.length_nil] at hi
    by_cases e : i < L.length
    · obtain ⟨h0, h1, h2, h3, h4⟩ := hc i e
      rw [List.getElem_append_left e]
      refine ⟨?_, ?_, ?_, ?_, ?_⟩
      · rw [Array.getElem?_setIfInBounds_ne (by omega), Array.getElem?_setIfInBounds_ne (by omega), Array.getElem?_setIfInBounds_ne (by omega), Array.getElem?_setIfInBounds_ne (by omega), Array.getElem?_setIfInBounds_ne (by omega)]; exact h0
      · rw [Array.getElem?_setIfInBounds_ne (by omega), Array.getElem?_setIfInBounds_ne (by omega), Array.getElem?_setIfInBounds_ne (by omega), Array.getElem?_setIfInBounds_ne (by omega), Array.getElem?_setIfInBounds_ne (by omega)]; exact h1
      · rw [Array.getElem?_setIfInBounds_ne (by omega), Array.getElem?_setIfInBounds_ne (by omega), Array.getElem?_setIfInBounds_ne (by omega), Array.getElem?_setIfInBounds_ne (by omega), Array.getElem?_setIfInBounds_ne (by omega)]; exact h2
      · rw [Array.getElem?_setIfInBounds_ne (by omega), Array.getElem?_setIfInBounds_ne (by omega), Array.getElem?_setIfInBounds_ne (by omega), Array.getElem?_setIfInBounds_ne (by omega), Array.getElem?_setIfInBounds_ne (by omega)]; exact h3
      · rw [Array.getElem?_setIfInBounds_ne (by omega), Array.getElem?_setIfInBounds_ne (by omega), Array.getElem?_setIfInBounds_ne (by omega), Array.getElem?_setIfInBounds_ne (by omega), Array.getElem?_setIfInBounds_ne (by omega)]; exact h4
    · obtain rfl : i = L.length := by omega
      rw [List.getElem_append_right (Nat.le_refl _)]
      refine ⟨?_, ?_, ?_, ?_, ?_⟩
      · rw [Array.getElem?_setIfInBounds_ne (by omega), Array.getElem?_setIfInBounds_ne (by omega), Array.getElem?_setIfInBounds_ne (by omega), Array.getElem?_setIfInBounds_ne (by omega)]; rw [Array.getElem?_setIfInBounds_self_of_lt (by first | omega | (simp; omega))]; simp
      · rw [Array.getElem?_setIfInBounds_ne (by omega), Array.getElem?_setIfInBounds_ne (by omega), Array.getElem?_setIfInBounds_ne (by omega)]; rw [Array.getElem?_setIfInBounds_self_of_lt (by first | omega | (simp; omega))]; simp
      · rw [Array.getElem?_setIfInBounds_ne (by omega), Array.getElem?_setIfInBounds_ne (by omega)]; rw [Array.getElem?_setIfInBounds_self_of_lt (by first | omega | (simp; omega))]; simp
      · rw [Array.getElem?_setIfInBounds_ne (by omega)]; rw [Array.getElem?_setIfInBounds_self_of_lt (by first | omega | (simp; omega))]; simp
      · rw [Array.getElem?_setIfInBounds_self_of_lt (by first | omega | (simp; omega))]; simp

end Go.Proofs.Ytdjnfmekbjmdhaa
