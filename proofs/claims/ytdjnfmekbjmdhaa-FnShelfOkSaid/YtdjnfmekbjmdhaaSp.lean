/- Rows of spans in memory, over this seat's translation: what it is for a slice value to hold a list of spans, for a block to be such a row, and contracts of the laws' functions that copy, compare, mark and hold single spans. -/
import Derived.Test.YtdjnfmekbjmdhaaOpenVer
import Derived.Laws.MakeOwn
namespace Go.Proofs.Ytdjnfmekbjmdhaa
open Go.RowKit Go.Sort

/-- A slice value that holds these spans, in a block below B (or is empty). -/
def SpAt (w : World) (B : Nat) (v : Value) (L : List (Int × Int)) : Prop :=
  ∃ a cap, v = .slice a L.length cap ∧ (L = [] ∨ ∃ b o, a = some ⟨b, o, none⟩ ∧ b < B ∧ ∀ i (h : i < L.length), w.cell? ⟨b, o + i * 2, none⟩ = some (.int .i64 L[i].1) ∧ w.cell? ⟨b, o + i * 2 + 1, none⟩ = some (.int .i64 L[i].2))

theorem SpAt.below {w w' : World} {B : Nat} {v : Value} {L : List (Int × Int)} (h : SpAt w B v L) (hb : Below B w w') : SpAt w' B v L := by
  obtain ⟨a, cap, rfl, h⟩ := h
  refine ⟨a, cap, rfl, ?_⟩
  rcases h with h | ⟨b, o, rfl, hB, hc⟩
  · exact .inl h
  · exact .inr ⟨b, o, rfl, hB, fun i hi => ⟨(hb.cell (p := ⟨b, o + i * 2, none⟩) hB).trans (hc i hi).1, (hb.cell (p := ⟨b, o + i * 2 + 1, none⟩) hB).trans (hc i hi).2⟩⟩
theorem SpAt.mono {w : World} {B B' : Nat} {v : Value} {L : List (Int × Int)} (h : SpAt w B v L) (hB : B ≤ B') : SpAt w B' v L := by
  obtain ⟨a, cap, rfl, h⟩ := h
  refine ⟨a, cap, rfl, ?_⟩
  rcases h with h | ⟨b, o, rfl, hb, hc⟩
  · exact .inl h
  · exact .inr ⟨b, o, rfl, by omega, hc⟩

/-- A block that is a row of n spans, the first of which are L. -/
def SpBlk (w : World) (g n : Nat) (L : List (Int × Int)) : Prop :=
  ∃ C : Array Value, w.heap[g]? = some (.cells C 128 (0, 0)) ∧ C.size = n * 2 ∧ L.length ≤ n ∧ ∀ i (h : i < L.length), C[i * 2]? = some (.int .i64 L[i].1) ∧ C[i * 2 + 1]? = some (.int .i64 L[i].2)

theorem SpBlk.lt {w : World} {g n : Nat} {L : List (Int × Int)} (h : SpBlk w g n L) : g < w.heap.size := by
  obtain ⟨C, h, _⟩ := h
  exact (Array.getElem?_eq_some_iff.1 h).1
theorem SpBlk.kept {w w' : World} {g n : Nat} {L : List (Int × Int)} (h : SpBlk w g n L) (hb : w'.heap[g]? = w.heap[g]?) : SpBlk w' g n L := by
  obtain ⟨C, h, r⟩ := h
  exact ⟨C, hb.trans h, r⟩
theorem SpBlk.at {w : World} {g n cap B : Nat} {L : List (Int × Int)} (h : SpBlk w g n L) (hB : g < B) : SpAt w B (.slice (some ⟨g, 0, none⟩) L.length cap) L := by
  obtain ⟨C, h, _, _, hc⟩ := h
  refine ⟨_, _, rfl, .inr ⟨g, 0, rfl, hB, fun i hi => ?_⟩⟩
  obtain ⟨h1, h2⟩ := hc i hi
  rw [Nat.zero_add]
  exact ⟨(cell_of_row w g _ C _ (0, 0) h).trans h1, (cell_of_row w g _ C _ (0, 0) h).trans h2⟩

/-- Each place of such a row can be written, and is what was written then. -/
theorem SpBlk.place {w : World} {g n : Nat} {L : List (Int × Int)} (h : SpBlk w g n L) {k : Nat} (hk : k < n) :
    (∃ x, w.cell? ⟨g, k * 2, none⟩ = some x) ∧ (∃ x, w.cell? ⟨g, k * 2 + 1, none⟩ = some x) ∧ w.frozen? ⟨g, k * 2, none⟩ = false ∧ w.frozen? ⟨g, k * 2 + 1, none⟩ = false := by
  obtain ⟨C, h, hs, _, _⟩ := h
  refine ⟨⟨C[k * 2]'(by omega), ?_⟩, ⟨C[k * 2 + 1]'(by omega), ?_⟩, ?_, ?_⟩
  · rw [cell_of_row w g _ C _ (0, 0) h]; exact Array.getElem?_eq_getElem _
  · rw [cell_of_row w g _ C _ (0, 0) h]; exact Array.getElem?_eq_getElem _
  · simp [World.frozen?, h]
  · simp [World.frozen?, h]

theorem SpBlk.push {w : World} {g n : Nat} {L : List (Int × Int)} (h : SpBlk w g n L) (hk : L.length < n) (x y : Int) :
    SpBlk ((w.setCell ⟨g, L.length * 2, none⟩ (.int .i64 x)).setCell ⟨g, L.length * 2 + 1, none⟩ (.int .i64 y)) g n (L ++ [(x, y)]) := by
  obtain ⟨C, h, hs, hl, hc⟩ := h
  refine ⟨(C.setIfInBounds (L.length * 2) (.int .i64 x)).setIfInBounds (L.length * 2 + 1) (.int .i64 y), ?_, by simpa using hs, by simp; omega, fun i hi => ?_⟩
  · simp [World.setCell, Array.getElem?_modify, h]
  · simp only [List.length_append, List.length_cons, List.length_nil] at hi
    by_cases e : i < L.length
    · obtain ⟨h1, h2⟩ := hc i e
      rw [List.getElem_append_left e]
      refine ⟨?_, ?_⟩
      · rw [Array.getElem?_setIfInBounds_ne (by omega), Array.getElem?_setIfInBounds_ne (by omega)]; exact h1
      · rw [Array.getElem?_setIfInBounds_ne (by omega), Array.getElem?_setIfInBounds_ne (by omega)]; exact h2
    · obtain rfl : i = L.length := by omega
      rw [List.getElem_append_right (Nat.le_refl _)]
      refine ⟨?_, ?_⟩
      · rw [Array.getElem?_setIfInBounds_ne (by omega), Array.getElem?_setIfInBounds_self_of_lt (by omega)]; simp
      · rw [Array.getElem?_setIfInBounds_self_of_lt (by simp; omega)]; simp

end Go.Proofs.Ytdjnfmekbjmdhaa
