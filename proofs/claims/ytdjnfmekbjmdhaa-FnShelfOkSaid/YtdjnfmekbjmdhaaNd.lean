/- Rows of needs in memory, over this seat's translation: what it is for a slice value to hold a list of needs (a name, and a row of spans), and for a block to be such a row whose spans lie behind it. No condition. -/
import Derived.Test.YtdjnfmekbjmdhaaSb
import Derived.Test.YtdjnfmekbjmdhaaStp
namespace Go.Proofs.Ytdjnfmekbjmdhaa
open Go.RowKit Go.Sort

abbrev Nd := Int × List (Int × Int)
abbrev need (a : Int) (v : Value) : Value := .agg #[.int .i64 a, v]

/-- The cells of one need: its name, and a slice of spans in blocks below B. -/
def NdC (w : World) (B b o : Nat) (x : Nd) : Prop :=
  w.cell? ⟨b, o, none⟩ = some (.int .i64 x.1) ∧ ∃ a cap, w.cell? ⟨b, o + 1, none⟩ = some (.slice a x.2.length cap) ∧ SpAt w B (.slice a x.2.length cap) x.2
theorem NdC.below {w w' : World} {B b o : Nat} {x : Nd} (h : NdC w B b o x) (hb : Below B w w') (hB : b < B) : NdC w' B b o x := by
  obtain ⟨h0, a, cap, h1, hs⟩ := h
  exact ⟨(hb.cell (p := ⟨b, o, none⟩) hB).trans h0, a, cap, (hb.cell (p := ⟨b, o + 1, none⟩) hB).trans h1, hs.below hb⟩
theorem NdC.mono {w : World} {B B' b o : Nat} {x : Nd} (h : NdC w B b o x) (hB : B ≤ B') : NdC w B' b o x := by
  obtain ⟨h0, a, cap, h1, hs⟩ := h
  exact ⟨h0, a, cap, h1, hs.mono hB⟩

/-- A slice value that holds these needs, in blocks below B (or is empty). -/
def NdAt (w : World) (B : Nat) (v : Value) (M : List Nd) : Prop :=
  ∃ a cap, v = .slice a M.length cap ∧ (M = [] ∨ ∃ b o, a = some ⟨b, o, none⟩ ∧ b < B ∧ ∀ i (h : i < M.length), NdC w B b (o + i * 2) M[i])
theorem NdAt.below {w w' : World} {B : Nat} {v : Value} {M : List Nd} (h : NdAt w B v M) (hb : Below B w w') : NdAt w' B v M := by
  obtain ⟨a, cap, rfl, h⟩ := h
  refine ⟨a, cap, rfl, ?_⟩
  rcases h with h | ⟨b, o, rfl, hB, hc⟩
  · exact .inl h
  · exact .inr ⟨b, o, rfl, hB, fun i hi => (hc i hi).below hb hB⟩
theorem NdAt.mono {w : World} {B B' : Nat} {v : Value} {M : List Nd} (h : NdAt w B v M) (hB : B ≤ B') : NdAt w B' v M := by
  obtain ⟨a, cap, rfl, h⟩ := h
  refine ⟨a, cap, rfl, ?_⟩
  rcases h with h | ⟨b, o, rfl, hb, hc⟩
  · exact .inl h
  · exact .inr ⟨b, o, rfl, by omega, fun i hi => (hc i hi).mono hB⟩

/-- A block that is a row of n needs, the first of which are M; their spans lie in blocks behind it. -/
def NdBlk (w : World) (g n : Nat) (M : List Nd) : Prop :=
  ∃ C : Array Value, w.heap[g]? = some (.cells C 97 (0, 0)) ∧ C.size = n * 2 ∧ M.length ≤ n ∧
    ∀ i (h : i < M.length), C[i * 2]? = some (.int .i64 M[i].1) ∧ ∃ a cap, C[i * 2 + 1]? = some (.slice a M[i].2.length cap) ∧ SRes M[i].2 (g + 1) (.slice a M[i].2.length cap) w

theorem NdBlk.lt {w : World} {g n : Nat} {M : List Nd} (h : NdBlk w g n M) : g < w.heap.size := by
  obtain ⟨C, h, _⟩ := h
  exact (Array.getElem?_eq_some_iff.1 h).1
theorem NdBlk.kept {w w' : World} {g n : Nat} {M : List Nd} (h : NdBlk w g n M) (hb : ∀ k, g ≤ k → k < w.heap.size → w'.heap[k]? = w.heap[k]?) : NdBlk w' g n M := by
  have hg := h.lt
  obtain ⟨C, h, hs, hl, hc⟩ := h
  refine ⟨C, (hb g (Nat.le_refl _) hg).trans h, hs, hl, fun i hi => ?_⟩
  obtain ⟨h1, a, cap, h2, hr⟩ := hc i hi
  exact ⟨h1, a, cap, h2, hr.kept fun k h1 h2 => hb k (by omega) h2⟩
theorem NdBlk.below {w w' : World} {g n : Nat} {M : List Nd} (h : NdBlk w g n M) (hb : Below w.heap.size w w') : NdBlk w' g n M := h.kept fun k _ hl => hb.block k hl
theorem NdBlk.at {w : World} {g n cap : Nat} {M : List Nd} (h : NdBlk w g n M) : NdAt w w.heap.size (.slice (some ⟨g, 0, none⟩) M.length cap) M := by
  have hg := h.lt
  obtain ⟨C, h, _, _, hc⟩ := h
  refine ⟨_, _, rfl, .inr ⟨g, 0, rfl, hg, fun i hi => ?_⟩⟩
  obtain ⟨h1, a, c, h2, hr⟩ := hc i hi
  rw [Nat.zero_add]
  exact ⟨(cell_of_row w g _ C _ (0, 0) h).trans h1, a, c, (cell_of_row w g _ C _ (0, 0) h).trans h2, hr.at⟩

/-- Each place of such a row can be written, and is what was written then. -/
theorem NdBlk.place {w : World} {g n : Nat} {M : List Nd} (h : NdBlk w g n M) {k : Nat} (hk : k < n) :
    (∃ x, w.cell? ⟨g, k * 2, none⟩ = some x) ∧ (∃ x, w.cell? ⟨g, k * 2 + 1, none⟩ = some x) ∧ w.frozen? ⟨g, k * 2, none⟩ = false ∧ w.frozen? ⟨g, k * 2 + 1, none⟩ = false := by
  obtain ⟨C, h, hs, _, _⟩ := h
  refine ⟨⟨C[k * 2]'(by omega), ?_⟩, ⟨C[k * 2 + 1]'(by omega), ?_⟩, ?_, ?_⟩
  · rw [cell_of_row w g _ C _ (0, 0) h]; exact Array.getElem?_eq_getElem _
  · rw [cell_of_row w g _ C _ (0, 0) h]; exact Array.getElem?_eq_getElem _
  · simp [World.frozen?, h]
  · simp [World.frozen?, h]

theorem NdBlk.push {w : World} {g n : Nat} {M : List Nd} (h : NdBlk w g n M) (hk : M.length < n) (x : Int) {a : Option Addr} {cap : Nat} {L : List (Int × Int)} (hr : SRes L (g + 1) (.slice a L.length cap) w) :
    NdBlk ((w.setCell ⟨g, M.length * 2, none⟩ (.int .i64 x)).setCell ⟨g, M.length * 2 + 1, none⟩ (.slice a L.length cap)) g n (M ++ [(x, L)]) := by
  obtain ⟨C, h, hs, hl, hc⟩ := h
  have keep : ∀ {K : List (Int × Int)} {v : Value}, SRes K (g + 1) v w → SRes K (g + 1) v ((w.setCell ⟨g, M.length * 2, none⟩ (.int .i64 x)).setCell ⟨g, M.length * 2 + 1, none⟩ (.slice a L.length cap)) :=
    fun hq => hq.kept fun k h1 _ => (Below.heap_setCell _ _ _ _ (by show k ≠ g; omega)).trans (Below.heap_setCell _ _ _ _ (by show k ≠ g; omega))
  refine ⟨(C.setIfInBounds (M.length * 2) (.int .i64 x)).setIfInBounds (M.length * 2 + 1) (.slice a L.length cap), ?_, by simpa using hs, by simp; omega, fun i hi => ?_⟩
  · simp [World.setCell, Array.getElem?_modify, h]
  · simp only [List.length_append, List.length_cons, List.length_nil] at hi
    by_cases e : i < M.length
    · obtain ⟨h1, a', c', h2, hq⟩ := hc i e
      rw [List.getElem_append_left e]
      refine ⟨?_, a', c', ?_, keep hq⟩
      · rw [Array.getElem?_setIfInBounds_ne (by omega), Array.getElem?_setIfInBounds_ne (by omega)]; exact h1
      · rw [Array.getElem?_setIfInBounds_ne (by omega), Array.getElem?_setIfInBounds_ne (by omega)]; exact h2
    · obtain rfl : i = M.length := by omega
      rw [List.getElem_append_right (Nat.le_refl _)]
      refine ⟨?_, a, cap, ?_, ?_⟩
      · rw [Array.getElem?_setIfInBounds_ne (by omega), Array.getElem?_setIfInBounds_self_of_lt (by omega)]; simp
      · rw [Array.getElem?_setIfInBounds_self_of_lt (by simp; omega)]; simp
      · simpa using keep hr

theorem SpAt.stepAt {L : List (Int × Int)} {u : Value} {w V : World} (h : SpAt w w.heap.size u L) (hb : Below w.heap.size w V) : SpAt V V.heap.size u L := (h.below hb).mono hb.size
theorem NdAt.stepAt {M : List Nd} {u : Value} {w V : World} (h : NdAt w w.heap.size u M) (hb : Below w.heap.size w V) : NdAt V V.heap.size u M := (h.below hb).mono hb.size

/-- How much of the law's measure a row of needs takes. -/
def ndSz : List Nd → Nat
  | [] => 0
  | x :: t => x.2.length + ndSz t
theorem ndSz_drop : ∀ (M : List Nd) (k : Nat) (x : Nd), M[k]? = some x → ndSz (M.drop k) = x.2.length + ndSz (M.drop (k + 1))
  | [], k, x, h => by simp at h
  | y :: t, 0, x, h => by
    simp at h
    subst h
    rfl
  | y :: t, k + 1, x, h => by
    simp only [List.getElem?_cons_succ] at h
    simpa using ndSz_drop t k x h
theorem ndSz_mem : ∀ (M : List Nd) (k : Nat) (x : Nd), M[k]? = some x → x.2.length ≤ ndSz M
  | [], k, x, h => by simp at h
  | y :: t, 0, x, h => by
    simp at h
    subst h
    simp [ndSz]
  | y :: t, k + 1, x, h => by
    simp only [List.getElem?_cons_succ] at h
    have := ndSz_mem t k x h
    simp only [ndSz]
    omega

end Go.Proofs.Ytdjnfmekbjmdhaa
