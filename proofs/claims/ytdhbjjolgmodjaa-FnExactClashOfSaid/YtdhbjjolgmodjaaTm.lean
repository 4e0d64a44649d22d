/- Rows of terms in memory, over this seat's translation: what it is for a slice value to hold a list of terms (a name, a row of spans, and a flag), and for a block to be such a row whose spans lie behind it. No condition. -/
import Derived.Test.YtdhbjjolgmodjaaGc
namespace Go.Proofs.Ytdhbjjolgmodjaa
open Go.RowKit Go.Sort

abbrev Tm := Int × List (Int × Int) × Bool
abbrev term (a : Int) (v : Value) (f : Bool) : Value := .agg #[.int .i64 a, v, .bool f]

/-- The cells of one need: its name, and a slice of spans in blocks below B. -/
def TmC (w : World) (B b o : Nat) (x : Tm) : Prop :=
  w.cell? ⟨b, o, none⟩ = some (.int .i64 x.1) ∧ ∃ a cap, w.cell? ⟨b, o + 1, none⟩ = some (.slice a x.2.1.length cap) ∧ SpAt w B (.slice a x.2.1.length cap) x.2.1 ∧ w.cell? ⟨b, o + 2, none⟩ = some (.bool x.2.2)
theorem TmC.below {w w' : World} {B b o : Nat} {x : Tm} (h : TmC w B b o x) (hb : Below B w w') (hB : b < B) : TmC w' B b o x := by
  obtain ⟨h0, a, cap, h1, hs, h2⟩ := h
  exact ⟨(hb.cell (p := ⟨b, o, none⟩) hB).trans h0, a, cap, (hb.cell (p := ⟨b, o + 1, none⟩) hB).trans h1, hs.below hb, (hb.cell (p := ⟨b, o + 2, none⟩) hB).trans h2⟩
theorem TmC.mono {w : World} {B B' b o : Nat} {x : Tm} (h : TmC w B b o x) (hB : B ≤ B') : TmC w B' b o x := by
  obtain ⟨h0, a, cap, h1, hs, h2⟩ := h
  exact ⟨h0, a, cap, h1, hs.mono hB, h2⟩

/-- A slice value that holds these needs, in blocks below B (or is empty). -/
def TmAt (w : World) (B : Nat) (v : Value) (M : List Tm) : Prop :=
  ∃ a cap, v = .slice a M.length cap ∧ (M = [] ∨ ∃ b o, a = some ⟨b, o, none⟩ ∧ b < B ∧ ∀ i (h : i < M.length), TmC w B b (o + i * 3) M[i])
theorem TmAt.below {w w' : World} {B : Nat} {v : Value} {M : List Tm} (h : TmAt w B v M) (hb : Below B w w') : TmAt w' B v M := by
  obtain ⟨a, cap, rfl, h⟩ := h
  refine ⟨a, cap, rfl, ?_⟩
  rcases h with h | ⟨b, o, rfl, hB, hc⟩
  · exact .inl h
  · exact .inr ⟨b, o, rfl, hB, fun i hi => (hc i hi).below hb hB⟩
theorem TmAt.mono {w : World} {B B' : Nat} {v : Value} {M : List Tm} (h : TmAt w B v M) (hB : B ≤ B') : TmAt w B' v M := by
  obtain ⟨a, cap, rfl, h⟩ := h
  refine ⟨a, cap, rfl, ?_⟩
  rcases h with h | ⟨b, o, rfl, hb, hc⟩
  · exact .inl h
  · exact .inr ⟨b, o, rfl, by omega, fun i hi => (hc i hi).mono hB⟩

/-- A block that is a row of n needs, the first of which are M; their spans lie in blocks behind it. -/
def TmBlk (w : World) (g n : Nat) (M : List Tm) : Prop :=
  ∃ C : Array Value, w.heap[g]? = some (.cells C 83 (0, 0)) ∧ C.size = n * 3 ∧ M.length ≤ n ∧
    ∀ i (h : i < M.length), C[i * 3]? = some (.int .i64 M[i].1) ∧ C[i * 3 + 2]? = some (.bool M[i].2.2) ∧ ∃ a cap, C[i * 3 + 1]? = some (.slice a M[i].2.1.length cap) ∧ SRes M[i].2.1 (g + 1) (.slice a M[i].2.1.length cap) w

theorem TmBlk.lt {w : World} {g n : Nat} {M : List Tm} (h : TmBlk w g n M) : g < w.heap.size := by
  obtain ⟨C, h, _⟩ := h
  exact (Array.getElem?_eq_some_iff.1 h).1
theorem TmBlk.kept {w w' : World} {g n : Nat} {M : List Tm} (h : TmBlk w g n M) (hb : ∀ k, g ≤ k → k < w.heap.size → w'.heap[k]? = w.heap[k]?) : TmBlk w' g n M := by
  have hg := h.lt
  obtain ⟨C, h, hs, hl, hc⟩ := h
  refine ⟨C, (hb g (Nat.le_refl _) hg).trans h, hs, hl, fun i hi => ?_⟩
  obtain ⟨h1, h3, a, cap, h2, hr⟩ := hc i hi
  exact ⟨h1, h3, a, cap, h2, hr.kept fun k h1 h2 => hb k (by omega) h2⟩
theorem TmBlk.below {w w' : World} {g n : Nat} {M : List Tm} (h : TmBlk w g n M) (hb : Below w.heap.size w w') : TmBlk w' g n M := h.kept fun k _ hl => hb.block k hl
theorem TmBlk.at {w : World} {g n cap : Nat} {M : List Tm} (h : TmBlk w g n M) : TmAt w w.heap.size (.slice (some ⟨g, 0, none⟩) M.length cap) M := by
  have hg := h.lt
  obtain ⟨C, h, _, _, hc⟩ := h
  refine ⟨_, _, rfl, .inr ⟨g, 0, rfl, hg, fun i hi => ?_⟩⟩
  obtain ⟨h1, h3, a, c, h2, hr⟩ := hc i hi
  rw [Nat.zero_add]
  exact ⟨(cell_of_row w g _ C _ (0, 0) h).trans h1, a, c, (cell_of_row w g _ C _ (0, 0) h).trans h2, hr.at, (cell_of_row w g _ C _ (0, 0) h).trans h3⟩

/-- Each place of such a row can be written, and is what was written then. -/
theorem TmBlk.place {w : World} {g n : Nat} {M : List Tm} (h : TmBlk w g n M) {k : Nat} (hk : k < n) :
    (∃ x, w.cell? ⟨g, k * 3, none⟩ = some x) ∧ (∃ x, w.cell? ⟨g, k * 3 + 1, none⟩ = some x) ∧ (∃ x, w.cell? ⟨g, k * 3 + 2, none⟩ = some x) ∧ w.frozen? ⟨g, k * 3, none⟩ = false ∧ w.frozen? ⟨g, k * 3 + 1, none⟩ = false ∧ w.frozen? ⟨g, k * 3 + 2, none⟩ = false := by
  obtain ⟨C, h, hs, _, _⟩ := h
  refine ⟨⟨C[k * 3]'(by omega), ?_⟩, ⟨C[k * 3 + 1]'(by omega), ?_⟩, ⟨C[k * 3 + 2]'(by omega), ?_⟩, ?_, ?_, ?_⟩
  · rw [cell_of_row w g _ C _ (0, 0) h]; exact Array.getElem?_eq_getElem _
  · rw [cell_of_row w g _ C _ (0, 0) h]; exact Array.getElem?_eq_getElem _
  · rw [cell_of_row w g _ C _ (0, 0) h]; exact Array.getElem?_eq_getElem _
  · simp [World.frozen?, h]
  · simp [World.frozen?, h]
  · simp [World.frozen?, h]

theorem TmBlk.push {w : World} {g n : Nat} {M : List Tm} (h : TmBlk w g n M) (hk : M.length < n) (x : Int) (f : Bool) {a : Option Addr} {cap : Nat} {L : List (Int × Int)} (hr : SRes L (g + 1) (.slice a L.length cap) w) :
    TmBlk (((w.setCell ⟨g, M.length * 3, none⟩ (.int .i64 x)).setCell ⟨g, M.length * 3 + 1, none⟩ (.slice a L.length cap)).setCell ⟨g, M.length * 3 + 2, none⟩ (.bool f)) g n (M ++ [(x, L, f)]) := by
  obtain ⟨C, h, hs, hl, hc⟩ := h
  have keep : ∀ {K : List (Int × Int)} {v : Value}, SRes K (g + 1) v w → SRes K (g + 1) v (((w.setCell ⟨g, M.length * 3, none⟩ (.int .i64 x)).setCell ⟨g, M.length * 3 + 1, none⟩ (.slice a L.length cap)).setCell ⟨g, M.length * 3 + 2, none⟩ (.bool f)) :=
    fun hq => hq.kept fun k h1 _ => (Below.heap_setCell _ _ _ _ (by show k ≠ g; omega)).trans ((Below.heap_setCell _ _ _ _ (by show k ≠ g; omega)).trans (Below.heap_setCell _ _ _ _ (by show k ≠ g; omega)))
  refine ⟨((C.setIfInBounds (M.length * 3) (.int .i64 x)).setIfInBounds (M.length * 3 + 1) (.slice a L.length cap)).setIfInBounds (M.length * 3 + 2) (.bool f), ?_, by simpa using hs, by simp; omega, fun i hi => ?_⟩
  · simp [World.setCell, Array.getElem?_modify, h]
  · simp only [List.length_append, List.length_cons, List.length_nil] at hi
    by_cases e : i < M.length
    · obtain ⟨h1, h3, a', c', h2, hq⟩ := hc i e
      rw [List.getElem_append_left e]
      refine ⟨?_, ?_, a', c', ?_, keep hq⟩
      · rw [Array.getElem?_setIfInBounds_ne (by omega), Array.getElem?_setIfInBounds_ne (by omega), Array.getElem?_setIfInBounds_ne (by omega)]; exact h1
      · rw [Array.getElem?_setIfInBounds_ne (by omega), Array.getElem?_setIfInBounds_ne (by omega), Array.getElem?_setIfInBounds_ne (by omega)]; exact h3
      · rw [Array.getElem?_setIfInBounds_ne (by omega), Array.getElem?_setIfInBounds_ne (by omega), Array.getElem?_setIfInBounds_ne (by omega)]; exact h2
    · obtain rfl : i = M.length := by omega
      rw [List.getElem_append_right (Nat.le_refl _)]
      refine ⟨?_, ?_, a, cap, ?_, ?_⟩
      · rw [Array.getElem?_setIfInBounds_ne (by omega), Array.getElem?_setIfInBounds_ne (by omega), Array.getElem?_setIfInBounds_self_of_lt (by omega)]; simp
      · rw [Array.getElem?_setIfInBounds_self_of_lt (by simp; omega)]; simp
      · rw [Array.getElem?_setIfInBounds_ne (by omega), Array.getElem?_setIfInBounds_self_of_lt (by simp; omega)]; simp
      · simpa using keep hr

theorem TmAt.stepAt {M : List Tm} {u : Value} {w V : World} (h : TmAt w w.heap.size u M) (hb : Below w.heap.size w V) : TmAt V V.heap.size u M := (h.below hb).mono hb.size

/-- How much of the law's measure a row of needs takes. -/
def tmSz : List Tm → Nat
  | [] => 0
  | x :: t => x.2.1.length + tmSz t
theorem tmSz_drop : ∀ (M : List Tm) (k : Nat) (x : Tm), M[k]? = some x → tmSz (M.drop k) = x.2.1.length + tmSz (M.drop (k + 1))
  | [], k, x, h => by simp at h
  | y :: t, 0, x, h => by
    simp at h
    subst h
    rfl
  | y :: t, k + 1, x, h => by
    simp only [List.getElem?_cons_succ] at h
    simpa using tmSz_drop t k x h
theorem tmSz_mem : ∀ (M : List Tm) (k : Nat) (x : Tm), M[k]? = some x → x.2.1.length ≤ tmSz M
  | [], k, x, h => by simp at h
  | y :: t, 0, x, h => by
    simp at h
    subst h
    simp [tmSz]
  | y :: t, k + 1, x, h => by
    simp only [List.getElem?_cons_succ] at h
    have := tmSz_mem t k x h
    simp only [tmSz]
    omega

end Go.Proofs.Ytdhbjjolgmodjaa
