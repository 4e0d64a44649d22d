/- Rows of releases in memory, over this seat's translation: what it is for a slice value to hold a list of releases (a name, a version's four numbers, whether it was withdrawn, a row of needs), and for a block to be such a row whose needs lie behind it. No condition. -/
import Derived.Test.YtdjnfmekbjmdhaaNd
namespace Go.Proofs.Ytdjnfmekbjmdhaa
open Go.RowKit Go.Sort

abbrev Rel := Int × (Int × Int × Int × Int) × Bool × List Nd
abbrev rels (n a b c d : Int) (g : Bool) (v : Value) : Value := .agg #[.int .i64 n, .int .i64 a, .int .i64 b, .int .i64 c, .int .i64 d, .bool g, v]

instance verDec : DecidableEq (Int × Int × Int × Int) := fun p q => instDecidableEqProd p q
instance restDec : DecidableEq (Bool × List Nd) := fun p q => instDecidableEqProd p q
instance tailDec : DecidableEq ((Int × Int × Int × Int) × Bool × List Nd) := fun p q => @instDecidableEqProd _ _ verDec restDec p q
instance relDec : DecidableEq Rel := fun p q => @instDecidableEqProd _ _ _ tailDec p q

/-- A slice of needs in rows of its own, in blocks from a number on. -/
def NRes (M : List Nd) (base : Nat) (v : Value) (w' : World) : Prop :=
  ∃ a cap, v = .slice a M.length cap ∧ (M = [] ∨ ∃ g n, a = some ⟨g, 0, none⟩ ∧ NdBlk w' g n M ∧ base ≤ g)
theorem NRes.at {M : List Nd} {base : Nat} {v : Value} {w : World} (h : NRes M base v w) : NdAt w w.heap.size v M := by
  obtain ⟨a, cap, rfl, h⟩ := h
  rcases h with rfl | ⟨g, n, rfl, hb, _⟩
  · exact ⟨_, _, rfl, .inl rfl⟩
  · exact hb.at
theorem NRes.kept {M : List Nd} {base : Nat} {v : Value} {w w' : World} (h : NRes M base v w) (hb : ∀ g, base ≤ g → g < w.heap.size → w'.heap[g]? = w.heap[g]?) : NRes M base v w' := by
  obtain ⟨a, cap, rfl, h⟩ := h
  refine ⟨_, _, rfl, ?_⟩
  rcases h with h | ⟨g, n, rfl, hk, hg⟩
  · exact .inl h
  · exact .inr ⟨g, n, rfl, hk.kept fun k h1 h2 => hb k (by omega) h2, hg⟩
theorem NRes.below {M : List Nd} {base : Nat} {v : Value} {w w' : World} (h : NRes M base v w) (hb : Below w.heap.size w w') : NRes M base v w' := h.kept fun g _ hl => hb.block g hl
theorem NRes.mono {M : List Nd} {base base' : Nat} {v : Value} {w : World} (h : NRes M base v w) (hb : base' ≤ base) : NRes M base' v w := by
  obtain ⟨a, cap, rfl, h⟩ := h
  refine ⟨_, _, rfl, ?_⟩
  rcases h with h | ⟨g, n, rfl, hk, hg⟩
  · exact .inl h
  · exact .inr ⟨g, n, rfl, hk, by omega⟩

/-- The cells of one release: its numbers, and a slice of needs in blocks below B. -/
def RlC (w : World) (B b o : Nat) (x : Rel) : Prop :=
  (w.cell? ⟨b, o, none⟩ = some (.int .i64 x.1) ∧ w.cell? ⟨b, o + 1, none⟩ = some (.int .i64 x.2.1.1) ∧ w.cell? ⟨b, o + 2, none⟩ = some (.int .i64 x.2.1.2.1) ∧ w.cell? ⟨b, o + 3, none⟩ = some (.int .i64 x.2.1.2.2.1) ∧ w.cell? ⟨b, o + 4, none⟩ = some (.int .i64 x.2.1.2.2.2) ∧ w.cell? ⟨b, o + 5, none⟩ = some (.bool x.2.2.1)) ∧ ∃ a cap, w.cell? ⟨b, o + 6, none⟩ = some (.slice a x.2.2.2.length cap) ∧ NdAt w B (.slice a x.2.2.2.length cap) x.2.2.2
theorem RlC.below {w w' : World} {B b o : Nat} {x : Rel} (h : RlC w B b o x) (hb : Below B w w') (hB : b < B) : RlC w' B b o x := by
  obtain ⟨⟨h0, h1, h2, h3, h4, h5⟩, a, cap, h6, hs⟩ := h
  exact ⟨⟨(hb.cell (p := ⟨b, o, none⟩) hB).trans h0, (hb.cell (p := ⟨b, o + 1, none⟩) hB).trans h1, (hb.cell (p := ⟨b, o + 2, none⟩) hB).trans h2, (hb.cell (p := ⟨b, o + 3, none⟩) hB).trans h3, (hb.cell (p := ⟨b, o + 4, none⟩) hB).trans h4, (hb.cell (p := ⟨b, o + 5, none⟩) hB).trans h5⟩, a, cap, (hb.cell (p := ⟨b, o + 6, none⟩) hB).trans h6, hs.below hb⟩
theorem RlC.mono {w : World} {B B' b o : Nat} {x : Rel} (h : RlC w B b o x) (hB : B ≤ B') : RlC w B' b o x := by
  obtain ⟨h0, a, cap, h1, hs⟩ := h
  exact ⟨h0, a, cap, h1, hs.mono hB⟩

/-- A slice value that holds these releases, in blocks below B (or is empty). -/
def RlAt (w : World) (B : Nat) (v : Value) (S : List Rel) : Prop :=
  ∃ a cap, v = .slice a S.length cap ∧ (S = [] ∨ ∃ b o, a = some ⟨b, o, none⟩ ∧ b < B ∧ ∀ i (h : i < S.length), RlC w B b (o + i * 7) S[i])
theorem RlAt.below {w w' : World} {B : Nat} {v : Value} {S : List Rel} (h : RlAt w B v S) (hb : Below B w w') : RlAt w' B v S := by
  obtain ⟨a, cap, rfl, h⟩ := h
  refine ⟨a, cap, rfl, ?_⟩
  rcases h with h | ⟨b, o, rfl, hB, hc⟩
  · exact .inl h
  · exact .inr ⟨b, o, rfl, hB, fun i hi => (hc i hi).below hb hB⟩
theorem RlAt.mono {w : World} {B B' : Nat} {v : Value} {S : List Rel} (h : RlAt w B v S) (hB : B ≤ B') : RlAt w B' v S := by
  obtain ⟨a, cap, rfl, h⟩ := h
  refine ⟨a, cap, rfl, ?_⟩
  rcases h with h | ⟨b, o, rfl, hb, hc⟩
  · exact .inl h
  · exact .inr ⟨b, o, rfl, by omega, fun i hi => (hc i hi).mono hB⟩

theorem RlAt.stepAt {S : List Rel} {u : Value} {w V : World} (h : RlAt w w.heap.size u S) (hb : Below w.heap.size w V) : RlAt V V.heap.size u S := (h.below hb).mono hb.size

/-- A block that is a row of n releases, the first of which are S; their needs lie in blocks behind it. -/
def RlBlk (w : World) (g n : Nat) (S : List Rel) : Prop :=
  ∃ C : Array Value, w.heap[g]? = some (.cells C 41 (0, 0)) ∧ C.size = n * 7 ∧ S.length ≤ n ∧
    ∀ i (h : i < S.length), (C[i * 7]? = some (.int .i64 S[i].1) ∧ C[i * 7 + 1]? = some (.int .i64 S[i].2.1.1) ∧ C[i * 7 + 2]? = some (.int .i64 S[i].2.1.2.1) ∧ C[i * 7 + 3]? = some (.int .i64 S[i].2.1.2.2.1) ∧ C[i * 7 + 4]? = some (.int .i64 S[i].2.1.2.2.2) ∧ C[i * 7 + 5]? = some (.bool S[i].2.2.1)) ∧ ∃ a cap, C[i * 7 + 6]? = some (.slice a S[i].2.2.2.length cap) ∧ NRes S[i].2.2.2 (g + 1) (.slice a S[i].2.2.2.length cap) w

theorem RlBlk.lt {w : World} {g n : Nat} {S : List Rel} (h : RlBlk w g n S) : g < w.heap.size := by
  obtain ⟨C, h, _⟩ := h
  exact (Array.getElem?_eq_some_iff.1 h).1
theorem RlBlk.kept {w w' : World} {g n : Nat} {S : List Rel} (h : RlBlk w g n S) (hb : ∀ k, g ≤ k → k < w.heap.size → w'.heap[k]? = w.heap[k]?) : RlBlk w' g n S := by
  have hg := h.lt
  obtain ⟨C, h, hs, hl, hc⟩ := h
  refine ⟨C, (hb g (Nat.le_refl _) hg).trans h, hs, hl, fun i hi => ?_⟩
  obtain ⟨h1, a, cap, h2, hr⟩ := hc i hi
  exact ⟨h1, a, cap, h2, hr.kept fun k h1 h2 => hb k (by omega) h2⟩
theorem RlBlk.below {w w' : World} {g n : Nat} {S : List Rel} (h : RlBlk w g n S) (hb : Below w.heap.size w w') : RlBlk w' g n S := h.kept fun k _ hl => hb.block k hl
theorem RlBlk.at {w : World} {g n cap : Nat} {S : List Rel} (h : RlBlk w g n S) : RlAt w w.heap.size (.slice (some ⟨g, 0, none⟩) S.length cap) S := by
  have hg := h.lt
  obtain ⟨C, h, _, _, hc⟩ := h
  refine ⟨_, _, rfl, .inr ⟨g, 0, rfl, hg, fun i hi => ?_⟩⟩
  obtain ⟨⟨h0, h1, h2, h3, h4, h5⟩, a, c, h6, hr⟩ := hc i hi
  rw [Nat.zero_add]
  exact ⟨⟨(cell_of_row w g _ C _ (0, 0) h).trans h0, (cell_of_row w g _ C _ (0, 0) h).trans h1, (cell_of_row w g _ C _ (0, 0) h).trans h2, (cell_of_row w g _ C _ (0, 0) h).trans h3, (cell_of_row w g _ C _ (0, 0) h).trans h4, (cell_of_row w g _ C _ (0, 0) h).trans h5⟩, a, c, (cell_of_row w g _ C _ (0, 0) h).trans h6, hr.at⟩

/-- Each place of such a row can be written, and is what was written then. -/
theorem RlBlk.place {w : World} {g n : Nat} {S : List Rel} (h : RlBlk w g n S) {k : Nat} (hk : k < n) :
    (∃ x, w.cell? ⟨g, k * 7, none⟩ = some x) ∧ (∃ x, w.cell? ⟨g, k * 7 + 1, none⟩ = some x) ∧ (∃ x, w.cell? ⟨g, k * 7 + 2, none⟩ = some x) ∧ (∃ x, w.cell? ⟨g, k * 7 + 3, none⟩ = some x) ∧ (∃ x, w.cell? ⟨g, k * 7 + 4, none⟩ = some x) ∧ (∃ x, w.cell? ⟨g, k * 7 + 5, none⟩ = some x) ∧ (∃ x, w.cell? ⟨g, k * 7 + 6, none⟩ = some x) ∧ w.frozen? ⟨g, k * 7, none⟩ = false ∧ w.frozen? ⟨g, k * 7 + 1, none⟩ = false ∧ w.frozen? ⟨g, k * 7 + 2, none⟩ = false ∧ w.frozen? ⟨g, k * 7 + 3, none⟩ = false ∧ w.frozen? ⟨g, k * 7 + 4, none⟩ = false ∧ w.frozen? ⟨g, k * 7 + 5, none⟩ = false ∧ w.frozen? ⟨g, k * 7 + 6, none⟩ = false := by
  obtain ⟨C, h, hs, _, _⟩ := h
  refine ⟨⟨C[k * 7]'(by omega), ?_⟩, ⟨C[k * 7 + 1]'(by omega), ?_⟩, ⟨C[k * 7 + 2]'(by omega), ?_⟩, ⟨C[k * 7 + 3]'(by omega), ?_⟩, ⟨C[k * 7 + 4]'(by omega), ?_⟩, ⟨C[k * 7 + 5]'(by omega), ?_⟩, ⟨C[k * 7 + 6]'(by omega), ?_⟩, ?_, ?_, ?_, ?_, ?_, ?_, ?_⟩
  · rw [cell_of_row w g _ C _ (0, 0) h]; exact Array.getElem?_eq_getElem _
  · rw [cell_of_row w g _ C _ (0, 0) h]; exact Array.getElem?_eq_getElem _
  · rw [cell_of_row w g _ C _ (0, 0) h]; exact Array.getElem?_eq_getElem _
  · rw [cell_of_row w g _ C _ (0, 0) h]; exact Array.getElem?_eq_getElem _
  · rw [cell_of_row w g _ C _ (0, 0) h]; exact Array.getElem?_eq_getElem _
  · rw [cell_of_row w g _ C _ (0, 0) h]; exact Array.getElem?_eq_getElem _
  · rw [cell_of_row w g _ C _ (0, 0) h]; exact Array.getElem?_eq_getElem _
  · simp [World.frozen?, h]
  · simp [World.frozen?, h]
  · simp [World.frozen?, h]
  · simp [World.frozen?, h]
  · simp [World.frozen?, h]
  · simp [World.frozen?, h]
  · simp [World.frozen?, h]

theorem RlBlk.push {w : World} {g n : Nat} {S : List Rel} (h : RlBlk w g n S) (hk : S.length < n) (x a1 b1 c1 d1 : Int) (gn : Bool) {a : Option Addr} {cap : Nat} {M : List Nd} (hr : NRes M (g + 1) (.slice a M.length cap) w) :
    RlBlk (((((((w.setCell ⟨g, S.length * 7, none⟩ (.int .i64 x)).setCell ⟨g, S.length * 7 + 1, none⟩ (.int .i64 a1)).setCell ⟨g, S.length * 7 + 2, none⟩ (.int .i64 b1)).setCell ⟨g, S.length * 7 + 3, none⟩ (.int .i64 c1)).setCell ⟨g, S.length * 7 + 4, none⟩ (.int .i64 d1)).setCell ⟨g, S.length * 7 + 5, none⟩ (.bool gn)).setCell ⟨g, S.length * 7 + 6, none⟩ (.slice a M.length cap)) g n (S ++ [(x, (a1, b1, c1, d1), gn, M)]) := by
  obtain ⟨C, h, hs, hl, hc⟩ := h
  have keep : ∀ {K : List Nd} {v : Value}, NRes K (g + 1) v w → NRes K (g + 1) v (((((((w.setCell ⟨g, S.length * 7, none⟩ (.int .i64 x)).setCell ⟨g, S.length * 7 + 1, none⟩ (.int .i64 a1)).setCell ⟨g, S.length * 7 + 2, none⟩ (.int .i64 b1)).setCell ⟨g, S.length * 7 + 3, none⟩ (.int .i64 c1)).setCell ⟨g, S.length * 7 + 4, none⟩ (.int .i64 d1)).setCell ⟨g, S.length * 7 + 5, none⟩ (.bool gn)).setCell ⟨g, S.length * 7 + 6, none⟩ (.slice a M.length cap)) :=
    fun hq => hq.kept fun k h1 _ => (Below.heap_setCell _ _ _ _ (by show k ≠ g; omega)).trans ((Below.heap_setCell _ _ _ _ (by show k ≠ g; omega)).trans ((Below.heap_setCell _ _ _ _ (by show k ≠ g; omega)).trans ((Below.heap_setCell _ _ _ _ (by show k ≠ g; omega)).trans ((Below.heap_setCell _ _ _ _ (by show k ≠ g; omega)).trans ((Below.heap_setCell _ _ _ _ (by show k ≠ g; omega)).trans ((Below.heap_setCell _ _ _ _ (by show k ≠ g; omega))))))))
  refine ⟨(((((((C.setIfInBounds (S.length * 7) (.int .i64 x)).setIfInBounds (S.length * 7 + 1) (.int .i64 a1)).setIfInBounds (S.length * 7 + 2) (.int .i64 b1)).setIfInBounds (S.length * 7 + 3) (.int .i64 c1)).setIfInBounds (S.length * 7 + 4) (.int .i64 d1)).setIfInBounds (S.length * 7 + 5) (.bool gn)).setIfInBounds (S.length * 7 + 6) (.slice a M.length cap)), ?_, by simpa using hs, by simp; omega, fun i hi => ?_⟩
  · simp [World.setCell, Array.getElem?_modify, h]
  · simp only [List.length_append, List.length_cons, List.length_nil] at hi
    by_cases e : i < S.length
    · obtain ⟨⟨h0, h1, h2, h3, h4, h5⟩, a', c', h6, hq⟩ := hc i e
      rw [List.getElem_append_left e]
      refine ⟨⟨?_, ?_, ?_, ?_, ?_, ?_⟩, a', c', ?_, keep hq⟩
      · rw [Array.getElem?_setIfInBounds_ne (by omega), Array.getElem?_setIfInBounds_ne (by omega), Array.getElem?_setIfInBounds_ne (by omega), Array.getElem?_setIfInBounds_ne (by omega), Array.getElem?_setIfInBounds_ne (by omega), Array.getElem?_setIfInBounds_ne (by omega), Array.getElem?_setIfInBounds_ne (by omega)]; exact h0
      · rw [Array.getElem?_setIfInBounds_ne (by omega), Array.getElem?_setIfInBounds_ne (by omega), Array.getElem?_setIfInBounds_ne (by omega), Array.getElem?_setIfInBounds_ne (by omega), Array.getElem?_setIfInBounds_ne (by omega), Array.getElem?_setIfInBounds_ne (by omega), Array.getElem?_setIfInBounds_ne (by omega)]; exact h1
      · rw [Array.getElem?_setIfInBounds_ne (by omega), Array.getElem?_setIfInBounds_ne (by omega), Array.getElem?_setIfInBounds_ne (by omega), Array.getElem?_setIfInBounds_ne (by omega), Array.getElem?_setIfInBounds_ne (by omega), Array.getElem?_setIfInBounds_ne (by omega), Array.getElem?_setIfInBounds_ne (by omega)]; exact h2
      · rw [Array.getElem?_setIfInBounds_ne (by omega), Array.getElem?_setIfInBounds_ne (by omega), Array.getElem?_setIfInBounds_ne (by omega), Array.getElem?_setIfInBounds_ne (by omega), Array.getElem?_setIfInBounds_ne (by omega), Array.getElem?_setIfInBounds_ne (by omega), Array.getElem?_setIfInBounds_ne (by omega)]; exact h3
      · rw [Array.getElem?_setIfInBounds_ne (by omega), Array.getElem?_setIfInBounds_ne (by omega), Array.getElem?_setIfInBounds_ne (by omega), Array.getElem?_setIfInBounds_ne (by omega), Array.getElem?_setIfInBounds_ne (by omega), Array.getElem?_setIfInBounds_ne (by omega), Array.getElem?_setIfInBounds_ne (by omega)]; exact h4
      · rw [Array.getElem?_setIfInBounds_ne (by omega), Array.getElem?_setIfInBounds_ne (by omega), Array.getElem?_setIfInBounds_ne (by omega), Array.getElem?_setIfInBounds_ne (by omega), Array.getElem?_setIfInBounds_ne (by omega), Array.getElem?_setIfInBounds_ne (by omega), Array.getElem?_setIfInBounds_ne (by omega)]; exact h5
      · rw [Array.getElem?_setIfInBounds_ne (by omega), Array.getElem?_setIfInBounds_ne (by omega), Array.getElem?_setIfInBounds_ne (by omega), Array.getElem?_setIfInBounds_ne (by omega), Array.getElem?_setIfInBounds_ne (by omega), Array.getElem?_setIfInBounds_ne (by omega), Array.getElem?_setIfInBounds_ne (by omega)]; exact h6
    · obtain rfl : i = S.length := by omega
      rw [List.getElem_append_right (Nat.le_refl _)]
      refine ⟨⟨?_, ?_, ?_, ?_, ?_, ?_⟩, a, cap, ?_, ?_⟩
      · rw [Array.getElem?_setIfInBounds_ne (by omega), Array.getElem?_setIfInBounds_ne (by omega), Array.getElem?_setIfInBounds_ne (by omega), Array.getElem?_setIfInBounds_ne (by omega), Array.getElem?_setIfInBounds_ne (by omega), Array.getElem?_setIfInBounds_ne (by omega)]; rw [Array.getElem?_setIfInBounds_self_of_lt (by first | omega | (simp; omega))]; simp
      · rw [Array.getElem?_setIfInBounds_ne (by omega), Array.getElem?_setIfInBounds_ne (by omega), Array.getElem?_setIfInBounds_ne (by omega), Array.getElem?_setIfInBounds_ne (by omega), Array.getElem?_setIfInBounds_ne (by omega)]; rw [Array.getElem?_setIfInBounds_self_of_lt (by first | omega | (simp; omega))]; simp
      · rw [Array.getElem?_setIfInBounds_ne (by omega), Array.getElem?_setIfInBounds_ne (by omega), Array.getElem?_setIfInBounds_ne (by omega), Array.getElem?_setIfInBounds_ne (by omega)]; rw [Array.getElem?_setIfInBounds_self_of_lt (by first | omega | (simp; omega))]; simp
      · rw [Array.getElem?_setIfInBounds_ne (by omega), Array.getElem?_setIfInBounds_ne (by omega), Array.getElem?_setIfInBounds_ne (by omega)]; rw [Array.getElem?_setIfInBounds_self_of_lt (by first | omega | (simp; omega))]; simp
      · rw [Array.getElem?_setIfInBounds_ne (by omega), Array.getElem?_setIfInBounds_ne (by omega)]; rw [Array.getElem?_setIfInBounds_self_of_lt (by first | omega | (simp; omega))]; simp
      · rw [Array.getElem?_setIfInBounds_ne (by omega)]; rw [Array.getElem?_setIfInBounds_self_of_lt (by first | omega | (simp; omega))]; simp
      · skip; rw [Array.getElem?_setIfInBounds_self_of_lt (by first | omega | (simp; omega))]; simp
      · simpa using keep hr

/-- How much of the law's measure a row of releases takes. -/
def rlSz : List Rel → Nat
  | [] => 0
  | x :: t => x.2.2.2.length + ndSz x.2.2.2 + rlSz t
theorem rlSz_drop : ∀ (S : List Rel) (k : Nat) (x : Rel), S[k]? = some x → rlSz (S.drop k) = x.2.2.2.length + ndSz x.2.2.2 + rlSz (S.drop (k + 1))
  | [], k, x, h => by simp at h
  | y :: t, 0, x, h => by
    simp at h
    subst h
    rfl
  | y :: t, k + 1, x, h => by
    simp only [List.getElem?_cons_succ] at h
    simpa using rlSz_drop t k x h
theorem rlSz_mem : ∀ (S : List Rel) (k : Nat) (x : Rel), S[k]? = some x → x.2.2.2.length + ndSz x.2.2.2 ≤ rlSz S
  | [], k, x, h => by simp at h
  | y :: t, 0, x, h => by
    simp at h
    subst h
    simp [rlSz]
  | y :: t, k + 1, x, h => by
    simp only [List.getElem?_cons_succ] at h
    have := rlSz_mem t k x h
    simp only [rlSz]
    omega

end Go.Proofs.Ytdjnfmekbjmdhaa
