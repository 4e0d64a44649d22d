/- Rows of lines in memory, over this seat's translation: what it is for a slice value to hold a list of lines (three numbers and a text), for a block to be such a row, and for a row to lie between two block numbers. No condition. -/
import Derived.Test.YtopplljilmjjgaaObl
namespace Go.Proofs.Ytopplljilmjjgaa
open Go.RowKit Go.Sort

abbrev Ln := Int × Int × Int × ByteArray
abbrev line (n a b : Int) (t : ByteArray) : Value := .agg #[.int .i64 n, .int .i64 a, .int .i64 b, .string t]

/-- The cells of one line. -/
def LnC (w : World) (b o : Nat) (x : Ln) : Prop :=
  w.cell? ⟨b, o, none⟩ = some (.int .i64 x.1) ∧ w.cell? ⟨b, o + 1, none⟩ = some (.int .i64 x.2.1) ∧ w.cell? ⟨b, o + 2, none⟩ = some (.int .i64 x.2.2.1) ∧ w.cell? ⟨b, o + 3, none⟩ = some (.string x.2.2.2)
theorem LnC.below {w w' : World} {B b o : Nat} {x : Ln} (h : LnC w b o x) (hb : Below B w w') (hB : b < B) : LnC w' b o x := by
  obtain ⟨h0, h1, h2, h3⟩ := h
  exact ⟨(hb.cell (p := ⟨b, o, none⟩) hB).trans h0, (hb.cell (p := ⟨b, o + 1, none⟩) hB).trans h1, (hb.cell (p := ⟨b, o + 2, none⟩) hB).trans h2, (hb.cell (p := ⟨b, o + 3, none⟩) hB).trans h3⟩

/-- A slice value that holds these lines, in a block below B (or is empty). -/
def LnAt (w : World) (B : Nat) (v : Value) (L : List Ln) : Prop :=
  ∃ a cap, v = .slice a L.length cap ∧ (L = [] ∨ ∃ b o, a = some ⟨b, o, none⟩ ∧ b < B ∧ ∀ i (h : i < L.length), LnC w b (o + i * 4) L[i])
theorem LnAt.below {w w' : World} {B : Nat} {v : Value} {L : List Ln} (h : LnAt w B v L) (hb : Below B w w') : LnAt w' B v L := by
  obtain ⟨a, cap, rfl, h⟩ := h
  refine ⟨a, cap, rfl, ?_⟩
  rcases h with h | ⟨b, o, rfl, hB, hc⟩
  · exact .inl h
  · exact .inr ⟨b, o, rfl, hB, fun i hi => (hc i hi).below hb hB⟩
theorem LnAt.mono {w : World} {B B' : Nat} {v : Value} {L : List Ln} (h : LnAt w B v L) (hB : B ≤ B') : LnAt w B' v L := by
  obtain ⟨a, cap, rfl, h⟩ := h
  refine ⟨a, cap, rfl, ?_⟩
  rcases h with h | ⟨b, o, rfl, hb, hc⟩
  · exact .inl h
  · exact .inr ⟨b, o, rfl, by omega, hc⟩
theorem LnAt.stepAt {L : List Ln} {u : Value} {w V : World} (h : LnAt w w.heap.size u L) (hb : Below w.heap.size w V) : LnAt V V.heap.size u L := (h.below hb).mono hb.size

/-- A block that is a row of n lines. -/
def LnRow (w : World) (g n : Nat) : Prop := ∃ C : Array Value, w.heap[g]? = some (.cells C 99 (0, 0)) ∧ C.size = n * 4
theorem LnRow.lt {w : World} {g n : Nat} (h : LnRow w g n) : g < w.heap.size := by
  obtain ⟨C, h, _⟩ := h
  exact (Array.getElem?_eq_some_iff.1 h).1
theorem LnRow.kept {w w' : World} {g n : Nat} (h : LnRow w g n) (hb : w'.heap[g]? = w.heap[g]?) : LnRow w' g n := by
  obtain ⟨C, h, r⟩ := h
  exact ⟨C, hb.trans h, r⟩
theorem LnRow.below {w w' : World} {g n : Nat} (h : LnRow w g n) (hb : Below w.heap.size w w') : LnRow w' g n := h.kept (hb.block _ h.lt)
theorem LnRow.set {w : World} {g n o : Nat} {v : Value} (h : LnRow w g n) : LnRow (w.setCell ⟨g, o, none⟩ v) g n := by
  obtain ⟨C, h, hs⟩ := h
  exact ⟨C.setIfInBounds o v, by simp [World.setCell, Array.getElem?_modify, h], by simpa using hs⟩
theorem LnRow.one {w : World} {g n : Nat} (h : LnRow w g n) {k : Nat} (hk : k < n * 4) : (∃ x, w.cell? ⟨g, k, none⟩ = some x) ∧ w.frozen? ⟨g, k, none⟩ = false := by
  obtain ⟨C, h, hs⟩ := h
  refine ⟨⟨C[k]'(by omega), ?_⟩, ?_⟩
  · rw [cell_of_row w g _ C _ (0, 0) h]; exact Array.getElem?_eq_getElem _
  · simp [World.frozen?, h]
theorem LnRow.place {w : World} {g n : Nat} (h : LnRow w g n) {k : Nat} (hk : k < n) :
    (∃ x, w.cell? ⟨g, k * 4, none⟩ = some x) ∧ (∃ x, w.cell? ⟨g, k * 4 + 1, none⟩ = some x) ∧ (∃ x, w.cell? ⟨g, k * 4 + 2, none⟩ = some x) ∧ (∃ x, w.cell? ⟨g, k * 4 + 3, none⟩ = some x) ∧ w.frozen? ⟨g, k * 4, none⟩ = false ∧ w.frozen? ⟨g, k * 4 + 1, none⟩ = false ∧ w.frozen? ⟨g, k * 4 + 2, none⟩ = false ∧ w.frozen? ⟨g, k * 4 + 3, none⟩ = false :=
  ⟨(h.one (by omega)).1, (h.one (by omega)).1, (h.one (by omega)).1, (h.one (by omega)).1, (h.one (by omega)).2, (h.one (by omega)).2, (h.one (by omega)).2, (h.one (by omega)).2⟩

/-- A block that is a row of n lines, the first of which are L. -/
def LnBlk (w : World) (g n : Nat) (L : List Ln) : Prop := LnRow w g n ∧ L.length ≤ n ∧ ∀ i (h : i < L.length), LnC w g (i * 4) L[i]
theorem LnBlk.kept {w w' : World} {g n : Nat} {L : List Ln} (h : LnBlk w g n L) (hb : w'.heap[g]? = w.heap[g]?) : LnBlk w' g n L := by
  obtain ⟨h, hl, hc⟩ := h
  have e : ∀ o, w'.cell? ⟨g, o, none⟩ = w.cell? ⟨g, o, none⟩ := fun o => World.cell?_of_block (a := ⟨g, o, none⟩) hb
  refine ⟨h.kept hb, hl, fun i hi => ?_⟩
  obtain ⟨h0, h1, h2, h3⟩ := hc i hi
  exact ⟨(e _).trans h0, (e _).trans h1, (e _).trans h2, (e _).trans h3⟩
theorem LnBlk.lt {w : World} {g n : Nat} {L : List Ln} (h : LnBlk w g n L) : g < w.heap.size := h.1.lt
theorem LnBlk.below {w w' : World} {g n : Nat} {L : List Ln} (h : LnBlk w g n L) (hb : Below w.heap.size w w') : LnBlk w' g n L := h.kept (hb.block _ h.lt)
theorem LnBlk.at {w : World} {g n cap : Nat} {L : List Ln} (h : LnBlk w g n L) : LnAt w w.heap.size (.slice (some ⟨g, 0, none⟩) L.length cap) L :=
  ⟨_, _, rfl, .inr ⟨g, 0, rfl, h.lt, fun i hi => by rw [Nat.zero_add]; exact h.2.2 i hi⟩⟩
theorem cell_set_ne {w : World} {g o p : Nat} {v : Value} (h : o ≠ p) : (w.setCell ⟨g, p, none⟩ v).cell? ⟨g, o, none⟩ = w.cell? ⟨g, o, none⟩ := World.cell?_setCell_other w _ _ _ (fun e => h (congrArg Addr.off e).symm)
theorem cell_set_eq {w : World} {g n o : Nat} {v : Value} (h : LnRow w g n) (ho : o < n * 4) : (w.setCell ⟨g, o, none⟩ v).cell? ⟨g, o, none⟩ = some v := by
  obtain ⟨C, h, hs⟩ := h
  have h2 : (w.setCell ⟨g, o, none⟩ v).heap[g]? = some (.cells (C.setIfInBounds o v) 99 (0, 0)) := by simp [World.setCell, Array.getElem?_modify, h]
  rw [cell_of_row _ g o _ _ (0, 0) h2]
  exact Array.getElem?_setIfInBounds_self_of_lt (by omega)
theorem LnBlk.push {w : World} {g n : Nat} {L : List Ln} (h : LnBlk w g n L) (hk : L.length < n) (x a1 b1 : Int) (t1 : ByteArray) :
    LnBlk ((((w.setCell ⟨g, L.length * 4, none⟩ (.int .i64 x)).setCell ⟨g, L.length * 4 + 1, none⟩ (.int .i64 a1)).setCell ⟨g, L.length * 4 + 2, none⟩ (.int .i64 b1)).setCell ⟨g, L.length * 4 + 3, none⟩ (.string t1)) g n (L ++ [(x, a1, b1, t1)]) := by
  obtain ⟨h, hl, hc⟩ := h
  refine ⟨h.set.set.set.set, by simp; omega, fun i hi => ?_⟩
  simp only [List.length_append, List.length_cons, List.length_nil] at hi
  by_cases e : i < L.length
  · obtain ⟨h0, h1, h2, h3⟩ := hc i e
    rw [List.getElem_append_left e]
    refine ⟨?_, ?_, ?_, ?_⟩
    · rw [cell_set_ne (by omega), cell_set_ne (by omega), cell_set_ne (by omega), cell_set_ne (by omega)]; exact h0
    · rw [cell_set_ne (by omega), cell_set_ne (by omega), cell_set_ne (by omega), cell_set_ne (by omega)]; exact h1
    · rw [cell_set_ne (by omega), cell_set_ne (by omega), cell_set_ne (by omega), cell_set_ne (by omega)]; exact h2
    · rw [cell_set_ne (by omega), cell_set_ne (by omega), cell_set_ne (by omega), cell_set_ne (by omega)]; exact h3
  · obtain rfl : i = L.length := by omega
    rw [List.getElem_append_right (Nat.le_refl _)]
    refine ⟨?_, ?_, ?_, ?_⟩
    · rw [cell_set_ne (by omega), cell_set_ne (by omega), cell_set_ne (by omega), cell_set_eq h (by omega)]; simp
    · rw [cell_set_ne (by omega), cell_set_ne (by omega), cell_set_eq h.set (by omega)]; simp
    · rw [cell_set_ne (by omega), cell_set_eq h.set.set (by omega)]; simp
    · rw [cell_set_eq h.set.set.set (by omega)]; simp

/-- A row of lines of one's own, between two block numbers. -/
def LnB (L : List Ln) (lo hi : Nat) (v : Value) (w : World) : Prop :=
  ∃ a cap, v = .slice a L.length cap ∧ (L = [] ∨ ∃ g n, a = some ⟨g, 0, none⟩ ∧ LnBlk w g n L ∧ lo ≤ g ∧ g < hi)
theorem LnB.at {L : List Ln} {lo hi : Nat} {v : Value} {w : World} (h : LnB L lo hi v w) : LnAt w w.heap.size v L := by
  obtain ⟨a, cap, rfl, h⟩ := h
  rcases h with rfl | ⟨g, n, rfl, hk, _, _⟩
  · exact ⟨_, _, rfl, .inl rfl⟩
  · exact hk.at
theorem LnB.kept {L : List Ln} {lo hi : Nat} {v : Value} {w w' : World} (h : LnB L lo hi v w) (hb : ∀ g, lo ≤ g → g < hi → g < w.heap.size → w'.heap[g]? = w.heap[g]?) : LnB L lo hi v w' := by
  obtain ⟨a, cap, rfl, h⟩ := h
  refine ⟨_, _, rfl, ?_⟩
  rcases h with h | ⟨g, n, rfl, hk, h1, h2⟩
  · exact .inl h
  · exact .inr ⟨g, n, rfl, hk.kept (hb g h1 h2 hk.lt), h1, h2⟩
theorem LnB.below {L : List Ln} {lo hi : Nat} {v : Value} {w w' : World} (h : LnB L lo hi v w) (hb : Below w.heap.size w w') : LnB L lo hi v w' := h.kept fun g _ _ hl => hb.block g hl
theorem LnB.out {L : List Ln} {lo hi lo' hi' : Nat} {v : Value} {w w' : World} (h : LnB L lo hi v w) (ho : Out lo' hi' w w') (hd : hi ≤ lo' ∨ hi' ≤ lo) : LnB L lo hi v w' :=
  h.kept fun g h1 h2 hl => ho.block g hl (by omega)

/-- The bytes of lines' texts together. -/
def lnSz : List Ln → Nat
  | [] => 0
  | x :: t => x.2.2.2.size + lnSz t
theorem lnSz_snoc {L : List Ln} {k : Nat} {x : Ln} (h : L[k]? = some x) : lnSz (L.take (k + 1)) = lnSz (L.take k) + x.2.2.2.size := by
  rw [List.take_add_one, h]
  have app : ∀ A B : List Ln, lnSz (A ++ B) = lnSz A + lnSz B := by
    intro A B
    induction A with
    | nil => simp [lnSz]
    | cons a t ih => simp only [List.cons_append, lnSz, ih]; omega
  rw [app]
  simp [lnSz]
theorem lnSz_mem {L : List Ln} {x : Ln} (h : x ∈ L) : x.2.2.2.size ≤ lnSz L := by
  induction L with
  | nil => cases h
  | cons a t ih =>
    simp only [lnSz]
    rcases List.mem_cons.1 h with rfl | h
    · omega
    · have := ih h
      omega
theorem lnSz_le (L : List Ln) (k : Nat) : lnSz (L.take k) ≤ lnSz L := by
  induction L generalizing k with
  | nil => simp [lnSz]
  | cons a t ih =>
    rcases k with _ | k
    · simp [lnSz]
    · simp only [List.take_succ_cons, lnSz]
      have := ih k
      omega
end Go.Proofs.Ytopplljilmjjgaa
