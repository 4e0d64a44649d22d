/- Rows of targets in memory, over this seat's translation: what it is for a slice value to hold a list of targets (a truth, a text, a row of lines, a row of numbers), for a block to be such a row whose lines and numbers lie in blocks of their own, and for all of a row to lie between two block numbers. No condition. -/
import Derived.Test.YtopplljilmjjgaaLn
import Derived.Test.YtopplljilmjjgaaInto
namespace Go.Proofs.Ytopplljilmjjgaa
open Go.RowKit Go.Sort

abbrev Tgt := Bool × ByteArray × List Ln × List Int
abbrev tgt (m : Bool) (t : ByteArray) (s i : Value) : Value := .agg #[.bool m, .string t, s, i]

namespace Tg
/-- The cells of one target: its lines and numbers in blocks below B. -/
def TgC (w : World) (B b o : Nat) (x : Tgt) : Prop :=
  (w.cell? ⟨b, o, none⟩ = some (.bool x.1) ∧ w.cell? ⟨b, o + 1, none⟩ = some (.string x.2.1)) ∧ ∃ a c a' c', w.cell? ⟨b, o + 2, none⟩ = some (.slice a x.2.2.1.length c) ∧ w.cell? ⟨b, o + 3, none⟩ = some (.slice a' x.2.2.2.length c') ∧ LnAt w B (.slice a x.2.2.1.length c) x.2.2.1 ∧ InAt w B (.slice a' x.2.2.2.length c') x.2.2.2
theorem TgC.below {w w' : World} {B b o : Nat} {x : Tgt} (h : TgC w B b o x) (hb : Below B w w') (hB : b < B) : TgC w' B b o x := by
  obtain ⟨⟨h0, h1⟩, a, c, a', c', h2, h3, hs, hi⟩ := h
  exact ⟨⟨(hb.cell (p := ⟨b, o, none⟩) hB).trans h0, (hb.cell (p := ⟨b, o + 1, none⟩) hB).trans h1⟩, a, c, a', c', (hb.cell (p := ⟨b, o + 2, none⟩) hB).trans h2, (hb.cell (p := ⟨b, o + 3, none⟩) hB).trans h3, hs.below hb, hi.below hb⟩
theorem TgC.mono {w : World} {B B' b o : Nat} {x : Tgt} (h : TgC w B b o x) (hB : B ≤ B') : TgC w B' b o x := by
  obtain ⟨h0, a, c, a', c', h2, h3, hs, hi⟩ := h
  exact ⟨h0, a, c, a', c', h2, h3, hs.mono hB, hi.mono hB⟩

/-- A slice value that holds these targets, in blocks below B (or is empty). -/
def TgAt (w : World) (B : Nat) (v : Value) (S : List Tgt) : Prop :=
  ∃ a cap, v = .slice a S.length cap ∧ (S = [] ∨ ∃ b o, a = some ⟨b, o, none⟩ ∧ b < B ∧ ∀ i (h : i < S.length), TgC w B b (o + i * 4) S[i])
theorem TgAt.below {w w' : World} {B : Nat} {v : Value} {S : List Tgt} (h : TgAt w B v S) (hb : Below B w w') : TgAt w' B v S := by
  obtain ⟨a, cap, rfl, h⟩ := h
  refine ⟨a, cap, rfl, ?_⟩
  rcases h with h | ⟨b, o, rfl, hB, hc⟩
  · exact .inl h
  · exact .inr ⟨b, o, rfl, hB, fun i hi => (hc i hi).below hb hB⟩
theorem TgAt.mono {w : World} {B B' : Nat} {v : Value} {S : List Tgt} (h : TgAt w B v S) (hB : B ≤ B') : TgAt w B' v S := by
  obtain ⟨a, cap, rfl, h⟩ := h
  refine ⟨a, cap, rfl, ?_⟩
  rcases h with h | ⟨b, o, rfl, hb, hc⟩
  · exact .inl h
  · exact .inr ⟨b, o, rfl, by omega, fun i hi => (hc i hi).mono hB⟩
theorem TgAt.stepAt {S : List Tgt} {u : Value} {w V : World} (h : TgAt w w.heap.size u S) (hb : Below w.heap.size w V) : TgAt V V.heap.size u S := (h.below hb).mono hb.size
theorem TgAt.shape {w : World} {B : Nat} {v : Value} {S : List Tgt} (h : TgAt w B v S) : ∃ a cap, v = .slice a S.length cap := by
  obtain ⟨a, cap, e, _⟩ := h
  exact ⟨a, cap, e⟩

/-- A row of lines, or of numbers, in a block between two numbers that is not a certain one. -/
def LX (g lo hi : Nat) (L : List Ln) (v : Value) (w : World) : Prop := ∃ a cap, v = .slice a L.length cap ∧ (L = [] ∨ ∃ b n, a = some ⟨b, 0, none⟩ ∧ LnBlk w b n L ∧ (lo ≤ b ∧ b < hi) ∧ b ≠ g)
def IX (g lo hi : Nat) (N : List Int) (v : Value) (w : World) : Prop := ∃ a cap, v = .slice a N.length cap ∧ (N = [] ∨ ∃ b n, a = some ⟨b, 0, none⟩ ∧ InBlk w b n N ∧ (lo ≤ b ∧ b < hi) ∧ b ≠ g)
theorem LX.of {g lo hi lo' hi' : Nat} {L : List Ln} {v : Value} {w : World} (h : LnB L lo hi v w) (h1 : lo' ≤ lo) (h2 : hi ≤ hi') (hg : g < lo ∨ hi ≤ g) : LX g lo' hi' L v w := by
  obtain ⟨a, cap, rfl, h⟩ := h
  refine ⟨a, cap, rfl, ?_⟩
  rcases h with h | ⟨b, n, rfl, hk, k1, k2⟩
  · exact .inl h
  · exact .inr ⟨b, n, rfl, hk, ⟨by omega, by omega⟩, by omega⟩
theorem IX.of {g lo hi lo' hi' : Nat} {N : List Int} {v : Value} {w : World} (h : IB N lo hi v w) (h1 : lo' ≤ lo) (h2 : hi ≤ hi') (hg : g < lo ∨ hi ≤ g) : IX g lo' hi' N v w := by
  obtain ⟨a, cap, rfl, h⟩ := h
  refine ⟨a, cap, rfl, ?_⟩
  rcases h with h | ⟨b, n, rfl, hk, k1, k2⟩
  · exact .inl h
  · exact .inr ⟨b, n, rfl, hk, ⟨by omega, by omega⟩, by omega⟩
theorem LX.kept {g lo hi : Nat} {L : List Ln} {v : Value} {w w' : World} (h : LX g lo hi L v w) (hb : ∀ b, lo ≤ b → b < hi → b ≠ g → b < w.heap.size → w'.heap[b]? = w.heap[b]?) : LX g lo hi L v w' := by
  obtain ⟨a, cap, rfl, h⟩ := h
  refine ⟨a, cap, rfl, ?_⟩
  rcases h with h | ⟨b, n, rfl, hk, k1, k2⟩
  · exact .inl h
  · exact .inr ⟨b, n, rfl, hk.kept (hb b k1.1 k1.2 k2 hk.lt), k1, k2⟩
theorem IX.kept {g lo hi : Nat} {N : List Int} {v : Value} {w w' : World} (h : IX g lo hi N v w) (hb : ∀ b, lo ≤ b → b < hi → b ≠ g → b < w.heap.size → w'.heap[b]? = w.heap[b]?) : IX g lo hi N v w' := by
  obtain ⟨a, cap, rfl, h⟩ := h
  refine ⟨a, cap, rfl, ?_⟩
  rcases h with h | ⟨b, n, rfl, hk, k1, k2⟩
  · exact .inl h
  · exact .inr ⟨b, n, rfl, hk.kept (hb b k1.1 k1.2 k2 hk.lt), k1, k2⟩
theorem LX.at {g lo hi : Nat} {L : List Ln} {v : Value} {w : World} (h : LX g lo hi L v w) : LnAt w w.heap.size v L := by
  obtain ⟨a, cap, rfl, h⟩ := h
  rcases h with rfl | ⟨b, n, rfl, hk, _, _⟩
  · exact ⟨_, _, rfl, .inl rfl⟩
  · exact hk.at
theorem IX.at {g lo hi : Nat} {N : List Int} {v : Value} {w : World} (h : IX g lo hi N v w) : InAt w w.heap.size v N := by
  obtain ⟨a, cap, rfl, h⟩ := h
  rcases h with rfl | ⟨b, n, rfl, hk, _, _⟩
  · exact ⟨_, _, rfl, .inl rfl⟩
  · exact IB.at (lo := b) (hi := b + 1) ⟨_, _, rfl, .inr ⟨b, n, rfl, hk, Nat.le_refl _, by omega⟩⟩

/-- The cells of target i in a row's own block g, its lines and numbers one behind the other between two numbers. -/
def TgE (w : World) (g lo hi : Nat) (C : Array Value) (i : Nat) (x : Tgt) : Prop :=
  ∃ p a c a' c', (lo ≤ p ∧ p ≤ hi) ∧ (C[i * 4]? = some (.bool x.1) ∧ C[i * 4 + 1]? = some (.string x.2.1) ∧ C[i * 4 + 2]? = some (.slice a x.2.2.1.length c) ∧ C[i * 4 + 3]? = some (.slice a' x.2.2.2.length c')) ∧ LX g lo p x.2.2.1 (.slice a x.2.2.1.length c) w ∧ IX g p hi x.2.2.2 (.slice a' x.2.2.2.length c') w
theorem TgE.kept {w w' : World} {g lo hi i : Nat} {C : Array Value} {x : Tgt} (h : TgE w g lo hi C i x) (hb : ∀ b, lo ≤ b → b < hi → b ≠ g → b < w.heap.size → w'.heap[b]? = w.heap[b]?) : TgE w' g lo hi C i x := by
  obtain ⟨p, a, c, a', c', hp, h1, h2, h3⟩ := h
  exact ⟨p, a, c, a', c', hp, h1, h2.kept fun b k1 k2 => hb b k1 (by omega), h3.kept fun b k1 k2 => hb b (by omega) k2⟩
theorem TgE.cells {w : World} {g lo hi i : Nat} {C C' : Array Value} {x : Tgt} (h : TgE w g lo hi C i x) (hc : ∀ j, j < 4 → C'[i * 4 + j]? = C[i * 4 + j]?) : TgE w g lo hi C' i x := by
  obtain ⟨p, a, c, a', c', hp, ⟨h1, h2, h3, h4⟩, h5⟩ := h
  exact ⟨p, a, c, a', c', hp, ⟨(hc 0 (by omega)).trans h1, (hc 1 (by omega)).trans h2, (hc 2 (by omega)).trans h3, (hc 3 (by omega)).trans h4⟩, h5⟩

/-- A block that is a row of n targets, the first of which are S; what they lead to lies between two numbers. -/
def TgBlk (w : World) (g n lo hi : Nat) (S : List Tgt) : Prop :=
  ∃ (C : Array Value) (m : Nat → Nat), w.heap[g]? = some (.cells C 79 (0, 0)) ∧ C.size = n * 4 ∧ S.length ≤ n ∧ (lo ≤ m 0 ∧ m S.length ≤ hi ∧ ∀ i, m i ≤ m (i + 1)) ∧ ∀ i (h : i < S.length), TgE w g (m i) (m (i + 1)) C i S[i]
theorem mono_of {m : Nat → Nat} (h : ∀ i, m i ≤ m (i + 1)) {i j : Nat} (hij : i ≤ j) : m i ≤ m j := by
  induction j with
  | zero => obtain rfl : i = 0 := by omega
            exact Nat.le_refl _
  | succ j ih =>
    by_cases e : i = j + 1
    · subst e
      exact Nat.le_refl _
    · exact Nat.le_trans (ih (by omega)) (h j)
theorem TgBlk.lt {w : World} {g n lo hi : Nat} {S : List Tgt} (h : TgBlk w g n lo hi S) : g < w.heap.size := by
  obtain ⟨C, m, h, _⟩ := h
  exact (Array.getElem?_eq_some_iff.1 h).1
theorem TgBlk.kept {w w' : World} {g n lo hi : Nat} {S : List Tgt} (h : TgBlk w g n lo hi S) (hg : w'.heap[g]? = w.heap[g]?) (hb : ∀ b, lo ≤ b → b < hi → b ≠ g → b < w.heap.size → w'.heap[b]? = w.heap[b]?) : TgBlk w' g n lo hi S := by
  obtain ⟨C, m, h, hs, hl, hm, hc⟩ := h
  refine ⟨C, m, hg.trans h, hs, hl, hm, fun i hi => (hc i hi).kept fun b k1 k2 => hb b ?_ ?_⟩
  · have := mono_of hm.2.2 (Nat.zero_le i); omega
  · have := mono_of hm.2.2 (show i + 1 ≤ S.length by omega); omega
theorem TgBlk.below {w w' : World} {g n lo hi : Nat} {S : List Tgt} (h : TgBlk w g n lo hi S) (hb : Below w.heap.size w w') : TgBlk w' g n lo hi S := h.kept (hb.block _ h.lt) fun k _ _ _ hl => hb.block k hl
theorem TgBlk.wide {w : World} {g n lo hi lo' hi' : Nat} {S : List Tgt} (h : TgBlk w g n lo hi S) (h1 : lo' ≤ lo) (h2 : hi ≤ hi') : TgBlk w g n lo' hi' S := by
  obtain ⟨C, m, h, hs, hl, hm, hc⟩ := h
  exact ⟨C, m, h, hs, hl, ⟨by omega, by omega, hm.2.2⟩, hc⟩
theorem TgBlk.at {w : World} {g n cap lo hi : Nat} {S : List Tgt} (h : TgBlk w g n lo hi S) : TgAt w w.heap.size (.slice (some ⟨g, 0, none⟩) S.length cap) S := by
  have hg := h.lt
  obtain ⟨C, m, h, _, _, _, hc⟩ := h
  refine ⟨_, _, rfl, .inr ⟨g, 0, rfl, hg, fun i hi => ?_⟩⟩
  obtain ⟨p, a, c, a', c', _, ⟨h0, h1, h2, h3⟩, hs, hi⟩ := hc i hi
  rw [Nat.zero_add]
  exact ⟨⟨(cell_of_row w g _ C _ (0, 0) h).trans h0, (cell_of_row w g _ C _ (0, 0) h).trans h1⟩, a, c, a', c', (cell_of_row w g _ C _ (0, 0) h).trans h2, (cell_of_row w g _ C _ (0, 0) h).trans h3, hs.at, hi.at⟩
/-- Each place of such a row can be written. -/
theorem TgBlk.place {w : World} {g n lo hi : Nat} {S : List Tgt} (h : TgBlk w g n lo hi S) {k : Nat} (hk : k < n * 4) : (∃ x, w.cell? ⟨g, k, none⟩ = some x) ∧ w.frozen? ⟨g, k, none⟩ = false := by
  obtain ⟨C, m, h, hs, _, _⟩ := h
  refine ⟨⟨C[k]'(by omega), ?_⟩, ?_⟩
  · rw [cell_of_row w g _ C _ (0, 0) h]; exact Array.getElem?_eq_getElem _
  · simp [World.frozen?, h]

theorem TgBlk.push {w : World} {g n lo hi hi2 p hi3 : Nat} {S : List Tgt} (h : TgBlk w g n lo hi S) (hk : S.length < n) (x : Bool) (t : ByteArray) {a a' : Option Addr} {c c' : Nat} {L : List Ln} {N : List Int} (h1 : hi ≤ hi2 ∧ hi2 ≤ p ∧ p ≤ hi3)
    (hL : LX g hi2 p L (.slice a L.length c) w) (hN : IX g p hi3 N (.slice a' N.length c') w) :
    TgBlk ((((w.setCell ⟨g, S.length * 4, none⟩ (.bool x)).setCell ⟨g, S.length * 4 + 1, none⟩ (.string t)).setCell ⟨g, S.length * 4 + 2, none⟩ (.slice a L.length c)).setCell ⟨g, S.length * 4 + 3, none⟩ (.slice a' N.length c')) g n lo hi3 (S ++ [(x, t, L, N)]) := by
  obtain ⟨C, m, h, hs, hl, hm, hc⟩ := h
  have far : ∀ b, b ≠ g → ((((w.setCell ⟨g, S.length * 4, none⟩ (.bool x)).setCell ⟨g, S.length * 4 + 1, none⟩ (.string t)).setCell ⟨g, S.length * 4 + 2, none⟩ (.slice a L.length c)).setCell ⟨g, S.length * 4 + 3, none⟩ (.slice a' N.length c')).heap[b]? = w.heap[b]? := fun b hb =>
    (Below.heap_setCell _ _ _ _ hb).trans ((Below.heap_setCell _ _ _ _ hb).trans ((Below.heap_setCell _ _ _ _ hb).trans (Below.heap_setCell _ _ _ _ hb)))
  refine ⟨(((C.setIfInBounds (S.length * 4) (.bool x)).setIfInBounds (S.length * 4 + 1) (.string t)).setIfInBounds (S.length * 4 + 2) (.slice a L.length c)).setIfInBounds (S.length * 4 + 3) (.slice a' N.length c'), fun i => if i ≤ S.length then m i else hi3, ?_, by simpa using hs, by simp; omega, ⟨?_, ?_, fun i => ?_⟩, fun i hi => ?_⟩
  · simp [World.setCell, Array.getElem?_modify, h]
  · show lo ≤ if 0 ≤ S.length then m 0 else hi3
    rw [if_pos (Nat.zero_le _)]
    exact hm.1
  · show (if (S ++ [(x, t, L, N)]).length ≤ S.length then m (S ++ [(x, t, L, N)]).length else hi3) ≤ hi3
    rw [if_neg (by simp)]
    exact Nat.le_refl _
  · have := hm.2.2 i
    show (if i ≤ S.length then m i else hi3) ≤ (if i + 1 ≤ S.length then m (i + 1) else hi3)
    by_cases e1 : i + 1 ≤ S.length
    · rw [if_pos (by omega), if_pos e1]; exact this
    · rw [if_neg e1]
      split
      · obtain rfl : i = S.length := by omega
        omega
      · exact Nat.le_refl _
  · simp only [List.length_append, List.length_cons, List.length_nil] at hi
    by_cases e : i < S.length
    · rw [List.getElem_append_left e]
      show TgE _ g (if i ≤ S.length then m i else hi3) (if i + 1 ≤ S.length then m (i + 1) else hi3) _ i S[i]
      rw [if_pos (by omega), if_pos (by omega)]
      refine ((hc i e).kept fun b _ _ hb _ => far b hb).cells fun j hj => ?_
      rw [Array.getElem?_setIfInBounds_ne (by omega), Array.getElem?_setIfInBounds_ne (by omega), Array.getElem?_setIfInBounds_ne (by omega), Array.getElem?_setIfInBounds_ne (by omega)]
    · obtain rfl : i = S.length := by omega
      rw [List.getElem_append_right (Nat.le_refl _)]
      show TgE _ g (if S.length ≤ S.length then m S.length else hi3) (if S.length + 1 ≤ S.length then m (S.length + 1) else hi3) _ S.length _
      rw [if_pos (Nat.le_refl _), if_neg (by omega)]
      have hL' := hL.kept (w' := ((((w.setCell ⟨g, S.length * 4, none⟩ (.bool x)).setCell ⟨g, S.length * 4 + 1, none⟩ (.string t)).setCell ⟨g, S.length * 4 + 2, none⟩ (.slice a L.length c)).setCell ⟨g, S.length * 4 + 3, none⟩ (.slice a' N.length c'))) fun b _ _ hb _ => far b hb
      have hN' := hN.kept (w' := ((((w.setCell ⟨g, S.length * 4, none⟩ (.bool x)).setCell ⟨g, S.length * 4 + 1, none⟩ (.string t)).setCell ⟨g, S.length * 4 + 2, none⟩ (.slice a L.length c)).setCell ⟨g, S.length * 4 + 3, none⟩ (.slice a' N.length c'))) fun b _ _ hb _ => far b hb
      simp only [Nat.sub_self, List.getElem_cons_zero]
      refine ⟨p, a, c, a', c', ⟨by omega, by omega⟩, ⟨?_, ?_, ?_, ?_⟩, ?_, hN'⟩
      · rw [Array.getElem?_setIfInBounds_ne (by omega), Array.getElem?_setIfInBounds_ne (by omega), Array.getElem?_setIfInBounds_ne (by omega), Array.getElem?_setIfInBounds_self_of_lt (by omega)]
      · rw [Array.getElem?_setIfInBounds_ne (by omega), Array.getElem?_setIfInBounds_ne (by omega), Array.getElem?_setIfInBounds_self_of_lt (by simp; omega)]
      · rw [Array.getElem?_setIfInBounds_ne (by omega), Array.getElem?_setIfInBounds_self_of_lt (by simp; omega)]
      · rw [Array.getElem?_setIfInBounds_self_of_lt (by simp; omega)]
      · obtain ⟨a1, c1, e1, h2⟩ := hL'
        refine ⟨a1, c1, e1, ?_⟩
        rcases h2 with h2 | ⟨b, n, e2, hk, k1, k2⟩
        · exact .inl h2
        · exact .inr ⟨b, n, e2, hk, ⟨by omega, k1.2⟩, k2⟩

/-- A row of targets of one's own, all of whose blocks lie between two numbers. -/
def TgB (S : List Tgt) (lo hi : Nat) (v : Value) (w : World) : Prop :=
  ∃ a cap, v = .slice a S.length cap ∧ (S = [] ∨ ∃ g n, a = some ⟨g, 0, none⟩ ∧ TgBlk w g n lo hi S ∧ lo ≤ g ∧ g < hi)
theorem TgB.at {S : List Tgt} {lo hi : Nat} {v : Value} {w : World} (h : TgB S lo hi v w) : TgAt w w.heap.size v S := by
  obtain ⟨a, cap, rfl, h⟩ := h
  rcases h with rfl | ⟨g, n, rfl, hk, _, _⟩
  · exact ⟨_, _, rfl, .inl rfl⟩
  · exact hk.at
theorem TgB.kept {S : List Tgt} {lo hi : Nat} {v : Value} {w w' : World} (h : TgB S lo hi v w) (hb : ∀ g, lo ≤ g → g < hi → g < w.heap.size → w'.heap[g]? = w.heap[g]?) : TgB S lo hi v w' := by
  obtain ⟨a, cap, rfl, h⟩ := h
  refine ⟨_, _, rfl, ?_⟩
  rcases h with h | ⟨g, n, rfl, hk, h1, h2⟩
  · exact .inl h
  · exact .inr ⟨g, n, rfl, hk.kept (hb g h1 h2 hk.lt) fun b k1 k2 _ hl => hb b k1 k2 hl, h1, h2⟩
theorem TgB.below {S : List Tgt} {lo hi : Nat} {v : Value} {w w' : World} (h : TgB S lo hi v w) (hb : Below w.heap.size w w') : TgB S lo hi v w' := h.kept fun g _ _ hl => hb.block g hl
theorem TgB.out {S : List Tgt} {lo hi lo' hi' : Nat} {v : Value} {w w' : World} (h : TgB S lo hi v w) (ho : Out lo' hi' w w') (hd : hi ≤ lo' ∨ hi' ≤ lo) : TgB S lo hi v w' :=
  h.kept fun g h1 h2 hl => ho.block g hl (by omega)
theorem TgB.wide {S : List Tgt} {lo hi lo' hi' : Nat} {v : Value} {w : World} (h : TgB S lo hi v w) (h1 : lo' ≤ lo) (h2 : hi ≤ hi') : TgB S lo' hi' v w := by
  obtain ⟨a, cap, rfl, h⟩ := h
  refine ⟨_, _, rfl, ?_⟩
  rcases h with h | ⟨g, n, rfl, hk, k1, k2⟩
  · exact .inl h
  · exact .inr ⟨g, n, rfl, hk.wide h1 h2, by omega, by omega⟩
theorem TgB.shape {S : List Tgt} {lo hi : Nat} {v : Value} {w : World} (h : TgB S lo hi v w) : ∃ a cap, v = .slice a S.length cap := by
  obtain ⟨a, cap, e, _⟩ := h
  exact ⟨a, cap, e⟩

/-- How much of the law's measure a row of targets takes. -/
def sz1 (x : Tgt) : Nat := x.2.1.size + (x.2.2.1.length + lnSz x.2.2.1) + x.2.2.2.length
def tgSz : List Tgt → Nat
  | [] => 0
  | x :: t => sz1 x + tgSz t
theorem tgSz_snoc {S : List Tgt} {k : Nat} {x : Tgt} (h : S[k]? = some x) : tgSz (S.take (k + 1)) = tgSz (S.take k) + sz1 x := by
  rw [List.take_add_one, h]
  have app : ∀ A B : List Tgt, tgSz (A ++ B) = tgSz A + tgSz B := by
    intro A B
    induction A with
    | nil => simp [tgSz]
    | cons a t ih => simp only [List.cons_append, tgSz, ih]; omega
  rw [app]
  simp [tgSz]
theorem tgSz_mem {S : List Tgt} {x : Tgt} (h : x ∈ S) : sz1 x ≤ tgSz S := by
  induction S with
  | nil => cases h
  | cons a t ih =>
    simp only [tgSz]
    rcases List.mem_cons.1 h with rfl | h
    · omega
    · have := ih h
      omega
theorem tgSz_le (S : List Tgt) (k : Nat) : tgSz (S.take k) ≤ tgSz S := by
  induction S generalizing k with
  | nil => simp [tgSz]
  | cons a t ih =>
    rcases k with _ | k
    · simp [tgSz]
    · simp only [List.take_succ_cons, tgSz]
      have := ih k
      omega
end Tg
end Go.Proofs.Ytopplljilmjjgaa
