/- Rows of entries in memory, over this seat's translation: what it is for a slice value to hold a list of entries (a row of lines, a row of texts, a truth, a text), for a block to be such a row whose lines and texts lie in blocks of their own, and for all of a row to lie between two block numbers. No condition. -/
import Derived.Test.YtopplljilmjjgaaTg
import Derived.Test.YtopplljilmjjgaaOblto
namespace Go.Proofs.Ytopplljilmjjgaa
open Go.RowKit Go.Sort

abbrev Ent := Bool × ByteArray × List Ln × List ByteArray
abbrev ent (m : Bool) (t : ByteArray) (s i : Value) : Value := .agg #[s, i, .bool m, .string t]

namespace En
open Tg (LX)
/-- The cells of one target: its lines and numbers in blocks below B. -/
def EnC (w : World) (B b o : Nat) (x : Ent) : Prop :=
  (w.cell? ⟨b, o + 2, none⟩ = some (.bool x.1) ∧ w.cell? ⟨b, o + 3, none⟩ = some (.string x.2.1)) ∧ ∃ a c a' c', w.cell? ⟨b, o, none⟩ = some (.slice a x.2.2.1.length c) ∧ w.cell? ⟨b, o + 1, none⟩ = some (.slice a' x.2.2.2.length c') ∧ LnAt w B (.slice a x.2.2.1.length c) x.2.2.1 ∧ Obl.StAt w B (.slice a' x.2.2.2.length c') x.2.2.2
theorem EnC.below {w w' : World} {B b o : Nat} {x : Ent} (h : EnC w B b o x) (hb : Below B w w') (hB : b < B) : EnC w' B b o x := by
  obtain ⟨⟨h0, h1⟩, a, c, a', c', h2, h3, hs, hi⟩ := h
  exact ⟨⟨(hb.cell (p := ⟨b, o + 2, none⟩) hB).trans h0, (hb.cell (p := ⟨b, o + 3, none⟩) hB).trans h1⟩, a, c, a', c', (hb.cell (p := ⟨b, o, none⟩) hB).trans h2, (hb.cell (p := ⟨b, o + 1, none⟩) hB).trans h3, hs.below hb, hi.below hb⟩
theorem EnC.mono {w : World} {B B' b o : Nat} {x : Ent} (h : EnC w B b o x) (hB : B ≤ B') : EnC w B' b o x := by
  obtain ⟨h0, a, c, a', c', h2, h3, hs, hi⟩ := h
  exact ⟨h0, a, c, a', c', h2, h3, hs.mono hB, hi.mono hB⟩

/-- A slice value that holds these targets, in blocks below B (or is empty). -/
def EnAt (w : World) (B : Nat) (v : Value) (S : List Ent) : Prop :=
  ∃ a cap, v = .slice a S.length cap ∧ S.length ≤ cap ∧ (S = [] ∨ ∃ b o, a = some ⟨b, o, none⟩ ∧ b < B ∧ ∀ i (h : i < S.length), EnC w B b (o + i * 4) S[i])
theorem EnAt.below {w w' : World} {B : Nat} {v : Value} {S : List Ent} (h : EnAt w B v S) (hb : Below B w w') : EnAt w' B v S := by
  obtain ⟨a, cap, rfl, hcp, h⟩ := h
  refine ⟨a, cap, rfl, hcp, ?_⟩
  rcases h with h | ⟨b, o, rfl, hB, hc⟩
  · exact .inl h
  · exact .inr ⟨b, o, rfl, hB, fun i hi => (hc i hi).below hb hB⟩
theorem EnAt.mono {w : World} {B B' : Nat} {v : Value} {S : List Ent} (h : EnAt w B v S) (hB : B ≤ B') : EnAt w B' v S := by
  obtain ⟨a, cap, rfl, hcp, h⟩ := h
  refine ⟨a, cap, rfl, hcp, ?_⟩
  rcases h with h | ⟨b, o, rfl, hb, hc⟩
  · exact .inl h
  · exact .inr ⟨b, o, rfl, by omega, fun i hi => (hc i hi).mono hB⟩
theorem EnAt.stepAt {S : List Ent} {u : Value} {w V : World} (h : EnAt w w.heap.size u S) (hb : Below w.heap.size w V) : EnAt V V.heap.size u S := (h.below hb).mono hb.size
theorem EnAt.shape {w : World} {B : Nat} {v : Value} {S : List Ent} (h : EnAt w B v S) : ∃ a cap, v = .slice a S.length cap := by
  obtain ⟨a, cap, e, _⟩ := h
  exact ⟨a, cap, e⟩

/-- A row of texts in a block between two numbers that is not a certain one. -/
abbrev StBlk := Obl.OBlk Value.string 9
def TX (g lo hi : Nat) (N : List ByteArray) (v : Value) (w : World) : Prop := ∃ a cap, v = .slice a N.length cap ∧ (N = [] ∨ ∃ b n, a = some ⟨b, 0, none⟩ ∧ StBlk w b n N ∧ (lo ≤ b ∧ b < hi) ∧ b ≠ g)
theorem TX.of {g lo hi lo' hi' : Nat} {N : List ByteArray} {v : Value} {w : World} (h : Obl.StB N lo hi v w) (h1 : lo' ≤ lo) (h2 : hi ≤ hi') (hg : g < lo ∨ hi ≤ g) : TX g lo' hi' N v w := by
  obtain ⟨a, cap, rfl, h⟩ := h
  refine ⟨a, cap, rfl, ?_⟩
  rcases h with h | ⟨b, n, rfl, hk, k1, k2⟩
  · exact .inl h
  · exact .inr ⟨b, n, rfl, hk, ⟨by omega, by omega⟩, by omega⟩
theorem TX.kept {g lo hi : Nat} {N : List ByteArray} {v : Value} {w w' : World} (h : TX g lo hi N v w) (hb : ∀ b, lo ≤ b → b < hi → b ≠ g → b < w.heap.size → w'.heap[b]? = w.heap[b]?) : TX g lo hi N v w' := by
  obtain ⟨a, cap, rfl, h⟩ := h
  refine ⟨a, cap, rfl, ?_⟩
  rcases h with h | ⟨b, n, rfl, hk, k1, k2⟩
  · exact .inl h
  · exact .inr ⟨b, n, rfl, hk.kept (hb b k1.1 k1.2 k2 hk.lt), k1, k2⟩
theorem TX.at {g lo hi : Nat} {N : List ByteArray} {v : Value} {w : World} (h : TX g lo hi N v w) : Obl.StAt w w.heap.size v N := by
  obtain ⟨a, cap, rfl, h⟩ := h
  rcases h with rfl | ⟨b, n, rfl, hk, _, _⟩
  · exact ⟨_, _, rfl, .inl rfl⟩
  · exact hk.at

/-- The cells of target i in a row's own block g, its lines and numbers one behind the other between two numbers. -/
def EnE (w : World) (g lo hi : Nat) (C : Array Value) (i : Nat) (x : Ent) : Prop :=
  ∃ p a c a' c', (lo ≤ p ∧ p ≤ hi) ∧ (C[i * 4 + 2]? = some (.bool x.1) ∧ C[i * 4 + 3]? = some (.string x.2.1) ∧ C[i * 4]? = some (.slice a x.2.2.1.length c) ∧ C[i * 4 + 1]? = some (.slice a' x.2.2.2.length c')) ∧ LX g lo hi x.2.2.1 (.slice a x.2.2.1.length c) w ∧ TX g lo hi x.2.2.2 (.slice a' x.2.2.2.length c') w
theorem EnE.kept {w w' : World} {g lo hi i : Nat} {C : Array Value} {x : Ent} (h : EnE w g lo hi C i x) (hb : ∀ b, lo ≤ b → b < hi → b ≠ g → b < w.heap.size → w'.heap[b]? = w.heap[b]?) : EnE w' g lo hi C i x := by
  obtain ⟨p, a, c, a', c', hp, h1, h2, h3⟩ := h
  exact ⟨p, a, c, a', c', hp, h1, h2.kept fun b k1 k2 => hb b k1 k2, h3.kept fun b k1 k2 => hb b k1 k2⟩
theorem EnE.cells {w : World} {g lo hi i : Nat} {C C' : Array Value} {x : Ent} (h : EnE w g lo hi C i x) (hc : ∀ j, j < 4 → C'[i * 4 + j]? = C[i * 4 + j]?) : EnE w g lo hi C' i x := by
  obtain ⟨p, a, c, a', c', hp, ⟨h1, h2, h3, h4⟩, h5⟩ := h
  exact ⟨p, a, c, a', c', hp, ⟨(hc 2 (by omega)).trans h1, (hc 3 (by omega)).trans h2, (hc 0 (by omega)).trans h3, (hc 1 (by omega)).trans h4⟩, h5⟩

/-- A block that is a row of n targets, the first of which are S; what they lead to lies between two numbers. -/
def EnBlk (w : World) (g n lo hi : Nat) (S : List Ent) : Prop :=
  ∃ (C : Array Value) (m : Nat → Nat), w.heap[g]? = some (.cells C 83 (0, 0)) ∧ C.size = n * 4 ∧ S.length ≤ n ∧ (lo ≤ m 0 ∧ m S.length ≤ hi ∧ ∀ i, m i ≤ m (i + 1)) ∧ ∀ i (h : i < S.length), EnE w g (m i) (m (i + 1)) C i S[i]
theorem EnBlk.lt {w : World} {g n lo hi : Nat} {S : List Ent} (h : EnBlk w g n lo hi S) : g < w.heap.size := by
  obtain ⟨C, m, h, _⟩ := h
  exact (Array.getElem?_eq_some_iff.1 h).1
theorem EnBlk.kept {w w' : World} {g n lo hi : Nat} {S : List Ent} (h : EnBlk w g n lo hi S) (hg : w'.heap[g]? = w.heap[g]?) (hb : ∀ b, lo ≤ b → b < hi → b ≠ g → b < w.heap.size → w'.heap[b]? = w.heap[b]?) : EnBlk w' g n lo hi S := by
  obtain ⟨C, m, h, hs, hl, hm, hc⟩ := h
  refine ⟨C, m, hg.trans h, hs, hl, hm, fun i hi => (hc i hi).kept fun b k1 k2 => hb b ?_ ?_⟩
  · have := Tg.mono_of hm.2.2 (Nat.zero_le i); omega
  · have := Tg.mono_of hm.2.2 (show i + 1 ≤ S.length by omega); omega
theorem EnBlk.below {w w' : World} {g n lo hi : Nat} {S : List Ent} (h : EnBlk w g n lo hi S) (hb : Below w.heap.size w w') : EnBlk w' g n lo hi S := h.kept (hb.block _ h.lt) fun k _ _ _ hl => hb.block k hl
theorem EnBlk.wide {w : World} {g n lo hi lo' hi' : Nat} {S : List Ent} (h : EnBlk w g n lo hi S) (h1 : lo' ≤ lo) (h2 : hi ≤ hi') : EnBlk w g n lo' hi' S := by
  obtain ⟨C, m, h, hs, hl, hm, hc⟩ := h
  exact ⟨C, m, h, hs, hl, ⟨by omega, by omega, hm.2.2⟩, hc⟩
theorem EnBlk.at {w : World} {g n cap lo hi : Nat} {S : List Ent} (h : EnBlk w g n lo hi S) (hcp : S.length ≤ cap) : EnAt w w.heap.size (.slice (some ⟨g, 0, none⟩) S.length cap) S := by
  have hg := h.lt
  obtain ⟨C, m, h, _, _, _, hc⟩ := h
  refine ⟨_, _, rfl, hcp, .inr ⟨g, 0, rfl, hg, fun i hi => ?_⟩⟩
  obtain ⟨p, a, c, a', c', _, ⟨h0, h1, h2, h3⟩, hs, hi⟩ := hc i hi
  rw [Nat.zero_add]
  exact ⟨⟨(cell_of_row w g _ C _ (0, 0) h).trans h0, (cell_of_row w g _ C _ (0, 0) h).trans h1⟩, a, c, a', c', (cell_of_row w g _ C _ (0, 0) h).trans h2, (cell_of_row w g _ C _ (0, 0) h).trans h3, hs.at, hi.at⟩
/-- Each place of such a row can be written. -/
theorem EnBlk.place {w : World} {g n lo hi : Nat} {S : List Ent} (h : EnBlk w g n lo hi S) {k : Nat} (hk : k < n * 4) : (∃ x, w.cell? ⟨g, k, none⟩ = some x) ∧ w.frozen? ⟨g, k, none⟩ = false := by
  obtain ⟨C, m, h, hs, _, _⟩ := h
  refine ⟨⟨C[k]'(by omega), ?_⟩, ?_⟩
  · rw [cell_of_row w g _ C _ (0, 0) h]; exact Array.getElem?_eq_getElem _
  · simp [World.frozen?, h]

theorem EnBlk.push {w : World} {g n lo hi hi2 hi3 : Nat} {S : List Ent} (h : EnBlk w g n lo hi S) (hk : S.length < n) (x : Bool) (t : ByteArray) {a a' : Option Addr} {c c' : Nat} {L : List Ln} {N : List ByteArray} (h1 : hi ≤ hi2 ∧ hi2 ≤ hi3)
    (hL : LX g hi2 hi3 L (.slice a L.length c) w) (hN : TX g hi2 hi3 N (.slice a' N.length c') w) :
    EnBlk ((((w.setCell ⟨g, S.length * 4, none⟩ (.slice a L.length c)).setCell ⟨g, S.length * 4 + 1, none⟩ (.slice a' N.length c')).setCell ⟨g, S.length * 4 + 2, none⟩ (.bool x)).setCell ⟨g, S.length * 4 + 3, none⟩ (.string t)) g n lo hi3 (S ++ [(x, t, L, N)]) := by
  obtain ⟨C, m, h, hs, hl, hm, hc⟩ := h
  have far : ∀ b, b ≠ g → ((((w.setCell ⟨g, S.length * 4, none⟩ (.slice a L.length c)).setCell ⟨g, S.length * 4 + 1, none⟩ (.slice a' N.length c')).setCell ⟨g, S.length * 4 + 2, none⟩ (.bool x)).setCell ⟨g, S.length * 4 + 3, none⟩ (.string t)).heap[b]? = w.heap[b]? := fun b hb =>
    (Below.heap_setCell _ _ _ _ hb).trans ((Below.heap_setCell _ _ _ _ hb).trans ((Below.heap_setCell _ _ _ _ hb).trans (Below.heap_setCell _ _ _ _ hb)))
  refine ⟨(((C.setIfInBounds (S.length * 4) (.slice a L.length c)).setIfInBounds (S.length * 4 + 1) (.slice a' N.length c')).setIfInBounds (S.length * 4 + 2) (.bool x)).setIfInBounds (S.length * 4 + 3) (.string t), fun i => if i ≤ S.length then m i else hi3, ?_, by simpa using hs, by simp; omega, ⟨?_, ?_, fun i => ?_⟩, fun i hi => ?_⟩
  · simp [World.setCell, Array.getElem?_modify, h]
  · show lo ≤ if 0 ≤ S.length then m 0 else hi3
    rw [if_pos (Nat.zero_le _)]
    exact hm.1
  · show (if (S ++ [(x, t, L, N)]).length ≤ S.length then m (S ++ [(x, t, L, N)]).length else hi3) ≤ hi3
    rw [if_neg (by simp)]
    exact Nat.le_refl _
  · have := hm.2.2 i
    show (if i ≤ S.length then m i else hi3) ≤ (if i + 1 ≤ S.length then m (i + 1) else hi3)
    by_cases e1 : i + 1 ≤ S.length
    · rw [if_pos (by omega), if_pos e1]; exact this
    · rw [if_neg e1]
      split
      · obtain rfl : i = S.length := by omega
        omega
      · exact Nat.le_refl _
  · simp only [List.length_append, List.length_cons, List.length_nil] at hi
    by_cases e : i < S.length
    · rw [List.getElem_append_left e]
      show EnE _ g (if i ≤ S.length then m i else hi3) (if i + 1 ≤ S.length then m (i + 1) else hi3) _ i S[i]
      rw [if_pos (by omega), if_pos (by omega)]
      refine ((hc i e).kept fun b _ _ hb _ => far b hb).cells fun j hj => ?_
      rw [Array.getElem?_setIfInBounds_ne (by omega), Array.getElem?_setIfInBounds_ne (by omega), Array.getElem?_setIfInBounds_ne (by omega), Array.getElem?_setIfInBounds_ne (by omega)]
    · obtain rfl : i = S.length := by omega
      rw [List.getElem_append_right (Nat.le_refl _)]
      show EnE _ g (if S.length ≤ S.length then m S.length else hi3) (if S.length + 1 ≤ S.length then m (S.length + 1) else hi3) _ S.length _
      rw [if_pos (Nat.le_refl _), if_neg (by omega)]
      have hL' := hL.kept (w' := ((((w.setCell ⟨g, S.length * 4, none⟩ (.slice a L.length c)).setCell ⟨g, S.length * 4 + 1, none⟩ (.slice a' N.length c')).setCell ⟨g, S.length * 4 + 2, none⟩ (.bool x)).setCell ⟨g, S.length * 4 + 3, none⟩ (.string t))) fun b _ _ hb _ => far b hb
      have hN' := hN.kept (w' := ((((w.setCell ⟨g, S.length * 4, none⟩ (.slice a L.length c)).setCell ⟨g, S.length * 4 + 1, none⟩ (.slice a' N.length c')).setCell ⟨g, S.length * 4 + 2, none⟩ (.bool x)).setCell ⟨g, S.length * 4 + 3, none⟩ (.string t))) fun b _ _ hb _ => far b hb
      simp only [Nat.sub_self, List.getElem_cons_zero]
      refine ⟨hi2, a, c, a', c', ⟨by omega, by omega⟩, ⟨?_, ?_, ?_, ?_⟩, ?_, ?_⟩
      · rw [Array.getElem?_setIfInBounds_ne (by omega), Array.getElem?_setIfInBounds_self_of_lt (by simp; omega)]
      · rw [Array.getElem?_setIfInBounds_self_of_lt (by simp; omega)]
      · rw [Array.getElem?_setIfInBounds_ne (by omega), Array.getElem?_setIfInBounds_ne (by omega), Array.getElem?_setIfInBounds_ne (by omega), Array.getElem?_setIfInBounds_self_of_lt (by omega)]
      · rw [Array.getElem?_setIfInBounds_ne (by omega), Array.getElem?_setIfInBounds_ne (by omega), Array.getElem?_setIfInBounds_self_of_lt (by simp; omega)]
      · obtain ⟨a1, c1, e1, h2⟩ := hL'
        refine ⟨a1, c1, e1, ?_⟩
        rcases h2 with h2 | ⟨b, n, e2, hk, k1, k2⟩
        · exact .inl h2
        · exact .inr ⟨b, n, e2, hk, ⟨by omega, k1.2⟩, k2⟩
      · obtain ⟨a1, c1, e1, h2⟩ := hN'
        refine ⟨a1, c1, e1, ?_⟩
        rcases h2 with h2 | ⟨b, n, e2, hk, k1, k2⟩
        · exact .inl h2
        · exact .inr ⟨b, n, e2, hk, ⟨by omega, k1.2⟩, k2⟩

/-- A row of targets of one's own, all of whose blocks lie between two numbers. -/
def EnB (S : List Ent) (lo hi : Nat) (v : Value) (w : World) : Prop :=
  ∃ a cap, v = .slice a S.length cap ∧ S.length ≤ cap ∧ (S = [] ∨ ∃ g n, a = some ⟨g, 0, none⟩ ∧ EnBlk w g n lo hi S ∧ lo ≤ g ∧ g < hi)
theorem EnB.at {S : List Ent} {lo hi : Nat} {v : Value} {w : World} (h : EnB S lo hi v w) : EnAt w w.heap.size v S := by
  obtain ⟨a, cap, rfl, hcp, h⟩ := h
  rcases h with rfl | ⟨g, n, rfl, hk, _, _⟩
  · exact ⟨_, _, rfl, hcp, .inl rfl⟩
  · exact hk.at hcp
theorem EnB.kept {S : List Ent} {lo hi : Nat} {v : Value} {w w' : World} (h : EnB S lo hi v w) (hb : ∀ g, lo ≤ g → g < hi → g < w.heap.size → w'.heap[g]? = w.heap[g]?) : EnB S lo hi v w' := by
  obtain ⟨a, cap, rfl, hcp, h⟩ := h
  refine ⟨_, _, rfl, hcp, ?_⟩
  rcases h with h | ⟨g, n, rfl, hk, h1, h2⟩
  · exact .inl h
  · exact .inr ⟨g, n, rfl, hk.kept (hb g h1 h2 hk.lt) fun b k1 k2 _ hl => hb b k1 k2 hl, h1, h2⟩
theorem EnB.below {S : List Ent} {lo hi : Nat} {v : Value} {w w' : World} (h : EnB S lo hi v w) (hb : Below w.heap.size w w') : EnB S lo hi v w' := h.kept fun g _ _ hl => hb.block g hl
theorem EnB.out {S : List Ent} {lo hi lo' hi' : Nat} {v : Value} {w w' : World} (h : EnB S lo hi v w) (ho : Out lo' hi' w w') (hd : hi ≤ lo' ∨ hi' ≤ lo) : EnB S lo hi v w' :=
  h.kept fun g h1 h2 hl => ho.block g hl (by omega)
theorem EnB.wide {S : List Ent} {lo hi lo' hi' : Nat} {v : Value} {w : World} (h : EnB S lo hi v w) (h1 : lo' ≤ lo) (h2 : hi ≤ hi') : EnB S lo' hi' v w := by
  obtain ⟨a, cap, rfl, hcp, h⟩ := h
  refine ⟨_, _, rfl, hcp, ?_⟩
  rcases h with h | ⟨g, n, rfl, hk, k1, k2⟩
  · exact .inl h
  · exact .inr ⟨g, n, rfl, hk.wide h1 h2, by omega, by omega⟩
theorem EnB.shape {S : List Ent} {lo hi : Nat} {v : Value} {w : World} (h : EnB S lo hi v w) : ∃ a cap, v = .slice a S.length cap := by
  obtain ⟨a, cap, e, _⟩ := h
  exact ⟨a, cap, e⟩

/-- How much of the law's measure a row of targets takes. -/
def sz1 (x : Ent) : Nat := (x.2.2.1.length + lnSz x.2.2.1) + (x.2.2.2.length + Obt.stSz x.2.2.2) + x.2.1.size
def enSz : List Ent → Nat
  | [] => 0
  | x :: t => sz1 x + enSz t
theorem enSz_snoc {S : List Ent} {k : Nat} {x : Ent} (h : S[k]? = some x) : enSz (S.take (k + 1)) = enSz (S.take k) + sz1 x := by
  rw [List.take_add_one, h]
  have app : ∀ A B : List Ent, enSz (A ++ B) = enSz A + enSz B := by
    intro A B
    induction A with
    | nil => simp [enSz]
    | cons a t ih => simp only [List.cons_append, enSz, ih]; omega
  rw [app]
  simp [enSz]
theorem enSz_mem {S : List Ent} {x : Ent} (h : x ∈ S) : sz1 x ≤ enSz S := by
  induction S with
  | nil => cases h
  | cons a t ih =>
    simp only [enSz]
    rcases List.mem_cons.1 h with rfl | h
    · omega
    · have := ih h
      omega
theorem enSz_le (S : List Ent) (k : Nat) : enSz (S.take k) ≤ enSz S := by
  induction S generalizing k with
  | nil => simp [enSz]
  | cons a t ih =>
    rcases k with _ | k
    · simp [enSz]
    · simp only [List.take_succ_cons, enSz]
      have := ih k
      omega
end En
end Go.Proofs.Ytopplljilmjjgaa
