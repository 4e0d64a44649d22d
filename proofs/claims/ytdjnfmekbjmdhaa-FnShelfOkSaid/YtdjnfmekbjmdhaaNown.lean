/- Rows of needs that a call grows by append, over this seat's translation: what it is for a value to own such a row whose spans lie elsewhere; one need, or a whole row of needs, appended. No condition. -/
import Derived.Test.YtdjnfmekbjmdhaaNdto
import Derived.Deep.AppendLies
namespace Go.Proofs.Ytdjnfmekbjmdhaa
open Go.RowKit Go.Sort

/-- A slice of spans that lies in a block other than x. -/
def SpX (w : World) (lo : Nat) (x : Option Nat) (v : Value) (L : List (Int × Int)) : Prop :=
  ∃ a cap, v = .slice a L.length cap ∧ (L = [] ∨ ∃ b o, a = some ⟨b, o, none⟩ ∧ b < w.heap.size ∧ (lo ≤ b ∧ x ≠ some b) ∧ ∀ i (h : i < L.length), w.cell? ⟨b, o + i * 2, none⟩ = some (.int .i64 L[i].1) ∧ w.cell? ⟨b, o + i * 2 + 1, none⟩ = some (.int .i64 L[i].2))
theorem SpX.at {w : World} {lo : Nat} {x : Option Nat} {v : Value} {L : List (Int × Int)} (h : SpX w lo x v L) : SpAt w w.heap.size v L := by
  obtain ⟨a, cap, rfl, h⟩ := h
  rcases h with h | ⟨b, o, e, hB, _, hc⟩
  · exact ⟨a, cap, rfl, .inl h⟩
  · exact ⟨a, cap, rfl, .inr ⟨b, o, e, hB, hc⟩⟩
theorem SpX.grown {w w' : World} {lo : Nat} {x : Option Nat} {v : Value} {L : List (Int × Int)} (h : SpX w lo x v L) (hg : w.grownBy w' x) : SpX w' lo x v L := by
  obtain ⟨a, cap, rfl, h⟩ := h
  refine ⟨a, cap, rfl, ?_⟩
  rcases h with h | ⟨b, o, e, hB, hx, hc⟩
  · exact .inl h
  · have k : ∀ p, w'.cell? ⟨b, p, none⟩ = w.cell? ⟨b, p, none⟩ := fun p => World.cell?_of_block (a := ⟨b, p, none⟩) (hg.block b hB (fun e => hx.2 e.symm))
    exact .inr ⟨b, o, e, Nat.lt_of_lt_of_le hB hg.size, hx, fun i hi => ⟨(k _).trans (hc i hi).1, (k _).trans (hc i hi).2⟩⟩
theorem SpX.below {w w' : World} {lo : Nat} {x : Option Nat} {v : Value} {L : List (Int × Int)} (h : SpX w lo x v L) (hb : Below w.heap.size w w') : SpX w' lo x v L := by
  obtain ⟨a, cap, rfl, h⟩ := h
  refine ⟨a, cap, rfl, ?_⟩
  rcases h with h | ⟨b, o, e, hB, hx, hc⟩
  · exact .inl h
  · exact .inr ⟨b, o, e, Nat.lt_of_lt_of_le hB hb.size, hx, fun i hi => ⟨(hb.cell (p := ⟨b, _, none⟩) hB).trans (hc i hi).1, (hb.cell (p := ⟨b, _, none⟩) hB).trans (hc i hi).2⟩⟩
/-- The row that grows has moved to a block that was new. -/
theorem SpX.moved {w w' : World} {lo : Nat} {x : Option Nat} {v : Value} {L : List (Int × Int)} (h : SpX w lo x v L) (hg : w.grownBy w' x) : SpX w' lo (some w.heap.size) v L := by
  obtain ⟨a, cap, rfl, h⟩ := h
  refine ⟨a, cap, rfl, ?_⟩
  rcases h with h | ⟨b, o, e, hB, hx, hc⟩
  · exact .inl h
  · have k : ∀ p, w'.cell? ⟨b, p, none⟩ = w.cell? ⟨b, p, none⟩ := fun p => World.cell?_of_block (a := ⟨b, p, none⟩) (hg.block b hB (fun e => hx.2 e.symm))
    exact .inr ⟨b, o, e, Nat.lt_of_lt_of_le hB hg.size, ⟨hx.1, fun e => by injection e with e; omega⟩, fun i hi => ⟨(k _).trans (hc i hi).1, (k _).trans (hc i hi).2⟩⟩
theorem SpX.of {w : World} {B : Nat} {x : Option Nat} {v : Value} {L : List (Int × Int)} (h : SpAt w B v L) (hB : B ≤ w.heap.size) (hx : ∀ b, x = some b → B ≤ b) : SpX w 0 x v L := by
  obtain ⟨a, cap, rfl, h⟩ := h
  refine ⟨a, cap, rfl, ?_⟩
  rcases h with h | ⟨b, o, e, hb, hc⟩
  · exact .inl h
  · exact .inr ⟨b, o, e, by omega, ⟨Nat.zero_le _, fun e => by have := hx b e; omega⟩, hc⟩
theorem SpX.res {w : World} {B : Nat} {x : Option Nat} {v : Value} {L : List (Int × Int)} (h : SRes L B v w) (hx : ∀ b, x = some b → b < B) : SpX w B x v L := by
  obtain ⟨a, cap, rfl, h⟩ := h
  refine ⟨a, cap, rfl, ?_⟩
  rcases h with h | ⟨g, n, e, hk, hg⟩
  · exact .inl h
  · obtain ⟨a', c', e', hc⟩ := hk.at (cap := cap) hk.lt
    simp only [Value.slice.injEq] at e'
    obtain ⟨rfl, _, _⟩ := e'
    rcases hc with hc | ⟨b', o', e2, hb, hc⟩
    · exact .inl hc
    · simp only [Option.some.injEq, Addr.mk.injEq, and_true] at e2
      obtain ⟨rfl, rfl⟩ := e2
      exact .inr ⟨g, 0, e, hk.lt, ⟨hg, fun e => by have := hx g e; omega⟩, hc⟩

theorem SpX.down {w : World} {lo lo' : Nat} {x : Option Nat} {v : Value} {L : List (Int × Int)} (h : SpX w lo x v L) (hl : lo' ≤ lo) : SpX w lo' x v L := by
  obtain ⟨a, cap, rfl, h⟩ := h
  refine ⟨a, cap, rfl, ?_⟩
  rcases h with h | ⟨b, o, e, hb, hx, hc⟩
  · exact .inl h
  · exact .inr ⟨b, o, e, hb, ⟨by omega, hx.2⟩, hc⟩
theorem SpX.drawn {w w' : World} {lo R : Nat} {x : Option Nat} {v : Value} {L : List (Int × Int)} (h : SpX w lo x v L) (hg : w.grownBy w' (some R)) (hR : R < lo) : SpX w' lo x v L := by
  obtain ⟨a, cap, rfl, h⟩ := h
  refine ⟨a, cap, rfl, ?_⟩
  rcases h with h | ⟨b, o, e, hB, hx, hc⟩
  · exact .inl h
  · have k : ∀ p, w'.cell? ⟨b, p, none⟩ = w.cell? ⟨b, p, none⟩ := fun p => World.cell?_of_block (a := ⟨b, p, none⟩) (hg.block b hB (fun e => by injection e with e; omega))
    exact .inr ⟨b, o, e, Nat.lt_of_lt_of_le hB hg.size, hx, fun i hi => ⟨(k _).trans (hc i hi).1, (k _).trans (hc i hi).2⟩⟩

/-- A row of needs that a call grows; their spans lie elsewhere. -/
def NOwn (w : World) (B lo : Nat) (v : Value) (M : List Nd) : Prop :=
  ∃ cs : List Value, w.ownsRow B 97 2 v M.length cs ∧ ∀ i (h : i < M.length), cs[i * 2]? = some (.int .i64 M[i].1) ∧ ∃ a cap, cs[i * 2 + 1]? = some (.slice a M[i].2.length cap) ∧ SpX w lo v.ownBlock (.slice a M[i].2.length cap) M[i].2
theorem NOwn.lt {w : World} {B lo : Nat} {v : Value} {M : List Nd} (h : NOwn w B lo v M) : ∀ k, v.ownBlock = some k → B ≤ k ∧ k < w.heap.size := by
  obtain ⟨cs, h, _⟩ := h
  exact World.ownsRow.lt h
theorem NOwn.below {w w' : World} {B lo : Nat} {v : Value} {M : List Nd} (h : NOwn w B lo v M) (hb : Below w.heap.size w w') : NOwn w' B lo v M := by
  obtain ⟨cs, ⟨hl, h⟩, hc⟩ := h
  refine ⟨cs, ⟨hl, ?_⟩, fun i hi => ?_⟩
  · rcases h with hn | ⟨g, cap, cur, hv, hb', hg, rest⟩
    · exact .inl hn
    · exact .inr ⟨g, cap, cur, hv, hb', (hb.block g (Array.getElem?_eq_some_iff.1 hg).1).trans hg, rest⟩
  · obtain ⟨h1, a, cap, h2, h3⟩ := hc i hi
    exact ⟨h1, a, cap, h2, h3.below hb⟩
theorem NOwn.at {w : World} {B lo : Nat} {v : Value} {M : List Nd} (h : NOwn w B lo v M) : NdAt w w.heap.size v M := by
  obtain ⟨cs, ⟨hl, h⟩, hc⟩ := h
  rcases h with ⟨rfl, hn⟩ | ⟨g, cap, cur, rfl, hb, hg, hnc, hcm, hcs, htk⟩
  · obtain rfl : M = [] := List.eq_nil_of_length_eq_zero hn
    exact ⟨none, 0, rfl, .inl rfl⟩
  · refine ⟨_, cap, rfl, .inr ⟨g, 0, rfl, (Array.getElem?_eq_some_iff.1 hg).1, fun i hi => ?_⟩⟩
    obtain ⟨h1, a, c, h2, h3⟩ := hc i hi
    rw [← htk, List.getElem?_take, if_pos (by omega)] at h1 h2
    rw [Nat.zero_add]
    exact ⟨(cell_of_row w g _ cur _ (0, 0) hg).trans (by simpa using h1), a, c, (cell_of_row w g _ cur _ (0, 0) hg).trans (by simpa using h2), h3.at⟩
theorem NOwn.nil (w : World) (B lo : Nat) : NOwn w B lo (.slice none 0 0) [] := ⟨[], World.ownsRow_nil _ _ _ _, fun i hi => absurd hi (by simp)⟩
theorem NOwn.made {w V : World} {B lo : Nat} (hV : V.heap = (w.alloc (.cells #[] 97)).heap) (hB : B ≤ w.heap.size) : NOwn V B lo (.slice (some ⟨w.heap.size, 0, none⟩) 0 0) [] := by
  refine ⟨[], ⟨rfl, .inr ⟨w.heap.size, 0, #[], rfl, hB, by rw [hV]; exact heap_alloc_new w _, Nat.le_refl _, by unfold maxLen; omega, rfl, rfl⟩⟩, fun i hi => absurd hi (by simp)⟩

theorem NOwn.drawn {w w' : World} {B lo R : Nat} {v : Value} {M : List Nd} (h : NOwn w B lo v M) (hg : w.grownBy w' (some R)) (hR : R < B) (hl : R < lo) : NOwn w' B lo v M := by
  obtain ⟨cs, ho, hc⟩ := h
  refine ⟨cs, World.ownsRow.kept ho hg (.inr fun e => by have := (World.ownsRow.lt ho) R e; omega), fun i hi => ?_⟩
  obtain ⟨h1, a, cap, h2, h3⟩ := hc i hi
  exact ⟨h1, a, cap, h2, h3.drawn hg hl⟩

/-- What stands behind an append. -/
theorem NOwn.grow {W w' : World} {B lo g cap : Nat} {v : Value} {M P : List Nd} {cs news : List Value} (ho : W.ownsRow B 97 2 v M.length cs)
    (hc : ∀ i (h : i < M.length), cs[i * 2]? = some (.int .i64 M[i].1) ∧ ∃ a cap, cs[i * 2 + 1]? = some (.slice a M[i].2.length cap) ∧ SpX W lo v.ownBlock (.slice a M[i].2.length cap) M[i].2)
    (hn : ∀ i (h : i < P.length), news[i * 2]? = some (.int .i64 P[i].1) ∧ ∃ a cap, news[i * 2 + 1]? = some (.slice a P[i].2.length cap) ∧ SpX W lo v.ownBlock (.slice a P[i].2.length cap) P[i].2)
    (hown : w'.ownsRow B 97 2 (.slice (some ⟨g, 0, none⟩) (M.length + P.length) cap) (M.length + P.length) (cs ++ news)) (hgrow : W.grownBy w' v.ownBlock) (hat : v.ownBlock = some g ∨ g = W.heap.size) :
    NOwn w' B lo (.slice (some ⟨g, 0, none⟩) (M.length + P.length) cap) (M ++ P) := by
  have hcl : cs.length = M.length * 2 := ho.1
  have mv : ∀ {u : Value} {L : List (Int × Int)}, SpX W lo v.ownBlock u L → SpX w' lo (some g) u L := fun {u L} hx => by
    rcases hat with e | e
    · rw [e] at hx hgrow
      exact hx.grown hgrow
    · rw [e]
      exact hx.moved hgrow
  refine ⟨cs ++ news, by rw [List.length_append]; exact hown, fun i hi => ?_⟩
  by_cases e : i < M.length
  · obtain ⟨h1, a, c, h2, h3⟩ := hc i e
    rw [List.getElem_append_left e]
    exact ⟨(List.getElem?_append_left (by omega)).trans h1, a, c, (List.getElem?_append_left (by omega)).trans h2, mv h3⟩
  · have hi' : i - M.length < P.length := by simp at hi; omega
    obtain ⟨h1, a, c, h2, h3⟩ := hn (i - M.length) hi'
    rw [List.getElem_append_right (by omega)]
    refine ⟨(List.getElem?_append_right (by omega)).trans ?_, a, c, (List.getElem?_append_right (by omega)).trans ?_, mv h3⟩
    · rw [show i * 2 - cs.length = (i - M.length) * 2 by omega]; exact h1
    · rw [show i * 2 + 1 - cs.length = (i - M.length) * 2 + 1 by omega]; exact h2

/-- The cells of a row of needs, for an append of all of it. -/
def rowCells (w : World) (b o n : Nat) : List Value := (List.range n).map fun j => (w.cell? ⟨b, o + j, none⟩).getD undef
theorem rowCells_at {w : World} {b o n j : Nat} (h : j < n) : (rowCells w b o n)[j]? = some ((w.cell? ⟨b, o + j, none⟩).getD undef) := by simp [rowCells, h]

end Go.Proofs.Ytdjnfmekbjmdhaa
