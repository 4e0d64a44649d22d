/- Groundwork over this seat's translation: Nown, Foot, Footr, Rjoin, Shal in one text; the conditions stand at each part. -/
import Derived.Test.YtgnjhmmedogcoaaGc
import Derived.Deep.AppendLies

/- Rows of needs that a call grows by append, over this seat's translation: what it is for a value to own such a row whose spans lie elsewhere; one need, or a whole row of needs, appended. No condition. -/
namespace Go.Proofs.Ytgnjhmmedogcoaa
open Go.RowKit Go.Sort

/-- A slice of spans that lies in a block other than x. -/
def SpX (w : World) (lo : Nat) (x : Option Nat) (v : Value) (L : List (Int × Int)) : Prop :=
  ∃ a cap, v = .slice a L.length cap ∧ (L = [] ∨ ∃ b o, a = some ⟨b, o, none⟩ ∧ b < w.heap.size ∧ (lo ≤ b ∧ x ≠ some b) ∧ ∀ i (h : i < L.length), w.cell? ⟨b, o + i * 2, none⟩ = some (.int .i64 L[i].1) ∧ w.cell? ⟨b, o + i * 2 + 1, none⟩ = some (.int .i64 L[i].2))
theorem SpX.at {w : World} {lo : Nat} {x : Option Nat} {v : Value} {L : List (Int × Int)} (h : SpX w lo x v L) : SpAt w w.heap.size v L := by
  obtain ⟨a, cap, rfl, h⟩ := h
  rcases h with h | ⟨b, o, e, hB, _, hc⟩
  · exact ⟨a, cap, rfl, .inl h⟩
  · exact ⟨a, cap, rfl, .inr ⟨b, o, e, hB, hc⟩⟩
theorem SpX.grown {w w' : World} {lo : Nat} {x : Option Nat} {v : Value} {L : List (Int × Int)} (h : SpX w lo x v L) (hg : w.grownBy w' x) : SpX w' lo x v L := by
  obtain ⟨a, cap, rfl, h⟩ := h
  refine ⟨a, cap, rfl, ?_⟩
  rcases h with h | ⟨b, o, e, hB, hx, hc⟩
  · exact .inl h
  · have k : ∀ p, w'.cell? ⟨b, p, none⟩ = w.cell? ⟨b, p, none⟩ := fun p => World.cell?_of_block (a := ⟨b, p, none⟩) (hg.block b hB (fun e => hx.2 e.symm))
    exact .inr ⟨b, o, e, Nat.lt_of_lt_of_le hB hg.size, hx, fun i hi => ⟨(k _).trans (hc i hi).1, (k _).trans (hc i hi).2⟩⟩
theorem SpX.below {w w' : World} {lo : Nat} {x : Option Nat} {v : Value} {L : List (Int × Int)} (h : SpX w lo x v L) (hb : Below w.heap.size w w') : SpX w' lo x v L := by
  obtain ⟨a, cap, rfl, h⟩ := h
  refine ⟨a, cap, rfl, ?_⟩
  rcases h with h | ⟨b, o, e, hB, hx, hc⟩
  · exact .inl h
  · exact .inr ⟨b, o, e, Nat.lt_of_lt_of_le hB hb.size, hx, fun i hi => ⟨(hb.cell (p := ⟨b, _, none⟩) hB).trans (hc i hi).1, (hb.cell (p := ⟨b, _, none⟩) hB).trans (hc i hi).2⟩⟩
/-- The row that grows has moved to a block that was new. -/
theorem SpX.moved {w w' : World} {lo : Nat} {x : Option Nat} {v : Value} {L : List (Int × Int)} (h : SpX w lo x v L) (hg : w.grownBy w' x) : SpX w' lo (some w.heap.size) v L := by
  obtain ⟨a, cap, rfl, h⟩ := h
  refine ⟨a, cap, rfl, ?_⟩
  rcases h with h | ⟨b, o, e, hB, hx, hc⟩
  · exact .inl h
  · have k : ∀ p, w'.cell? ⟨b, p, none⟩ = w.cell? ⟨b, p, none⟩ := fun p => World.cell?_of_block (a := ⟨b, p, none⟩) (hg.block b hB (fun e => hx.2 e.symm))
    exact .inr ⟨b, o, e, Nat.lt_of_lt_of_le hB hg.size, ⟨hx.1, fun e => by injection e with e; omega⟩, fun i hi => ⟨(k _).trans (hc i hi).1, (k _).trans (hc i hi).2⟩⟩
theorem SpX.of {w : World} {B : Nat} {x : Option Nat} {v : Value} {L : List (Int × Int)} (h : SpAt w B v L) (hB : B ≤ w.heap.size) (hx : ∀ b, x = some b → B ≤ b) : SpX w 0 x v L := by
  obtain ⟨a, cap, rfl, h⟩ := h
  refine ⟨a, cap, rfl, ?_⟩
  rcases h with h | ⟨b, o, e, hb, hc⟩
  · exact .inl h
  · exact .inr ⟨b, o, e, by omega, ⟨Nat.zero_le _, fun e => by have := hx b e; omega⟩, hc⟩
theorem SpX.res {w : World} {B : Nat} {x : Option Nat} {v : Value} {L : List (Int × Int)} (h : SRes L B v w) (hx : ∀ b, x = some b → b < B) : SpX w B x v L := by
  obtain ⟨a, cap, rfl, h⟩ := h
  refine ⟨a, cap, rfl, ?_⟩
  rcases h with h | ⟨g, n, e, hk, hg⟩
  · exact .inl h
  · obtain ⟨a', c', e', hc⟩ := hk.at (cap := cap) hk.lt
    simp only [Value.slice.injEq] at e'
    obtain ⟨rfl, _, _⟩ := e'
    rcases hc with hc | ⟨b', o', e2, hb, hc⟩
    · exact .inl hc
    · simp only [Option.some.injEq, Addr.mk.injEq, and_true] at e2
      obtain ⟨rfl, rfl⟩ := e2
      exact .inr ⟨g, 0, e, hk.lt, ⟨hg, fun e => by have := hx g e; omega⟩, hc⟩

theorem SpX.down {w : World} {lo lo' : Nat} {x : Option Nat} {v : Value} {L : List (Int × Int)} (h : SpX w lo x v L) (hl : lo' ≤ lo) : SpX w lo' x v L := by
  obtain ⟨a, cap, rfl, h⟩ := h
  refine ⟨a, cap, rfl, ?_⟩
  rcases h with h | ⟨b, o, e, hb, hx, hc⟩
  · exact .inl h
  · exact .inr ⟨b, o, e, hb, ⟨by omega, hx.2⟩, hc⟩
theorem SpX.drawn {w w' : World} {lo R : Nat} {x : Option Nat} {v : Value} {L : List (Int × Int)} (h : SpX w lo x v L) (hg : w.grownBy w' (some R)) (hR : R < lo) : SpX w' lo x v L := by
  obtain ⟨a, cap, rfl, h⟩ := h
  refine ⟨a, cap, rfl, ?_⟩
  rcases h with h | ⟨b, o, e, hB, hx, hc⟩
  · exact .inl h
  · have k : ∀ p, w'.cell? ⟨b, p, none⟩ = w.cell? ⟨b, p, none⟩ := fun p => World.cell?_of_block (a := ⟨b, p, none⟩) (hg.block b hB (fun e => by injection e with e; omega))
    exact .inr ⟨b, o, e, Nat.lt_of_lt_of_le hB hg.size, hx, fun i hi => ⟨(k _).trans (hc i hi).1, (k _).trans (hc i hi).2⟩⟩

/-- A row of needs that a call grows; their spans lie elsewhere. -/
def NOwn (w : World) (B lo : Nat) (v : Value) (M : List Nd) : Prop :=
  ∃ cs : List Value, w.ownsRow B 59 2 v M.length cs ∧ ∀ i (h : i < M.length), cs[i * 2]? = some (.int .i64 M[i].1) ∧ ∃ a cap, cs[i * 2 + 1]? = some (.slice a M[i].2.length cap) ∧ SpX w lo v.ownBlock (.slice a M[i].2.length cap) M[i].2
theorem NOwn.lt {w : World} {B lo : Nat} {v : Value} {M : List Nd} (h : NOwn w B lo v M) : ∀ k, v.ownBlock = some k → B ≤ k ∧ k < w.heap.size := by
  obtain ⟨cs, h, _⟩ := h
  exact World.ownsRow.lt h
theorem NOwn.below {w w' : World} {B lo : Nat} {v : Value} {M : List Nd} (h : NOwn w B lo v M) (hb : Below w.heap.size w w') : NOwn w' B lo v M := by
  obtain ⟨cs, ⟨hl, h⟩, hc⟩ := h
  refine ⟨cs, ⟨hl, ?_⟩, fun i hi => ?_⟩
  · rcases h with hn | ⟨g, cap, cur, hv, hb', hg, rest⟩
    · exact .inl hn
    · exact .inr ⟨g, cap, cur, hv, hb', (hb.block g (Array.getElem?_eq_some_iff.1 hg).1).trans hg, rest⟩
  · obtain ⟨h1, a, cap, h2, h3⟩ := hc i hi
    exact ⟨h1, a, cap, h2, h3.below hb⟩
theorem NOwn.at {w : World} {B lo : Nat} {v : Value} {M : List Nd} (h : NOwn w B lo v M) : NdAt w w.heap.size v M := by
  obtain ⟨cs, ⟨hl, h⟩, hc⟩ := h
  rcases h with ⟨rfl, hn⟩ | ⟨g, cap, cur, rfl, hb, hg, hnc, hcm, hcs, htk⟩
  · obtain rfl : M = [] := List.eq_nil_of_length_eq_zero hn
    exact ⟨none, 0, rfl, .inl rfl⟩
  · refine ⟨_, cap, rfl, .inr ⟨g, 0, rfl, (Array.getElem?_eq_some_iff.1 hg).1, fun i hi => ?_⟩⟩
    obtain ⟨h1, a, c, h2, h3⟩ := hc i hi
    rw [← htk, List.getElem?_take, if_pos (by omega)] at h1 h2
    rw [Nat.zero_add]
    exact ⟨(cell_of_row w g _ cur _ (0, 0) hg).trans (by simpa using h1), a, c, (cell_of_row w g _ cur _ (0, 0) hg).trans (by simpa using h2), h3.at⟩
theorem NOwn.nil (w : World) (B lo : Nat) : NOwn w B lo (.slice none 0 0) [] := ⟨[], World.ownsRow_nil _ _ _ _, fun i hi => absurd hi (by simp)⟩
theorem NOwn.made {w V : World} {B lo : Nat} (hV : V.heap = (w.alloc (.cells #[] 59)).heap) (hB : B ≤ w.heap.size) : NOwn V B lo (.slice (some ⟨w.heap.size, 0, none⟩) 0 0) [] := by
  refine ⟨[], ⟨rfl, .inr ⟨w.heap.size, 0, #[], rfl, hB, by rw [hV]; exact heap_alloc_new w _, Nat.le_refl _, by unfold maxLen; omega, rfl, rfl⟩⟩, fun i hi => absurd hi (by simp)⟩

theorem NOwn.drawn {w w' : World} {B lo R : Nat} {v : Value} {M : List Nd} (h : NOwn w B lo v M) (hg : w.grownBy w' (some R)) (hR : R < B) (hl : R < lo) : NOwn w' B lo v M := by
  obtain ⟨cs, ho, hc⟩ := h
  refine ⟨cs, World.ownsRow.kept ho hg (.inr fun e => by have := (World.ownsRow.lt ho) R e; omega), fun i hi => ?_⟩
  obtain ⟨h1, a, cap, h2, h3⟩ := hc i hi
  exact ⟨h1, a, cap, h2, h3.drawn hg hl⟩

/-- What stands behind an append. -/
theorem NOwn.grow {W w' : World} {B lo g cap : Nat} {v : Value} {M P : List Nd} {cs news : List Value} (ho : W.ownsRow B 59 2 v M.length cs)
    (hc : ∀ i (h : i < M.length), cs[i * 2]? = some (.int .i64 M[i].1) ∧ ∃ a cap, cs[i * 2 + 1]? = some (.slice a M[i].2.length cap) ∧ SpX W lo v.ownBlock (.slice a M[i].2.length cap) M[i].2)
    (hn : ∀ i (h : i < P.length), news[i * 2]? = some (.int .i64 P[i].1) ∧ ∃ a cap, news[i * 2 + 1]? = some (.slice a P[i].2.length cap) ∧ SpX W lo v.ownBlock (.slice a P[i].2.length cap) P[i].2)
    (hown : w'.ownsRow B 59 2 (.slice (some ⟨g, 0, none⟩) (M.length + P.length) cap) (M.length + P.length) (cs ++ news)) (hgrow : W.grownBy w' v.ownBlock) (hat : v.ownBlock = some g ∨ g = W.heap.size) :
    NOwn w' B lo (.slice (some ⟨g, 0, none⟩) (M.length + P.length) cap) (M ++ P) := by
  have hcl : cs.length = M.length * 2 := ho.1
  have mv : ∀ {u : Value} {L : List (Int × Int)}, SpX W lo v.ownBlock u L → SpX w' lo (some g) u L := fun {u L} hx => by
    rcases hat with e | e
    · rw [e] at hx hgrow
      exact hx.grown hgrow
    · rw [e]
      exact hx.moved hgrow
  refine ⟨cs ++ news, by rw [List.length_append]; exact hown, fun i hi => ?_⟩
  by_cases e : i < M.length
  · obtain ⟨h1, a, c, h2, h3⟩ := hc i e
    rw [List.getElem_append_left e]
    exact ⟨(List.getElem?_append_left (by omega)).trans h1, a, c, (List.getElem?_append_left (by omega)).trans h2, mv h3⟩
  · have hi' : i - M.length < P.length := by simp at hi; omega
    obtain ⟨h1, a, c, h2, h3⟩ := hn (i - M.length) hi'
    rw [List.getElem_append_right (by omega)]
    refine ⟨(List.getElem?_append_right (by omega)).trans ?_, a, c, (List.getElem?_append_right (by omega)).trans ?_, mv h3⟩
    · rw [show i * 2 - cs.length = (i - M.length) * 2 by omega]; exact h1
    · rw [show i * 2 + 1 - cs.length = (i - M.length) * 2 + 1 by omega]; exact h2

/-- The cells of a row of needs, for an append of all of it. -/
def rowCells (w : World) (b o n : Nat) : List Value := (List.range n).map fun j => (w.cell? ⟨b, o + j, none⟩).getD undef
theorem rowCells_at {w : World} {b o n j : Nat} (h : j < n) : (rowCells w b o n)[j]? = some ((w.cell? ⟨b, o + j, none⟩).getD undef) := by simp [rowCells, h]

end Go.Proofs.Ytgnjhmmedogcoaa

/- Footprints, over this seat's translation: the blocks that a slice of spans, or a row of needs that is grown by append, stands on: all different, so that marks of one do not touch another. No condition. -/
namespace Go.Proofs.Ytgnjhmmedogcoaa
open Go.RowKit Go.Sort

namespace Foot
/-- A slice of spans that stands on exactly these blocks. -/
def SpF (w : World) (v : Value) (L : Sps) (F : List Nat) : Prop :=
  ∃ a cap, v = .slice a L.length cap ∧ ((L = [] ∧ F = []) ∨ ∃ g n, a = some ⟨g, 0, none⟩ ∧ F = [g] ∧ SpBlk w g n L)
theorem SpF.kept {w w' : World} {v : Value} {L : Sps} {F : List Nat} (h : SpF w v L F) (hb : ∀ b ∈ F, w'.heap[b]? = w.heap[b]?) : SpF w' v L F := by
  obtain ⟨a, cap, rfl, h⟩ := h
  refine ⟨a, cap, rfl, ?_⟩
  rcases h with h | ⟨g, n, rfl, rfl, hk⟩
  · exact .inl h
  · exact .inr ⟨g, n, rfl, rfl, hk.kept (hb g (by simp))⟩
theorem SpF.lt {w : World} {v : Value} {L : Sps} {F : List Nat} (h : SpF w v L F) : ∀ b ∈ F, b < w.heap.size := by
  intro b hb
  obtain ⟨a, cap, rfl, h⟩ := h
  rcases h with ⟨_, rfl⟩ | ⟨g, n, rfl, rfl, hk⟩
  · simp at hb
  · obtain rfl : b = g := by simpa using hb
    exact hk.lt
theorem SpF.nodup {w : World} {v : Value} {L : Sps} {F : List Nat} (h : SpF w v L F) : F.Nodup := by
  obtain ⟨a, cap, rfl, h⟩ := h
  rcases h with ⟨_, rfl⟩ | ⟨g, n, rfl, rfl, hk⟩ <;> simp
theorem SpF.of {w : World} {base : Nat} {v : Value} {L : Sps} (h : SRes L base v w) : ∃ F, SpF w v L F ∧ ∀ b ∈ F, base ≤ b := by
  obtain ⟨a, cap, rfl, h⟩ := h
  by_cases hL : L = []
  · exact ⟨[], ⟨a, cap, rfl, .inl ⟨hL, rfl⟩⟩, by simp⟩
  · rcases h with h | ⟨g, n, e, hk, hg⟩
    · exact absurd h hL
    · exact ⟨[g], ⟨a, cap, rfl, .inr ⟨g, n, e, rfl, hk⟩⟩, fun b hb => by obtain rfl : b = g := by simpa using hb
                                                                         exact hg⟩
theorem SpF.x {w : World} {lo : Nat} {x : Option Nat} {v : Value} {L : Sps} {F : List Nat} (h : SpF w v L F) (hx : ∀ b ∈ F, lo ≤ b ∧ x ≠ some b) : SpX w lo x v L := by
  obtain ⟨a, cap, rfl, h⟩ := h
  refine ⟨a, cap, rfl, ?_⟩
  rcases h with ⟨h, _⟩ | ⟨g, n, e, rfl, hk⟩
  · exact .inl h
  · obtain ⟨a', c', e', hc⟩ := hk.at (cap := cap) hk.lt
    simp only [Value.slice.injEq] at e'
    obtain ⟨rfl, _, _⟩ := e'
    rcases hc with hc | ⟨b', o', e2, hb, hc⟩
    · exact .inl hc
    · simp only [Option.some.injEq, Addr.mk.injEq, and_true] at e2
      obtain ⟨rfl, rfl⟩ := e2
      exact .inr ⟨g, 0, e, hk.lt, hx g (by simp), hc⟩

theorem mem_flat {fs : List (List Nat)} {i b : Nat} (h : b ∈ fs.getD i []) : b ∈ fs.flatten := by
  by_cases hi : i < fs.length
  · rw [List.getD_eq_getElem?_getD, List.getElem?_eq_getElem hi, Option.getD_some] at h
    exact List.mem_flatten.2 ⟨_, List.getElem_mem hi, h⟩
  · rw [List.getD_eq_getElem?_getD, List.getElem?_eq_none (by omega)] at h
    simp at h

/-- The cells of needs, each over its footprint. -/
def NEl (w : World) (cs : List Value) (M : List Nd) (fs : List (List Nat)) : Prop :=
  fs.length = M.length ∧ ∀ i (h : i < M.length), cs[i * 2]? = some (.int .i64 M[i].1) ∧ ∃ a cap, cs[i * 2 + 1]? = some (.slice a M[i].2.length cap) ∧ SpF w (.slice a M[i].2.length cap) M[i].2 (fs.getD i [])
theorem NEl.kept {w w' : World} {cs : List Value} {M : List Nd} {fs : List (List Nat)} (h : NEl w cs M fs) (hb : ∀ b ∈ fs.flatten, w'.heap[b]? = w.heap[b]?) : NEl w' cs M fs :=
  ⟨h.1, fun i hi => by obtain ⟨h1, a, cap, h2, h3⟩ := h.2 i hi; exact ⟨h1, a, cap, h2, h3.kept fun b k => hb b (mem_flat k)⟩⟩
theorem NEl.push {w : World} {cs : List Value} {M : List Nd} {fs : List (List Nat)} {x : Int} {L : Sps} {F : List Nat} {a : Option Addr} {cap : Nat} (h : NEl w cs M fs) (hcl : cs.length = M.length * 2) (hs : SpF w (.slice a L.length cap) L F) :
    NEl w (cs ++ [.int .i64 x, .slice a L.length cap]) (M ++ [(x, L)]) (fs ++ [F]) := by
  obtain ⟨hf, hc⟩ := h
  refine ⟨by simp [hf], fun i hi => ?_⟩
  by_cases e : i < M.length
  · obtain ⟨h1, a', c', h2, h3⟩ := hc i e
    rw [List.getElem_append_left e]
    refine ⟨(List.getElem?_append_left (by omega)).trans h1, a', c', (List.getElem?_append_left (by omega)).trans h2, ?_⟩
    rw [List.getD_eq_getElem?_getD, List.getElem?_append_left (by omega), ← List.getD_eq_getElem?_getD]
    exact h3
  · obtain rfl : i = M.length := by simp at hi; omega
    rw [List.getElem_append_right (Nat.le_refl _)]
    simp only [Nat.sub_self, List.getElem_cons_zero]
    refine ⟨?_, a, cap, ?_, ?_⟩
    · rw [List.getElem?_append_right (by omega), hcl, Nat.sub_self]; rfl
    · rw [List.getElem?_append_right (by omega), hcl, Nat.add_sub_cancel_left]; rfl
    · rw [List.getD_eq_getElem?_getD, List.getElem?_append_right (by omega), hf, Nat.sub_self]
      exact hs

/-- A row of needs that a call grows; all that it stands on is its own. -/
def NGrow (w : World) (B : Nat) (v : Value) (M : List Nd) (fs : List (List Nat)) : Prop :=
  ∃ cs : List Value, w.ownsRow B 59 2 v M.length cs ∧ NEl w cs M fs ∧ fs.flatten.Nodup ∧ ∀ b ∈ fs.flatten, B ≤ b ∧ b < w.heap.size ∧ v.ownBlock ≠ some b
theorem NGrow.own {w : World} {B : Nat} {v : Value} {M : List Nd} {fs : List (List Nat)} (h : NGrow w B v M fs) : NOwn w B B v M := by
  obtain ⟨cs, ho, he, _, hb⟩ := h
  refine ⟨cs, ho, fun i hi => ?_⟩
  obtain ⟨h1, a, cap, h2, h3⟩ := he.2 i hi
  exact ⟨h1, a, cap, h2, h3.x fun b k => by obtain ⟨k1, _, k2⟩ := hb b (mem_flat k); exact ⟨k1, k2⟩⟩
theorem NGrow.below {w w' : World} {B : Nat} {v : Value} {M : List Nd} {fs : List (List Nat)} (h : NGrow w B v M fs) (hb : Below w.heap.size w w') : NGrow w' B v M fs := by
  obtain ⟨cs, ⟨hl, ho⟩, he, hn, hi⟩ := h
  refine ⟨cs, ⟨hl, ?_⟩, he.kept fun b k => hb.block b (hi b k).2.1, hn, fun b k => ⟨(hi b k).1, Nat.lt_of_lt_of_le (hi b k).2.1 hb.size, (hi b k).2.2⟩⟩
  rcases ho with hn | ⟨g, cap, cur, hv, hb', hg, rest⟩
  · exact .inl hn
  · exact .inr ⟨g, cap, cur, hv, hb', (hb.block g (Array.getElem?_eq_some_iff.1 hg).1).trans hg, rest⟩
theorem NGrow.nil (w : World) (B : Nat) : NGrow w B (.slice none 0 0) [] [] := ⟨[], World.ownsRow_nil _ _ _ _, ⟨rfl, fun i hi => absurd hi (by simp)⟩, by simp, by simp⟩
theorem NGrow.made {w V : World} {B : Nat} (hV : V.heap = (w.alloc (.cells #[] 59)).heap) (hB : B ≤ w.heap.size) : NGrow V B (.slice (some ⟨w.heap.size, 0, none⟩) 0 0) [] [] :=
  ⟨[], ⟨rfl, .inr ⟨w.heap.size, 0, #[], rfl, hB, by rw [hV]; exact heap_alloc_new w _, Nat.le_refl _, by unfold maxLen; omega, rfl, rfl⟩⟩, ⟨rfl, fun i hi => absurd hi (by simp)⟩, by simp, by simp⟩

/-- One need more: its spans are newer than Z, all else is elder. -/
theorem NGrow.push {w2 W w3 : World} {B Z g cap ncap : Nat} {x : Int} {L : Sps} {F : List Nat} {na : Option Addr} {v : Value} {M : List Nd} {cs : List Value} {fs : List (List Nat)} (hb : Below w2.heap.size w2 W)
    (he : NEl w2 cs M fs) (hcl : cs.length = M.length * 2) (hnd : fs.flatten.Nodup) (hin : ∀ b ∈ fs.flatten, B ≤ b ∧ b < Z ∧ v.ownBlock ≠ some b) (hv : ∀ k, v.ownBlock = some k → k < Z)
    (hs : SpF w2 (.slice na L.length ncap) L F) (hF : ∀ b ∈ F, Z ≤ b) (hZ : Z ≤ w2.heap.size) (hB : B ≤ Z)
    (hown : w3.ownsRow B 59 2 (.slice (some ⟨g, 0, none⟩) (M.length + 1) cap) (M.length + 1) (cs ++ [.int .i64 x, .slice na L.length ncap])) (hgrow : W.grownBy w3 v.ownBlock) (hat : v.ownBlock = some g ∨ g = W.heap.size) :
    NGrow w3 B (.slice (some ⟨g, 0, none⟩) (M.length + 1) cap) (M ++ [(x, L)]) (fs ++ [F]) := by
  have hall : ∀ b ∈ (fs ++ [F]).flatten, (b ∈ fs.flatten ∨ b ∈ F) := fun b h => by
    rw [List.flatten_append, List.mem_append] at h
    simpa using h
  have h2 : ∀ b ∈ (fs ++ [F]).flatten, B ≤ b ∧ b < w2.heap.size ∧ v.ownBlock ≠ some b := fun b h => by
    rcases hall b h with h | h
    · have := hin b h
      exact ⟨this.1, by omega, this.2.2⟩
    · have h3 := hF b h
      exact ⟨by omega, hs.lt b h, fun e => by have := hv b e; omega⟩
  refine ⟨cs ++ [.int .i64 x, .slice na L.length ncap], by rw [List.length_append]; exact hown, (he.push hcl hs).kept fun b h => ?_, ?_, fun b h => ?_⟩
  · obtain ⟨_, k2, k3⟩ := h2 b h
    exact (hgrow.block b (Nat.lt_of_lt_of_le k2 hb.size) (fun e => k3 e.symm)).trans (hb.block b k2)
  · rw [List.flatten_append, List.nodup_append]
    refine ⟨hnd, by simpa using hs.nodup, fun b h1 c h2 => ?_⟩
    have := (hin b h1).2.1
    have := hF c (by simpa using h2)
    omega
  · obtain ⟨k1, k2, k3⟩ := h2 b h
    refine ⟨k1, Nat.lt_of_lt_of_le k2 (Nat.le_trans hb.size hgrow.size), fun e => ?_⟩
    have e' : some g = some b := e
    injection e' with e'
    rcases hat with h | h
    · exact k3 (h.trans (by rw [e']))
    · have := hb.size
      omega
end Foot
end Go.Proofs.Ytgnjhmmedogcoaa

/- Footprints of rows of releases that a call grows by append, over this seat's translation: all blocks of all needs and spans are different. No condition. -/
namespace Go.Proofs.Ytgnjhmmedogcoaa
open Go.RowKit Go.Sort

namespace Foot
/-- A slice of needs that stands on exactly these blocks. -/
def NdF (w : World) (v : Value) (M : List Nd) (F : List Nat) : Prop :=
  ∃ a cap, v = .slice a M.length cap ∧ ((M = [] ∧ F = []) ∨ ∃ g n C fs, a = some ⟨g, 0, none⟩ ∧ w.heap[g]? = some (.cells C 59 (0, 0)) ∧ C.size = n * 2 ∧ M.length ≤ n ∧ NEl w C.toList M fs ∧ F = g :: fs.flatten)
theorem NdF.kept {w w' : World} {v : Value} {M : List Nd} {F : List Nat} (h : NdF w v M F) (hb : ∀ b ∈ F, w'.heap[b]? = w.heap[b]?) : NdF w' v M F := by
  obtain ⟨a, cap, rfl, h⟩ := h
  refine ⟨a, cap, rfl, ?_⟩
  rcases h with h | ⟨g, n, C, fs, rfl, hg, hc, hn, he, rfl⟩
  · exact .inl h
  · exact .inr ⟨g, n, C, fs, rfl, (hb g (by simp)).trans hg, hc, hn, he.kept fun b k => hb b (List.mem_cons_of_mem _ k), rfl⟩
theorem NEl.lt {w : World} {cs : List Value} {M : List Nd} {fs : List (List Nat)} (h : NEl w cs M fs) : ∀ b ∈ fs.flatten, b < w.heap.size := by
  intro b hb
  obtain ⟨l, hl, hb⟩ := List.mem_flatten.1 hb
  obtain ⟨i, hi, rfl⟩ := List.getElem_of_mem hl
  obtain ⟨_, a, cap, _, hs⟩ := h.2 i (by have := h.1; omega)
  rw [List.getD_eq_getElem?_getD, List.getElem?_eq_getElem hi, Option.getD_some] at hs
  exact hs.lt b hb
theorem NdF.lt {w : World} {v : Value} {M : List Nd} {F : List Nat} (h : NdF w v M F) : ∀ b ∈ F, b < w.heap.size := by
  intro b hb
  obtain ⟨a, cap, rfl, h⟩ := h
  rcases h with ⟨_, rfl⟩ | ⟨g, n, C, fs, rfl, hg, hc, hn, he, rfl⟩
  · simp at hb
  · rcases List.mem_cons.1 hb with rfl | hb
    · exact (Array.getElem?_eq_some_iff.1 hg).1
    · exact he.lt b hb
theorem NdF.at {w : World} {v : Value} {M : List Nd} {F : List Nat} (h : NdF w v M F) : NdAt w w.heap.size v M := by
  obtain ⟨a, cap, rfl, h⟩ := h
  rcases h with ⟨rfl, _⟩ | ⟨g, n, C, fs, rfl, hg, hc, hn, he, rfl⟩
  · exact ⟨a, cap, rfl, .inl rfl⟩
  · refine ⟨_, cap, rfl, .inr ⟨g, 0, rfl, (Array.getElem?_eq_some_iff.1 hg).1, fun i hi => ?_⟩⟩
    obtain ⟨h1, a, c, h2, h3⟩ := he.2 i hi
    rw [Nat.zero_add]
    exact ⟨(cell_of_row w g _ C _ (0, 0) hg).trans (by simpa using h1), a, c, (cell_of_row w g _ C _ (0, 0) hg).trans (by simpa using h2), (h3.x (lo := 0) (x := none) (fun b _ => ⟨Nat.zero_le _, by simp⟩)).at⟩
/-- A row that was grown stands on blocks that are all different. -/
theorem NGrow.foot {w : World} {B : Nat} {v : Value} {M : List Nd} {fs : List (List Nat)} (h : NGrow w B v M fs) : ∃ F, NdF w v M F ∧ F.Nodup ∧ ∀ b ∈ F, B ≤ b := by
  obtain ⟨cs, ⟨hl, ho⟩, he, hn, hi⟩ := h
  rcases ho with ⟨rfl, h0⟩ | ⟨g, cap, cur, rfl, hb, hg, hnc, hcm, hcs, htk⟩
  · obtain rfl : M = [] := List.eq_nil_of_length_eq_zero h0
    exact ⟨[], ⟨none, 0, rfl, .inl ⟨rfl, rfl⟩⟩, by simp, by simp⟩
  · refine ⟨g :: fs.flatten, ⟨_, cap, rfl, .inr ⟨g, cap, cur, fs, rfl, hg, hcs, hnc, ⟨he.1, fun i hk => ?_⟩, rfl⟩⟩, List.nodup_cons.2 ⟨fun k => (hi g k).2.2 rfl, hn⟩, fun b k => ?_⟩
    · obtain ⟨h1, a, c, h2, h3⟩ := he.2 i hk
      rw [← htk, List.getElem?_take, if_pos (by omega)] at h1 h2
      exact ⟨h1, a, c, h2, h3⟩
    · rcases List.mem_cons.1 k with rfl | k
      · exact hb
      · exact (hi b k).1

/-- The seven cells of a release. -/
abbrev relc (x : Rel) (u : Value) : List Value := [.int .i64 x.1, .int .i64 x.2.1.1, .int .i64 x.2.1.2.1, .int .i64 x.2.1.2.2.1, .int .i64 x.2.1.2.2.2, .bool x.2.2.1, u]
/-- The cells of releases, each over its footprint. -/
def REl (w : World) (cs : List Value) (S : List Rel) (fs : List (List Nat)) : Prop :=
  fs.length = S.length ∧ ∀ i (h : i < S.length), ∃ a cap, (∀ j, j < 7 → cs[i * 7 + j]? = (relc S[i] (.slice a S[i].2.2.2.length cap))[j]?) ∧ NdF w (.slice a S[i].2.2.2.length cap) S[i].2.2.2 (fs.getD i [])
theorem REl.kept {w w' : World} {cs : List Value} {S : List Rel} {fs : List (List Nat)} (h : REl w cs S fs) (hb : ∀ b ∈ fs.flatten, w'.heap[b]? = w.heap[b]?) : REl w' cs S fs :=
  ⟨h.1, fun i hi => by obtain ⟨a, cap, h1, h2⟩ := h.2 i hi; exact ⟨a, cap, h1, h2.kept fun b k => hb b (mem_flat k)⟩⟩
theorem REl.push {w : World} {cs : List Value} {S : List Rel} {fs : List (List Nat)} {x : Rel} {F : List Nat} {a : Option Addr} {cap : Nat} (h : REl w cs S fs) (hcl : cs.length = S.length * 7) (hs : NdF w (.slice a x.2.2.2.length cap) x.2.2.2 F) :
    REl w (cs ++ relc x (.slice a x.2.2.2.length cap)) (S ++ [x]) (fs ++ [F]) := by
  obtain ⟨hf, hc⟩ := h
  refine ⟨by simp [hf], fun i hi => ?_⟩
  by_cases e : i < S.length
  · obtain ⟨a', c', h1, h2⟩ := hc i e
    rw [List.getElem_append_left e]
    refine ⟨a', c', fun j hj => (List.getElem?_append_left (by omega)).trans (h1 j hj), ?_⟩
    rw [List.getD_eq_getElem?_getD, List.getElem?_append_left (by omega), ← List.getD_eq_getElem?_getD]
    exact h2
  · obtain rfl : i = S.length := by simp at hi; omega
    rw [List.getElem_append_right (Nat.le_refl _)]
    simp only [Nat.sub_self, List.getElem_cons_zero]
    refine ⟨a, cap, fun j hj => ?_, ?_⟩
    · rw [List.getElem?_append_right (by omega), hcl, Nat.add_sub_cancel_left]
    · rw [List.getD_eq_getElem?_getD, List.getElem?_append_right (by omega), hf, Nat.sub_self]
      exact hs

/-- A row of releases that a call grows; all that it stands on is its own. -/
def RGrow (w : World) (B : Nat) (v : Value) (S : List Rel) (fs : List (List Nat)) : Prop :=
  ∃ cs : List Value, w.ownsRow B 63 7 v S.length cs ∧ REl w cs S fs ∧ fs.flatten.Nodup ∧ ∀ b ∈ fs.flatten, B ≤ b ∧ b < w.heap.size ∧ v.ownBlock ≠ some b
theorem RGrow.below {w w' : World} {B : Nat} {v : Value} {S : List Rel} {fs : List (List Nat)} (h : RGrow w B v S fs) (hb : Below w.heap.size w w') : RGrow w' B v S fs := by
  obtain ⟨cs, ⟨hl, ho⟩, he, hn, hi⟩ := h
  refine ⟨cs, ⟨hl, ?_⟩, he.kept fun b k => hb.block b (hi b k).2.1, hn, fun b k => ⟨(hi b k).1, Nat.lt_of_lt_of_le (hi b k).2.1 hb.size, (hi b k).2.2⟩⟩
  rcases ho with hn | ⟨g, cap, cur, hv, hb', hg, rest⟩
  · exact .inl hn
  · exact .inr ⟨g, cap, cur, hv, hb', (hb.block g (Array.getElem?_eq_some_iff.1 hg).1).trans hg, rest⟩
theorem RGrow.lt {w : World} {B : Nat} {v : Value} {S : List Rel} {fs : List (List Nat)} (h : RGrow w B v S fs) : ∀ k, v.ownBlock = some k → B ≤ k ∧ k < w.heap.size := by
  obtain ⟨cs, h, _⟩ := h
  exact World.ownsRow.lt h
theorem RGrow.nil (w : World) (B : Nat) : RGrow w B (.slice none 0 0) [] [] := ⟨[], World.ownsRow_nil _ _ _ _, ⟨rfl, fun i hi => absurd hi (by simp)⟩, by simp, by simp⟩
theorem RGrow.made {w V : World} {B : Nat} (hV : V.heap = (w.alloc (.cells #[] 63)).heap) (hB : B ≤ w.heap.size) : RGrow V B (.slice (some ⟨w.heap.size, 0, none⟩) 0 0) [] [] :=
  ⟨[], ⟨rfl, .inr ⟨w.heap.size, 0, #[], rfl, hB, by rw [hV]; exact heap_alloc_new w _, Nat.le_refl _, by unfold maxLen; omega, rfl, rfl⟩⟩, ⟨rfl, fun i hi => absurd hi (by simp)⟩, by simp, by simp⟩
theorem RGrow.at {w : World} {B : Nat} {v : Value} {S : List Rel} {fs : List (List Nat)} (h : RGrow w B v S fs) : RlAt w w.heap.size v S := by
  obtain ⟨cs, ⟨hl, ho⟩, he, _⟩ := h
  rcases ho with ⟨rfl, hn⟩ | ⟨g, cap, cur, rfl, hb, hg, hnc, hcm, hcs, htk⟩
  · obtain rfl : S = [] := List.eq_nil_of_length_eq_zero hn
    exact ⟨none, 0, rfl, .inl rfl⟩
  · refine ⟨_, cap, rfl, .inr ⟨g, 0, rfl, (Array.getElem?_eq_some_iff.1 hg).1, fun i hi => ?_⟩⟩
    obtain ⟨a, c, h1, h2⟩ := he.2 i hi
    have k : ∀ j, j < 7 → w.cell? ⟨g, 0 + i * 7 + j, none⟩ = (relc S[i] (.slice a S[i].2.2.2.length c))[j]? := fun j hj => by
      have := h1 j hj
      rw [← htk, List.getElem?_take, if_pos (by omega)] at this
      rw [Nat.zero_add]
      exact (cell_of_row w g _ cur _ (0, 0) hg).trans (by simpa using this)
    exact ⟨⟨k 0 (by omega), k 1 (by omega), k 2 (by omega), k 3 (by omega), k 4 (by omega), k 5 (by omega)⟩, a, c, k 6 (by omega), h2.at⟩

/-- One release more: its needs are newer than Z, all else is elder. -/
theorem RGrow.push {w2 W w3 : World} {B Z g cap ncap : Nat} {x : Rel} {F : List Nat} {na : Option Addr} {v : Value} {S : List Rel} {cs : List Value} {fs : List (List Nat)} (hb : Below w2.heap.size w2 W)
    (he : REl w2 cs S fs) (hcl : cs.length = S.length * 7) (hnd : fs.flatten.Nodup) (hin : ∀ b ∈ fs.flatten, B ≤ b ∧ b < Z ∧ v.ownBlock ≠ some b) (hv : ∀ k, v.ownBlock = some k → k < Z)
    (hs : NdF w2 (.slice na x.2.2.2.length ncap) x.2.2.2 F) (hFn : F.Nodup) (hF : ∀ b ∈ F, Z ≤ b) (hB : B ≤ Z)
    (hown : w3.ownsRow B 63 7 (.slice (some ⟨g, 0, none⟩) (S.length + 1) cap) (S.length + 1) (cs ++ relc x (.slice na x.2.2.2.length ncap))) (hgrow : W.grownBy w3 v.ownBlock) (hat : v.ownBlock = some g ∨ g = W.heap.size) (hZ : Z ≤ w2.heap.size) :
    RGrow w3 B (.slice (some ⟨g, 0, none⟩) (S.length + 1) cap) (S ++ [x]) (fs ++ [F]) := by
  have hall : ∀ b ∈ (fs ++ [F]).flatten, (b ∈ fs.flatten ∨ b ∈ F) := fun b h => by
    rw [List.flatten_append, List.mem_append] at h
    simpa using h
  have h2 : ∀ b ∈ (fs ++ [F]).flatten, B ≤ b ∧ b < w2.heap.size ∧ v.ownBlock ≠ some b := fun b h => by
    rcases hall b h with h | h
    · have := hin b h
      exact ⟨this.1, by omega, this.2.2⟩
    · have h3 := hF b h
      exact ⟨by omega, hs.lt b h, fun e => by have := hv b e; omega⟩
  refine ⟨cs ++ relc x (.slice na x.2.2.2.length ncap), by rw [List.length_append]; exact hown, (he.push hcl hs).kept fun b h => ?_, ?_, fun b h => ?_⟩
  · obtain ⟨_, k2, k3⟩ := h2 b h
    exact (hgrow.block b (Nat.lt_of_lt_of_le k2 hb.size) (fun e => k3 e.symm)).trans (hb.block b k2)
  · rw [List.flatten_append, List.nodup_append]
    refine ⟨hnd, by simpa using hFn, fun b h1 c h2 => ?_⟩
    have := (hin b h1).2.1
    have := hF c (by simpa using h2)
    omega
  · obtain ⟨k1, k2, k3⟩ := h2 b h
    refine ⟨k1, Nat.lt_of_lt_of_le k2 (Nat.le_trans hb.size hgrow.size), fun e => ?_⟩
    have e' : some g = some b := e
    injection e' with e'
    rcases hat with h | h
    · exact k3 (h.trans (by rw [e']))
    · have := hb.size
      omega
end Foot
end Go.Proofs.Ytgnjhmmedogcoaa

/- A grown row of releases appended to another, over this seat's translation: what all of it stands on is different still. No condition. -/
namespace Go.Proofs.Ytgnjhmmedogcoaa
open Go.RowKit Go.Sort

namespace Foot
theorem REl.append {w : World} {cs cs2 : List Value} {S S2 : List Rel} {fs fs2 : List (List Nat)} (h : REl w cs S fs) (hcl : cs.length = S.length * 7) (h2 : REl w cs2 S2 fs2) : REl w (cs ++ cs2) (S ++ S2) (fs ++ fs2) := by
  obtain ⟨hf, hc⟩ := h
  obtain ⟨hf2, hc2⟩ := h2
  refine ⟨by simp [hf, hf2], fun i hi => ?_⟩
  by_cases e : i < S.length
  · obtain ⟨a', c', h1, h3⟩ := hc i e
    rw [List.getElem_append_left e]
    refine ⟨a', c', fun j hj => (List.getElem?_append_left (by omega)).trans (h1 j hj), ?_⟩
    rw [List.getD_eq_getElem?_getD, List.getElem?_append_left (by omega), ← List.getD_eq_getElem?_getD]
    exact h3
  · have hi2 : i - S.length < S2.length := by simp at hi; omega
    obtain ⟨a', c', h1, h3⟩ := hc2 (i - S.length) hi2
    rw [List.getElem_append_right (by omega)]
    refine ⟨a', c', fun j hj => (List.getElem?_append_right (by omega)).trans ?_, ?_⟩
    · rw [show i * 7 + j - cs.length = (i - S.length) * 7 + j by omega]
      exact h1 j hj
    · rw [List.getD_eq_getElem?_getD, List.getElem?_append_right (by omega), hf, ← List.getD_eq_getElem?_getD]
      exact h3
/-- The cells of a grown row, for an append of all of it. -/
theorem own_news {w : World} {B g n cap : Nat} {cs : List Value} (ho : w.ownsRow B 63 7 (.slice (some ⟨g, 0, none⟩) n cap) n cs) : ∀ j z, cs[j]? = some z → w.cell? ((⟨g, 0, none⟩ : Addr).add j) = some z := by
  intro j z hz
  have hlt := (List.getElem?_eq_some_iff.1 hz).1
  obtain ⟨hl, ⟨hv, _⟩ | ⟨g', cap', cur, e, hb, hg, hnc, hcm, hcs, htk⟩⟩ := ho
  · cases hv
  · simp only [Value.slice.injEq, Option.some.injEq, Addr.mk.injEq, and_true] at e
    obtain ⟨rfl, _, rfl⟩ := e
    have hadd : (⟨g, 0, none⟩ : Addr).add j = ⟨g, j, none⟩ := by unfold Addr.add; split <;> simp_all
    rw [hadd, cell_of_row w g j cur _ (0, 0) hg]
    rw [← htk, List.getElem?_take, if_pos (by omega)] at hz
    simpa using hz
theorem REl.one {w : World} {cs : List Value} {S : List Rel} {fs : List (List Nat)} (h : REl w cs S fs) (hcl : cs.length = S.length * 7) : ∀ u ∈ cs, u.oneCell' = true := by
  intro u hu
  obtain ⟨j, hj, rfl⟩ := List.getElem_of_mem hu
  obtain ⟨a, c, h1, _⟩ := h.2 (j / 7) (by omega)
  have h7 := h1 (j % 7) (Nat.mod_lt _ (by omega))
  rw [show j / 7 * 7 + j % 7 = j by omega, List.getElem?_eq_getElem hj] at h7
  have : j % 7 = 0 ∨ j % 7 = 1 ∨ j % 7 = 2 ∨ j % 7 = 3 ∨ j % 7 = 4 ∨ j % 7 = 5 ∨ j % 7 = 6 := by omega
  rcases this with e | e | e | e | e | e | e <;> rw [e] at h7 <;> (injection h7 with h7; rw [h7]; rfl)
/-- A row, all of it newer than Z, behind another that is elder. -/
theorem RGrow.join {w2 w3 : World} {B Z g cap : Nat} {v : Value} {S S2 : List Rel} {cs cs2 : List Value} {fs fs2 : List (List Nat)}
    (he : REl w2 cs S fs) (hcl : cs.length = S.length * 7) (hnd : fs.flatten.Nodup) (hin : ∀ b ∈ fs.flatten, B ≤ b ∧ b < Z ∧ v.ownBlock ≠ some b) (hv : ∀ k, v.ownBlock = some k → k < Z)
    (he2 : REl w2 cs2 S2 fs2) (hnd2 : fs2.flatten.Nodup) (hin2 : ∀ b ∈ fs2.flatten, Z ≤ b ∧ b < w2.heap.size) (hB : B ≤ Z)
    (hZ : Z ≤ w2.heap.size) (hown : w3.ownsRow B 63 7 (.slice (some ⟨g, 0, none⟩) (S.length + S2.length) cap) (S.length + S2.length) (cs ++ cs2)) (hgrow : w2.grownBy w3 v.ownBlock) (hat : v.ownBlock = some g ∨ g = w2.heap.size) :
    RGrow w3 B (.slice (some ⟨g, 0, none⟩) (S.length + S2.length) cap) (S ++ S2) (fs ++ fs2) := by
  have h2 : ∀ b ∈ (fs ++ fs2).flatten, B ≤ b ∧ b < w2.heap.size ∧ v.ownBlock ≠ some b := fun b h => by
    rw [List.flatten_append, List.mem_append] at h
    rcases h with h | h
    · have := hin b h
      exact ⟨this.1, by omega, this.2.2⟩
    · have h3 := hin2 b h
      exact ⟨by omega, h3.2, fun e => by have := hv b e; omega⟩
  refine ⟨cs ++ cs2, by rw [List.length_append]; exact hown, (he.append hcl he2).kept fun b h => ?_, ?_, fun b h => ?_⟩
  · obtain ⟨_, k2, k3⟩ := h2 b h
    exact hgrow.block b k2 (fun e => k3 e.symm)
  · rw [List.flatten_append, List.nodup_append]
    refine ⟨hnd, hnd2, fun b h1 c h2 => ?_⟩
    have := (hin b h1).2.1
    have := (hin2 c h2).1
    omega
  · obtain ⟨k1, k2, k3⟩ := h2 b h
    refine ⟨k1, Nat.lt_of_lt_of_le k2 hgrow.size, fun e => ?_⟩
    have e' : some g = some b := e
    injection e' with e'
    rcases hat with h | h
    · exact k3 (h.trans (by rw [e']))
    · omega
/-- The front of a row of releases, and what is left behind it. -/
theorem RlAt_take {w : World} {B k cap cap' : Nat} {a : Option Addr} {S : List Rel} (h : RlAt w B (.slice a S.length cap) S) (hk : k ≤ S.length) : RlAt w B (.slice a k cap') (S.take k) := by
  obtain ⟨a', c', e, h⟩ := h
  simp only [Value.slice.injEq] at e
  obtain ⟨rfl, _, _⟩ := e
  have hl : (S.take k).length = k := by simp; omega
  refine ⟨a, cap', by rw [hl], ?_⟩
  rcases h with rfl | ⟨b, o, e, hB, hc⟩
  · exact .inl (by simp)
  · refine .inr ⟨b, o, e, hB, fun i hi => ?_⟩
    rw [List.getElem_take]
    exact hc i (by omega)
theorem RlAt_drop {w : World} {B k cap cap' b o : Nat} {S : List Rel} (h : RlAt w B (.slice (some ⟨b, o, none⟩) S.length cap) S) (hk : k ≤ S.length) : RlAt w B (.slice (some ⟨b, o + k * 7, none⟩) (S.length - k) cap') (S.drop k) := by
  obtain ⟨a', c', e, h⟩ := h
  simp only [Value.slice.injEq] at e
  obtain ⟨rfl, _, _⟩ := e
  refine ⟨_, cap', by rw [List.length_drop], ?_⟩
  rcases h with rfl | ⟨b', o', e, hB, hc⟩
  · exact .inl (by simp)
  · simp only [Option.some.injEq, Addr.mk.injEq, and_true] at e
    obtain ⟨rfl, rfl⟩ := e
    refine .inr ⟨b, o + k * 7, rfl, hB, fun i hi => ?_⟩
    have hi' : k + i < S.length := by simp at hi; omega
    rw [List.getElem_drop, show o + k * 7 + i * 7 = o + (k + i) * 7 by omega]
    exact hc (k + i) hi'
end Foot
end Go.Proofs.Ytgnjhmmedogcoaa

/- Rows of releases that a call grows by append while their needs stay where they were, over this seat's translation. No condition. -/
namespace Go.Proofs.Ytgnjhmmedogcoaa
open Go.RowKit Go.Sort

namespace Shal
open Foot
/-- The cells of releases, the needs of each on blocks below B. -/
def ShEl (w : World) (B : Nat) (cs : List Value) (S : List Rel) : Prop :=
  ∀ i (h : i < S.length), ∃ a cap, (∀ j, j < 7 → cs[i * 7 + j]? = (relc S[i] (.slice a S[i].2.2.2.length cap))[j]?) ∧ NdAt w B (.slice a S[i].2.2.2.length cap) S[i].2.2.2
theorem ShEl.below {w w' : World} {B : Nat} {cs : List Value} {S : List Rel} (h : ShEl w B cs S) (hb : Below B w w') : ShEl w' B cs S :=
  fun i hi => by obtain ⟨a, c, h1, h2⟩ := h i hi; exact ⟨a, c, h1, h2.below hb⟩
theorem ShEl.mono {w : World} {B B' : Nat} {cs : List Value} {S : List Rel} (h : ShEl w B cs S) (hb : B ≤ B') : ShEl w B' cs S :=
  fun i hi => by obtain ⟨a, c, h1, h2⟩ := h i hi; exact ⟨a, c, h1, h2.mono hb⟩
theorem ShEl.nil (w : World) (B : Nat) (cs : List Value) : ShEl w B cs [] := fun i hi => absurd hi (by simp)
theorem ShEl.append {w : World} {B : Nat} {cs cs2 : List Value} {S S2 : List Rel} (h : ShEl w B cs S) (hcl : cs.length = S.length * 7) (h2 : ShEl w B cs2 S2) : ShEl w B (cs ++ cs2) (S ++ S2) := by
  intro i hi
  by_cases e : i < S.length
  · obtain ⟨a', c', h1, h3⟩ := h i e
    rw [List.getElem_append_left e]
    exact ⟨a', c', fun j hj => (List.getElem?_append_left (by omega)).trans (h1 j hj), h3⟩
  · have hi2 : i - S.length < S2.length := by simp at hi; omega
    obtain ⟨a', c', h1, h3⟩ := h2 (i - S.length) hi2
    rw [List.getElem_append_right (by omega)]
    refine ⟨a', c', fun j hj => (List.getElem?_append_right (by omega)).trans ?_, h3⟩
    rw [show i * 7 + j - cs.length = (i - S.length) * 7 + j by omega]
    exact h1 j hj
theorem ShEl.one {w : World} {B cap : Nat} {x : Rel} {a : Option Addr} (h : NdAt w B (.slice a x.2.2.2.length cap) x.2.2.2) : ShEl w B (relc x (.slice a x.2.2.2.length cap)) [x] := by
  intro i hi
  obtain rfl : i = 0 := by simpa using hi
  exact ⟨a, cap, fun j hj => by rw [Nat.zero_mul, Nat.zero_add]; rfl, h⟩
theorem ShEl.cells {w : World} {B : Nat} {cs : List Value} {S : List Rel} (h : ShEl w B cs S) (hcl : cs.length = S.length * 7) : ∀ u ∈ cs, u.oneCell' = true := by
  intro u hu
  obtain ⟨j, hj, rfl⟩ := List.getElem_of_mem hu
  obtain ⟨a, c, h1, _⟩ := h (j / 7) (by omega)
  have h7 := h1 (j % 7) (Nat.mod_lt _ (by omega))
  rw [show j / 7 * 7 + j % 7 = j by omega, List.getElem?_eq_getElem hj] at h7
  have : j % 7 = 0 ∨ j % 7 = 1 ∨ j % 7 = 2 ∨ j % 7 = 3 ∨ j % 7 = 4 ∨ j % 7 = 5 ∨ j % 7 = 6 := by omega
  rcases this with e | e | e | e | e | e | e <;> rw [e] at h7 <;> (injection h7 with h7; rw [h7]; rfl)
/-- The cells of a row of releases, for an append of all of it. -/
theorem rel_rows {w : World} {B b o : Nat} {S : List Rel} (hc : ∀ i (h : i < S.length), RlC w B b (o + i * 7) S[i]) :
    (rowCells w b o (S.length * 7)).length = S.length * 7 ∧ ShEl w B (rowCells w b o (S.length * 7)) S ∧ ∀ j u, (rowCells w b o (S.length * 7))[j]? = some u → w.cell? ((⟨b, o, none⟩ : Addr).add j) = some u := by
  have hlen : (rowCells w b o (S.length * 7)).length = S.length * 7 := by simp [rowCells]
  have each : ∀ i (h : i < S.length), ∃ a cap, (∀ j, j < 7 → w.cell? ⟨b, o + (i * 7 + j), none⟩ = (relc S[i] (.slice a S[i].2.2.2.length cap))[j]?) ∧ NdAt w B (.slice a S[i].2.2.2.length cap) S[i].2.2.2 := fun i hi => by
    obtain ⟨⟨c0, c1, c2, c3, c4, c5⟩, a, cap, c6, hs⟩ := hc i hi
    refine ⟨a, cap, fun j hj => ?_, hs⟩
    have : j = 0 ∨ j = 1 ∨ j = 2 ∨ j = 3 ∨ j = 4 ∨ j = 5 ∨ j = 6 := by omega
    rcases this with rfl | rfl | rfl | rfl | rfl | rfl | rfl <;> rw [← Nat.add_assoc]
    · exact c0
    · exact c1
    · exact c2
    · exact c3
    · exact c4
    · exact c5
    · exact c6
  have some7 : ∀ (x : Rel) (v : Value) j, j < 7 → ∃ u, (relc x v)[j]? = some u := fun x v j hj => ⟨_, List.getElem?_eq_getElem (by simpa using hj)⟩
  refine ⟨hlen, fun i hi => ?_, fun j u hu => ?_⟩
  · obtain ⟨a, cap, h1, h2⟩ := each i hi
    refine ⟨a, cap, fun j hj => ?_, h2⟩
    obtain ⟨u, hu⟩ := some7 S[i] (.slice a S[i].2.2.2.length cap) j hj
    rw [rowCells_at (by omega), h1 j hj, hu]
    rfl
  · have hj : j < S.length * 7 := by have := (List.getElem?_eq_some_iff.1 hu).1; omega
    have hadd : (⟨b, o, none⟩ : Addr).add j = ⟨b, o + j, none⟩ := by unfold Addr.add; split <;> simp_all
    obtain ⟨a, cap, h1, _⟩ := each (j / 7) (by omega)
    have h7 := h1 (j % 7) (Nat.mod_lt _ (by omega))
    rw [show j / 7 * 7 + j % 7 = j by omega] at h7
    obtain ⟨z, hz⟩ := some7 S[j / 7] (.slice a S[j / 7].2.2.2.length cap) (j % 7) (Nat.mod_lt _ (by omega))
    rw [rowCells_at hj, h7, hz] at hu
    rw [hadd, h7, hz]
    exact hu

/-- A row that a call grows, with needs that are elsewhere. -/
def RSh (w : World) (B : Nat) (v : Value) (S : List Rel) : Prop := ∃ cs, w.ownsRow B 63 7 v S.length cs ∧ ShEl w B cs S
theorem RSh.at {w : World} {B : Nat} {v : Value} {S : List Rel} (h : RSh w B v S) (hB : B ≤ w.heap.size) : RlAt w w.heap.size v S := by
  obtain ⟨cs, ⟨hl, ho⟩, he⟩ := h
  rcases ho with ⟨rfl, hn⟩ | ⟨g, cap, cur, rfl, hb, hg, hnc, hcm, hcs, htk⟩
  · obtain rfl : S = [] := List.eq_nil_of_length_eq_zero hn
    exact ⟨none, 0, rfl, .inl rfl⟩
  · refine ⟨_, cap, rfl, .inr ⟨g, 0, rfl, (Array.getElem?_eq_some_iff.1 hg).1, fun i hi => ?_⟩⟩
    obtain ⟨a, c, h1, h2⟩ := he i hi
    have k : ∀ j, j < 7 → w.cell? ⟨g, 0 + i * 7 + j, none⟩ = (relc S[i] (.slice a S[i].2.2.2.length c))[j]? := fun j hj => by
      have := h1 j hj
      rw [← htk, List.getElem?_take, if_pos (by omega)] at this
      rw [Nat.zero_add]
      exact (cell_of_row w g _ cur _ (0, 0) hg).trans (by simpa using this)
    exact ⟨⟨k 0 (by omega), k 1 (by omega), k 2 (by omega), k 3 (by omega), k 4 (by omega), k 5 (by omega)⟩, a, c, k 6 (by omega), h2.mono hB⟩
theorem RSh.made {w V : World} {B : Nat} (hV : V.heap = (w.alloc (.cells #[] 63)).heap) (hB : B ≤ w.heap.size) : V.ownsRow B 63 7 (.slice (some ⟨w.heap.size, 0, none⟩) 0 0) 0 [] :=
  ⟨rfl, .inr ⟨w.heap.size, 0, #[], rfl, hB, by rw [hV]; exact heap_alloc_new w _, Nat.le_refl _, by unfold maxLen; omega, rfl, rfl⟩⟩
end Shal
end Go.Proofs.Ytgnjhmmedogcoaa
