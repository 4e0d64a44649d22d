/- Rows of terms that a call grows by append, over this seat's translation: their spans lie elsewhere. No condition. -/
import Derived.Test.YtokafkbefllfjaaGf
import Derived.Test.YtokafkbefllfjaaTm
namespace Go.Proofs.Ytokafkbefllfjaa
open Go.RowKit Go.Sort

namespace Tmo
theorem infoTerm : (Try.prog.info? 40).map (fun i => (i.zero, i.size, i.bytes)) = some (some (.agg #[.int .i64 0, .slice none 0 0, .bool false]), 3, 40) := by kernel_rfl
/-- A row of terms that a call grows; their spans lie elsewhere. -/
def TOwn (w : World) (B lo : Nat) (v : Value) (M : List Tm) : Prop :=
  ∃ cs : List Value, w.ownsRow B 40 3 v M.length cs ∧ ∀ i (h : i < M.length), cs[i * 3]? = some (.int .i64 M[i].1) ∧ cs[i * 3 + 2]? = some (.bool M[i].2.2) ∧ ∃ a cap, cs[i * 3 + 1]? = some (.slice a M[i].2.1.length cap) ∧ SpX w lo v.ownBlock (.slice a M[i].2.1.length cap) M[i].2.1
theorem TOwn.lt {w : World} {B lo : Nat} {v : Value} {M : List Tm} (h : TOwn w B lo v M) : ∀ k, v.ownBlock = some k → B ≤ k ∧ k < w.heap.size := by
  obtain ⟨cs, h, _⟩ := h
  exact World.ownsRow.lt h
theorem TOwn.below {w w' : World} {B lo : Nat} {v : Value} {M : List Tm} (h : TOwn w B lo v M) (hb : Below w.heap.size w w') : TOwn w' B lo v M := by
  obtain ⟨cs, ⟨hl, h⟩, hc⟩ := h
  refine ⟨cs, ⟨hl, ?_⟩, fun i hi => ?_⟩
  · rcases h with hn | ⟨g, cap, cur, hv, hb', hg, rest⟩
    · exact .inl hn
    · exact .inr ⟨g, cap, cur, hv, hb', (hb.block g (Array.getElem?_eq_some_iff.1 hg).1).trans hg, rest⟩
  · obtain ⟨h1, h4, a, cap, h2, h3⟩ := hc i hi
    exact ⟨h1, h4, a, cap, h2, h3.below hb⟩
theorem TOwn.at {w : World} {B lo : Nat} {v : Value} {M : List Tm} (h : TOwn w B lo v M) : TmAt w w.heap.size v M := by
  obtain ⟨cs, ⟨hl, h⟩, hc⟩ := h
  rcases h with ⟨rfl, hn⟩ | ⟨g, cap, cur, rfl, hb, hg, hnc, hcm, hcs, htk⟩
  · obtain rfl : M = [] := List.eq_nil_of_length_eq_zero hn
    exact ⟨none, 0, rfl, .inl rfl⟩
  · refine ⟨_, cap, rfl, .inr ⟨g, 0, rfl, (Array.getElem?_eq_some_iff.1 hg).1, fun i hi => ?_⟩⟩
    obtain ⟨h1, h4, a, c, h2, h3⟩ := hc i hi
    rw [← htk, List.getElem?_take, if_pos (by omega)] at h1 h2 h4
    rw [Nat.zero_add]
    exact ⟨(cell_of_row w g _ cur _ (0, 0) hg).trans (by simpa using h1), a, c, (cell_of_row w g _ cur _ (0, 0) hg).trans (by simpa using h2), h3.at, (cell_of_row w g _ cur _ (0, 0) hg).trans (by simpa using h4)⟩
theorem TOwn.nil (w : World) (B lo : Nat) : TOwn w B lo (.slice none 0 0) [] := ⟨[], World.ownsRow_nil _ _ _ _, fun i hi => absurd hi (by simp)⟩
theorem TOwn.made {w V : World} {B lo : Nat} (hV : V.heap = (w.alloc (.cells #[] 40)).heap) (hB : B ≤ w.heap.size) : TOwn V B lo (.slice (some ⟨w.heap.size, 0, none⟩) 0 0) [] := by
  refine ⟨[], ⟨rfl, .inr ⟨w.heap.size, 0, #[], rfl, hB, by rw [hV]; exact heap_alloc_new w _, Nat.le_refl _, by unfold maxLen; omega, rfl, rfl⟩⟩, fun i hi => absurd hi (by simp)⟩

theorem TOwn.drawn {w w' : World} {B lo R : Nat} {v : Value} {M : List Tm} (h : TOwn w B lo v M) (hg : w.grownBy w' (some R)) (hR : R < B) (hl : R < lo) : TOwn w' B lo v M := by
  obtain ⟨cs, ho, hc⟩ := h
  refine ⟨cs, World.ownsRow.kept ho hg (.inr fun e => by have := (World.ownsRow.lt ho) R e; omega), fun i hi => ?_⟩
  obtain ⟨h1, h4, a, cap, h2, h3⟩ := hc i hi
  exact ⟨h1, h4, a, cap, h2, h3.drawn hg hl⟩

/-- What stands behind an append. -/
theorem TOwn.grow {W w' : World} {B lo g cap : Nat} {v : Value} {M P : List Tm} {cs news : List Value} (ho : W.ownsRow B 40 3 v M.length cs)
    (hc : ∀ i (h : i < M.length), cs[i * 3]? = some (.int .i64 M[i].1) ∧ cs[i * 3 + 2]? = some (.bool M[i].2.2) ∧ ∃ a cap, cs[i * 3 + 1]? = some (.slice a M[i].2.1.length cap) ∧ SpX W lo v.ownBlock (.slice a M[i].2.1.length cap) M[i].2.1)
    (hn : ∀ i (h : i < P.length), news[i * 3]? = some (.int .i64 P[i].1) ∧ news[i * 3 + 2]? = some (.bool P[i].2.2) ∧ ∃ a cap, news[i * 3 + 1]? = some (.slice a P[i].2.1.length cap) ∧ SpX W lo v.ownBlock (.slice a P[i].2.1.length cap) P[i].2.1)
    (hown : w'.ownsRow B 40 3 (.slice (some ⟨g, 0, none⟩) (M.length + P.length) cap) (M.length + P.length) (cs ++ news)) (hgrow : W.grownBy w' v.ownBlock) (hat : v.ownBlock = some g ∨ g = W.heap.size) :
    TOwn w' B lo (.slice (some ⟨g, 0, none⟩) (M.length + P.length) cap) (M ++ P) := by
  have hcl : cs.length = M.length * 3 := ho.1
  have mv : ∀ {u : Value} {L : List (Int × Int)}, SpX W lo v.ownBlock u L → SpX w' lo (some g) u L := fun {u L} hx => by
    rcases hat with e | e
    · rw [e] at hx hgrow
      exact hx.grown hgrow
    · rw [e]
      exact hx.moved hgrow
  refine ⟨cs ++ news, by rw [List.length_append]; exact hown, fun i hi => ?_⟩
  by_cases e : i < M.length
  · obtain ⟨h1, h4, a, c, h2, h3⟩ := hc i e
    rw [List.getElem_append_left e]
    exact ⟨(List.getElem?_append_left (by omega)).trans h1, (List.getElem?_append_left (by omega)).trans h4, a, c, (List.getElem?_append_left (by omega)).trans h2, mv h3⟩
  · have hi' : i - M.length < P.length := by simp at hi; omega
    obtain ⟨h1, h4, a, c, h2, h3⟩ := hn (i - M.length) hi'
    rw [List.getElem_append_right (by omega)]
    refine ⟨(List.getElem?_append_right (by omega)).trans ?_, (List.getElem?_append_right (by omega)).trans ?_, a, c, (List.getElem?_append_right (by omega)).trans ?_, mv h3⟩
    · rw [show i * 3 - cs.length = (i - M.length) * 3 by omega]; exact h1
    · rw [show i * 3 + 2 - cs.length = (i - M.length) * 3 + 2 by omega]; exact h4
    · rw [show i * 3 + 1 - cs.length = (i - M.length) * 3 + 1 by omega]; exact h2

/-- The cells of a row of terms, for an append of all of it. -/
def rowCellsT (w : World) (b o n : Nat) : List Value := (List.range n).map fun j => (w.cell? ⟨b, o + j, none⟩).getD undef
theorem rowCellsT_at {w : World} {b o n j : Nat} (h : j < n) : (rowCellsT w b o n)[j]? = some ((w.cell? ⟨b, o + j, none⟩).getD undef) := by simp [rowCellsT, h]

end Tmo
end Go.Proofs.Ytokafkbefllfjaa
