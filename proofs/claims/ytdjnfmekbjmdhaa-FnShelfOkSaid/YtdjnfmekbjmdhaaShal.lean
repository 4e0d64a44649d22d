/- Rows of releases that a call grows by append while their needs stay where they were, over this seat's translation. No condition. -/
import Derived.Test.YtdjnfmekbjmdhaaRjoin
import Derived.Test.YtdjnfmekbjmdhaaNown
namespace Go.Proofs.Ytdjnfmekbjmdhaa
open Go.RowKit Go.Sort

namespace Shal
open Foot
/-- The cells of releases, the needs of each on blocks below B. -/
def ShEl (w : World) (B : Nat) (cs : List Value) (S : List Rel) : Prop :=
  ∀ i (h : i < S.length), ∃ a cap, (∀ j, j < 7 → cs[i * 7 + j]? = (relc S[i] (.slice a S[i].2.2.2.length cap))[j]?) ∧ NdAt w B (.slice a S[i].2.2.2.length cap) S[i].2.2.2
theorem ShEl.below {w w' : World} {B : Nat} {cs : List Value} {S : List Rel} (h : ShEl w B cs S) (hb : Below B w w') : ShEl w' B cs S :=
  fun i hi => by obtain ⟨a, c, h1, h2⟩ := h i hi; exact ⟨a, c, h1, h2.below hb⟩
theorem ShEl.mono {w : World} {B B' : Nat} {cs : List Value} {S : List Rel} (h : ShEl w B cs S) (hb : B ≤ B') : ShEl w B' cs S :=
  fun i hi => by obtain ⟨a, c, h1, h2⟩ := h i hi; exact ⟨a, c, h1, h2.mono hb⟩
theorem ShEl.nil (w : World) (B : Nat) (cs : List Value) : ShEl w B cs [] := fun i hi => absurd hi (by simp)
theorem ShEl.append {w : World} {B : Nat} {cs cs2 : List Value} {S S2 : List Rel} (h : ShEl w B cs S) (hcl : cs.length = S.length * 7) (h2 : ShEl w B cs2 S2) : ShEl w B (cs ++ cs2) (S ++ S2) := by
  intro i hi
  by_cases e : i < S.length
  · obtain ⟨a', c', h1, h3⟩ := h i e
    rw [List.getElem_append_left e]
    exact ⟨a', c', fun j hj => (List.getElem?_append_left (by omega)).trans (h1 j hj), h3⟩
  · have hi2 : i - S.length < S2.length := by simp at hi; omega
    obtain ⟨a', c', h1, h3⟩ := h2 (i - S.length) hi2
    rw [List.getElem_append_right (by omega)]
    refine ⟨a', c', fun j hj => (List.getElem?_append_right (by omega)).trans ?_, h3⟩
    rw [show i * 7 + j - cs.length = (i - S.length) * 7 + j by omega]
    exact h1 j hj
theorem ShEl.one {w : World} {B cap : Nat} {x : Rel} {a : Option Addr} (h : NdAt w B (.slice a x.2.2.2.length cap) x.2.2.2) : ShEl w B (relc x (.slice a x.2.2.2.length cap)) [x] := by
  intro i hi
  obtain rfl : i = 0 := by simpa using hi
  exact ⟨a, cap, fun j hj => by rw [Nat.zero_mul, Nat.zero_add]; rfl, h⟩
theorem ShEl.cells {w : World} {B : Nat} {cs : List Value} {S : List Rel} (h : ShEl w B cs S) (hcl : cs.length = S.length * 7) : ∀ u ∈ cs, u.oneCell' = true := by
  intro u hu
  obtain ⟨j, hj, rfl⟩ := List.getElem_of_mem hu
  obtain ⟨a, c, h1, _⟩ := h (j / 7) (by omega)
  have h7 := h1 (j % 7) (Nat.mod_lt _ (by omega))
  rw [show j / 7 * 7 + j % 7 = j by omega, List.getElem?_eq_getElem hj] at h7
  have : j % 7 = 0 ∨ j % 7 = 1 ∨ j % 7 = 2 ∨ j % 7 = 3 ∨ j % 7 = 4 ∨ j % 7 = 5 ∨ j % 7 = 6 := by omega
  rcases this with e | e | e | e | e | e | e <;> rw [e] at h7 <;> (injection h7 with h7; rw [h7]; rfl)
/-- The cells of a row of releases, for an append of all of it. -/
theorem rel_rows {w : World} {B b o : Nat} {S : List Rel} (hc : ∀ i (h : i < S.length), RlC w B b (o + i * 7) S[i]) :
    (rowCells w b o (S.length * 7)).length = S.length * 7 ∧ ShEl w B (rowCells w b o (S.length * 7)) S ∧ ∀ j u, (rowCells w b o (S.length * 7))[j]? = some u → w.cell? ((⟨b, o, none⟩ : Addr).add j) = some u := by
  have hlen : (rowCells w b o (S.length * 7)).length = S.length * 7 := by simp [rowCells]
  have each : ∀ i (h : i < S.length), ∃ a cap, (∀ j, j < 7 → w.cell? ⟨b, o + (i * 7 + j), none⟩ = (relc S[i] (.slice a S[i].2.2.2.length cap))[j]?) ∧ NdAt w B (.slice a S[i].2.2.2.length cap) S[i].2.2.2 := fun i hi => by
    obtain ⟨⟨c0, c1, c2, c3, c4, c5⟩, a, cap, c6, hs⟩ := hc i hi
    refine ⟨a, cap, fun j hj => ?_, hs⟩
    have : j = 0 ∨ j = 1 ∨ j = 2 ∨ j = 3 ∨ j = 4 ∨ j = 5 ∨ j = 6 := by omega
    rcases this with rfl | rfl | rfl | rfl | rfl | rfl | rfl <;> rw [← Nat.add_assoc]
    · exact c0
    · exact c1
    · exact c2
    · exact c3
    · exact c4
    · exact c5
    · exact c6
  have some7 : ∀ (x : Rel) (v : Value) j, j < 7 → ∃ u, (relc x v)[j]? = some u := fun x v j hj => ⟨_, List.getElem?_eq_getElem (by simpa using hj)⟩
  refine ⟨hlen, fun i hi => ?_, fun j u hu => ?_⟩
  · obtain ⟨a, cap, h1, h2⟩ := each i hi
    refine ⟨a, cap, fun j hj => ?_, h2⟩
    obtain ⟨u, hu⟩ := some7 S[i] (.slice a S[i].2.2.2.length cap) j hj
    rw [rowCells_at (by omega), h1 j hj, hu]
    rfl
  · have hj : j < S.length * 7 := by have := (List.getElem?_eq_some_iff.1 hu).1; omega
    have hadd : (⟨b, o, none⟩ : Addr).add j = ⟨b, o + j, none⟩ := by unfold Addr.add; split <;> simp_all
    obtain ⟨a, cap, h1, _⟩ := each (j / 7) (by omega)
    have h7 := h1 (j % 7) (Nat.mod_lt _ (by omega))
    rw [show j / 7 * 7 + j % 7 = j by omega] at h7
    obtain ⟨z, hz⟩ := some7 S[j / 7] (.slice a S[j / 7].2.2.2.length cap) (j % 7) (Nat.mod_lt _ (by omega))
    rw [rowCells_at hj, h7, hz] at hu
    rw [hadd, h7, hz]
    exact hu

/-- A row that a call grows, with needs that are elsewhere. -/
def RSh (w : World) (B : Nat) (v : Value) (S : List Rel) : Prop := ∃ cs, w.ownsRow B 41 7 v S.length cs ∧ ShEl w B cs S
theorem RSh.at {w : World} {B : Nat} {v : Value} {S : List Rel} (h : RSh w B v S) (hB : B ≤ w.heap.size) : RlAt w w.heap.size v S := by
  obtain ⟨cs, ⟨hl, ho⟩, he⟩ := h
  rcases ho with ⟨rfl, hn⟩ | ⟨g, cap, cur, rfl, hb, hg, hnc, hcm, hcs, htk⟩
  · obtain rfl : S = [] := List.eq_nil_of_length_eq_zero hn
    exact ⟨none, 0, rfl, .inl rfl⟩
  · refine ⟨_, cap, rfl, .inr ⟨g, 0, rfl, (Array.getElem?_eq_some_iff.1 hg).1, fun i hi => ?_⟩⟩
    obtain ⟨a, c, h1, h2⟩ := he i hi
    have k : ∀ j, j < 7 → w.cell? ⟨g, 0 + i * 7 + j, none⟩ = (relc S[i] (.slice a S[i].2.2.2.length c))[j]? := fun j hj => by
      have := h1 j hj
      rw [← htk, List.getElem?_take, if_pos (by omega)] at this
      rw [Nat.zero_add]
      exact (cell_of_row w g _ cur _ (0, 0) hg).trans (by simpa using this)
    exact ⟨⟨k 0 (by omega), k 1 (by omega), k 2 (by omega), k 3 (by omega), k 4 (by omega), k 5 (by omega)⟩, a, c, k 6 (by omega), h2.mono hB⟩
theorem RSh.made {w V : World} {B : Nat} (hV : V.heap = (w.alloc (.cells #[] 41)).heap) (hB : B ≤ w.heap.size) : V.ownsRow B 41 7 (.slice (some ⟨w.heap.size, 0, none⟩) 0 0) 0 [] :=
  ⟨rfl, .inr ⟨w.heap.size, 0, #[], rfl, hB, by rw [hV]; exact heap_alloc_new w _, Nat.le_refl _, by unfold maxLen; omega, rfl, rfl⟩⟩
end Shal
end Go.Proofs.Ytdjnfmekbjmdhaa
