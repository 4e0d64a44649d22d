/- Footprints of rows of releases that a call grows by append, over this seat's translation: all blocks of all needs and spans are different. No condition. -/
import Derived.Test.YtdjnfmekbjmdhaaFoot
import Derived.Test.YtdjnfmekbjmdhaaRto
namespace Go.Proofs.Ytdjnfmekbjmdhaa
open Go.RowKit Go.Sort

namespace Foot
/-- A slice of needs that stands on exactly these blocks. -/
def NdF (w : World) (v : Value) (M : List Nd) (F : List Nat) : Prop :=
  ∃ a cap, v = .slice a M.length cap ∧ ((M = [] ∧ F = []) ∨ ∃ g n C fs, a = some ⟨g, 0, none⟩ ∧ w.heap[g]? = some (.cells C 97 (0, 0)) ∧ C.size = n * 2 ∧ M.length ≤ n ∧ NEl w C.toList M fs ∧ F = g :: fs.flatten)
theorem NdF.kept {w w' : World} {v : Value} {M : List Nd} {F : List Nat} (h : NdF w v M F) (hb : ∀ b ∈ F, w'.heap[b]? = w.heap[b]?) : NdF w' v M F := by
  obtain ⟨a, cap, rfl, h⟩ := h
  refine ⟨a, cap, rfl, ?_⟩
  rcases h with h | ⟨g, n, C, fs, rfl, hg, hc, hn, he, rfl⟩
  · exact .inl h
  · exact .inr ⟨g, n, C, fs, rfl, (hb g (by simp)).trans hg, hc, hn, he.kept fun b k => hb b (List.mem_cons_of_mem _ k), rfl⟩
theorem NEl.lt {w : World} {cs : List Value} {M : List Nd} {fs : List (List Nat)} (h : NEl w cs M fs) : ∀ b ∈ fs.flatten, b < w.heap.size := by
  intro b hb
  obtain ⟨l, hl, hb⟩ := List.mem_flatten.1 hb
  obtain ⟨i, hi, rfl⟩ := List.getElem_of_mem hl
  obtain ⟨_, a, cap, _, hs⟩ := h.2 i (by have := h.1; omega)
  rw [List.getD_eq_getElem?_getD, List.getElem?_eq_getElem hi, Option.getD_some] at hs
  exact hs.lt b hb
theorem NdF.lt {w : World} {v : Value} {M : List Nd} {F : List Nat} (h : NdF w v M F) : ∀ b ∈ F, b < w.heap.size := by
  intro b hb
  obtain ⟨a, cap, rfl, h⟩ := h
  rcases h with ⟨_, rfl⟩ | ⟨g, n, C, fs, rfl, hg, hc, hn, he, rfl⟩
  · simp at hb
  · rcases List.mem_cons.1 hb with rfl | hb
    · exact (Array.getElem?_eq_some_iff.1 hg).1
    · exact he.lt b hb
theorem NdF.at {w : World} {v : Value} {M : List Nd} {F : List Nat} (h : NdF w v M F) : NdAt w w.heap.size v M := by
  obtain ⟨a, cap, rfl, h⟩ := h
  rcases h with ⟨rfl, _⟩ | ⟨g, n, C, fs, rfl, hg, hc, hn, he, rfl⟩
  · exact ⟨a, cap, rfl, .inl rfl⟩
  · refine ⟨_, cap, rfl, .inr ⟨g, 0, rfl, (Array.getElem?_eq_some_iff.1 hg).1, fun i hi => ?_⟩⟩
    obtain ⟨h1, a, c, h2, h3⟩ := he.2 i hi
    rw [Nat.zero_add]
    exact ⟨(cell_of_row w g _ C _ (0, 0) hg).trans (by simpa using h1), a, c, (cell_of_row w g _ C _ (0, 0) hg).trans (by simpa using h2), (h3.x (lo := 0) (x := none) (fun b _ => ⟨Nat.zero_le _, by simp⟩)).at⟩
/-- A row that was grown stands on blocks that are all different. -/
theorem NGrow.foot {w : World} {B : Nat} {v : Value} {M : List Nd} {fs : List (List Nat)} (h : NGrow w B v M fs) : ∃ F, NdF w v M F ∧ F.Nodup ∧ ∀ b ∈ F, B ≤ b := by
  obtain ⟨cs, ⟨hl, ho⟩, he, hn, hi⟩ := h
  rcases ho with ⟨rfl, h0⟩ | ⟨g, cap, cur, rfl, hb, hg, hnc, hcm, hcs, htk⟩
  · obtain rfl : M = [] := List.eq_nil_of_length_eq_zero h0
    exact ⟨[], ⟨none, 0, rfl, .inl ⟨rfl, rfl⟩⟩, by simp, by simp⟩
  · refine ⟨g :: fs.flatten, ⟨_, cap, rfl, .inr ⟨g, cap, cur, fs, rfl, hg, hcs, hnc, ⟨he.1, fun i hk => ?_⟩, rfl⟩⟩, List.nodup_cons.2 ⟨fun k => (hi g k).2.2 rfl, hn⟩, fun b k => ?_⟩
    · obtain ⟨h1, a, c, h2, h3⟩ := he.2 i hk
      rw [← htk, List.getElem?_take, if_pos (by omega)] at h1 h2
      exact ⟨h1, a, c, h2, h3⟩
    · rcases List.mem_cons.1 k with rfl | k
      · exact hb
      · exact (hi b k).1

/-- The seven cells of a release. -/
abbrev relc (x : Rel) (u : Value) : List Value := [.int .i64 x.1, .int .i64 x.2.1.1, .int .i64 x.2.1.2.1, .int .i64 x.2.1.2.2.1, .int .i64 x.2.1.2.2.2, .bool x.2.2.1, u]
/-- The cells of releases, each over its footprint. -/
def REl (w : World) (cs : List Value) (S : List Rel) (fs : List (List Nat)) : Prop :=
  fs.length = S.length ∧ ∀ i (h : i < S.length), ∃ a cap, (∀ j, j < 7 → cs[i * 7 + j]? = (relc S[i] (.slice a S[i].2.2.2.length cap))[j]?) ∧ NdF w (.slice a S[i].2.2.2.length cap) S[i].2.2.2 (fs.getD i [])
theorem REl.kept {w w' : World} {cs : List Value} {S : List Rel} {fs : List (List Nat)} (h : REl w cs S fs) (hb : ∀ b ∈ fs.flatten, w'.heap[b]? = w.heap[b]?) : REl w' cs S fs :=
  ⟨h.1, fun i hi => by obtain ⟨a, cap, h1, h2⟩ := h.2 i hi; exact ⟨a, cap, h1, h2.kept fun b k => hb b (mem_flat k)⟩⟩
theorem REl.push {w : World} {cs : List Value} {S : List Rel} {fs : List (List Nat)} {x : Rel} {F : List Nat} {a : Option Addr} {cap : Nat} (h : REl w cs S fs) (hcl : cs.length = S.length * 7) (hs : NdF w (.slice a x.2.2.2.length cap) x.2.2.2 F) :
    REl w (cs ++ relc x (.slice a x.2.2.2.length cap)) (S ++ [x]) (fs ++ [F]) := by
  obtain ⟨hf, hc⟩ := h
  refine ⟨by simp [hf], fun i hi => ?_⟩
  by_cases e : i < S.length
  · obtain ⟨a', c', h1, h2⟩ := hc i e
    rw [List.getElem_append_left e]
    refine ⟨a', c', fun j hj => (List.getElem?_append_left (by omega)).trans (h1 j hj), ?_⟩
    rw [List.getD_eq_getElem?_getD, List.getElem?_append_left (by omega), ← List.getD_eq_getElem?_getD]
    exact h2
  · obtain rfl : i = S.length := by simp at hi; omega
    rw [List.getElem_append_right (Nat.le_refl _)]
    simp only [Nat.sub_self, List.getElem_cons_zero]
    refine ⟨a, cap, fun j hj => ?_, ?_⟩
    · rw [List.getElem?_append_right (by omega), hcl, Nat.add_sub_cancel_left]
    · rw [List.getD_eq_getElem?_getD, List.getElem?_append_right (by omega), hf, Nat.sub_self]
      exact hs

/-- A row of releases that a call grows; all that it stands on is its own. -/
def RGrow (w : World) (B : Nat) (v : Value) (S : List Rel) (fs : List (List Nat)) : Prop :=
  ∃ cs : List Value, w.ownsRow B 41 7 v S.length cs ∧ REl w cs S fs ∧ fs.flatten.Nodup ∧ ∀ b ∈ fs.flatten, B ≤ b ∧ b < w.heap.size ∧ v.ownBlock ≠ some b
theorem RGrow.below {w w' : World} {B : Nat} {v : Value} {S : List Rel} {fs : List (List Nat)} (h : RGrow w B v S fs) (hb : Below w.heap.size w w') : RGrow w' B v S fs := by
  obtain ⟨cs, ⟨hl, ho⟩, he, hn, hi⟩ := h
  refine ⟨cs, ⟨hl, ?_⟩, he.kept fun b k => hb.block b (hi b k).2.1, hn, fun b k => ⟨(hi b k).1, Nat.lt_of_lt_of_le (hi b k).2.1 hb.size, (hi b k).2.2⟩⟩
  rcases ho with hn | ⟨g, cap, cur, hv, hb', hg, rest⟩
  · exact .inl hn
  · exact .inr ⟨g, cap, cur, hv, hb', (hb.block g (Array.getElem?_eq_some_iff.1 hg).1).trans hg, rest⟩
theorem RGrow.lt {w : World} {B : Nat} {v : Value} {S : List Rel} {fs : List (List Nat)} (h : RGrow w B v S fs) : ∀ k, v.ownBlock = some k → B ≤ k ∧ k < w.heap.size := by
  obtain ⟨cs, h, _⟩ := h
  exact World.ownsRow.lt h
theorem RGrow.nil (w : World) (B : Nat) : RGrow w B (.slice none 0 0) [] [] := ⟨[], World.ownsRow_nil _ _ _ _, ⟨rfl, fun i hi => absurd hi (by simp)⟩, by simp, by simp⟩
theorem RGrow.made {w V : World} {B : Nat} (hV : V.heap = (w.alloc (.cells #[] 41)).heap) (hB : B ≤ w.heap.size) : RGrow V B (.slice (some ⟨w.heap.size, 0, none⟩) 0 0) [] [] :=
  ⟨[], ⟨rfl, .inr ⟨w.heap.size, 0, #[], rfl, hB, by rw [hV]; exact heap_alloc_new w _, Nat.le_refl _, by unfold maxLen; omega, rfl, rfl⟩⟩, ⟨rfl, fun i hi => absurd hi (by simp)⟩, by simp, by simp⟩
theorem RGrow.at {w : World} {B : Nat} {v : Value} {S : List Rel} {fs : List (List Nat)} (h : RGrow w B v S fs) : RlAt w w.heap.size v S := by
  obtain ⟨cs, ⟨hl, ho⟩, he, _⟩ := h
  rcases ho with ⟨rfl, hn⟩ | ⟨g, cap, cur, rfl, hb, hg, hnc, hcm, hcs, htk⟩
  · obtain rfl : S = [] := List.eq_nil_of_length_eq_zero hn
    exact ⟨none, 0, rfl, .inl rfl⟩
  · refine ⟨_, cap, rfl, .inr ⟨g, 0, rfl, (Array.getElem?_eq_some_iff.1 hg).1, fun i hi => ?_⟩⟩
    obtain ⟨a, c, h1, h2⟩ := he.2 i hi
    have k : ∀ j, j < 7 → w.cell? ⟨g, 0 + i * 7 + j, none⟩ = (relc S[i] (.slice a S[i].2.2.2.length c))[j]? := fun j hj => by
      have := h1 j hj
      rw [← htk, List.getElem?_take, if_pos (by omega)] at this
      rw [Nat.zero_add]
      exact (cell_of_row w g _ cur _ (0, 0) hg).trans (by simpa using this)
    exact ⟨⟨k 0 (by omega), k 1 (by omega), k 2 (by omega), k 3 (by omega), k 4 (by omega), k 5 (by omega)⟩, a, c, k 6 (by omega), h2.at⟩

/-- One release more: its needs are newer than Z, all else is elder. -/
theorem RGrow.push {w2 W w3 : World} {B Z g cap ncap : Nat} {x : Rel} {F : List Nat} {na : Option Addr} {v : Value} {S : List Rel} {cs : List Value} {fs : List (List Nat)} (hb : Below w2.heap.size w2 W)
    (he : REl w2 cs S fs) (hcl : cs.length = S.length * 7) (hnd : fs.flatten.Nodup) (hin : ∀ b ∈ fs.flatten, B ≤ b ∧ b < Z ∧ v.ownBlock ≠ some b) (hv : ∀ k, v.ownBlock = some k → k < Z)
    (hs : NdF w2 (.slice na x.2.2.2.length ncap) x.2.2.2 F) (hFn : F.Nodup) (hF : ∀ b ∈ F, Z ≤ b) (hB : B ≤ Z)
    (hown : w3.ownsRow B 41 7 (.slice (some ⟨g, 0, none⟩) (S.length + 1) cap) (S.length + 1) (cs ++ relc x (.slice na x.2.2.2.length ncap))) (hgrow : W.grownBy w3 v.ownBlock) (hat : v.ownBlock = some g ∨ g = W.heap.size) (hZ : Z ≤ w2.heap.size) :
    RGrow w3 B (.slice (some ⟨g, 0, none⟩) (S.length + 1) cap) (S ++ [x]) (fs ++ [F]) := by
  have hall : ∀ b ∈ (fs ++ [F]).flatten, (b ∈ fs.flatten ∨ b ∈ F) := fun b h => by
    rw [List.flatten_append, List.mem_append] at h
    simpa using h
  have h2 : ∀ b ∈ (fs ++ [F]).flatten, B ≤ b ∧ b < w2.heap.size ∧ v.ownBlock ≠ some b := fun b h => by
    rcases hall b h with h | h
    · have := hin b h
      exact ⟨this.1, by omega, this.2.2⟩
    · have h3 := hF b h
      exact ⟨by omega, hs.lt b h, fun e => by have := hv b e; omega⟩
  refine ⟨cs ++ relc x (.slice na x.2.2.2.length ncap), by rw [List.length_append]; exact hown, (he.push hcl hs).kept fun b h => ?_, ?_, fun b h => ?_⟩
  · obtain ⟨_, k2, k3⟩ := h2 b h
    exact (hgrow.block b (Nat.lt_of_lt_of_le k2 hb.size) (fun e => k3 e.symm)).trans (hb.block b k2)
  · rw [List.flatten_append, List.nodup_append]
    refine ⟨hnd, by simpa using hFn, fun b h1 c h2 => ?_⟩
    have := (hin b h1).2.1
    have := hF c (by simpa using h2)
    omega
  · obtain ⟨k1, k2, k3⟩ := h2 b h
    refine ⟨k1, Nat.lt_of_lt_of_le k2 (Nat.le_trans hb.size hgrow.size), fun e => ?_⟩
    have e' : some g = some b := e
    injection e' with e'
    rcases hat with h | h
    · exact k3 (h.trans (by rw [e']))
    · have := hb.size
      omega
end Foot
end Go.Proofs.Ytdjnfmekbjmdhaa
