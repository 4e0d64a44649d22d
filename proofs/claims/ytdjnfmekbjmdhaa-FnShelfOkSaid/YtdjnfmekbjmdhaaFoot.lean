/- Footprints, over this seat's translation: the blocks that a slice of spans, or a row of needs that is grown by append, stands on: all different, so that marks of one do not touch another. No condition. -/
import Derived.Test.YtdjnfmekbjmdhaaNown
namespace Go.Proofs.Ytdjnfmekbjmdhaa
open Go.RowKit Go.Sort

namespace Foot
/-- A slice of spans that stands on exactly these blocks. -/
def SpF (w : World) (v : Value) (L : Sps) (F : List Nat) : Prop :=
  ∃ a cap, v = .slice a L.length cap ∧ ((L = [] ∧ F = []) ∨ ∃ g n, a = some ⟨g, 0, none⟩ ∧ F = [g] ∧ SpBlk w g n L)
theorem SpF.kept {w w' : World} {v : Value} {L : Sps} {F : List Nat} (h : SpF w v L F) (hb : ∀ b ∈ F, w'.heap[b]? = w.heap[b]?) : SpF w' v L F := by
  obtain ⟨a, cap, rfl, h⟩ := h
  refine ⟨a, cap, rfl, ?_⟩
  rcases h with h | ⟨g, n, rfl, rfl, hk⟩
  · exact .inl h
  · exact .inr ⟨g, n, rfl, rfl, hk.kept (hb g (by simp))⟩
theorem SpF.lt {w : World} {v : Value} {L : Sps} {F : List Nat} (h : SpF w v L F) : ∀ b ∈ F, b < w.heap.size := by
  intro b hb
  obtain ⟨a, cap, rfl, h⟩ := h
  rcases h with ⟨_, rfl⟩ | ⟨g, n, rfl, rfl, hk⟩
  · simp at hb
  · obtain rfl : b = g := by simpa using hb
    exact hk.lt
theorem SpF.nodup {w : World} {v : Value} {L : Sps} {F : List Nat} (h : SpF w v L F) : F.Nodup := by
  obtain ⟨a, cap, rfl, h⟩ := h
  rcases h with ⟨_, rfl⟩ | ⟨g, n, rfl, rfl, hk⟩ <;> simp
theorem SpF.of {w : World} {base : Nat} {v : Value} {L : Sps} (h : SRes L base v w) : ∃ F, SpF w v L F ∧ ∀ b ∈ F, base ≤ b := by
  obtain ⟨a, cap, rfl, h⟩ := h
  by_cases hL : L = []
  · exact ⟨[], ⟨a, cap, rfl, .inl ⟨hL, rfl⟩⟩, by simp⟩
  · rcases h with h | ⟨g, n, e, hk, hg⟩
    · exact absurd h hL
    · exact ⟨[g], ⟨a, cap, rfl, .inr ⟨g, n, e, rfl, hk⟩⟩, fun b hb => by obtain rfl : b = g := by simpa using hb
                                                                         exact hg⟩
theorem SpF.x {w : World} {lo : Nat} {x : Option Nat} {v : Value} {L : Sps} {F : List Nat} (h : SpF w v L F) (hx : ∀ b ∈ F, lo ≤ b ∧ x ≠ some b) : SpX w lo x v L := by
  obtain ⟨a, cap, rfl, h⟩ := h
  refine ⟨a, cap, rfl, ?_⟩
  rcases h with ⟨h, _⟩ | ⟨g, n, e, rfl, hk⟩
  · exact .inl h
  · obtain ⟨a', c', e', hc⟩ := hk.at (cap := cap) hk.lt
    simp only [Value.slice.injEq] at e'
    obtain ⟨rfl, _, _⟩ := e'
    rcases hc with hc | ⟨b', o', e2, hb, hc⟩
    · exact .inl hc
    · simp only [Option.some.injEq, Addr.mk.injEq, and_true] at e2
      obtain ⟨rfl, rfl⟩ := e2
      exact .inr ⟨g, 0, e, hk.lt, hx g (by simp), hc⟩

theorem mem_flat {fs : List (List Nat)} {i b : Nat} (h : b ∈ fs.getD i []) : b ∈ fs.flatten := by
  by_cases hi : i < fs.length
  · rw [List.getD_eq_getElem?_getD, List.getElem?_eq_getElem hi, Option.getD_some] at h
    exact List.mem_flatten.2 ⟨_, List.getElem_mem hi, h⟩
  · rw [List.getD_eq_getElem?_getD, List.getElem?_eq_none (by omega)] at h
    simp at h

/-- The cells of needs, each over its footprint. -/
def NEl (w : World) (cs : List Value) (M : List Nd) (fs : List (List Nat)) : Prop :=
  fs.length = M.length ∧ ∀ i (h : i < M.length), cs[i * 2]? = some (.int .i64 M[i].1) ∧ ∃ a cap, cs[i * 2 + 1]? = some (.slice a M[i].2.length cap) ∧ SpF w (.slice a M[i].2.length cap) M[i].2 (fs.getD i [])
theorem NEl.kept {w w' : World} {cs : List Value} {M : List Nd} {fs : List (List Nat)} (h : NEl w cs M fs) (hb : ∀ b ∈ fs.flatten, w'.heap[b]? = w.heap[b]?) : NEl w' cs M fs :=
  ⟨h.1, fun i hi => by obtain ⟨h1, a, cap, h2, h3⟩ := h.2 i hi; exact ⟨h1, a, cap, h2, h3.kept fun b k => hb b (mem_flat k)⟩⟩
theorem NEl.push {w : World} {cs : List Value} {M : List Nd} {fs : List (List Nat)} {x : Int} {L : Sps} {F : List Nat} {a : Option Addr} {cap : Nat} (h : NEl w cs M fs) (hcl : cs.length = M.length * 2) (hs : SpF w (.slice a L.length cap) L F) :
    NEl w (cs ++ [.int .i64 x, .slice a L.length cap]) (M ++ [(x, L)]) (fs ++ [F]) := by
  obtain ⟨hf, hc⟩ := h
  refine ⟨by simp [hf], fun i hi => ?_⟩
  by_cases e : i < M.length
  · obtain ⟨h1, a', c', h2, h3⟩ := hc i e
    rw [List.getElem_append_left e]
    refine ⟨(List.getElem?_append_left (by omega)).trans h1, a', c', (List.getElem?_append_left (by omega)).trans h2, ?_⟩
    rw [List.getD_eq_getElem?_getD, List.getElem?_append_left (by omega), ← List.getD_eq_getElem?_getD]
    exact h3
  · obtain rfl : i = M.length := by simp at hi; omega
    rw [List.getElem_append_right (Nat.le_refl _)]
    simp only [Nat.sub_self, List.getElem_cons_zero]
    refine ⟨?_, a, cap, ?_, ?_⟩
    · rw [List.getElem?_append_right (by omega), hcl, Nat.sub_self]; rfl
    · rw [List.getElem?_append_right (by omega), hcl, Nat.add_sub_cancel_left]; rfl
    · rw [List.getD_eq_getElem?_getD, List.getElem?_append_right (by omega), hf, Nat.sub_self]
      exact hs

/-- A row of needs that a call grows; all that it stands on is its own. -/
def NGrow (w : World) (B : Nat) (v : Value) (M : List Nd) (fs : List (List Nat)) : Prop :=
  ∃ cs : List Value, w.ownsRow B 97 2 v M.length cs ∧ NEl w cs M fs ∧ fs.flatten.Nodup ∧ ∀ b ∈ fs.flatten, B ≤ b ∧ b < w.heap.size ∧ v.ownBlock ≠ some b
theorem NGrow.own {w : World} {B : Nat} {v : Value} {M : List Nd} {fs : List (List Nat)} (h : NGrow w B v M fs) : NOwn w B B v M := by
  obtain ⟨cs, ho, he, _, hb⟩ := h
  refine ⟨cs, ho, fun i hi => ?_⟩
  obtain ⟨h1, a, cap, h2, h3⟩ := he.2 i hi
  exact ⟨h1, a, cap, h2, h3.x fun b k => by obtain ⟨k1, _, k2⟩ := hb b (mem_flat k); exact ⟨k1, k2⟩⟩
theorem NGrow.below {w w' : World} {B : Nat} {v : Value} {M : List Nd} {fs : List (List Nat)} (h : NGrow w B v M fs) (hb : Below w.heap.size w w') : NGrow w' B v M fs := by
  obtain ⟨cs, ⟨hl, ho⟩, he, hn, hi⟩ := h
  refine ⟨cs, ⟨hl, ?_⟩, he.kept fun b k => hb.block b (hi b k).2.1, hn, fun b k => ⟨(hi b k).1, Nat.lt_of_lt_of_le (hi b k).2.1 hb.size, (hi b k).2.2⟩⟩
  rcases ho with hn | ⟨g, cap, cur, hv, hb', hg, rest⟩
  · exact .inl hn
  · exact .inr ⟨g, cap, cur, hv, hb', (hb.block g (Array.getElem?_eq_some_iff.1 hg).1).trans hg, rest⟩
theorem NGrow.nil (w : World) (B : Nat) : NGrow w B (.slice none 0 0) [] [] := ⟨[], World.ownsRow_nil _ _ _ _, ⟨rfl, fun i hi => absurd hi (by simp)⟩, by simp, by simp⟩
theorem NGrow.made {w V : World} {B : Nat} (hV : V.heap = (w.alloc (.cells #[] 97)).heap) (hB : B ≤ w.heap.size) : NGrow V B (.slice (some ⟨w.heap.size, 0, none⟩) 0 0) [] [] :=
  ⟨[], ⟨rfl, .inr ⟨w.heap.size, 0, #[], rfl, hB, by rw [hV]; exact heap_alloc_new w _, Nat.le_refl _, by unfold maxLen; omega, rfl, rfl⟩⟩, ⟨rfl, fun i hi => absurd hi (by simp)⟩, by simp, by simp⟩

/-- One need more: its spans are newer than Z, all else is elder. -/
theorem NGrow.push {w2 W w3 : World} {B Z g cap ncap : Nat} {x : Int} {L : Sps} {F : List Nat} {na : Option Addr} {v : Value} {M : List Nd} {cs : List Value} {fs : List (List Nat)} (hb : Below w2.heap.size w2 W)
    (he : NEl w2 cs M fs) (hcl : cs.length = M.length * 2) (hnd : fs.flatten.Nodup) (hin : ∀ b ∈ fs.flatten, B ≤ b ∧ b < Z ∧ v.ownBlock ≠ some b) (hv : ∀ k, v.ownBlock = some k → k < Z)
    (hs : SpF w2 (.slice na L.length ncap) L F) (hF : ∀ b ∈ F, Z ≤ b) (hZ : Z ≤ w2.heap.size) (hB : B ≤ Z)
    (hown : w3.ownsRow B 97 2 (.slice (some ⟨g, 0, none⟩) (M.length + 1) cap) (M.length + 1) (cs ++ [.int .i64 x, .slice na L.length ncap])) (hgrow : W.grownBy w3 v.ownBlock) (hat : v.ownBlock = some g ∨ g = W.heap.size) :
    NGrow w3 B (.slice (some ⟨g, 0, none⟩) (M.length + 1) cap) (M ++ [(x, L)]) (fs ++ [F]) := by
  have hall : ∀ b ∈ (fs ++ [F]).flatten, (b ∈ fs.flatten ∨ b ∈ F) := fun b h => by
    rw [List.flatten_append, List.mem_append] at h
    simpa using h
  have h2 : ∀ b ∈ (fs ++ [F]).flatten, B ≤ b ∧ b < w2.heap.size ∧ v.ownBlock ≠ some b := fun b h => by
    rcases hall b h with h | h
    · have := hin b h
      exact ⟨this.1, by omega, this.2.2⟩
    · have h3 := hF b h
      exact ⟨by omega, hs.lt b h, fun e => by have := hv b e; omega⟩
  refine ⟨cs ++ [.int .i64 x, .slice na L.length ncap], by rw [List.length_append]; exact hown, (he.push hcl hs).kept fun b h => ?_, ?_, fun b h => ?_⟩
  · obtain ⟨_, k2, k3⟩ := h2 b h
    exact (hgrow.block b (Nat.lt_of_lt_of_le k2 hb.size) (fun e => k3 e.symm)).trans (hb.block b k2)
  · rw [List.flatten_append, List.nodup_append]
    refine ⟨hnd, by simpa using hs.nodup, fun b h1 c h2 => ?_⟩
    have := (hin b h1).2.1
    have := hF c (by simpa using h2)
    omega
  · obtain ⟨k1, k2, k3⟩ := h2 b h
    refine ⟨k1, Nat.lt_of_lt_of_le k2 (Nat.le_trans hb.size hgrow.size), fun e => ?_⟩
    have e' : some g = some b := e
    injection e' with e'
    rcases hat with h | h
    · exact k3 (h.trans (by rw [e']))
    · have := hb.size
      omega
end Foot
end Go.Proofs.Ytdjnfmekbjmdhaa
