/- A grown row of releases appended to another, over this seat's translation: what all of it stands on is different still. No condition. -/
import Derived.Test.YtdjnfmekbjmdhaaFootr
namespace Go.Proofs.Ytdjnfmekbjmdhaa
open Go.RowKit Go.Sort

namespace Foot
theorem REl.append {w : World} {cs cs2 : List Value} {S S2 : List Rel} {fs fs2 : List (List Nat)} (h : REl w cs S fs) (hcl : cs.length = S.length * 7) (h2 : REl w cs2 S2 fs2) : REl w (cs ++ cs2) (S ++ S2) (fs ++ fs2) := by
  obtain ⟨hf, hc⟩ := h
  obtain ⟨hf2, hc2⟩ := h2
  refine ⟨by simp [hf, hf2], fun i hi => ?_⟩
  by_cases e : i < S.length
  · obtain ⟨a', c', h1, h3⟩ := hc i e
    rw [List.getElem_append_left e]
    refine ⟨a', c', fun j hj => (List.getElem?_append_left (by omega)).trans (h1 j hj), ?_⟩
    rw [List.getD_eq_getElem?_getD, List.getElem?_append_left (by omega), ← List.getD_eq_getElem?_getD]
    exact h3
  · have hi2 : i - S.length < S2.length := by simp at hi; omega
    obtain ⟨a', c', h1, h3⟩ := hc2 (i - S.length) hi2
    rw [List.getElem_append_right (by omega)]
    refine ⟨a', c', fun j hj => (List.getElem?_append_right (by omega)).trans ?_, ?_⟩
    · rw [show i * 7 + j - cs.length = (i - S.length) * 7 + j by omega]
      exact h1 j hj
    · rw [List.getD_eq_getElem?_getD, List.getElem?_append_right (by omega), hf, ← List.getD_eq_getElem?_getD]
      exact h3
/-- The cells of a grown row, for an append of all of it. -/
theorem own_news {w : World} {B g n cap : Nat} {cs : List Value} (ho : w.ownsRow B 41 7 (.slice (some ⟨g, 0, none⟩) n cap) n cs) : ∀ j z, cs[j]? = some z → w.cell? ((⟨g, 0, none⟩ : Addr).add j) = some z := by
  intro j z hz
  have hlt := (List.getElem?_eq_some_iff.1 hz).1
  obtain ⟨hl, ⟨hv, _⟩ | ⟨g', cap', cur, e, hb, hg, hnc, hcm, hcs, htk⟩⟩ := ho
  · cases hv
  · simp only [Value.slice.injEq, Option.some.injEq, Addr.mk.injEq, and_true] at e
    obtain ⟨rfl, _, rfl⟩ := e
    have hadd : (⟨g, 0, none⟩ : Addr).add j = ⟨g, j, none⟩ := by unfold Addr.add; split <;> simp_all
    rw [hadd, cell_of_row w g j cur _ (0, 0) hg]
    rw [← htk, List.getElem?_take, if_pos (by omega)] at hz
    simpa using hz
theorem REl.one {w : World} {cs : List Value} {S : List Rel} {fs : List (List Nat)} (h : REl w cs S fs) (hcl : cs.length = S.length * 7) : ∀ u ∈ cs, u.oneCell' = true := by
  intro u hu
  obtain ⟨j, hj, rfl⟩ := List.getElem_of_mem hu
  obtain ⟨a, c, h1, _⟩ := h.2 (j / 7) (by omega)
  have h7 := h1 (j % 7) (Nat.mod_lt _ (by omega))
  rw [show j / 7 * 7 + j % 7 = j by omega, List.getElem?_eq_getElem hj] at h7
  have : j % 7 = 0 ∨ j % 7 = 1 ∨ j % 7 = 2 ∨ j % 7 = 3 ∨ j % 7 = 4 ∨ j % 7 = 5 ∨ j % 7 = 6 := by omega
  rcases this with e | e | e | e | e | e | e <;> rw [e] at h7 <;> (injection h7 with h7; rw [h7]; rfl)
/-- A row, all of it newer than Z, behind another that is elder. -/
theorem RGrow.join {w2 w3 : World} {B Z g cap : Nat} {v : Value} {S S2 : List Rel} {cs cs2 : List Value} {fs fs2 : List (List Nat)}
    (he : REl w2 cs S fs) (hcl : cs.length = S.length * 7) (hnd : fs.flatten.Nodup) (hin : ∀ b ∈ fs.flatten, B ≤ b ∧ b < Z ∧ v.ownBlock ≠ some b) (hv : ∀ k, v.ownBlock = some k → k < Z)
    (he2 : REl w2 cs2 S2 fs2) (hnd2 : fs2.flatten.Nodup) (hin2 : ∀ b ∈ fs2.flatten, Z ≤ b ∧ b < w2.heap.size) (hB : B ≤ Z)
    (hZ : Z ≤ w2.heap.size) (hown : w3.ownsRow B 41 7 (.slice (some ⟨g, 0, none⟩) (S.length + S2.length) cap) (S.length + S2.length) (cs ++ cs2)) (hgrow : w2.grownBy w3 v.ownBlock) (hat : v.ownBlock = some g ∨ g = w2.heap.size) :
    RGrow w3 B (.slice (some ⟨g, 0, none⟩) (S.length + S2.length) cap) (S ++ S2) (fs ++ fs2) := by
  have h2 : ∀ b ∈ (fs ++ fs2).flatten, B ≤ b ∧ b < w2.heap.size ∧ v.ownBlock ≠ some b := fun b h => by
    rw [List.flatten_append, List.mem_append] at h
    rcases h with h | h
    · have := hin b h
      exact ⟨this.1, by omega, this.2.2⟩
    · have h3 := hin2 b h
      exact ⟨by omega, h3.2, fun e => by have := hv b e; omega⟩
  refine ⟨cs ++ cs2, by rw [List.length_append]; exact hown, (he.append hcl he2).kept fun b h => ?_, ?_, fun b h => ?_⟩
  · obtain ⟨_, k2, k3⟩ := h2 b h
    exact hgrow.block b k2 (fun e => k3 e.symm)
  · rw [List.flatten_append, List.nodup_append]
    refine ⟨hnd, hnd2, fun b h1 c h2 => ?_⟩
    have := (hin b h1).2.1
    have := (hin2 c h2).1
    omega
  · obtain ⟨k1, k2, k3⟩ := h2 b h
    refine ⟨k1, Nat.lt_of_lt_of_le k2 hgrow.size, fun e => ?_⟩
    have e' : some g = some b := e
    injection e' with e'
    rcases hat with h | h
    · exact k3 (h.trans (by rw [e']))
    · omega
/-- The front of a row of releases, and what is left behind it. -/
theorem RlAt_take {w : World} {B k cap cap' : Nat} {a : Option Addr} {S : List Rel} (h : RlAt w B (.slice a S.length cap) S) (hk : k ≤ S.length) : RlAt w B (.slice a k cap') (S.take k) := by
  obtain ⟨a', c', e, h⟩ := h
  simp only [Value.slice.injEq] at e
  obtain ⟨rfl, _, _⟩ := e
  have hl : (S.take k).length = k := by simp; omega
  refine ⟨a, cap', by rw [hl], ?_⟩
  rcases h with rfl | ⟨b, o, e, hB, hc⟩
  · exact .inl (by simp)
  · refine .inr ⟨b, o, e, hB, fun i hi => ?_⟩
    rw [List.getElem_take]
    exact hc i (by omega)
theorem RlAt_drop {w : World} {B k cap cap' b o : Nat} {S : List Rel} (h : RlAt w B (.slice (some ⟨b, o, none⟩) S.length cap) S) (hk : k ≤ S.length) : RlAt w B (.slice (some ⟨b, o + k * 7, none⟩) (S.length - k) cap') (S.drop k) := by
  obtain ⟨a', c', e, h⟩ := h
  simp only [Value.slice.injEq] at e
  obtain ⟨rfl, _, _⟩ := e
  refine ⟨_, cap', by rw [List.length_drop], ?_⟩
  rcases h with rfl | ⟨b', o', e, hB, hc⟩
  · exact .inl (by simp)
  · simp only [Option.some.injEq, Addr.mk.injEq, and_true] at e
    obtain ⟨rfl, rfl⟩ := e
    refine .inr ⟨b, o + k * 7, rfl, hB, fun i hi => ?_⟩
    have hi' : k + i < S.length := by simp at hi; omega
    rw [List.getElem_drop, show o + k * 7 + i * 7 = o + (k + i) * 7 by omega]
    exact hc (k + i) hi'
end Foot
end Go.Proofs.Ytdjnfmekbjmdhaa
