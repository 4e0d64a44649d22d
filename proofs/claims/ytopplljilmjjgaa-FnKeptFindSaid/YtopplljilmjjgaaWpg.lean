/- Rows of targets that a program grows, each target's lines and numbers in blocks behind those of the ones before it, over this seat's translation. No condition. -/
import Derived.Test.YtopplljilmjjgaaDtg
namespace Go.Proofs.Ytopplljilmjjgaa
open Go.RowKit Go.Sort

namespace Wpg
open Tg Drm Dtg
/-- The cells of such a row. -/
def TEi (w : World) (B : Nat) (cs : List Value) (S : List Tgt) : Prop :=
  ∃ m : Nat → Nat, (B ≤ m 0 ∧ m S.length ≤ w.heap.size ∧ ∀ i, m i ≤ m (i + 1)) ∧ ∀ i (h : i < S.length), ∃ p a c a' c', (m i ≤ p ∧ p ≤ m (i + 1)) ∧ (cs[i * 4]? = some (.bool S[i].1) ∧ cs[i * 4 + 1]? = some (.string S[i].2.1) ∧ cs[i * 4 + 2]? = some (.slice a S[i].2.2.1.length c) ∧ cs[i * 4 + 3]? = some (.slice a' S[i].2.2.2.length c')) ∧ LnB S[i].2.2.1 (m i) p (.slice a S[i].2.2.1.length c) w ∧ IB S[i].2.2.2 p (m (i + 1)) (.slice a' S[i].2.2.2.length c') w
def TGr (w : World) (B B1 : Nat) (v : Value) (S : List Tgt) : Prop := ∃ cs, w.ownsRow B 79 4 v S.length cs ∧ TEi w B1 cs S
theorem TEi.keep {w w' : World} {B : Nat} {cs : List Value} {S : List Tgt} (h : TEi w B cs S) (hz : w.heap.size ≤ w'.heap.size) (hk : ∀ k, B ≤ k → k < w.heap.size → (∀ C T, w.heap[k]? = some (.cells C T (0, 0)) → T ≠ 79) → w'.heap[k]? = w.heap[k]?) : TEi w' B cs S := by
  obtain ⟨m, hm, h⟩ := h
  refine ⟨m, ⟨hm.1, by omega, hm.2.2⟩, fun i hi => ?_⟩
  obtain ⟨p, a, c, a', c', hp, h1, h2, h3⟩ := h i hi
  have hB : B ≤ m i := Nat.le_trans hm.1 (mono_of hm.2.2 (Nat.zero_le i))
  refine ⟨p, a, c, a', c', hp, h1, ?_, ?_⟩
  · obtain ⟨b1, c1, e1, q⟩ := h2
    refine ⟨b1, c1, e1, ?_⟩
    rcases q with q | ⟨g, n, e2, hb, k1, k2⟩
    · exact .inl q
    · refine .inr ⟨g, n, e2, hb.kept (hk g (by omega) hb.lt fun C T hT hne => ?_), k1, by omega⟩
      obtain ⟨⟨C', hC', _⟩, _⟩ := hb
      rw [hC', hne] at hT
      simp at hT
  · obtain ⟨b1, c1, e1, q⟩ := h3
    refine ⟨b1, c1, e1, ?_⟩
    rcases q with q | ⟨g, n, e2, hb, k1, k2⟩
    · exact .inl q
    · refine .inr ⟨g, n, e2, hb.kept (hk g (by omega) hb.lt fun C T hT hne => ?_), k1, by omega⟩
      obtain ⟨C', hC', _⟩ := hb
      rw [hC', hne] at hT
      simp at hT
theorem TGr.tb {w : World} {B B1 : Nat} {v : Value} {S : List Tgt} (h : TGr w B B1 v S) (hBB : B ≤ B1) : TgB S B w.heap.size v w := by
  obtain ⟨cs, ⟨hl, ⟨rfl, hn⟩ | ⟨g, cap, cur, rfl, hb, hg, hnc, hcm, hcs, htk⟩⟩, m, hm, he⟩ := h
  · obtain rfl : S = [] := List.eq_nil_of_length_eq_zero hn
    exact ⟨none, 0, rfl, .inl rfl⟩
  · have hlt := (Array.getElem?_eq_some_iff.1 hg).1
    refine ⟨some ⟨g, 0, none⟩, cap, rfl, .inr ⟨g, cap, rfl, ⟨cur, m, hg, by simpa using hcs, hnc, ⟨by omega, hm.2⟩, fun i hi => ?_⟩, hb, hlt⟩⟩
    obtain ⟨p, a, c, a', c', hp, ⟨h0, h1, h2, h3⟩, h4, h5⟩ := he i hi
    have k : ∀ j z, j < S.length * 4 → cs[j]? = some z → cur[j]? = some z := fun j z hj hz => by
      rw [← htk, List.getElem?_take, if_pos (by omega)] at hz
      simpa using hz
    refine ⟨p, a, c, a', c', hp, ⟨k _ _ (by omega) h0, k _ _ (by omega) h1, k _ _ (by omega) h2, k _ _ (by omega) h3⟩, ?_, ?_⟩
    · obtain ⟨b1, c1, e1, q⟩ := h4
      refine ⟨b1, c1, e1, ?_⟩
      rcases q with q | ⟨g', n, e2, hb', k1, k2⟩
      · exact .inl q
      · refine .inr ⟨g', n, e2, hb', ⟨k1, k2⟩, fun e => ?_⟩
        obtain ⟨⟨C', hC', _⟩, _⟩ := hb'
        rw [e, hg] at hC'
        simp at hC'
    · obtain ⟨b1, c1, e1, q⟩ := h5
      refine ⟨b1, c1, e1, ?_⟩
      rcases q with q | ⟨g', n, e2, hb', k1, k2⟩
      · exact .inl q
      · refine .inr ⟨g', n, e2, hb', ⟨k1, k2⟩, fun e => ?_⟩
        obtain ⟨C', hC', _⟩ := hb'
        rw [e, hg] at hC'
        simp at hC'
/-- An append of one target whose lines and numbers lie in new blocks. -/
theorem TGr.push {w W w5 : World} {B B1 p : Nat} {v v' : Value} {S : List Tgt} {cs : List Value} {m : Bool} {t : ByteArray} {L : List Ln} {N : List Int} {a a' : Option Addr} {c c' : Nat} (ho : w.ownsRow B 79 4 v S.length cs) (he : TEi w B1 cs S)
    (hW : Below w.heap.size w W) (hp : w.heap.size ≤ p ∧ p ≤ W.heap.size) (hL : LnB L w.heap.size p (.slice a L.length c) W) (hN : IB N p W.heap.size (.slice a' N.length c') W)
    (hown : w5.ownsRow B 79 4 v' (S.length + 1) (cs ++ [.bool m, .string t, .slice a L.length c, .slice a' N.length c'])) (hg : W.grownBy w5 v.ownBlock) : TGr w5 B B1 v' (S ++ [(m, t, L, N)]) := by
  have hoW := row_below ho hW
  have own : ∀ k, v.ownBlock = some k → ∃ C, W.heap[k]? = some (.cells C 79 (0, 0)) := fun k hk => by
    rcases hoW.2 with ⟨rfl, _⟩ | ⟨g, cap, cur, rfl, _, hg2, _⟩
    · cases hk
    · have hk' : some g = some k := hk
      injection hk' with hk'
      subst hk'
      exact ⟨cur, hg2⟩
  have heW : TEi W B1 cs S := he.keep hW.size fun k _ k2 _ => hW.block k k2
  have hcl : cs.length = S.length * 4 := by rcases ho with ⟨h, _⟩; omega
  have far : ∀ k, k < W.heap.size → (∀ C T, W.heap[k]? = some (.cells C T (0, 0)) → T ≠ 79) → w5.heap[k]? = W.heap[k]? := fun k k1 k2 => hg.block k k1 (fun e => by
    obtain ⟨C, hC⟩ := own k e.symm
    exact k2 C _ hC rfl)
  have hz5 := hg.size
  have hzW := hW.size
  obtain ⟨m1, hm1, he1⟩ := he
  have he5 : ∀ i (h : i < S.length), ∃ p a c a' c', (m1 i ≤ p ∧ p ≤ m1 (i + 1)) ∧ (cs[i * 4]? = some (.bool S[i].1) ∧ cs[i * 4 + 1]? = some (.string S[i].2.1) ∧ cs[i * 4 + 2]? = some (.slice a S[i].2.2.1.length c) ∧ cs[i * 4 + 3]? = some (.slice a' S[i].2.2.2.length c')) ∧ LnB S[i].2.2.1 (m1 i) p (.slice a S[i].2.2.1.length c) w5 ∧ IB S[i].2.2.2 p (m1 (i + 1)) (.slice a' S[i].2.2.2.length c') w5 := fun i hi => by
    have hmi : m1 (i + 1) ≤ w.heap.size := Nat.le_trans (mono_of hm1.2.2 (show i + 1 ≤ S.length by omega)) hm1.2.1
    obtain ⟨p, a, c, a', c', hp, h1, h2, h3⟩ := he1 i hi
    refine ⟨p, a, c, a', c', hp, h1, ?_, ?_⟩
    · obtain ⟨b1, c1, e1, q⟩ := h2
      refine ⟨b1, c1, e1, ?_⟩
      rcases q with q | ⟨g, n, e2, hb, k1, k2⟩
      · exact .inl q
      · refine .inr ⟨g, n, e2, (hb.below hW).kept (far g (by omega) fun C T hT hne => ?_), k1, k2⟩
        obtain ⟨⟨C', hC', _⟩, _⟩ := hb.below hW
        rw [hC', hne] at hT
        simp at hT
    · obtain ⟨b1, c1, e1, q⟩ := h3
      refine ⟨b1, c1, e1, ?_⟩
      rcases q with q | ⟨g, n, e2, hb, k1, k2⟩
      · exact .inl q
      · have hb' : InBlk W g n S[i].2.2.2 := hb.kept (hW.block g (by omega))
        refine .inr ⟨g, n, e2, hb'.kept (far g (by omega) fun C T hT hne => ?_), k1, k2⟩
        obtain ⟨C', hC', _⟩ := hb'
        rw [hC', hne] at hT
        simp at hT
  have hL5 : LnB L w.heap.size p (.slice a L.length c) w5 := by
    obtain ⟨b1, c1, e1, q⟩ := hL
    refine ⟨b1, c1, e1, ?_⟩
    rcases q with q | ⟨g, n, e2, hb, k1, k2⟩
    · exact .inl q
    · refine .inr ⟨g, n, e2, hb.kept (far g hb.lt fun C T hT hne => ?_), k1, k2⟩
      obtain ⟨⟨C', hC', _⟩, _⟩ := hb
      rw [hC', hne] at hT
      simp at hT
  have hN5 : IB N p w5.heap.size (.slice a' N.length c') w5 := by
    obtain ⟨b1, c1, e1, q⟩ := hN
    refine ⟨b1, c1, e1, ?_⟩
    rcases q with q | ⟨g, n, e2, hb, k1, k2⟩
    · exact .inl q
    · refine .inr ⟨g, n, e2, hb.kept (far g (by omega) fun C T hT hne => ?_), k1, by omega⟩
      obtain ⟨C', hC', _⟩ := hb
      rw [hC', hne] at hT
      simp at hT
  obtain ⟨m2, hm2⟩ : ∃ m2 : Nat → Nat, ∀ i, m2 i = if i ≤ S.length then m1 i else w5.heap.size := ⟨_, fun _ => rfl⟩
  refine ⟨_, by rw [List.length_append]; exact hown, m2, ⟨?_, ?_, ?_⟩, fun i hi => ?_⟩
  · rw [hm2, if_pos (Nat.zero_le _)]
    exact hm1.1
  · simp only [List.length_append, List.length_cons, List.length_nil]
    rw [hm2, if_neg (by omega)]
    exact Nat.le_refl _
  · intro i
    rw [hm2, hm2]
    by_cases e : i + 1 ≤ S.length
    · rw [if_pos (by omega), if_pos e]
      exact hm1.2.2 i
    · by_cases e2 : i ≤ S.length
      · rw [if_pos e2, if_neg e]
        have : m1 i ≤ m1 S.length := mono_of hm1.2.2 e2
        omega
      · rw [if_neg e2, if_neg e]
        exact Nat.le_refl _
  simp only [List.length_append, List.length_cons, List.length_nil] at hi
  by_cases e : i < S.length
  · obtain ⟨p, b, d, b', d', hp, ⟨h0, h1, h2, h3⟩, h4, h5⟩ := he5 i e
    rw [List.getElem_append_left e, hm2, hm2, if_pos (show i ≤ S.length by omega), if_pos (show i + 1 ≤ S.length by omega)]
    exact ⟨p, b, d, b', d', hp, ⟨(List.getElem?_append_left (by omega)).trans h0, (List.getElem?_append_left (by omega)).trans h1, (List.getElem?_append_left (by omega)).trans h2, (List.getElem?_append_left (by omega)).trans h3⟩, h4, h5⟩
  · obtain rfl : i = S.length := by omega
    rw [List.getElem_append_right (Nat.le_refl _), hm2, hm2, if_pos (Nat.le_refl _), if_neg (show ¬ S.length + 1 ≤ S.length by omega)]
    simp only [Nat.sub_self, List.getElem_cons_zero]
    refine ⟨p, a, c, a', c', ⟨by omega, by omega⟩, ⟨?_, ?_, ?_, ?_⟩, lnb_grow hL5 hm1.2.1 (Nat.le_refl _), hN5⟩
    · rw [List.getElem?_append_right (by omega), hcl, Nat.sub_self]; rfl
    · rw [List.getElem?_append_right (by omega), hcl, show S.length * 4 + 1 - S.length * 4 = 1 by omega]; rfl
    · rw [List.getElem?_append_right (by omega), hcl, show S.length * 4 + 2 - S.length * 4 = 2 by omega]; rfl
    · rw [List.getElem?_append_right (by omega), hcl, show S.length * 4 + 3 - S.length * 4 = 3 by omega]; rfl
theorem TGr.below {w w' : World} {B B1 : Nat} {v : Value} {S : List Tgt} (h : TGr w B B1 v S) (hb : Below w.heap.size w w') : TGr w' B B1 v S := by
  obtain ⟨cs, ho, he⟩ := h
  exact ⟨cs, row_below ho hb, he.keep hb.size fun k _ k2 _ => hb.block k k2⟩
theorem tgr_nil (w : World) : TGr w w.heap.size w.heap.size (.slice none 0 0) [] := ⟨[], World.ownsRow_nil _ _ _ _, fun _ => w.heap.size, ⟨Nat.le_refl _, Nat.le_refl _, fun _ => Nat.le_refl _⟩, fun i hi => absurd hi (by simp)⟩
theorem tgr_made (w : World) : TGr (w.alloc (.cells #[] 79)) w.heap.size (w.heap.size + 1) (.slice (some ⟨w.heap.size, 0, none⟩) 0 0) [] := ⟨[], row_made (Nat.le_refl _), fun _ => w.heap.size + 1, ⟨Nat.le_refl _, by simp, fun _ => Nat.le_refl _⟩, fun i hi => absurd hi (by simp)⟩
end Wpg
end Go.Proofs.Ytopplljilmjjgaa
