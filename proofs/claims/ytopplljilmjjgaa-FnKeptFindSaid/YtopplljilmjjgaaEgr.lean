/- Rows of entries that a program grows, each entry's lines and texts in blocks behind those of the ones before it, over this seat's translation. No condition. -/
import Derived.Test.YtopplljilmjjgaaDtg
import Derived.Test.YtopplljilmjjgaaEnto
namespace Go.Proofs.Ytopplljilmjjgaa
open Go.RowKit Go.Sort

namespace Egr
open En Drm Dtg
theorem ln_ty {w : World} {b n : Nat} {L : List Ln} (h : LnBlk w b n L) : ∃ C T, w.heap[b]? = some (.cells C T (0, 0)) ∧ (T = 99 ∨ T = 9) := by
  obtain ⟨⟨C, hC, _⟩, _⟩ := h
  exact ⟨C, _, hC, .inl rfl⟩
theorem st_ty {w : World} {b n : Nat} {N : List ByteArray} (h : StBlk w b n N) : ∃ C T, w.heap[b]? = some (.cells C T (0, 0)) ∧ (T = 99 ∨ T = 9) := by
  obtain ⟨C, hC, _⟩ := h
  exact ⟨C, _, hC, .inr rfl⟩
/-- A row of another kind, and entries, are kept where a row is grown. -/
theorem own_of {w : World} {B t s n k : Nat} {v : Value} {cs : List Value} (h : w.ownsRow B t s v n cs) (hk : v.ownBlock = some k) : B ≤ k ∧ ∃ C, w.heap[k]? = some (.cells C t (0, 0)) := by
  refine ⟨(World.ownsRow.lt h k hk).1, ?_⟩
  rcases h.2 with ⟨rfl, _⟩ | ⟨g, cap, cur, rfl, _, hg2, _⟩
  · cases hk
  · have hk' : some g = some k := hk
    injection hk' with hk'
    subst hk'
    exact ⟨cur, hg2⟩
theorem grown_far {W w5 : World} {B t s n : Nat} {v : Value} {cs : List Value} (ho : W.ownsRow B t s v n cs) (hg : W.grownBy w5 v.ownBlock) : ∀ k C T, k < W.heap.size → W.heap[k]? = some (.cells C T (0, 0)) → T ≠ t → w5.heap[k]? = W.heap[k]? := fun k C T hk hC hT => hg.block k hk fun e => by
  obtain ⟨_, C', hC'⟩ := own_of ho e.symm
  rw [hC] at hC'
  simp at hC'
  exact hT hC'.2
theorem grown_row {W w5 : World} {B t s n B' t' s' n' : Nat} {v v' : Value} {cs cs' : List Value} (ho : W.ownsRow B t s v n cs) (hg : W.grownBy w5 v.ownBlock) (h : W.ownsRow B' t' s' v' n' cs') (hne : t' ≠ t) : w5.ownsRow B' t' s' v' n' cs' := row_keep h fun k hk => by
  obtain ⟨_, C, hC⟩ := own_of h hk
  exact grown_far ho hg k C _ (Array.getElem?_eq_some_iff.1 hC).1 hC hne
/-- The cells of such a row. -/
def EEi (w : World) (B : Nat) (cs : List Value) (S : List Ent) : Prop :=
  ∃ m : Nat → Nat, (B ≤ m 0 ∧ m S.length ≤ w.heap.size ∧ ∀ i, m i ≤ m (i + 1)) ∧ ∀ i (h : i < S.length), ∃ p a c a' c', (m i ≤ p ∧ p ≤ m (i + 1)) ∧ (cs[i * 4]? = some (.slice a S[i].2.2.1.length c) ∧ cs[i * 4 + 1]? = some (.slice a' S[i].2.2.2.length c') ∧ cs[i * 4 + 2]? = some (.bool S[i].1) ∧ cs[i * 4 + 3]? = some (.string S[i].2.1)) ∧ LnB S[i].2.2.1 (m i) (m (i + 1)) (.slice a S[i].2.2.1.length c) w ∧ Obl.StB S[i].2.2.2 (m i) (m (i + 1)) (.slice a' S[i].2.2.2.length c') w
def EGr (w : World) (B B1 : Nat) (v : Value) (S : List Ent) : Prop := ∃ cs, w.ownsRow B 83 4 v S.length cs ∧ EEi w B1 cs S
theorem EEi.keep {w w' : World} {B : Nat} {cs : List Value} {S : List Ent} (h : EEi w B cs S) (hz : w.heap.size ≤ w'.heap.size) (hk : ∀ k, B ≤ k → k < w.heap.size → (∃ C T, w.heap[k]? = some (.cells C T (0, 0)) ∧ (T = 99 ∨ T = 9)) → w'.heap[k]? = w.heap[k]?) : EEi w' B cs S := by
  obtain ⟨m, hm, h⟩ := h
  refine ⟨m, ⟨hm.1, by omega, hm.2.2⟩, fun i hi => ?_⟩
  obtain ⟨p, a, c, a', c', hp, h1, h2, h3⟩ := h i hi
  have hB : B ≤ m i := Nat.le_trans hm.1 (Tg.mono_of hm.2.2 (Nat.zero_le i))
  refine ⟨p, a, c, a', c', hp, h1, ?_, ?_⟩
  · obtain ⟨b1, c1, e1, q⟩ := h2
    refine ⟨b1, c1, e1, ?_⟩
    rcases q with q | ⟨g, n, e2, hb, k1, k2⟩
    · exact .inl q
    · refine .inr ⟨g, n, e2, hb.kept (hk g (by omega) hb.lt (ln_ty hb)), k1, by omega⟩
  · obtain ⟨b1, c1, e1, q⟩ := h3
    refine ⟨b1, c1, e1, ?_⟩
    rcases q with q | ⟨g, n, e2, hb, k1, k2⟩
    · exact .inl q
    · refine .inr ⟨g, n, e2, hb.kept (hk g (by omega) hb.lt (st_ty hb)), k1, by omega⟩
theorem EGr.tb {w : World} {B B1 : Nat} {v : Value} {S : List Ent} (h : EGr w B B1 v S) (hBB : B ≤ B1) : EnB S B w.heap.size v w := by
  obtain ⟨cs, ⟨hl, ⟨rfl, hn⟩ | ⟨g, cap, cur, rfl, hb, hg, hnc, hcm, hcs, htk⟩⟩, m, hm, he⟩ := h
  · obtain rfl : S = [] := List.eq_nil_of_length_eq_zero hn
    exact ⟨none, 0, rfl, Nat.le_refl _, .inl rfl⟩
  · have hlt := (Array.getElem?_eq_some_iff.1 hg).1
    refine ⟨some ⟨g, 0, none⟩, cap, rfl, hnc, .inr ⟨g, cap, rfl, ⟨cur, m, hg, by simpa using hcs, hnc, ⟨by omega, hm.2⟩, fun i hi => ?_⟩, hb, hlt⟩⟩
    obtain ⟨p, a, c, a', c', hp, ⟨h0, h1, h2, h3⟩, h4, h5⟩ := he i hi
    have k : ∀ j z, j < S.length * 4 → cs[j]? = some z → cur[j]? = some z := fun j z hj hz => by
      rw [← htk, List.getElem?_take, if_pos (by omega)] at hz
      simpa using hz
    refine ⟨p, a, c, a', c', hp, ⟨k _ _ (by omega) h2, k _ _ (by omega) h3, k _ _ (by omega) h0, k _ _ (by omega) h1⟩, ?_, ?_⟩
    · obtain ⟨b1, c1, e1, q⟩ := h4
      refine ⟨b1, c1, e1, ?_⟩
      rcases q with q | ⟨g', n, e2, hb', k1, k2⟩
      · exact .inl q
      · refine .inr ⟨g', n, e2, hb', ⟨k1, k2⟩, fun e => ?_⟩
        obtain ⟨⟨C', hC', _⟩, _⟩ := hb'
        rw [e, hg] at hC'
        simp at hC'
    · obtain ⟨b1, c1, e1, q⟩ := h5
      refine ⟨b1, c1, e1, ?_⟩
      rcases q with q | ⟨g', n, e2, hb', k1, k2⟩
      · exact .inl q
      · refine .inr ⟨g', n, e2, hb', ⟨k1, k2⟩, fun e => ?_⟩
        obtain ⟨C', hC', _⟩ := hb'
        rw [e, hg] at hC'
        simp at hC'
/-- An append of one target whose lines and numbers lie in new blocks. -/
theorem EGr.push {w W w5 : World} {B B1 : Nat} {v v' : Value} {S : List Ent} {cs : List Value} {m : Bool} {t : ByteArray} {L : List Ln} {N : List ByteArray} {a a' : Option Addr} {c c' : Nat} (ho : w.ownsRow B 83 4 v S.length cs) (he : EEi w B1 cs S)
    (hW : Below w.heap.size w W) (hL : LnB L w.heap.size W.heap.size (.slice a L.length c) W) (hN : Obl.StB N w.heap.size W.heap.size (.slice a' N.length c') W)
    (hown : w5.ownsRow B 83 4 v' (S.length + 1) (cs ++ [.slice a L.length c, .slice a' N.length c', .bool m, .string t])) (hg : W.grownBy w5 v.ownBlock) : EGr w5 B B1 v' (S ++ [(m, t, L, N)]) := by
  have hoW := row_below ho hW
  have own : ∀ k, v.ownBlock = some k → ∃ C, W.heap[k]? = some (.cells C 83 (0, 0)) := fun k hk => by
    rcases hoW.2 with ⟨rfl, _⟩ | ⟨g, cap, cur, rfl, _, hg2, _⟩
    · cases hk
    · have hk' : some g = some k := hk
      injection hk' with hk'
      subst hk'
      exact ⟨cur, hg2⟩
  have heW : EEi W B1 cs S := he.keep hW.size fun k _ k2 _ => hW.block k k2
  have hcl : cs.length = S.length * 4 := by rcases ho with ⟨h, _⟩; omega
  have far : ∀ k, k < W.heap.size → (∃ C T, W.heap[k]? = some (.cells C T (0, 0)) ∧ (T = 99 ∨ T = 9)) → w5.heap[k]? = W.heap[k]? := fun k k1 k2 => hg.block k k1 (fun e => by
    obtain ⟨C, hC⟩ := own k e.symm
    obtain ⟨C2, T, hT, hh⟩ := k2
    rw [hC] at hT
    simp at hT
    obtain ⟨_, rfl⟩ := hT
    rcases hh with hh | hh <;> simp at hh)
  have hz5 := hg.size
  have hzW := hW.size
  obtain ⟨m1, hm1, he1⟩ := he
  have he5 : ∀ i (h : i < S.length), ∃ p a c a' c', (m1 i ≤ p ∧ p ≤ m1 (i + 1)) ∧ (cs[i * 4]? = some (.slice a S[i].2.2.1.length c) ∧ cs[i * 4 + 1]? = some (.slice a' S[i].2.2.2.length c') ∧ cs[i * 4 + 2]? = some (.bool S[i].1) ∧ cs[i * 4 + 3]? = some (.string S[i].2.1)) ∧ LnB S[i].2.2.1 (m1 i) (m1 (i + 1)) (.slice a S[i].2.2.1.length c) w5 ∧ Obl.StB S[i].2.2.2 (m1 i) (m1 (i + 1)) (.slice a' S[i].2.2.2.length c') w5 := fun i hi => by
    have hmi : m1 (i + 1) ≤ w.heap.size := Nat.le_trans (Tg.mono_of hm1.2.2 (show i + 1 ≤ S.length by omega)) hm1.2.1
    obtain ⟨p, a, c, a', c', hp, h1, h2, h3⟩ := he1 i hi
    refine ⟨p, a, c, a', c', hp, h1, ?_, ?_⟩
    · obtain ⟨b1, c1, e1, q⟩ := h2
      refine ⟨b1, c1, e1, ?_⟩
      rcases q with q | ⟨g, n, e2, hb, k1, k2⟩
      · exact .inl q
      · refine .inr ⟨g, n, e2, (hb.below hW).kept (far g (by omega) (ln_ty (hb.below hW))), k1, k2⟩
    · obtain ⟨b1, c1, e1, q⟩ := h3
      refine ⟨b1, c1, e1, ?_⟩
      rcases q with q | ⟨g, n, e2, hb, k1, k2⟩
      · exact .inl q
      · have hb' : StBlk W g n S[i].2.2.2 := hb.kept (hW.block g (by omega))
        refine .inr ⟨g, n, e2, hb'.kept (far g (by omega) (st_ty hb')), k1, k2⟩
  have hL5 : LnB L w.heap.size w5.heap.size (.slice a L.length c) w5 := by
    obtain ⟨b1, c1, e1, q⟩ := hL
    refine ⟨b1, c1, e1, ?_⟩
    rcases q with q | ⟨g, n, e2, hb, k1, k2⟩
    · exact .inl q
    · refine .inr ⟨g, n, e2, hb.kept (far g hb.lt (ln_ty hb)), k1, by omega⟩
  have hN5 : Obl.StB N w.heap.size w5.heap.size (.slice a' N.length c') w5 := by
    obtain ⟨b1, c1, e1, q⟩ := hN
    refine ⟨b1, c1, e1, ?_⟩
    rcases q with q | ⟨g, n, e2, hb, k1, k2⟩
    · exact .inl q
    · refine .inr ⟨g, n, e2, hb.kept (far g (by omega) (st_ty hb)), k1, by omega⟩
  obtain ⟨m2, hm2⟩ : ∃ m2 : Nat → Nat, ∀ i, m2 i = if i ≤ S.length then m1 i else w5.heap.size := ⟨_, fun _ => rfl⟩
  refine ⟨_, by rw [List.length_append]; exact hown, m2, ⟨?_, ?_, ?_⟩, fun i hi => ?_⟩
  · rw [hm2, if_pos (Nat.zero_le _)]
    exact hm1.1
  · simp only [List.length_append, List.length_cons, List.length_nil]
    rw [hm2, if_neg (by omega)]
    exact Nat.le_refl _
  · intro i
    rw [hm2, hm2]
    by_cases e : i + 1 ≤ S.length
    · rw [if_pos (by omega), if_pos e]
      exact hm1.2.2 i
    · by_cases e2 : i ≤ S.length
      · rw [if_pos e2, if_neg e]
        have : m1 i ≤ m1 S.length := Tg.mono_of hm1.2.2 e2
        omega
      · rw [if_neg e2, if_neg e]
        exact Nat.le_refl _
  simp only [List.length_append, List.length_cons, List.length_nil] at hi
  by_cases e : i < S.length
  · obtain ⟨p, b, d, b', d', hp, ⟨h0, h1, h2, h3⟩, h4, h5⟩ := he5 i e
    rw [List.getElem_append_left e, hm2, hm2, if_pos (show i ≤ S.length by omega), if_pos (show i + 1 ≤ S.length by omega)]
    exact ⟨p, b, d, b', d', hp, ⟨(List.getElem?_append_left (by omega)).trans h0, (List.getElem?_append_left (by omega)).trans h1, (List.getElem?_append_left (by omega)).trans h2, (List.getElem?_append_left (by omega)).trans h3⟩, h4, h5⟩
  · obtain rfl : i = S.length := by omega
    rw [List.getElem_append_right (Nat.le_refl _), hm2, hm2, if_pos (Nat.le_refl _), if_neg (show ¬ S.length + 1 ≤ S.length by omega)]
    simp only [Nat.sub_self, List.getElem_cons_zero]
    refine ⟨w.heap.size, a, c, a', c', ⟨by omega, by omega⟩, ⟨?_, ?_, ?_, ?_⟩, lnb_grow hL5 hm1.2.1 (Nat.le_refl _), Enn.ob_wide hN5 hm1.2.1 (Nat.le_refl _)⟩
    · rw [List.getElem?_append_right (by omega), hcl, Nat.sub_self]; rfl
    · rw [List.getElem?_append_right (by omega), hcl, show S.length * 4 + 1 - S.length * 4 = 1 by omega]; rfl
    · rw [List.getElem?_append_right (by omega), hcl, show S.length * 4 + 2 - S.length * 4 = 2 by omega]; rfl
    · rw [List.getElem?_append_right (by omega), hcl, show S.length * 4 + 3 - S.length * 4 = 3 by omega]; rfl
theorem EGr.below {w w' : World} {B B1 : Nat} {v : Value} {S : List Ent} (h : EGr w B B1 v S) (hb : Below w.heap.size w w') : EGr w' B B1 v S := by
  obtain ⟨cs, ho, he⟩ := h
  exact ⟨cs, row_below ho hb, he.keep hb.size fun k _ k2 _ => hb.block k k2⟩
theorem egr_nil (w : World) : EGr w w.heap.size w.heap.size (.slice none 0 0) [] := ⟨[], World.ownsRow_nil _ _ _ _, fun _ => w.heap.size, ⟨Nat.le_refl _, Nat.le_refl _, fun _ => Nat.le_refl _⟩, fun i hi => absurd hi (by simp)⟩
theorem egr_made (w : World) : EGr (w.alloc (.cells #[] 83)) w.heap.size (w.heap.size + 1) (.slice (some ⟨w.heap.size, 0, none⟩) 0 0) [] := ⟨[], row_made (Nat.le_refl _), fun _ => w.heap.size + 1, ⟨Nat.le_refl _, by simp, fun _ => Nat.le_refl _⟩, fun i hi => absurd hi (by simp)⟩
theorem EEi.grown {W w5 : World} {B t s n B1 : Nat} {v : Value} {cs ds : List Value} {S : List Ent} (h : EEi W B1 ds S) (ho : W.ownsRow B t s v n cs) (hg : W.grownBy w5 v.ownBlock) (h1 : t ≠ 99) (h2 : t ≠ 9) : EEi w5 B1 ds S :=
  h.keep hg.size fun k _ hk ⟨C, T, hC, hT⟩ => grown_far ho hg k C T hk hC (fun e => by subst e; rcases hT with e | e; exact h1 e; exact h2 e)
theorem EGr.grown {W w5 : World} {B t s n B1 B2 : Nat} {v v' : Value} {cs : List Value} {S : List Ent} (h : EGr W B1 B2 v' S) (ho : W.ownsRow B t s v n cs) (hg : W.grownBy w5 v.ownBlock) (h0 : 83 ≠ t) (h1 : t ≠ 99) (h2 : t ≠ 9) : EGr w5 B1 B2 v' S := by
  obtain ⟨ds, hd, he⟩ := h
  exact ⟨ds, grown_row ho hg hd h0, he.grown ho hg h1 h2⟩
end Egr
end Go.Proofs.Ytopplljilmjjgaa
