/- Rows of targets that a draw grows, over this seat's translation: what it is for a slice value to be such a row, and what an append does to it. No condition. -/
import Derived.Test.YtopplljilmjjgaaDrm
import Derived.Test.YtopplljilmjjgaaTg
namespace Go.Proofs.Ytopplljilmjjgaa
open Go.RowKit Go.Sort

namespace Dtg
open Tg Drm
theorem LOwn.lb {w : World} {B : Nat} {v : Value} {S : List Ln} (h : LOwn w B v S) : LnB S B w.heap.size v w := by
  obtain ⟨hl, ⟨rfl, hn⟩ | ⟨g, cap, cur, rfl, hb, hg, hnc, hcm, hcs, htk⟩⟩ := h
  · obtain rfl : S = [] := List.eq_nil_of_length_eq_zero hn
    exact ⟨none, 0, rfl, .inl rfl⟩
  · refine ⟨some ⟨g, 0, none⟩, cap, rfl, .inr ⟨g, cap, rfl, ⟨⟨cur, hg, by simpa using hcs⟩, hnc, fun i hi => ?_⟩, hb, (Array.getElem?_eq_some_iff.1 hg).1⟩⟩
    have k : ∀ j z, (lcs S)[j]? = some z → w.cell? ⟨g, j, none⟩ = some z := fun j z hz => by
      have hj := (List.getElem?_eq_some_iff.1 hz).1
      rw [cell_of_row w g j cur _ (0, 0) hg]
      rw [← htk, List.getElem?_take, if_pos (by rw [hl] at hj; exact hj)] at hz
      simpa using hz
    obtain ⟨h0, h1, h2, h3⟩ := lcs_at S i hi
    exact ⟨k _ _ h0, k _ _ h1, k _ _ h2, k _ _ h3⟩
/-- The cells of a row of targets. -/
def TEl (w : World) (B : Nat) (cs : List Value) (S : List Tgt) : Prop :=
  ∀ i (h : i < S.length), ∃ a c a' c', (cs[i * 4]? = some (.bool S[i].1) ∧ cs[i * 4 + 1]? = some (.string S[i].2.1) ∧ cs[i * 4 + 2]? = some (.slice a S[i].2.2.1.length c) ∧ cs[i * 4 + 3]? = some (.slice a' S[i].2.2.2.length c')) ∧ LnB S[i].2.2.1 B w.heap.size (.slice a S[i].2.2.1.length c) w ∧ IB S[i].2.2.2 B w.heap.size (.slice a' S[i].2.2.2.length c') w
/-- A row that is grown by append. -/
def TD (w : World) (B : Nat) (v : Value) (S : List Tgt) : Prop := ∃ cs, w.ownsRow B 79 4 v S.length cs ∧ TEl w B cs S
theorem lnb_grow {L : List Ln} {lo lo' hi hi' : Nat} {v : Value} {w : World} (h : LnB L lo hi v w) (h1 : lo' ≤ lo) (h2 : hi ≤ hi') : LnB L lo' hi' v w := by
  obtain ⟨a, cap, rfl, h⟩ := h
  refine ⟨a, cap, rfl, ?_⟩
  rcases h with h | ⟨b, n, rfl, hk, k1, k2⟩
  · exact .inl h
  · exact .inr ⟨b, n, rfl, hk, by omega, by omega⟩
theorem ib_grow {L : List Int} {lo lo' hi hi' : Nat} {v : Value} {w : World} (h : IB L lo hi v w) (h1 : lo' ≤ lo) (h2 : hi ≤ hi') : IB L lo' hi' v w := by
  obtain ⟨a, cap, rfl, h⟩ := h
  refine ⟨a, cap, rfl, ?_⟩
  rcases h with h | ⟨b, n, rfl, hk, k1, k2⟩
  · exact .inl h
  · exact .inr ⟨b, n, rfl, hk, by omega, by omega⟩
theorem TEl.keep {w w' : World} {B : Nat} {cs : List Value} {S : List Tgt} (h : TEl w B cs S) (hz : w.heap.size ≤ w'.heap.size) (hk : ∀ k, B ≤ k → k < w.heap.size → (∀ C T, w.heap[k]? = some (.cells C T (0, 0)) → T ≠ 79) → w'.heap[k]? = w.heap[k]?) : TEl w' B cs S := fun i hi => by
  obtain ⟨a, c, a', c', h1, h2, h3⟩ := h i hi
  refine ⟨a, c, a', c', h1, ?_, ?_⟩
  · obtain ⟨b1, c1, e1, q⟩ := h2
    refine ⟨b1, c1, e1, ?_⟩
    rcases q with q | ⟨g, n, e2, hb, k1, k2⟩
    · exact .inl q
    · refine .inr ⟨g, n, e2, hb.kept (hk g k1 k2 fun C T hT hne => ?_), k1, by omega⟩
      obtain ⟨⟨C', hC', _⟩, _⟩ := hb
      rw [hC', hne] at hT
      simp at hT
  · obtain ⟨b1, c1, e1, q⟩ := h3
    refine ⟨b1, c1, e1, ?_⟩
    rcases q with q | ⟨g, n, e2, hb, k1, k2⟩
    · exact .inl q
    · refine .inr ⟨g, n, e2, hb.kept (hk g k1 k2 fun C T hT hne => ?_), k1, by omega⟩
      obtain ⟨C', hC', _⟩ := hb
      rw [hC', hne] at hT
      simp at hT
theorem TD.keep {w w' : World} {B : Nat} {v : Value} {S : List Tgt} (h : TD w B v S) (hz : w.heap.size ≤ w'.heap.size) (hk : ∀ k, B ≤ k → k < w.heap.size → w'.heap[k]? = w.heap[k]?) : TD w' B v S := by
  obtain ⟨cs, ho, he⟩ := h
  exact ⟨cs, row_keep ho fun k e => by have := (World.ownsRow.lt ho) k e; exact hk k this.1 this.2, he.keep hz fun k k1 k2 _ => hk k k1 k2⟩
theorem TD.below {w w' : World} {B : Nat} {v : Value} {S : List Tgt} (h : TD w B v S) (hb : Below w.heap.size w w') : TD w' B v S := h.keep hb.size fun k _ k2 => hb.block k k2
theorem TD.drawn {w w' : World} {R p c B : Nat} {v : Value} {S : List Tgt} (h : TD w B v S) (hd : Drawn w R p c w') (hR : R < B) : TD w' B v S := by
  obtain ⟨q, _, _, _, hg⟩ := hd
  exact h.keep hg.size fun k k1 k2 => hg.block k k2 (fun e => by injection e with e; omega)
theorem TD.mono {w : World} {B B' : Nat} {v : Value} {S : List Tgt} (h : TD w B v S) (hB : B' ≤ B) : TD w B' v S := by
  obtain ⟨cs, ⟨h0, ho⟩, he⟩ := h
  refine ⟨cs, ⟨h0, ?_⟩, fun i hi => ?_⟩
  · rcases ho with hn | ⟨g, cap, cur, hv, hb', rest⟩
    · exact .inl hn
    · exact .inr ⟨g, cap, cur, hv, by omega, rest⟩
  · obtain ⟨a, c, a', c', h1, h2, h3⟩ := he i hi
    exact ⟨a, c, a', c', h1, lnb_grow h2 hB (Nat.le_refl _), ib_grow h3 hB (Nat.le_refl _)⟩
theorem TD.at {w : World} {B : Nat} {v : Value} {S : List Tgt} (h : TD w B v S) : TgAt w w.heap.size v S := by
  obtain ⟨cs, ho, he⟩ := h
  by_cases hn : 0 < S.length
  · obtain ⟨g, cap, rfl, hg, hz⟩ := row_cells ho hn
    refine ⟨_, cap, rfl, .inr ⟨g, 0, rfl, hg, fun i hi => ?_⟩⟩
    obtain ⟨a, c, a', c', ⟨h0, h1, h2, h3⟩, h4, h5⟩ := he i hi
    rw [Nat.zero_add]
    exact ⟨⟨hz _ _ h0, hz _ _ h1⟩, a, c, a', c', hz _ _ h2, hz _ _ h3, h4.at, h5.at⟩
  · obtain rfl : S = [] := List.eq_nil_of_length_eq_zero (by omega)
    obtain ⟨a, c, rfl⟩ := row_form ho
    exact ⟨a, c, rfl, .inl rfl⟩
/-- An append of one target whose lines and numbers lie in blocks of their own. -/
theorem TD.push {w W w5 : World} {B : Nat} {v v' : Value} {S : List Tgt} {cs : List Value} {m : Bool} {t : ByteArray} {L : List Ln} {N : List Int} {a a' : Option Addr} {c c' : Nat} (ho : w.ownsRow B 79 4 v S.length cs) (he : TEl w B cs S)
    (hW : Below w.heap.size w W) (hL : LnB L B W.heap.size (.slice a L.length c) W) (hN : IB N B W.heap.size (.slice a' N.length c') W)
    (hown : w5.ownsRow B 79 4 v' (S.length + 1) (cs ++ [.bool m, .string t, .slice a L.length c, .slice a' N.length c'])) (hg : W.grownBy w5 v.ownBlock) : TD w5 B v' (S ++ [(m, t, L, N)]) := by
  have hoW := row_below ho hW
  have own : ∀ k, v.ownBlock = some k → ∃ C, W.heap[k]? = some (.cells C 79 (0, 0)) := fun k hk => by
    rcases hoW.2 with ⟨rfl, _⟩ | ⟨g, cap, cur, rfl, _, hg2, _⟩
    · cases hk
    · have hk' : some g = some k := hk
      injection hk' with hk'
      subst hk'
      exact ⟨cur, hg2⟩
  have heW : TEl W B cs S := he.keep hW.size fun k _ k2 _ => hW.block k k2
  have hcl : cs.length = S.length * 4 := by rcases ho with ⟨h, _⟩; omega
  have far : ∀ k, k < W.heap.size → (∀ C T, W.heap[k]? = some (.cells C T (0, 0)) → T ≠ 79) → w5.heap[k]? = W.heap[k]? := fun k k1 k2 => hg.block k k1 (fun e => by
    obtain ⟨C, hC⟩ := own k e.symm
    exact k2 C _ hC rfl)
  have he5 : TEl w5 B cs S := heW.keep hg.size fun k _ k1 k2 => far k k1 k2
  have hL5 : LnB L B w5.heap.size (.slice a L.length c) w5 := by
    obtain ⟨b1, c1, e1, q⟩ := hL
    refine ⟨b1, c1, e1, ?_⟩
    rcases q with q | ⟨g, n, e2, hb, k1, k2⟩
    · exact .inl q
    · refine .inr ⟨g, n, e2, hb.kept (far g hb.lt fun C T hT hne => ?_), k1, by have := hg.size; omega⟩
      obtain ⟨⟨C', hC', _⟩, _⟩ := hb
      rw [hC', hne] at hT
      simp at hT
  have hN5 : IB N B w5.heap.size (.slice a' N.length c') w5 := by
    obtain ⟨b1, c1, e1, q⟩ := hN
    refine ⟨b1, c1, e1, ?_⟩
    rcases q with q | ⟨g, n, e2, hb, k1, k2⟩
    · exact .inl q
    · refine .inr ⟨g, n, e2, hb.kept (far g hb.lt fun C T hT hne => ?_), k1, by have := hg.size; omega⟩
      obtain ⟨C', hC', _⟩ := hb
      rw [hC', hne] at hT
      simp at hT
  refine ⟨_, by rw [List.length_append]; exact hown, fun i hi => ?_⟩
  simp only [List.length_append, List.length_cons, List.length_nil] at hi
  by_cases e : i < S.length
  · obtain ⟨b, d, b', d', ⟨h0, h1, h2, h3⟩, h4, h5⟩ := he5 i e
    rw [List.getElem_append_left e]
    exact ⟨b, d, b', d', ⟨(List.getElem?_append_left (by omega)).trans h0, (List.getElem?_append_left (by omega)).trans h1, (List.getElem?_append_left (by omega)).trans h2, (List.getElem?_append_left (by omega)).trans h3⟩, h4, h5⟩
  · obtain rfl : i = S.length := by omega
    rw [List.getElem_append_right (Nat.le_refl _)]
    simp only [Nat.sub_self, List.getElem_cons_zero]
    refine ⟨a, c, a', c', ⟨?_, ?_, ?_, ?_⟩, hL5, hN5⟩
    · rw [List.getElem?_append_right (by omega), hcl, Nat.sub_self]; rfl
    · rw [List.getElem?_append_right (by omega), hcl, show S.length * 4 + 1 - S.length * 4 = 1 by omega]; rfl
    · rw [List.getElem?_append_right (by omega), hcl, show S.length * 4 + 2 - S.length * 4 = 2 by omega]; rfl
    · rw [List.getElem?_append_right (by omega), hcl, show S.length * 4 + 3 - S.length * 4 = 3 by omega]; rfl
theorem td_made {w : World} {B : Nat} (hB : B ≤ w.heap.size) : TD (w.alloc (.cells #[] 79)) B (.slice (some ⟨w.heap.size, 0, none⟩) 0 0) [] := ⟨[], row_made hB, fun i hi => absurd hi (by simp)⟩
end Dtg
end Go.Proofs.Ytopplljilmjjgaa
