/- What the model's draw of a choice keeps from round to round, over this seat's translation: a row of picks of its own, a row of needs of its own, the reader. No condition. -/
import Derived.Test.YthbfhalciioehaaDpicks
import Derived.Test.YthbfhalciioehaaNsf
import Derived.Test.YthbfhalciioehaaRfit
namespace Go.Proofs.Ythbfhalciioehaa
open Go.RowKit Go.Sort

namespace Dch
open Foot Dsh Dpk Copy Nup
theorem _root_.Go.Proofs.Ythbfhalciioehaa.SpX.reader {w w' : World} {lo R p : Nat} {x : Option Nat} {v : Value} {L : Sps} (h : SpX w lo x v L) (hr : RdAt w R p) (hg : w.grownBy w' (some R)) : SpX w' lo x v L := by
  obtain ⟨a, cap, rfl, h⟩ := h
  refine ⟨a, cap, rfl, ?_⟩
  rcases h with h | ⟨k, o, e, hB, hx, hc⟩
  · exact .inl h
  · by_cases hL : L = []
    · exact .inl hL
    · have hp : 0 < L.length := List.length_pos_iff.2 hL
      have hne : k ≠ R := fun e => by
        subst e
        obtain ⟨ra, rl, rc, _, _, hb⟩ := hr
        have h0 := (hc 0 hp).1
        have h1 := (hc 0 hp).2
        rw [cell_of_row w k _ _ _ (0, 0) hb] at h0 h1
        have ho : o = 0 ∨ o = 1 ∨ 2 ≤ o := by omega
        rcases ho with rfl | rfl | ho
        · simp at h0
        · simp at h1
        · rw [Array.getElem?_eq_none (by simp; omega)] at h0
          cases h0
      exact .inr ⟨_, o, e, Nat.lt_of_lt_of_le hB hg.size, hx, fun i hi => ⟨(grownCell hg hB hne).trans (hc i hi).1, (grownCell hg hB hne).trans (hc i hi).2⟩⟩
theorem nown_reader {w w' : World} {B lo R p : Nat} {v : Value} {M : List Nd} (h : NOwn w B lo v M) (hr : RdAt w R p) (hR : R < B) (hg : w.grownBy w' (some R)) : NOwn w' B lo v M := by
  obtain ⟨cs, ho, hc⟩ := h
  refine ⟨cs, World.ownsRow.kept ho hg (.inr fun e => by have := (World.ownsRow.lt ho) R e; omega), fun i hi => ?_⟩
  obtain ⟨h1, a, cap, h2, h3⟩ := hc i hi
  exact ⟨h1, a, cap, h2, h3.reader hr hg⟩
/-- Rows of picks and of needs never lie on one block. -/
theorem apart {w : World} {B B' n m : Nat} {u v : Value} {cs ds : List Value} (h : w.ownsRow B 98 5 u n cs) (h' : w.ownsRow B' 95 2 v m ds) : ∀ k, u.ownBlock = some k → v.ownBlock = some k → False := by
  intro k hk hk'
  rcases h.2 with ⟨rfl, _⟩ | ⟨g, cap, cur, rfl, _, hg, _⟩
  · cases hk
  · rcases h'.2 with ⟨rfl, _⟩ | ⟨g', cap', cur', rfl, _, hg', _⟩
    · cases hk'
    · have e : some g = some k := hk
      have e' : some g' = some k := hk'
      injection e with e
      injection e' with e'
      subst e
      subst e'
      rw [hg] at hg'
      simp at hg'
structure CB (w : World) (R p r k : Nat) (A : List Pk) (O : List Nd) (cg cc : Nat) (ov : Value) (wr : World) : Prop where
  own : POwn wr w.heap.size (.slice (some ⟨cg, 0, none⟩) A.length cc) A
  cap : A.length ≤ cc
  many : A.length ≤ k
  opn : NOwn wr w.heap.size 0 ov O
  few : O.length ≤ 9 + 9 * k
  spans : ∀ q ∈ O, q.2.length ≤ 41
  rd : ∃ q, p ≤ q ∧ q ≤ p + r ∧ RdAt wr R q
  gr : w.grownBy wr (some R)
variable {w wr w2 : World} {R p r r' k k' q cg cc : Nat} {A : List Pk} {O : List Nd} {ov : Value}
theorem CB.more (h : CB w R p r k A O cg cc ov wr) (hr : r ≤ r') (hk : k ≤ k') : CB w R p r' k' A O cg cc ov wr :=
  ⟨h.own, h.cap, by have := h.many; omega, h.opn, by have := h.few; omega, h.spans, by obtain ⟨q, h1, h2, h3⟩ := h.rd; exact ⟨q, h1, by omega, h3⟩, h.gr⟩
theorem CB.pick (h : CB w R p r k A O cg cc ov wr) (hR : R < w.heap.size) (h0 : RdAt wr R q) (hq1 : p ≤ q) (hq2 : q ≤ p + r) (hr : RdAt w2 R (q + 1)) (hg : wr.grownBy w2 (some R)) : CB w R p (r + 1) k A O cg cc ov w2 :=
  ⟨h.own.drawn hg hR, h.cap, h.many, nown_reader h.opn h0 hR hg, h.few, h.spans, ⟨q + 1, by omega, by omega, hr⟩, grown_trans h.gr hg⟩
theorem CB.below (h : CB w R p r k A O cg cc ov wr) (hR : R < w.heap.size) (hb : Below wr.heap.size wr w2) : CB w R p r k A O cg cc ov w2 := by
  have hz := h.gr.size
  obtain ⟨q, h1, h2, h3⟩ := h.rd
  exact ⟨h.own.below hb, h.cap, h.many, h.opn.below hb, h.few, h.spans, ⟨q, h1, h2, rdAt_below h3 hb (by omega)⟩, grown_below h.gr (hb.mono hz)⟩
/-- A new row of picks, just made, and the needs grown. -/
theorem CB.next {A' : List Pk} {P : List Nd} {g' c' o' oc : Nat} {oa : Option Addr} {w3 w4 : World} (h : CB w R p r k A O cg cc ov wr) (hR : R < w.heap.size) (hb : Below wr.heap.size wr w3) (hA : A'.length = A.length + 1) (hown : POwn w3 wr.heap.size (.slice (some ⟨g', 0, none⟩) A'.length c') A') (hc : A'.length ≤ c')
    (hgrow : w3.grownBy w4 ov.ownBlock) (hO : NOwn w4 w.heap.size 0 (.slice oa o' oc) (O ++ P)) (hP : P.length ≤ 9) (hPs : ∀ q ∈ P, q.2.length ≤ 41) : CB w R p r (k + 1) A' (O ++ P) g' c' (.slice oa o' oc) w4 := by
  have hz := h.gr.size
  have hz3 := hb.size
  obtain ⟨q, h1, h2, h3⟩ := h.rd
  obtain ⟨cs, hopn, _⟩ := h.opn.below hb
  have hlt := World.ownsRow.lt hopn
  have hle : POwn w3 w.heap.size (.slice (some ⟨g', 0, none⟩) A'.length c') A' := by
    refine ⟨hown.1, ?_⟩
    rcases hown.2 with hn | ⟨g, cap, cur, hv, hb', hg, rest⟩
    · exact .inl hn
    · exact .inr ⟨g, cap, cur, hv, by omega, hg, rest⟩
  refine ⟨?_, hc, by have := h.many; omega, hO, by have := h.few; rw [List.length_append]; omega, fun q hq => ?_, ⟨q, h1, by omega, ?_⟩, ?_⟩
  · refine World.ownsRow.kept hle hgrow ?_
    right
    intro e
    exact apart hle hopn g' rfl (e ▸ rfl)
  · rcases List.mem_append.1 hq with hq | hq
    · exact h.spans q hq
    · exact hPs q hq
  · exact rdAt_kept (rdAt_below h3 hb (by omega)) fun j hj => hgrow.block j (by omega) (fun e => by have := hlt j e.symm; omega)
  · have g2 := grown_below h.gr (hb.mono hz)
    exact ⟨hgrow.os.trans g2.os, hgrow.tape.trans g2.tape, hgrow.output.trans g2.output, Nat.le_trans g2.size hgrow.size, fun i hi hne => (hgrow.block i (Nat.lt_of_lt_of_le hi g2.size) (fun e => by have := hlt i e.symm; omega)).trans (g2.block i hi hne)⟩
/-- What the draw hands on. -/
def ChosenDraw (R p : Nat) (w : World) (e : Ending) (w' : World) : Prop :=
  ∃ A v, e = .returned v ∧ POwn w' w.heap.size v A ∧ A.length ≤ 30 ∧ Drawn w R p 30 w'
theorem picks_at {W : World} {B g c : Nat} {A : List Pk} (h : POwn W B (.slice (some ⟨g, 0, none⟩) A.length c) A) : ∀ j u, (pcs A)[j]? = some u → W.cell? ⟨g, j, none⟩ = some u := by
  intro j u hu
  have := World.ownsRow.cells h (g := g) rfl j u hu
  have hadd : (⟨g, 0, none⟩ : Addr).add j = ⟨g, 0 + j, none⟩ := by unfold Addr.add; split <;> simp_all
  rwa [hadd, Nat.zero_add] at this
theorem pcs_take (A : List Pk) (m : Nat) (j : Nat) (u : Value) (h : (pcs (A.take m))[j]? = some u) : (pcs A)[j]? = some u := by
  have e : pcs A = pcs (A.take m) ++ pcs (A.drop m) := by rw [← pcs_append, List.take_append_drop]
  rw [e, List.getElem?_append_left (List.getElem?_eq_some_iff.1 h).1]
  exact h
theorem pcs_drop (A : List Pk) (m : Nat) (hm : m ≤ A.length) (j : Nat) (u : Value) (h : (pcs (A.drop m))[j]? = some u) : (pcs A)[m * 5 + j]? = some u := by
  have e : pcs A = pcs (A.take m) ++ pcs (A.drop m) := by rw [← pcs_append, List.take_append_drop]
  have hl : (pcs (A.take m)).length = m * 5 := by rw [pcs_len, List.length_take, Nat.min_eq_left hm]
  rw [e, List.getElem?_append_right (by omega), hl, show m * 5 + j - m * 5 = j by omega]
  exact h
theorem add_at (b o j : Nat) : (⟨b, o, none⟩ : Addr).add j = ⟨b, o + j, none⟩ := by unfold Addr.add; split <;> simp_all
/-- A shelf that stands behind the reader lies below the world in which it stood, wherever it is read later. -/
theorem shelf_low {w w' : World} {B R : Nat} {v : Value} {S : List Rel} {fs : List (List Nat)} (h : RGrow w B v S fs) (hg : w.grownBy w' (some R)) (hR : R < B) : RlAt w' w.heap.size v S := by
  obtain ⟨W, hW⟩ : ∃ W : World, W = { w' with heap := w'.heap.extract 0 w.heap.size } := ⟨_, rfl⟩
  have hz : W.heap.size = w.heap.size := by rw [hW]; have := hg.size; simp; omega
  have hk : ∀ j, j < w.heap.size → W.heap[j]? = w'.heap[j]? := fun j hj => by
    have := hg.size
    rw [hW]
    simp [Array.getElem?_extract]
    omega
  have hb : Below W.heap.size W w' := ⟨by rw [hW], by rw [hW], by rw [hW], by rw [hz]; exact hg.size, fun j hj => (hk j (by omega)).symm⟩
  have g2 : w.grownBy W (some R) := ⟨by rw [hW]; exact hg.os, by rw [hW]; exact hg.tape, by rw [hW]; exact hg.output, by omega, fun i hi hne => (hk i hi).trans (hg.block i hi hne)⟩
  have := (h.drawn g2 hR).at.below hb
  rwa [hz] at this
/-- What fits lies on the shelf. -/
theorem fits_in {S : List Rel} {n : Int} {L : Sps} {z : Int} (h : z ∈ shFits S n L) : ∃ m : Nat, z = (m : Int) ∧ m < S.length := by
  unfold shFits at h
  split at h
  · obtain ⟨m, hm, he, _⟩ := fit_at n L S 0 rfl z h
    exact ⟨m, he, hm⟩
  · simp at h
end Dch
end Go.Proofs.Ythbfhalciioehaa
