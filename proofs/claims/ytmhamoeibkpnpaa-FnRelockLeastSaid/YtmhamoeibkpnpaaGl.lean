/- Groundwork over this seat's translation: Dchf, Dch, Dcr, Dsv in one text; the conditions stand at each part. -/
import Derived.Test.YtmhamoeibkpnpaaDpicks
import Derived.Test.YtmhamoeibkpnpaaNsf
import Derived.Test.YtmhamoeibkpnpaaRfit
import Derived.BigFrame
import Derived.Deep.CutRange
import Derived.Deep.RegionHeld3
import Derived.Test.YtmhamoeibkpnpaaGu
import Derived.Test.YtmhamoeibkpnpaaGe

/- What the model's draw of a choice keeps from round to round, over this seat's translation: a row of picks of its own, a row of needs of its own, the reader. No condition. -/
namespace Go.Proofs.Ytmhamoeibkpnpaa
open Go.RowKit Go.Sort

namespace Dch
open Foot Dsh Dpk Copy Nup
set_option maxRecDepth 100000 in
theorem _root_.Go.Proofs.Ytmhamoeibkpnpaa.SpX.reader {w w' : World} {lo R p : Nat} {x : Option Nat} {v : Value} {L : Sps} (h : SpX w lo x v L) (hr : RdAt w R p) (hg : w.grownBy w' (some R)) : SpX w' lo x v L := by
  obtain ⟨a, cap, rfl, h⟩ := h
  refine ⟨a, cap, rfl, ?_⟩
  rcases h with h | ⟨k, o, e, hB, hx, hc⟩
  · exact .inl h
  · by_cases hL : L = []
    · exact .inl hL
    · have hp : 0 < L.length := List.length_pos_iff.2 hL
      have hne : k ≠ R := fun e => by
        subst e
        obtain ⟨ra, rl, rc, _, _, hb⟩ := hr
        have h0 := (hc 0 hp).1
        have h1 := (hc 0 hp).2
        rw [cell_of_row w k _ _ _ (0, 0) hb] at h0 h1
        have ho : o = 0 ∨ o = 1 ∨ 2 ≤ o := by omega
        rcases ho with rfl | rfl | ho
        · simp at h0
        · simp at h1
        · rw [Array.getElem?_eq_none (by simp; omega)] at h0
          cases h0
      exact .inr ⟨_, o, e, Nat.lt_of_lt_of_le hB hg.size, hx, fun i hi => ⟨(grownCell hg hB hne).trans (hc i hi).1, (grownCell hg hB hne).trans (hc i hi).2⟩⟩
set_option maxRecDepth 100000 in
theorem nown_reader {w w' : World} {B lo R p : Nat} {v : Value} {M : List Nd} (h : NOwn w B lo v M) (hr : RdAt w R p) (hR : R < B) (hg : w.grownBy w' (some R)) : NOwn w' B lo v M := by
  obtain ⟨cs, ho, hc⟩ := h
  refine ⟨cs, World.ownsRow.kept ho hg (.inr fun e => by have := (World.ownsRow.lt ho) R e; omega), fun i hi => ?_⟩
  obtain ⟨h1, a, cap, h2, h3⟩ := hc i hi
  exact ⟨h1, a, cap, h2, h3.reader hr hg⟩
set_option maxRecDepth 100000 in
/-- Rows of picks and of needs never lie on one block. -/
theorem apart {w : World} {B B' n m : Nat} {u v : Value} {cs ds : List Value} (h : w.ownsRow B 71 5 u n cs) (h' : w.ownsRow B' 110 2 v m ds) : ∀ k, u.ownBlock = some k → v.ownBlock = some k → False := by
  intro k hk hk'
  rcases h.2 with ⟨rfl, _⟩ | ⟨g, cap, cur, rfl, _, hg, _⟩
  · cases hk
  · rcases h'.2 with ⟨rfl, _⟩ | ⟨g', cap', cur', rfl, _, hg', _⟩
    · cases hk'
    · have e : some g = some k := hk
      have e' : some g' = some k := hk'
      injection e with e
      injection e' with e'
      subst e
      subst e'
      rw [hg] at hg'
      simp at hg'
structure CB (w : World) (R p r k : Nat) (A : List Pk) (O : List Nd) (cg cc : Nat) (ov : Value) (wr : World) : Prop where
  own : POwn wr w.heap.size (.slice (some ⟨cg, 0, none⟩) A.length cc) A
  cap : A.length ≤ cc
  many : A.length ≤ k
  opn : NOwn wr w.heap.size 0 ov O
  few : O.length ≤ 9 + 9 * k
  spans : ∀ q ∈ O, q.2.length ≤ 41
  rd : ∃ q, p ≤ q ∧ q ≤ p + r ∧ RdAt wr R q
  gr : w.grownBy wr (some R)
variable {w wr w2 : World} {R p r r' k k' q cg cc : Nat} {A : List Pk} {O : List Nd} {ov : Value}
set_option maxRecDepth 100000 in
theorem CB.more (h : CB w R p r k A O cg cc ov wr) (hr : r ≤ r') (hk : k ≤ k') : CB w R p r' k' A O cg cc ov wr :=
  ⟨h.own, h.cap, by have := h.many; omega, h.opn, by have := h.few; omega, h.spans, by obtain ⟨q, h1, h2, h3⟩ := h.rd; exact ⟨q, h1, by omega, h3⟩, h.gr⟩
set_option maxRecDepth 100000 in
theorem CB.pick (h : CB w R p r k A O cg cc ov wr) (hR : R < w.heap.size) (h0 : RdAt wr R q) (hq1 : p ≤ q) (hq2 : q ≤ p + r) (hr : RdAt w2 R (q + 1)) (hg : wr.grownBy w2 (some R)) : CB w R p (r + 1) k A O cg cc ov w2 :=
  ⟨h.own.drawn hg hR, h.cap, h.many, nown_reader h.opn h0 hR hg, h.few, h.spans, ⟨q + 1, by omega, by omega, hr⟩, grown_trans h.gr hg⟩
set_option maxRecDepth 100000 in
theorem CB.below (h : CB w R p r k A O cg cc ov wr) (hR : R < w.heap.size) (hb : Below wr.heap.size wr w2) : CB w R p r k A O cg cc ov w2 := by
  have hz := h.gr.size
  obtain ⟨q, h1, h2, h3⟩ := h.rd
  exact ⟨h.own.below hb, h.cap, h.many, h.opn.below hb, h.few, h.spans, ⟨q, h1, h2, rdAt_below h3 hb (by omega)⟩, grown_below h.gr (hb.mono hz)⟩
set_option maxRecDepth 100000 in
/-- A new row of picks, just made, and the needs grown. -/
theorem CB.next {A' : List Pk} {P : List Nd} {g' c' o' oc : Nat} {oa : Option Addr} {w3 w4 : World} (h : CB w R p r k A O cg cc ov wr) (hR : R < w.heap.size) (hb : Below wr.heap.size wr w3) (hA : A'.length = A.length + 1) (hown : POwn w3 wr.heap.size (.slice (some ⟨g', 0, none⟩) A'.length c') A') (hc : A'.length ≤ c')
    (hgrow : w3.grownBy w4 ov.ownBlock) (hO : NOwn w4 w.heap.size 0 (.slice oa o' oc) (O ++ P)) (hP : P.length ≤ 9) (hPs : ∀ q ∈ P, q.2.length ≤ 41) : CB w R p r (k + 1) A' (O ++ P) g' c' (.slice oa o' oc) w4 := by
  have hz := h.gr.size
  have hz3 := hb.size
  obtain ⟨q, h1, h2, h3⟩ := h.rd
  obtain ⟨cs, hopn, _⟩ := h.opn.below hb
  have hlt := World.ownsRow.lt hopn
  have hle : POwn w3 w.heap.size (.slice (some ⟨g', 0, none⟩) A'.length c') A' := by
    refine ⟨hown.1, ?_⟩
    rcases hown.2 with hn | ⟨g, cap, cur, hv, hb', hg, rest⟩
    · exact .inl hn
    · exact .inr ⟨g, cap, cur, hv, by omega, hg, rest⟩
  refine ⟨?_, hc, by have := h.many; omega, hO, by have := h.few; rw [List.length_append]; omega, fun q hq => ?_, ⟨q, h1, by omega, ?_⟩, ?_⟩
  · refine World.ownsRow.kept hle hgrow ?_
    right
    intro e
    exact apart hle hopn g' rfl (e ▸ rfl)
  · rcases List.mem_append.1 hq with hq | hq
    · exact h.spans q hq
    · exact hPs q hq
  · exact rdAt_kept (rdAt_below h3 hb (by omega)) fun j hj => hgrow.block j (by omega) (fun e => by have := hlt j e.symm; omega)
  · have g2 := grown_below h.gr (hb.mono hz)
    exact ⟨hgrow.os.trans g2.os, hgrow.tape.trans g2.tape, hgrow.output.trans g2.output, Nat.le_trans g2.size hgrow.size, fun i hi hne => (hgrow.block i (Nat.lt_of_lt_of_le hi g2.size) (fun e => by have := hlt i e.symm; omega)).trans (g2.block i hi hne)⟩
/-- What the draw hands on. -/
def ChosenDraw (R p : Nat) (w : World) (e : Ending) (w' : World) : Prop :=
  ∃ A v, e = .returned v ∧ POwn w' w.heap.size v A ∧ A.length ≤ 30 ∧ Drawn w R p 30 w'
set_option maxRecDepth 100000 in
theorem picks_at {W : World} {B g c : Nat} {A : List Pk} (h : POwn W B (.slice (some ⟨g, 0, none⟩) A.length c) A) : ∀ j u, (pcs A)[j]? = some u → W.cell? ⟨g, j, none⟩ = some u := by
  intro j u hu
  have := World.ownsRow.cells h (g := g) rfl j u hu
  have hadd : (⟨g, 0, none⟩ : Addr).add j = ⟨g, 0 + j, none⟩ := by unfold Addr.add; split <;> simp_all
  rwa [hadd, Nat.zero_add] at this
set_option maxRecDepth 100000 in
theorem pcs_take (A : List Pk) (m : Nat) (j : Nat) (u : Value) (h : (pcs (A.take m))[j]? = some u) : (pcs A)[j]? = some u := by
  have e : pcs A = pcs (A.take m) ++ pcs (A.drop m) := by rw [← pcs_append, List.take_append_drop]
  rw [e, List.getElem?_append_left (List.getElem?_eq_some_iff.1 h).1]
  exact h
set_option maxRecDepth 100000 in
theorem pcs_drop (A : List Pk) (m : Nat) (hm : m ≤ A.length) (j : Nat) (u : Value) (h : (pcs (A.drop m))[j]? = some u) : (pcs A)[m * 5 + j]? = some u := by
  have e : pcs A = pcs (A.take m) ++ pcs (A.drop m) := by rw [← pcs_append, List.take_append_drop]
  have hl : (pcs (A.take m)).length = m * 5 := by rw [pcs_len, List.length_take, Nat.min_eq_left hm]
  rw [e, List.getElem?_append_right (by omega), hl, show m * 5 + j - m * 5 = j by omega]
  exact h
set_option maxRecDepth 100000 in
theorem add_at (b o j : Nat) : (⟨b, o, none⟩ : Addr).add j = ⟨b, o + j, none⟩ := by unfold Addr.add; split <;> simp_all
set_option maxRecDepth 100000 in
/-- A shelf that stands behind the reader lies below the world in which it stood, wherever it is read later. -/
theorem shelf_low {w w' : World} {B R : Nat} {v : Value} {S : List Rel} {fs : List (List Nat)} (h : RGrow w B v S fs) (hg : w.grownBy w' (some R)) (hR : R < B) : RlAt w' w.heap.size v S := by
  obtain ⟨W, hW⟩ : ∃ W : World, W = { w' with heap := w'.heap.extract 0 w.heap.size } := ⟨_, rfl⟩
  have hz : W.heap.size = w.heap.size := by rw [hW]; have := hg.size; simp; omega
  have hk : ∀ j, j < w.heap.size → W.heap[j]? = w'.heap[j]? := fun j hj => by
    have := hg.size
    rw [hW]
    simp [Array.getElem?_extract]
    omega
  have hb : Below W.heap.size W w' := ⟨by rw [hW], by rw [hW], by rw [hW], by rw [hz]; exact hg.size, fun j hj => (hk j (by omega)).symm⟩
  have g2 : w.grownBy W (some R) := ⟨by rw [hW]; exact hg.os, by rw [hW]; exact hg.tape, by rw [hW]; exact hg.output, by omega, fun i hi hne => (hk i hi).trans (hg.block i hi hne)⟩
  have := (h.drawn g2 hR).at.below hb
  rwa [hz] at this
set_option maxRecDepth 100000 in
/-- What fits lies on the shelf. -/
theorem fits_in {S : List Rel} {n : Int} {L : Sps} {z : Int} (h : z ∈ shFits S n L) : ∃ m : Nat, z = (m : Int) ∧ m < S.length := by
  unfold shFits at h
  split at h
  · obtain ⟨m, hm, he, _⟩ := fit_at n L S 0 rfl z h
    exact ⟨m, he, hm⟩
  · simp at h
end Dch
end Go.Proofs.Ytmhamoeibkpnpaa

/- The contract of the model's draw of a choice, over this seat's translation: whatever is drawn, at most 30 picks lie in a row of their own; nothing that was there has changed but the reader. Condition: the reader was not asked too often; the code is readable; the shelf stands on blocks of its own behind the reader; nine needs of at most 41 spans. -/
namespace Go.Proofs.Ytmhamoeibkpnpaa
open Go.RowKit Go.Sort

namespace Dch
open Foot Dsh Dpk Copy Nup
theorem pick_end {w6 : World} {B n c3 k : Nat} {a3 : Option Addr} {A : List Pk} {x a b c d : Int} (hown : w6.ownsRow B 71 5 (.slice a3 n c3) n (pcs (A.take k) ++ [.int .i64 x, .int .i64 a, .int .i64 b, .int .i64 c, .int .i64 d] ++ pcs (A.drop k))) (hk : k ≤ A.length) (hn : n = A.length + 1) :
    ∃ (A' : List Pk) (g' c' : Nat), Value.slice a3 n c3 = .slice (some ⟨g', 0, none⟩) A'.length c' ∧ A'.length = A.length + 1 ∧ A'.length ≤ c' ∧ POwn w6 B (Value.slice a3 n c3) A' := by
  have hl : (A.take k ++ [(x, a, b, c, d)] ++ A.drop k).length = A.length + 1 := by simp; omega
  have hp : POwn w6 B (Value.slice a3 n c3) (A.take k ++ [(x, a, b, c, d)] ++ A.drop k) := by
    unfold POwn
    rw [pcs_append, pcs_append, hl, ← hn]
    exact hown
  refine ⟨A.take k ++ [(x, a, b, c, d)] ++ A.drop k, ?_⟩
  rcases hown.2 with ⟨e, h0⟩ | ⟨g, cap, cur, e, hb, hg, hnc, _⟩
  · omega
  · simp only [Value.slice.injEq] at e
    obtain ⟨rfl, _, rfl⟩ := e
    exact ⟨g, c3, by rw [hl, ← hn], hl, by omega, hp⟩
theorem own_none {V : World} {B g : Nat} (hg : V.heap[g]? = some (.cells #[] 71 (0, 0))) (hB : B ≤ g) : V.ownsRow B 71 5 (.slice (some ⟨g, 0, none⟩) 0 0) 0 [] :=
  ⟨rfl, .inr ⟨g, 0, #[], rfl, hB, hg, Nat.le_refl _, by unfold maxLen; omega, rfl, rfl⟩⟩
theorem pick_news {x a b c d : Int} {W V : World} (hV : V.heap = (W.alloc (.cells #[.int .i64 x, .int .i64 a, .int .i64 b, .int .i64 c, .int .i64 d] 71)).heap) : ∀ j u, ([.int .i64 x, .int .i64 a, .int .i64 b, .int .i64 c, .int .i64 d] : List Value)[j]? = some u → V.cell? ((⟨W.heap.size, 0, none⟩ : Addr).add j) = some u :=
  World.news_of_block (by rw [hV]; exact heap_alloc_new W _)
theorem pick_ones {x a b c d : Int} : ∀ u ∈ ([.int .i64 x, .int .i64 a, .int .i64 b, .int .i64 c, .int .i64 d] : List Value), u.oneCell' = true := by
  intro u hu
  simp only [List.mem_cons, List.not_mem_nil, or_false] at hu
  rcases hu with rfl | rfl | rfl | rfl | rfl <;> rfl
theorem pcs_ones (A : List Pk) : ∀ u ∈ pcs A, u.oneCell' = true := pcs_one A

set_option maxRecDepth 100000 in
set_option maxHeartbeats 16000000 in
theorem l20Chosen_any (R p B0 : Nat) (sa na : Option Addr) (caps ncap : Nat) (S : List Rel) (fs : List (List Nat)) (M : List Nd) (w : World) (h : RdAt w R p) (hp : p ≤ 50000000)
    (hg : RGrow w B0 (.slice sa S.length caps) S fs) (hRB : R < B0) (hl : S.length ≤ 31) (hsz : SzOk S) (hN : NdAt w w.heap.size (.slice na M.length ncap) M) (hM : M.length ≤ 9) (hMq : ∀ q ∈ M, q.2.length ≤ 41) :
    Calls Try.prog 55 #[.pointer (some ⟨R, 0, none⟩), .slice sa S.length caps, .slice na M.length ncap] w (ChosenDraw R p w) := by
  have hR := rdAt_lt h
  obtain ⟨i0, hi, hz0, hz1, hz2⟩ := info_parts infoPick
  obtain ⟨j0, hj, hy0, hy1, hy2⟩ := info_parts infoNeed
  have HG := Lib.hid hg
  obtain ⟨w1, hw1⟩ : ∃ V : World, V = w.alloc (.cells #[] 71) := ⟨_, rfl⟩
  have b1 : Below w.heap.size w w1 := by rw [hw1]; exact (Below.refl _ _).alloc (Nat.le_refl _) _
  have z1 : w.heap.size + 1 = w1.heap.size := by rw [hw1]; simp
  have o1 : POwn w1 w.heap.size (.slice (some ⟨w.heap.size, 0, none⟩) 0 0) [] := POwn.made (by rw [hw1]) (Nat.le_refl _)
  have hq : ∀ q ∈ S, q.2.2.2.length ≤ 1048576 ∧ ∀ p ∈ q.2.2.2, p.2.length ≤ 1048576 := hsz.big
  have b12 : Below w1.heap.size w1 (w1.alloc (.cells #[] 110)) := (Below.refl _ _).alloc (Nat.le_refl _) _
  have o2 : POwn (w1.alloc (.cells #[] 110)) w.heap.size (.slice (some ⟨w.heap.size, 0, none⟩) 0 0) [] := o1.below b12
  have b2 : Below w.heap.size w (w1.alloc (.cells #[] 110)) := b1.trans (b12.mono b1.size)
  have z2 : (w1.alloc (.cells #[] 110)).heap.size = w1.heap.size + 1 := by simp
  have n2 : NOwn (w1.alloc (.cells #[] 110)) w.heap.size 0 (.slice (some ⟨w1.heap.size, 0, none⟩) 0 0) [] := NOwn.made rfl (by omega)
  obtain ⟨cs2, hown2, hc2⟩ := n2
  obtain ⟨news, l1, l2, l3, l4, l5⟩ := need_cells (x := (Value.slice (some ⟨w1.heap.size, 0, none⟩) 0 0).ownBlock) ((hN.below b2).mono (Nat.le_refl _)) b2.size (fun c e => by have e' : some w1.heap.size = some c := e; injection e' with e'; omega)
  have HO2 := Lib.hid hown2
  have HC2 := Lib.hid hc2
  have HL1 := Lib.hid l1
  have HL2 := Lib.hid l2
  have HL3 := Lib.hid l3
  have HL4 := Lib.hid l4
  have HL5 := Lib.hid l5
  have HP2 := Lib.hid o2
  have HRD := Lib.hid h
  have HMQ := Lib.hid hMq
  clear o1 o2 hown2 hc2 l1 l2 l3 l4 l5 hg hN b12 hMq h
  go_enter Try.func55, Try.ntmps55
  go_upto_region 2 with fail
  rw [← hw1]
  clear hw1
  go_wp2_with (at_builtin; refine Ap2.wpList_append _ rfl (.tmp 16) (.tmp 17) 32 rfl w.heap.size 110 j0 (.agg #[.int .i64 0, .slice none 0 0]) 2 32 Try.underlying32 hj hy0 hy1 hy2 rfl (by decide) _ 0 cs2 rfl HO2.out na M.length ncap news (by rfl) HL1.out HL2.out HL3.out HL4.out (by unfold maxLen; omega) (by omega) (by first | omega | (simp; omega)) ?_)
  intro a3 c3 w3 hown3 hgrow3 hat3
  have n3 : NOwn w3 w.heap.size 0 (.slice a3 M.length c3) M := by
    have := grow_any (M := ([] : List Nd)) (P := M) (a' := a3) (c' := c3) HO2.out HC2.out HL5.out (by rw [List.length_nil, Nat.zero_add]; exact hown3) hgrow3 (by rw [List.length_nil, Nat.zero_add, z2]; exact hat3)
    rwa [List.length_nil, Nat.zero_add, List.nil_append] at this
  have S3 := Lib.hid (show CB w R p 0 0 [] M w.heap.size 0 (.slice a3 M.length c3) w3 from ⟨World.ownsRow.kept HP2.out hgrow3 (.inr (fun e => by have e' : some w.heap.size = some w1.heap.size := e; injection e' with e'; omega)), Nat.le_refl _, Nat.le_refl _, n3, by omega, HMQ.out,
    ⟨p, Nat.le_refl _, by omega, rdAt_kept (rdAt_below HRD.out b2 hR) fun k hk => hgrow3.block k (by omega) (fun e => by have e' : some k = some w1.heap.size := e; injection e' with e'; omega)⟩,
    by have g2 : w.grownBy (w1.alloc (.cells #[] 110)) (some R) := ⟨b2.os, b2.tape, b2.output, b2.size, fun i hi _ => b2.block i hi⟩
       exact ⟨hgrow3.os.trans g2.os, hgrow3.tape.trans g2.tape, hgrow3.output.trans g2.output, Nat.le_trans g2.size hgrow3.size, fun i hi hne => (hgrow3.block i (Nat.lt_of_lt_of_le hi g2.size) (fun e => by have e' : some i = some w1.heap.size := e; injection e' with e'; omega)).trans (g2.block i hi hne)⟩⟩)
  clear hown3 hgrow3 hat3 n3 HO2 HC2 HL1 HL2 HL3 HL4 HL5 HP2 b2 z2
  go_wp2_with fail
  go_loopw [7, 8, 9] (fun s7 s8 s9 wr => ∃ (k : Nat) (A : List Pk) (O : List Nd) (cg cc : Nat), k ≤ 30 ∧ s9 = .int .i64 (k : Int) ∧ s7 = .slice (some ⟨cg, 0, none⟩) A.length cc ∧ CB w R p k k A O cg cc s8 wr) (fun _ _ s9 _ => 30 - (intOf s9).toNat)
  case atStart => exact ⟨0, [], M, w.heap.size, 0, Nat.zero_le _, rfl, rfl, S3.out⟩
  case round =>
    clear S3
    obtain ⟨k, A, O, cg, cc, hk, rfl, rfl, hS⟩ := hrel
    obtain ⟨oa, oc, hov, hoat⟩ := hS.opn.at
    subst hov
    have S2 := Lib.hid hS
    have hrsz := hS.gr.size
    have hml := hS.many
    have hfew := hS.few
    have hcap := hS.cap
    clear hS
    by_cases hko : k < O.length
    · by_cases hk30 : k < 30
      · have hk0 : (0 : Int) ≤ (k : Int) := by omega
        have hk1 : (k : Int) < (O.length : Int) := by omega
        have hk2 : (k : Int) < 30 := by omega
        obtain ⟨ob, oo, rfl, hoB, hoc⟩ : ∃ b o, oa = some ⟨b, o, none⟩ ∧ b < wr.heap.size ∧ ∀ i (h : i < O.length), NdC wr wr.heap.size b (o + i * 2) O[i] := by
          rcases hoat with rfl | hh
          · simp at hko
          · exact hh
        obtain ⟨nm, L, hOk⟩ : ∃ n L, O[k] = (n, L) := ⟨_, _, rfl⟩
        obtain ⟨e0, la, lc, e1, hsp⟩ := hoc k hko
        have hL41 : L.length ≤ 41 := by have := S2.out.spans _ (List.getElem_mem hko); rwa [hOk] at this
        rw [hOk] at e0 e1 hsp
        simp only at e0 e1 hsp
        have HSP := Lib.hid hsp
        have HAT := Lib.hid (HG.out.drawn S2.out.gr hRB).at
        have HPK := Lib.hid S2.out.own.at
        have KF : Hid (∀ V, RlAt V V.heap.size (.slice sa S.length caps) S → SpAt V V.heap.size (.slice la L.length lc) L → Calls Try.prog 96 #[.slice sa S.length caps, need nm (.slice la L.length lc)] V (IPost (shFits S nm L) V)) := Lib.hid fun V g g' => specShelfFits_any _ _ S nm L V (by omega) hq (by omega) g g'
        have KP : Hid (∀ V, PkAt V V.heap.size (.slice (some ⟨cg, 0, none⟩) A.length cc) A → Calls Try.prog 97 #[.slice (some ⟨cg, 0, none⟩) A.length cc, .int .i64 nm] V fun e w' => e = .returned (got (pkOf A nm)) ∧ Below V.heap.size V w') := Lib.hid fun V g => specPickOf_any _ A nm V (by omega) g
        clear hoat hoc hOk hsp
        go_wp2_with fail
        refine (KF.out _ HAT.out HSP.out).mono ?_
        rintro e w4 ⟨v4, rfl, ib4, hb4⟩
        have HIN := Lib.hid (fun z (hz : z ∈ shFits S nm L) => fits_in (S := S) hz)
        have hFl := shFits_len S nm L
        generalize shFits S nm L = F at ib4 hFl HIN
        obtain ⟨fa, fc, rfl, hfx⟩ := id ib4
        have HI4 := Lib.hid ib4
        have q0 := (hb4.cell (p := ⟨ob, oo + k * 2, none⟩) hoB).trans e0
        have z4 := hb4.size
        clear ib4 hfx e0 e1 KF
        go_wp2_with fail
        refine (KP.out _ (HPK.out.stepAt hb4)).mono ?_
        rintro e w5 ⟨rfl, hb5⟩
        have z5 := hb5.size
        have b5 := hb4.trans (hb5.mono z4)
        have HI5 := Lib.hid (IB.below HI4.out hb5)
        clear hb4 hb5 q0 KP HI4
        rcases hgt : pkOf A nm with _ | ⟨va, vb, vc, vd⟩
        · simp only [got]
          clear hgt
          obtain ⟨w6, hw6⟩ : ∃ V : World, V = w5.alloc (.cells #[.int .i64 0, .int .i64 0, .int .i64 0, .int .i64 0] 69) := ⟨_, rfl⟩
          have n6 : Below w5.heap.size w5 w6 := by rw [hw6]; exact (Below.refl _ _).alloc (Nat.le_refl _) _
          have b6 := b5.trans (n6.mono b5.size)
          have z6 := n6.size
          have S6 := Lib.hid (S2.out.below hR b6)
          have HI6 := Lib.hid (IB.below HI5.out n6)
          clear n6 HI5
          go_upto_region 8 with fail
          rw [← hw6]
          clear hw6
          by_cases hF0 : F.length = 0
          · have hF0b : ((F.length : Int) == 0) = true := by simp [hF0]
            clear hF0 HIN
            go_wp2_with fail
            go_roundw
            case rel => exact ⟨k + 1, A, O, cg, cc, by omega, by go_num, rfl, S6.out.more (by omega) (by omega)⟩
            case measure => simp [intOf]; omega
          · have hF0b : ((F.length : Int) == 0) = false := by rw [beq_eq_false_iff_ne]; omega
            obtain ⟨q, hq0, hq1, hrd⟩ := S6.out.rd
            have HRD6 := Lib.hid hrd
            clear hrd
            go_wp2_with fail
            refine (pick_any R q (F.length : Int) _ HRD6.out (by omega)).mono ?_
            rintro e w7 ⟨ki, rfl, y0, y1, y2, hr7, hg7⟩
            have S7 := Lib.hid (S6.out.pick hR HRD6.out hq0 hq1 hr7 hg7)
            have hki := y1 (by omega)
            obtain ⟨kn, rfl⟩ := Int.eq_ofNat_of_zero_le y0
            have hkn : kn < F.length := by omega
            obtain ⟨fg, fn, hfa, hfC⟩ : ∃ g n, fa = some ⟨g, 0, none⟩ ∧ InBlk w7 g n F := by
              obtain ⟨a', c', e, hh⟩ := HI6.out
              simp only [Value.slice.injEq] at e
              obtain ⟨rfl, _, _⟩ := e
              rcases hh with hh | ⟨g, n, rfl, hblk, h1, h2⟩
              · rw [hh] at hkn; simp at hkn
              · obtain ⟨C, hC1, hC2, hC3, hC4⟩ := hblk
                exact ⟨g, n, rfl, C, (hg7.block g (by have := (Array.getElem?_eq_some_iff.1 hC1).1; omega) (fun e => by injection e with e; omega)).trans hC1, hC2, hC3, hC4⟩
            subst hfa
            obtain ⟨m, hFm, hmS⟩ := HIN _ (List.getElem_mem hkn)
            obtain ⟨C, hC1, hC2, hC3, hC4⟩ := hfC
            have f0 : w7.cell? ⟨fg, kn, none⟩ = some (.int .i64 (m : Int)) := by
              rw [cell_of_row w7 fg kn _ _ (0, 0) hC1, hC4 kn hkn, hFm]
            have HAT7 := Lib.hid (HG.out.drawn S7.out.gr hRB).at
            obtain ⟨sb, so, hsa, hsB, hsc⟩ : ∃ b o, sa = some ⟨b, o, none⟩ ∧ b < w7.heap.size ∧ ∀ i (h : i < S.length), RlC w7 w7.heap.size b (o + i * 7) S[i] := by
              obtain ⟨a', c', e, hh⟩ := HAT7.out
              simp only [Value.slice.injEq] at e
              obtain ⟨rfl, _, _⟩ := e
              rcases hh with hh | hh
              · rw [hh] at hmS; simp at hmS
              · exact hh
            subst hsa
            obtain ⟨⟨e0, e1, e2, e3, e4, e5⟩, ad, pcap, e6, hnd⟩ := hsc m hmS
            have hsz9 := hsz _ (List.getElem_mem hmS)
            obtain ⟨x, a, b, c, d, f, P, hxP⟩ : ∃ x a b c d f P, S[m] = (x, (a, b, c, d), f, P) := ⟨_, _, _, _, _, _, _, rfl⟩
            rw [hxP] at e0 e1 e2 e3 e4 e5 e6 hnd hsz9
            simp only at e0 e1 e2 e3 e4 e5 e6 hnd hsz9
            have k0 : (0 : Int) ≤ (kn : Int) := by omega
            have k1 : (kn : Int) < (F.length : Int) := by omega
            have k2 : (0 : Int) ≤ (m : Int) := by omega
            have k3 : (m : Int) < (S.length : Int) := by omega
            have HND := Lib.hid hnd
            have E6 := Lib.hid e6
            have HXP := Lib.hid hxP
            have HS9 := Lib.hid hsz9
            clear hsc hnd hxP hC1 hC2 hC3 hC4 hFm y0 y1 y2 hr7 hg7 hki HI6 HRD6 HIN hsz9 S6 hq0 hq1
            obtain ⟨w8, hw8⟩ : ∃ V : World, V = w7.alloc (.cells #[.int .i64 x, .int .i64 a, .int .i64 b, .int .i64 c, .int .i64 d, .bool f, .slice ad P.length pcap] 104) := ⟨_, rfl⟩
            have n8 : Below w7.heap.size w7 w8 := by rw [hw8]; exact (Below.refl _ _).alloc (Nat.le_refl _) _
            have z8 : w7.heap.size < w8.heap.size := by rw [hw8]; simp
            have t0 : w8.cell? ⟨w7.heap.size, 0, none⟩ = some (.int .i64 x) := by rw [hw8]; go_simp
            have t1 : w8.cell? ⟨w7.heap.size, 1, none⟩ = some (.int .i64 a) := by rw [hw8]; go_simp
            have t2 : w8.cell? ⟨w7.heap.size, 2, none⟩ = some (.int .i64 b) := by rw [hw8]; go_simp
            have t3 : w8.cell? ⟨w7.heap.size, 3, none⟩ = some (.int .i64 c) := by rw [hw8]; go_simp
            have t4 : w8.cell? ⟨w7.heap.size, 4, none⟩ = some (.int .i64 d) := by rw [hw8]; go_simp
            have t6 : w8.cell? ⟨w7.heap.size, 6, none⟩ = some (.slice ad P.length pcap) := by rw [hw8]; go_simp
            have S8 := Lib.hid (S7.out.below hR n8)
            have N8 := Lib.hid n8
            have HN8 := Lib.hid (HND.out.stepAt n8)
            have HPK8 := Lib.hid (picks_at S8.out.own)
            go_upto_region 10 with fail
            rw [← hw8]
            clear hw8 e0 e1 e2 e3 e4 e5 e6 f0 HND n8 S7
            go_cut [14] from 19 to 96 (fun i wx => i = .int .i64 0 ∧ w8 = wx)
            case first =>
              go_wp2_with fail
              go_meet
              case rel => exact ⟨rfl, rfl⟩
            case rest =>
            obtain ⟨rfl, rfl⟩ := hcut
            refine ‹∀ (a : Act) (w : World), Code.wp _ _ _ a w → _› _ _ ?_
            apply wp_seq_k
            intro K2 hK2
            go_cut [14] from 19 to 96 (fun i wx => ∃ g : Nat, i = .int .i64 (g : Int) ∧ g ≤ A.length ∧ Below w8.heap.size w8 wx)
            case first =>
              go_wp2_with fail
              go_loopw [14] (fun i wi => ∃ g : Nat, i = .int .i64 (g : Int) ∧ g ≤ A.length ∧ Below w8.heap.size w8 wi) (fun i _ => A.length - (intOf i).toNat)
              case atStart => exact ⟨0, rfl, Nat.zero_le _, Below.refl _ _⟩
              case round =>
                obtain ⟨g, rfl, hg, hb⟩ := hrel
                rename World => wi
                have v0 := cell_regrown ((hb.cell (p := ⟨w7.heap.size, 0, none⟩) z8).trans t0)
                by_cases hga : g < A.length
                · have y0 := cell_regrown ((hb.cell (p := ⟨cg, g * 5, none⟩) (Nat.lt_of_lt_of_le (World.ownsRow.lt S8.out.own cg rfl).2 (Nat.le_refl _))).trans (HPK8.out (g * 5) _ (pcs_at A g hga).1))
                  obtain ⟨gn, hgn⟩ : ∃ n, A[g].1 = n := ⟨_, rfl⟩
                  rw [hgn] at y0
                  have j0 : (0 : Int) ≤ (g : Int) := by omega
                  have j1 : (g : Int) < (A.length : Int) := by omega
                  clear hgn
                  by_cases hnx : gn < x
                  · go_wp2_with fail
                    refine wp_region_quiet_below (by kernel_rfl) (by kernel_rfl) ?_
                    repeat (any_goals (first | go_big_quiet_step (fail) | quiet_step (fail)))
                    refine wpQuiet_nil ?_
                    intro W2 hw2
                    have nn := quiet_end hw2
                    clear hw2 v0 y0
                    have HB := Lib.hid (hb.trans (nn.mono hb.size))
                    go_wp2_with fail
                    go_roundw
                    case rel => exact ⟨g + 1, by go_num, by omega, HB.out⟩
                    case measure => simp [intOf]; omega
                  · have hnxD : decide (gn < x) = false := decide_eq_false hnx
                    go_wp2_with fail
                    refine wp_region_quiet_below (by kernel_rfl) (by kernel_rfl) ?_
                    repeat (any_goals (first | go_big_quiet_step (fail) | quiet_step (fail)))
                    refine wpQuiet_nil ?_
                    intro W2 hw2
                    have nn := quiet_end hw2
                    clear hw2 v0 y0
                    have HB := Lib.hid (hb.trans (nn.mono hb.size))
                    go_wp2_with fail
                    go_meet
                    case rel => exact ⟨g, rfl, hg, HB.out⟩
                · obtain rfl : g = A.length := by omega
                  go_wp2_with fail
                  refine wp_region_quiet_below (by kernel_rfl) (by kernel_rfl) ?_
                  repeat (any_goals (first | go_big_quiet_step (fail) | quiet_step (fail)))
                  refine wpQuiet_nil ?_
                  intro W2 hw2
                  have nn := quiet_end hw2
                  clear hw2 v0
                  have HB := Lib.hid (hb.trans (nn.mono hb.size))
                  go_wp2_with fail
                  go_meet
                  case rel => exact ⟨A.length, rfl, hg, HB.out⟩
            case rest =>
            rename World => w9
            obtain ⟨g, rfl, hg, hb⟩ := hcut
            have S9 := Lib.hid (S8.out.below hR hb)
            have NN := Lib.hid (N8.out.trans (hb.mono (Nat.le_of_lt z8)))
            have HN9 := Lib.hid (HN8.out.stepAt hb)
            have z9 := hb.size
            have u0 := (hb.cell (p := ⟨w7.heap.size, 0, none⟩) z8).trans t0
            have u1 := (hb.cell (p := ⟨w7.heap.size, 1, none⟩) z8).trans t1
            have u2 := (hb.cell (p := ⟨w7.heap.size, 2, none⟩) z8).trans t2
            have u3 := (hb.cell (p := ⟨w7.heap.size, 3, none⟩) z8).trans t3
            have u4 := (hb.cell (p := ⟨w7.heap.size, 4, none⟩) z8).trans t4
            have u6 := (hb.cell (p := ⟨w7.heap.size, 6, none⟩) z8).trans t6
            have HPK9 := Lib.hid (picks_at S9.out.own)
            have hcg := (World.ownsRow.lt S9.out.own cg rfl).2
            clear hb t0 t1 t2 t3 t4 t6 HPK8 S8 HN8
            refine hK2 _ _ ?_
            apply wp_seq_k
            intro K3 hK3
            go_cut [7] from 19 to 96 (fun p wx => ∃ (A' : List Pk) (g' c' : Nat), p = .slice (some ⟨g', 0, none⟩) A'.length c' ∧ A'.length = A.length + 1 ∧ A'.length ≤ c' ∧ POwn wx w9.heap.size p A' ∧ Below w9.heap.size w9 wx)
            case first =>
              have k0 : (0 : Int) ≤ (g : Int) := by omega
              have k1 : (g : Int) ≤ (A.length : Int) := by omega
              have k2 : (g : Int) ≤ (cc : Int) := by omega
              have k3 : (A.length : Int) ≤ (cc : Int) := by omega
              have L1 := Lib.hid (show (pcs (A.take g)).length = g * 5 by rw [pcs_len, List.length_take, Nat.min_eq_left hg])
              have L3 := Lib.hid (show (pcs (A.drop g)).length = (A.length - g) * 5 by rw [pcs_len, List.length_drop])
              have G1 := Lib.hid (show ∀ V, Below w9.heap.size w9 V → ∀ j u, (pcs (A.take g))[j]? = some u → V.cell? ((⟨cg, 0, none⟩ : Addr).add j) = some u from fun V hV j u hu => by
                rw [add_at, Nat.zero_add]
                exact (hV.cell (p := ⟨cg, j, none⟩) hcg).trans (HPK9.out j u (pcs_take A g j u hu)))
              have G3 := Lib.hid (show ∀ V, Below w9.heap.size w9 V → ∀ j u, (pcs (A.drop g))[j]? = some u → V.cell? ((⟨cg, g * 5, none⟩ : Addr).add j) = some u from fun V hV j u hu => by
                rw [add_at]
                exact (hV.cell (p := ⟨cg, g * 5 + j, none⟩) hcg).trans (HPK9.out _ u (pcs_drop A g hg j u hu)))
              have HOA := Lib.hid (show (w9.alloc (.cells #[] 71)).ownsRow w9.heap.size 71 5 (.slice (some ⟨w9.heap.size, 0, none⟩) 0 0) 0 [] from own_none (heap_alloc_new w9 _) (Nat.le_refl _))
              have HOB := Lib.hid (HOA.out.alloc (.cells #[.int .i64 x, .int .i64 a, .int .i64 b, .int .i64 c, .int .i64 d] 71))
              have HOC := Lib.hid (show ((w9.alloc (.cells #[.int .i64 x, .int .i64 a, .int .i64 b, .int .i64 c, .int .i64 d] 71)).alloc (.cells #[] 71)).ownsRow w9.heap.size 71 5 (.slice (some ⟨w9.heap.size + 1, 0, none⟩) 0 0) 0 [] from own_none (by simpa using heap_alloc_new (w9.alloc (.cells #[.int .i64 x, .int .i64 a, .int .i64 b, .int .i64 c, .int .i64 d] 71)) (.cells #[] 71)) (by omega))
              have HXB := Lib.hid (show ((w9.alloc (.cells #[] 71)).alloc (.cells #[.int .i64 x, .int .i64 a, .int .i64 b, .int .i64 c, .int .i64 d] 71)).heap[w9.heap.size + 1]? = some (.cells #[.int .i64 x, .int .i64 a, .int .i64 b, .int .i64 c, .int .i64 d] 71 (0, 0)) by simpa using heap_alloc_new (w9.alloc (.cells #[] 71)) (.cells #[.int .i64 x, .int .i64 a, .int .i64 b, .int .i64 c, .int .i64 d] 71))
              have HXC := Lib.hid (show ((w9.alloc (.cells #[.int .i64 x, .int .i64 a, .int .i64 b, .int .i64 c, .int .i64 d] 71)).alloc (.cells #[] 71)).heap[w9.heap.size]? = some (.cells #[.int .i64 x, .int .i64 a, .int .i64 b, .int .i64 c, .int .i64 d] 71 (0, 0)) from (Below.heap_alloc _ _ _ (by simp)).trans (heap_alloc_new w9 _))
              clear HPK9 u6
              rcases Nat.lt_or_ge g cc with hck | hck
              · have hne : ¬ cc = g := by omega
                go_region_held3 (fun V => V.cell? ⟨w7.heap.size, 0, none⟩ = some (.int .i64 x) ∧ V.cell? ⟨w7.heap.size, 1, none⟩ = some (.int .i64 a) ∧ V.cell? ⟨w7.heap.size, 2, none⟩ = some (.int .i64 b) ∧ V.cell? ⟨w7.heap.size, 3, none⟩ = some (.int .i64 c) ∧ V.cell? ⟨w7.heap.size, 4, none⟩ = some (.int .i64 d)) (go_keep)
                  (first
                    | (refine step_append_rows _ rfl (.tmp 77) (.tmp 80) 23 rfl w9.heap.size 71 i0 (.agg #[.int .i64 0, .int .i64 0, .int .i64 0, .int .i64 0, .int .i64 0]) 5 40 Try.underlying23 hi hz0 hz1 hz2 rfl (by decide) _ _ [] (by rfl) (by first | exact HOA.out | exact HOB.out | exact HOC.out) (some ⟨cg, 0, none⟩) g cc (pcs (A.take g)) (by rfl) L1.out (fun e => by cases e) (fun ad e j u hu => by cases e; exact G1.out _ (by go_grown) j u hu) (pcs_ones _) (by unfold maxLen; omega) (by omega) (by first | omega | (simp; done) | (simp; omega)) ?_; intro a4 c4 x4 hown4 hgrow4 hat4; have n4 : Below w9.heap.size w9 x4 := Below.grown (by go_grown) hgrow4 (by first | omega | (simp; done) | (simp; omega)) (fun k' e => by first | (have e' : some w9.heap.size = some k' := e; injection e' with e'; omega) | (have e' : some (w9.heap.size + 1) = some k' := e; injection e' with e'; omega)); have z4 := n4.size; have r40 := (n4.cell (p := ⟨w7.heap.size, 0, none⟩) (by show w7.heap.size < w9.heap.size; omega)).trans u0; have r41 := (n4.cell (p := ⟨w7.heap.size, 1, none⟩) (by show w7.heap.size < w9.heap.size; omega)).trans u1; have r42 := (n4.cell (p := ⟨w7.heap.size, 2, none⟩) (by show w7.heap.size < w9.heap.size; omega)).trans u2; have r43 := (n4.cell (p := ⟨w7.heap.size, 3, none⟩) (by show w7.heap.size < w9.heap.size; omega)).trans u3; have r44 := (n4.cell (p := ⟨w7.heap.size, 4, none⟩) (by show w7.heap.size < w9.heap.size; omega)).trans u4; (try (have X4 : x4.heap[w9.heap.size + 1]? = some (.cells #[.int .i64 x, .int .i64 a, .int .i64 b, .int .i64 c, .int .i64 d] 71 (0, 0)) := (hgrow4.block _ (by simp) (by intro e; have e' : some (w9.heap.size + 1) = some w9.heap.size := e; simp at e')).trans HXB.out)); (try (have X4 : x4.heap[w9.heap.size]? = some (.cells #[.int .i64 x, .int .i64 a, .int .i64 b, .int .i64 c, .int .i64 d] 71 (0, 0)) := (hgrow4.block _ (by simp; omega) (by intro e; have e' : some w9.heap.size = some (w9.heap.size + 1) := e; simp at e')).trans HXC.out)))
                    | (refine step_append_rows _ rfl (.tmp 81) (.tmp 87) 23 rfl w9.heap.size 71 i0 (.agg #[.int .i64 0, .int .i64 0, .int .i64 0, .int .i64 0, .int .i64 0]) 5 40 Try.underlying23 hi hz0 hz1 hz2 rfl (by decide) (.slice a4 (0 + g) c4) (0 + g) ([] ++ (pcs (A.take g))) (by first | rfl | (rw [Nat.zero_add]; rfl) | (simp only [Nat.zero_add]; rfl) | simp [Act.eval]) (by first | exact hown4 | exact hown4.alloc _) _ 1 1 [.int .i64 x, .int .i64 a, .int .i64 b, .int .i64 c, .int .i64 d] (by rfl) rfl (fun e => by cases e) (fun ad e j u hu => by cases e; first | exact World.news_of_block X4 j u hu | exact pick_news rfl j u hu) pick_ones (by unfold maxLen; omega) (by omega) (by first | omega | (simp; done) | (simp; omega)) ?_; intro a5 c5 x5 hown5 hgrow5 hat5; have n5 : Below w9.heap.size w9 x5 := Below.grown (by go_grown) hgrow5 (by first | omega | (simp; done) | (simp; omega)) (fun k' e => (World.ownsRow.lt hown4 k' e).1); have z5 := n5.size; have r50 := (n5.cell (p := ⟨w7.heap.size, 0, none⟩) (by show w7.heap.size < w9.heap.size; omega)).trans u0; have r51 := (n5.cell (p := ⟨w7.heap.size, 1, none⟩) (by show w7.heap.size < w9.heap.size; omega)).trans u1; have r52 := (n5.cell (p := ⟨w7.heap.size, 2, none⟩) (by show w7.heap.size < w9.heap.size; omega)).trans u2; have r53 := (n5.cell (p := ⟨w7.heap.size, 3, none⟩) (by show w7.heap.size < w9.heap.size; omega)).trans u3; have r54 := (n5.cell (p := ⟨w7.heap.size, 4, none⟩) (by show w7.heap.size < w9.heap.size; omega)).trans u4)
                    | (refine step_append_rows _ rfl (.tmp 88) (.tmp 91) 23 rfl w9.heap.size 71 i0 (.agg #[.int .i64 0, .int .i64 0, .int .i64 0, .int .i64 0, .int .i64 0]) 5 40 Try.underlying23 hi hz0 hz1 hz2 rfl (by decide) (.slice a5 (0 + g + 1) c5) (0 + g + 1) ([] ++ (pcs (A.take g)) ++ [.int .i64 x, .int .i64 a, .int .i64 b, .int .i64 c, .int .i64 d]) (by first | rfl | (rw [Nat.zero_add]; rfl) | (simp only [Nat.zero_add]; rfl) | simp [Act.eval]) hown5 _ (A.length - g) _ (pcs (A.drop g)) (by first | rfl | simp) L3.out (fun e => by first | (cases e; done) | (split at e <;> cases e)) (fun ad e j u hu => by cases e; exact G3.out _ n5 j u hu) (pcs_ones _) (by unfold maxLen; omega) (by omega) (by first | omega | (simp; done) | (simp; omega)) ?_; intro a6 c6 x6 hown6 hgrow6 hat6; have n6 : Below w9.heap.size w9 x6 := Below.grown n5 hgrow6 n5.size (fun k' e => (World.ownsRow.lt hown5 k' e).1); have r60 := (n6.cell (p := ⟨w7.heap.size, 0, none⟩) (by show w7.heap.size < w9.heap.size; omega)).trans u0; have r61 := (n6.cell (p := ⟨w7.heap.size, 1, none⟩) (by show w7.heap.size < w9.heap.size; omega)).trans u1; have r62 := (n6.cell (p := ⟨w7.heap.size, 2, none⟩) (by show w7.heap.size < w9.heap.size; omega)).trans u2; have r63 := (n6.cell (p := ⟨w7.heap.size, 3, none⟩) (by show w7.heap.size < w9.heap.size; omega)).trans u3; have r64 := (n6.cell (p := ⟨w7.heap.size, 4, none⟩) (by show w7.heap.size < w9.heap.size; omega)).trans u4)
                    | fail)
                all_goals
                  rw [Nat.zero_add, List.nil_append] at hown6
                  go_wp2_with fail
                  go_meet
                  case rel =>
                    obtain ⟨A', g', c', h1, h2, h3, h4⟩ := pick_end hown6 hg (by omega)
                    exact ⟨A', g', c', h1, h2, h3, h4, n6⟩
              · obtain rfl : g = A.length := by omega
                obtain rfl : cc = A.length := by omega
                go_region_held3 (fun V => V.cell? ⟨w7.heap.size, 0, none⟩ = some (.int .i64 x) ∧ V.cell? ⟨w7.heap.size, 1, none⟩ = some (.int .i64 a) ∧ V.cell? ⟨w7.heap.size, 2, none⟩ = some (.int .i64 b) ∧ V.cell? ⟨w7.heap.size, 3, none⟩ = some (.int .i64 c) ∧ V.cell? ⟨w7.heap.size, 4, none⟩ = some (.int .i64 d)) (go_keep)
                  (first
                    | (refine step_append_rows _ rfl (.tmp 77) (.tmp 80) 23 rfl w9.heap.size 71 i0 (.agg #[.int .i64 0, .int .i64 0, .int .i64 0, .int .i64 0, .int .i64 0]) 5 40 Try.underlying23 hi hz0 hz1 hz2 rfl (by decide) _ _ [] (by rfl) (by first | exact HOA.out | exact HOB.out | exact HOC.out) (some ⟨cg, 0, none⟩) A.length A.length (pcs (A.take A.length)) (by rfl) L1.out (fun e => by cases e) (fun ad e j u hu => by cases e; exact G1.out _ (by go_grown) j u hu) (pcs_ones _) (by unfold maxLen; omega) (by omega) (by first | omega | (simp; done) | (simp; omega)) ?_; intro a4 c4 x4 hown4 hgrow4 hat4; have n4 : Below w9.heap.size w9 x4 := Below.grown (by go_grown) hgrow4 (by first | omega | (simp; done) | (simp; omega)) (fun k' e => by first | (have e' : some w9.heap.size = some k' := e; injection e' with e'; omega) | (have e' : some (w9.heap.size + 1) = some k' := e; injection e' with e'; omega)); have z4 := n4.size; have r40 := (n4.cell (p := ⟨w7.heap.size, 0, none⟩) (by show w7.heap.size < w9.heap.size; omega)).trans u0; have r41 := (n4.cell (p := ⟨w7.heap.size, 1, none⟩) (by show w7.heap.size < w9.heap.size; omega)).trans u1; have r42 := (n4.cell (p := ⟨w7.heap.size, 2, none⟩) (by show w7.heap.size < w9.heap.size; omega)).trans u2; have r43 := (n4.cell (p := ⟨w7.heap.size, 3, none⟩) (by show w7.heap.size < w9.heap.size; omega)).trans u3; have r44 := (n4.cell (p := ⟨w7.heap.size, 4, none⟩) (by show w7.heap.size < w9.heap.size; omega)).trans u4; (try (have X4 : x4.heap[w9.heap.size + 1]? = some (.cells #[.int .i64 x, .int .i64 a, .int .i64 b, .int .i64 c, .int .i64 d] 71 (0, 0)) := (hgrow4.block _ (by simp) (by intro e; have e' : some (w9.heap.size + 1) = some w9.heap.size := e; simp at e')).trans HXB.out)); (try (have X4 : x4.heap[w9.heap.size]? = some (.cells #[.int .i64 x, .int .i64 a, .int .i64 b, .int .i64 c, .int .i64 d] 71 (0, 0)) := (hgrow4.block _ (by simp; omega) (by intro e; have e' : some w9.heap.size = some (w9.heap.size + 1) := e; simp at e')).trans HXC.out)))
                    | (refine step_append_rows _ rfl (.tmp 81) (.tmp 87) 23 rfl w9.heap.size 71 i0 (.agg #[.int .i64 0, .int .i64 0, .int .i64 0, .int .i64 0, .int .i64 0]) 5 40 Try.underlying23 hi hz0 hz1 hz2 rfl (by decide) (.slice a4 (0 + A.length) c4) (0 + A.length) ([] ++ (pcs (A.take A.length))) (by first | rfl | (rw [Nat.zero_add]; rfl) | (simp only [Nat.zero_add]; rfl) | simp [Act.eval]) (by first | exact hown4 | exact hown4.alloc _) _ 1 1 [.int .i64 x, .int .i64 a, .int .i64 b, .int .i64 c, .int .i64 d] (by rfl) rfl (fun e => by cases e) (fun ad e j u hu => by cases e; first | exact World.news_of_block X4 j u hu | exact pick_news rfl j u hu) pick_ones (by unfold maxLen; omega) (by omega) (by first | omega | (simp; done) | (simp; omega)) ?_; intro a5 c5 x5 hown5 hgrow5 hat5; have n5 : Below w9.heap.size w9 x5 := Below.grown (by go_grown) hgrow5 (by first | omega | (simp; done) | (simp; omega)) (fun k' e => (World.ownsRow.lt hown4 k' e).1); have z5 := n5.size; have r50 := (n5.cell (p := ⟨w7.heap.size, 0, none⟩) (by show w7.heap.size < w9.heap.size; omega)).trans u0; have r51 := (n5.cell (p := ⟨w7.heap.size, 1, none⟩) (by show w7.heap.size < w9.heap.size; omega)).trans u1; have r52 := (n5.cell (p := ⟨w7.heap.size, 2, none⟩) (by show w7.heap.size < w9.heap.size; omega)).trans u2; have r53 := (n5.cell (p := ⟨w7.heap.size, 3, none⟩) (by show w7.heap.size < w9.heap.size; omega)).trans u3; have r54 := (n5.cell (p := ⟨w7.heap.size, 4, none⟩) (by show w7.heap.size < w9.heap.size; omega)).trans u4)
                    | (refine step_append_rows _ rfl (.tmp 88) (.tmp 91) 23 rfl w9.heap.size 71 i0 (.agg #[.int .i64 0, .int .i64 0, .int .i64 0, .int .i64 0, .int .i64 0]) 5 40 Try.underlying23 hi hz0 hz1 hz2 rfl (by decide) (.slice a5 (0 + A.length + 1) c5) (0 + A.length + 1) ([] ++ (pcs (A.take A.length)) ++ [.int .i64 x, .int .i64 a, .int .i64 b, .int .i64 c, .int .i64 d]) (by first | rfl | (rw [Nat.zero_add]; rfl) | (simp only [Nat.zero_add]; rfl) | simp [Act.eval]) hown5 _ 0 _ [] (by first | rfl | simp) rfl (fun e => by first | (cases e; done) | (split at e <;> cases e)) (fun ad e j u hu => by simp at hu) (by simp) (by unfold maxLen; omega) (by omega) (by first | omega | (simp; done) | (simp; omega)) ?_; intro a6 c6 x6 hown6 hgrow6 hat6; have n6 : Below w9.heap.size w9 x6 := Below.grown n5 hgrow6 n5.size (fun k' e => (World.ownsRow.lt hown5 k' e).1); have r60 := (n6.cell (p := ⟨w7.heap.size, 0, none⟩) (by show w7.heap.size < w9.heap.size; omega)).trans u0; have r61 := (n6.cell (p := ⟨w7.heap.size, 1, none⟩) (by show w7.heap.size < w9.heap.size; omega)).trans u1; have r62 := (n6.cell (p := ⟨w7.heap.size, 2, none⟩) (by show w7.heap.size < w9.heap.size; omega)).trans u2; have r63 := (n6.cell (p := ⟨w7.heap.size, 3, none⟩) (by show w7.heap.size < w9.heap.size; omega)).trans u3; have r64 := (n6.cell (p := ⟨w7.heap.size, 4, none⟩) (by show w7.heap.size < w9.heap.size; omega)).trans u4)
                    | fail)
                all_goals
                  rw [Nat.zero_add, List.nil_append, Nat.add_zero] at hown6
                  go_wp2_with fail
                  go_meet
                  case rel =>
                    obtain ⟨A', g', c', h1, h2, h3, h4⟩ := pick_end (k := A.length) (by rw [List.drop_length]; exact hown6) (Nat.le_refl _) (by omega)
                    exact ⟨A', g', c', h1, h2, h3, h4, n6⟩
            case rest =>
            rename World => w10
            obtain ⟨A', g', c', rfl, hA', hc', hP', hb⟩ := hcut
            have v6 := (hb.cell (p := ⟨w7.heap.size, 6, none⟩) (by show w7.heap.size < w9.heap.size; omega)).trans u6
            have z10 := hb.size
            have S10 := Lib.hid (S9.out.below hR hb)
            have hN10 : NdAt w10 w.heap.size (.slice ad P.length pcap) P := by
              obtain ⟨a', c'', e, hh⟩ := shelf_low HG.out S10.out.gr hRB
              simp only [Value.slice.injEq] at e
              obtain ⟨rfl, _, _⟩ := e
              rcases hh with hh | ⟨b', o', e, hB, hc⟩
              · rw [hh] at hmS; simp at hmS
              · injection e with e
                simp only [Addr.mk.injEq] at e
                obtain ⟨rfl, rfl, _⟩ := e
                obtain ⟨_, ad', cap', e6', hnd⟩ := hc m hmS
                rw [HXP.out] at e6' hnd
                simp only at e6' hnd
                have e6 := (NN.out.cell (p := ⟨sb, so + m * 7 + 6, none⟩) hsB).trans E6.out
                rw [(hb.cell (p := ⟨sb, so + m * 7 + 6, none⟩) (by show sb < w9.heap.size; omega)), e6] at e6'
                simp only [Option.some.injEq, Value.slice.injEq] at e6'
                obtain ⟨rfl, _, rfl⟩ := e6'
                exact hnd
            obtain ⟨cs, hown, hcc⟩ := S10.out.opn
            have hlt := World.ownsRow.lt hown
            obtain ⟨news, l1, l2, l3, l4, l5⟩ := need_cells (x := (Value.slice (some ⟨ob, oo, none⟩) O.length oc).ownBlock) hN10 S10.out.gr.size (fun c e => (hlt c e).1)
            have HB10 := Lib.hid hb
            have HCC := Lib.hid hcc
            have HL3 := Lib.hid l3
            have HL5 := Lib.hid l5
            have HPP := Lib.hid hP'
            have HOW := Lib.hid hown
            have hPl := HS9.out.1
            have zz := S10.out.gr.size
            clear hb hcc l3 l5 hP' hown hN10 u0 u1 u2 u3 u4 u6
            go_wp2_with (at_builtin; refine Ap2.wpList_append _ rfl (.tmp 93) (.tmp 95) 32 rfl w.heap.size 110 j0 (.agg #[.int .i64 0, .slice none 0 0]) 2 32 Try.underlying32 hj hy0 hy1 hy2 rfl (by decide) _ O.length cs rfl HOW.out ad P.length pcap news (by rfl) l1 l2 HL3.out l4 (by unfold maxLen; omega) (by omega) (by omega) ?_)
            intro a11 c11 w11 hown11 hgrow11 hat11
            have n11 := grow_any HOW.out HCC.out HL5.out hown11 hgrow11 hat11
            have HR := Lib.hid (S9.out.next (A' := A') (P := P) (g' := g') (c' := c') hR HB10.out hA' HPP.out hc' hgrow11 n11 hPl HS9.out.2)
            clear hown11 hgrow11 hat11 n11
            go_wp2_with fail
            go_roundw
            case rel => exact ⟨k + 1, A', O ++ P, g', c', by omega, by go_num, by rw [hA'], HR.out⟩
            case measure => simp [intOf]; omega
        · simp only [got]
          clear hgt
          go_wp2_with fail
          go_roundw
          case rel => exact ⟨k + 1, A, O, cg, cc, by omega, by go_num, rfl, (S2.out.below hR (by go_grown)).more (by omega) (by omega)⟩
          case measure => simp [intOf]; omega
      · go_wp2_with fail
        go_ret
        exact ⟨A, _, rfl, S2.out.own, by omega, by obtain ⟨q, h1, h2, h3⟩ := S2.out.rd; exact ⟨q, h1, by omega, h3, S2.out.gr⟩⟩
    · go_wp2_with fail
      go_ret
      exact ⟨A, _, rfl, S2.out.own, by omega, by obtain ⟨q, h1, h2, h3⟩ := S2.out.rd; exact ⟨q, h1, by omega, h3, S2.out.gr⟩⟩
end Dch
end Go.Proofs.Ytmhamoeibkpnpaa

/- Contracts of the model's draws of a shelf, needs and picks (DrawChoiceReach, DrawChoiceTrim), over this seat's translation: whatever is drawn, at most 31 releases, nine needs and 30 picks; nothing that was there has changed. Condition: the code is readable. -/
namespace Go.Proofs.Ytmhamoeibkpnpaa
open Go.RowKit Go.Sort

namespace Dcr
open Foot Dsh Dpk Dch
set_option maxRecDepth 100000 in
theorem own_cap {w : World} {B t s n m c : Nat} {a : Option Addr} {xs : List Value} (h : w.ownsRow B t s (.slice a m c) n xs) : n ≤ c := by
  rcases h.2 with ⟨e, h0⟩ | ⟨g, cap, cur, e, hb, hg, hnc, _⟩
  · omega
  · simp only [Value.slice.injEq] at e
    obtain ⟨_, _, rfl⟩ := e
    exact hnc
def AnyChoice (w : World) (e : Ending) (w' : World) : Prop := ∃ S sa caps M na ncap C pa pc, e = .returned (.tuple #[.slice sa S.length caps, .slice na M.length ncap, .slice pa C.length pc]) ∧ RlAt w' w'.heap.size (.slice sa S.length caps) S ∧ NdAt w' w'.heap.size (.slice na M.length ncap) M ∧ PkAt w' w'.heap.size (.slice pa C.length pc) C ∧ S.length ≤ 31 ∧ SzOk S ∧ M.length ≤ 9 ∧ (∀ q ∈ M, q.2.length ≤ 41) ∧ C.length ≤ 30 ∧ M.length ≤ ncap ∧ C.length ≤ pc ∧ Below w.heap.size w w'

end Dcr
end Go.Proofs.Ytmhamoeibkpnpaa

/- Contracts of the model's draws of shelves, needs, what is held, and picks (DrawSolve, DrawSolveBest), over this seat's translation: whatever is drawn, at most 31 releases, nine needs and 30 picks of each; nothing that was there has changed. Condition: the code is readable. -/
namespace Go.Proofs.Ytmhamoeibkpnpaa
open Go.RowKit Go.Sort

namespace Dcr
open Foot Dsh Dpk Dch
def AnyBest (w : World) (e : Ending) (w' : World) : Prop := ∃ S sa caps M na ncap D da dc C pa pc, e = .returned (.tuple #[.slice sa S.length caps, .slice na M.length ncap, .slice da D.length dc, .slice pa C.length pc]) ∧ RlAt w' w'.heap.size (.slice sa S.length caps) S ∧ NdAt w' w'.heap.size (.slice na M.length ncap) M ∧ PkAt w' w'.heap.size (.slice da D.length dc) D ∧ PkAt w' w'.heap.size (.slice pa C.length pc) C ∧ S.length ≤ 31 ∧ SzOk S ∧ M.length ≤ 9 ∧ (∀ q ∈ M, q.2.length ≤ 41) ∧ D.length ≤ 30 ∧ C.length ≤ 30 ∧ Below w.heap.size w w'

end Dcr
end Go.Proofs.Ytmhamoeibkpnpaa
