/- The state of the draw of a range, over this seat's translation: the row that grows lies in its box, the reader was asked some more, all else that was there is as it was. -/
import Derived.Test.YtflmljgmmcdniaaSpor
import Derived.Test.YtflmljgmmcdniaaDver
import Derived.Test.YtflmljgmmcdniaaRlaw
namespace Go.Proofs.Ytflmljgmmcdniaa
open Go.RowKit Go.Sort

structure RB (w : World) (R p c : Nat) (G : Sps) (v : Value) (wr : World) : Prop where
  own : Owns wr (w.heap.size + 2) v G
  c1 : wr.cell? ⟨w.heap.size + 1, 0, none⟩ = some v
  f1 : wr.frozen? ⟨w.heap.size + 1, 0, none⟩ = false
  c0 : wr.cell? ⟨w.heap.size, 0, none⟩ = some (.slice none 0 0)
  f0 : wr.frozen? ⟨w.heap.size, 0, none⟩ = false
  rd : ∃ q, p ≤ q ∧ q ≤ p + c ∧ RdAt wr R q
  gr : w.grownBy wr (some R)
  sz : w.heap.size + 2 ≤ wr.heap.size

theorem grown_cell {w w' : World} {R b o : Nat} (h : w.grownBy w' (some R)) (hb : b < w.heap.size) (hne : b ≠ R) : w'.cell? ⟨b, o, none⟩ = w.cell? ⟨b, o, none⟩ :=
  World.cell?_of_block (a := ⟨b, o, none⟩) (h.block b hb (fun e => hne (by injection e)))
theorem grown_frozen {w w' : World} {R b o : Nat} (h : w.grownBy w' (some R)) (hb : b < w.heap.size) (hne : b ≠ R) : w'.frozen? ⟨b, o, none⟩ = w.frozen? ⟨b, o, none⟩ :=
  World.frozen?_of_block (a := ⟨b, o, none⟩) (h.block b hb (fun e => hne (by injection e)))
theorem Owns.drawn {w w' : World} {B R : Nat} {v : Value} {L : Sps} (h : Owns w B v L) (hg : w.grownBy w' (some R)) (hR : R < B) : Owns w' B v L :=
  World.ownsRow.kept h hg (.inr fun e => by
    have := (World.ownsRow.lt h) R e
    omega)

variable {w wr w2 : World} {R p c c' q : Nat} {G L : Sps} {v u : Value}
theorem RB.more (h : RB w R p c G v wr) (hc : c ≤ c') : RB w R p c' G v wr :=
  ⟨h.own, h.c1, h.f1, h.c0, h.f0, (by obtain ⟨q, h1, h2, h3⟩ := h.rd; exact ⟨q, h1, by omega, h3⟩), h.gr, h.sz⟩
theorem RB.below (h : RB w R p c G v wr) (hR : R < w.heap.size) (hb : Below wr.heap.size wr w2) : RB w R p c G v w2 := by
  have hs := h.sz
  refine ⟨Owns.below h.own hb, (hb.cell (p := ⟨_, 0, none⟩) (by show w.heap.size + 1 < wr.heap.size; omega)).trans h.c1, (hb.frozen (p := ⟨_, 0, none⟩) (by show w.heap.size + 1 < wr.heap.size; omega)).trans h.f1, (hb.cell (p := ⟨_, 0, none⟩) (by show w.heap.size < wr.heap.size; omega)).trans h.c0, (hb.frozen (p := ⟨_, 0, none⟩) (by show w.heap.size < wr.heap.size; omega)).trans h.f0, ?_, grown_below h.gr (hb.mono (by omega)), Nat.le_trans hs hb.size⟩
  obtain ⟨q, h1, h2, h3⟩ := h.rd
  exact ⟨q, h1, h2, rdAt_below h3 hb (by omega)⟩
theorem RB.draw (h : RB w R p c G v wr) (hR : R < w.heap.size) (hq1 : p ≤ q) (hq2 : q ≤ p + c) (hd : Drawn wr R q c' w2) : RB w R p (c + c') G v w2 := by
  have hs := h.sz
  obtain ⟨q', h1, h2, hr, hg⟩ := hd
  exact ⟨Owns.drawn h.own hg (by omega), (grown_cell hg (by omega) (by omega)).trans h.c1, (grown_frozen hg (by omega) (by omega)).trans h.f1, (grown_cell hg (by omega) (by omega)).trans h.c0, (grown_frozen hg (by omega) (by omega)).trans h.f0,
    ⟨q', by omega, by omega, hr⟩, grown_trans h.gr hg, Nat.le_trans hs hg.size⟩
theorem drawn_pick {wr w2 : World} {R q : Nat} (hr : RdAt w2 R (q + 1)) (hg : wr.grownBy w2 (some R)) : Drawn wr R q 1 w2 := ⟨q + 1, by omega, by omega, hr, hg⟩
/-- Another row laid into the box. -/
theorem RB.set (h : RB w R p c G v wr) (hR : R < w.heap.size) (ho : Owns wr (w.heap.size + 2) u L) : RB w R p c L u (wr.setCell ⟨w.heap.size + 1, 0, none⟩ u) := by
  have hs := h.sz
  have e1 := h.c1
  have e2 := h.f1
  have e3 := h.c0
  have e4 := h.f0
  refine ⟨ownsRow_setCell_below ho (by show w.heap.size + 1 < w.heap.size + 2; omega) _, by go_simp, by go_simp, by go_simp, by go_simp, ?_, grown_set h.gr (by omega), by simpa [World.setCell] using hs⟩
  obtain ⟨q, h1, h2, h3⟩ := h.rd
  exact ⟨q, h1, h2, rdAt_set h3 (by omega)⟩
/-- An append, and the new value stored into the box. -/
theorem RB.push {W : World} {x y : Int} (h : RB w R p c G v W) (hR : R < w.heap.size) (ho : w2.ownsRow (w.heap.size + 2) 40 2 u (G.length + 1) (flat G ++ [.int .i64 x, .int .i64 y])) (hg : W.grownBy w2 v.ownBlock) :
    RB w R p c (G ++ [(x, y)]) u (w2.setCell ⟨w.heap.size + 1, 0, none⟩ u) := by
  have hs := h.sz
  have hlt := World.ownsRow.lt h.own
  have e1 := h.own.far hg (by omega) h.c1
  have e2 := h.own.farf hg (by omega) (by omega) h.f1
  have e3 := h.own.far hg (by omega) h.c0
  have e4 := h.own.farf hg (by omega) (by omega) h.f0
  have s2 := hg.size
  have nb : ∀ k, k < w.heap.size + 2 → w2.heap[k]? = W.heap[k]? := fun k hk => hg.block k (by omega) (fun e => by have := hlt k e.symm; omega)
  refine ⟨ownsRow_setCell_below (Owns.push ho) (by show w.heap.size + 1 < w.heap.size + 2; omega) _, by go_simp, by go_simp, by go_simp, by go_simp, ?_, grown_set ⟨hg.os.trans h.gr.os, hg.tape.trans h.gr.tape, hg.output.trans h.gr.output, Nat.le_trans h.gr.size s2, fun k hk hne => (nb k (by omega)).trans (h.gr.block k hk hne)⟩ (by omega), by simp [World.setCell]; omega⟩
  obtain ⟨q, h1, h2, h3⟩ := h.rd
  exact ⟨q, h1, h2, rdAt_set (rdAt_kept h3 fun k hk => nb k (by omega)) (by omega)⟩

theorem orR_40 (A B : Sps) : (orR A B).length ≤ 40 := by
  unfold orR fitR
  split
  · split
    · assumption
    · simp
  · simp
theorem fromL_1 (a b c d : Int) : (fromL a b c d).length ≤ 40 := by
  unfold fromL
  split <;> simp
theorem oneL_1 (a b c d : Int) : (oneL a b c d).length ≤ 40 := by
  unfold oneL
  split <;> simp

/-- What a draw of a range leaves: a row of its own, the reader asked some more, all else as it was. -/
def RngDraw (R p : Nat) (w : World) (e : Ending) (w' : World) : Prop :=
  ∃ L u, e = .returned (.agg #[u]) ∧ Owns w' w.heap.size u L ∧ L.length ≤ 41 ∧ Drawn w R p 300 w'

/-- Laying a range together with one span: whatever it is. -/
def OrSome (w : World) (e : Ending) (w' : World) : Prop :=
  ∃ u L o, e = .returned (.tuple #[.agg #[u], .bool o]) ∧ Owns w' w.heap.size u L ∧ L.length ≤ 40 ∧ Below w.heap.size w w'
theorem one_ex {V : World} {g : Nat} (h0 : ∃ x, V.cell? ⟨g, 0, none⟩ = some (.int .i64 x)) (h1 : ∃ y, V.cell? ⟨g, 1, none⟩ = some (.int .i64 y)) (hg : g < V.heap.size) :
    ∃ B : Sps, B.length ≤ 1048576 ∧ SpAt V V.heap.size (.slice (some ⟨g, 0, none⟩) 1 1) B := by
  obtain ⟨x, h0⟩ := h0
  obtain ⟨y, h1⟩ := h1
  refine ⟨[(x, y)], by simp, some ⟨g, 0, none⟩, 1, rfl, .inr ⟨g, 0, rfl, hg, fun i hi => ?_⟩⟩
  obtain rfl : i = 0 := by simp at hi; exact hi
  exact ⟨h0, h1⟩
theorem specOr_some (v v' : Value) (A : Sps) (w : World) (hl : A.length ≤ 1048576) (h : SpAt w w.heap.size v A) (h' : ∃ B : Sps, B.length ≤ 1048576 ∧ SpAt w w.heap.size v' B) : Calls Try.prog 21 #[.agg #[v], .agg #[v']] w (OrSome w) := by
  obtain ⟨B, hm, h'⟩ := h'
  refine (specOr_own v v' A B w hl hm h h').mono ?_
  rintro e w' ⟨u, rfl, ho, hb⟩
  exact ⟨u, _, _, rfl, ho, orR_40 A B, hb⟩

end Go.Proofs.Ytflmljgmmcdniaa
