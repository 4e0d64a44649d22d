/- The contract of the model's RangeAnd over this seat's translation: it answers as the plain functions of the spans tell. Nothing that was there before the call has changed. Condition: at most 1048576 spans. -/
import Derived.Test.YtgnjhmmedogcoaaSpnot
import Derived.Deep.RegionHeld3
namespace Go.Proofs.Ytgnjhmmedogcoaa
open Go.RowKit Go.Sort

/-- What each way through a round keeps of the row that grows, in its box. -/
def BoxOwn (w1 : World) (G : Sps) (v : Value) (wr : World) : Prop :=
  Owns wr (w1.heap.size + 1) v G ∧ wr.cell? ⟨w1.heap.size, 0, none⟩ = some v ∧ wr.frozen? ⟨w1.heap.size, 0, none⟩ = false ∧ Below w1.heap.size w1 wr ∧ w1.heap.size < wr.heap.size

set_option maxRecDepth 100000 in
theorem BoxOwn.grow {w1 wr w2 : World} {G : Sps} {v : Value} (h : BoxOwn w1 G v wr) (hb : Below wr.heap.size wr w2) : BoxOwn w1 G v w2 :=
  ⟨h.1.below hb, (hb.cell (p := ⟨w1.heap.size, 0, none⟩) h.2.2.2.2).trans h.2.1, (hb.frozen (p := ⟨w1.heap.size, 0, none⟩) h.2.2.2.2).trans h.2.2.1, h.2.2.2.1.trans (hb.mono (Nat.le_of_lt h.2.2.2.2)), Nat.lt_of_lt_of_le h.2.2.2.2 hb.size⟩
set_option maxRecDepth 100000 in
/-- An append, and the new value stored into the box. -/
theorem BoxOwn.push {w1 W w2 : World} {G : Sps} {v u : Value} {x y : Int} (h : BoxOwn w1 G v W) (ho : w2.ownsRow (w1.heap.size + 1) 73 2 u (G.length + 1) (flat G ++ [.int .i64 x, .int .i64 y])) (hg : W.grownBy w2 v.ownBlock) :
    BoxOwn w1 (G ++ [(x, y)]) u (w2.setCell ⟨w1.heap.size, 0, none⟩ u) := by
  obtain ⟨h1, h2, h3, h4, h5⟩ := h
  have c := h1.far hg (Nat.lt_succ_self _) h2
  have f := h1.farf hg (Nat.lt_succ_self _) h5 h3
  have b := h4.grown hg (Nat.le_of_lt h5) (fun k hk => Nat.le_trans (Nat.le_succ _) ((World.ownsRow.lt h1) k hk).1)
  have s := hg.size
  refine ⟨ownsRow_setCell_below (Owns.push ho) (Nat.lt_succ_self _) _, by go_simp, by go_simp, b.setCell (Nat.le_refl _) _, by simp; omega⟩

set_option maxRecDepth 100000 in
theorem andS_split {A B : Sps} {k : Nat} {x y : Int} (h : A[k]? = some (x, y)) : andS (A.drop k) B = cutOne x y B ++ andS (A.drop (k + 1)) B := by
  rw [drop_at h]
  simp [andS]
set_option maxRecDepth 100000 in
theorem cutOne_split {B : Sps} {j : Nat} {x y a b : Int} (h : B[j]? = some (x, y)) : cutOne a b (B.drop j) = (if max a x ≤ min b y then [(max a x, min b y)] else []) ++ cutOne a b (B.drop (j + 1)) := by
  rw [drop_at h]
  simp [cutOne]

def SAndOut (A B : Sps) (w1 : World) (si : Value) (wr : World) : Prop :=
  ∃ (k : Nat) (G : Sps) (v : Value), k ≤ A.length ∧ si = .int .i64 (k : Int) ∧ andS A B = G ++ andS (A.drop k) B ∧ G.length ≤ k * 40 ∧ BoxOwn w1 G v wr
def SAndIn (A B : Sps) (k : Nat) (x y : Int) (w1 : World) (sj : Value) (wr : World) : Prop :=
  ∃ (j : Nat) (G : Sps) (v : Value), j ≤ B.length ∧ sj = .int .i64 (j : Int) ∧ andS A B = G ++ (cutOne x y (B.drop j) ++ andS (A.drop (k + 1)) B) ∧ G.length ≤ k * 40 + j ∧ BoxOwn w1 G v wr

set_option maxRecDepth 100000 in
theorem sand_in {A B G : Sps} {k j : Nat} {x y a b : Int} {w1 wr : World} {v : Value} (hB : B[j]? = some (a, b)) (he : andS A B = G ++ (cutOne x y (B.drop j) ++ andS (A.drop (k + 1)) B)) (hn : G.length ≤ k * 40 + j)
    (hv : BoxOwn w1 (G ++ if max x a ≤ min y b then [(max x a, min y b)] else []) v wr) : SAndIn A B k x y w1 (.int .i64 ((j : Int) + 1)) wr := by
  have hj : j < B.length := (List.getElem?_eq_some_iff.1 hB).1
  refine ⟨j + 1, _, v, by omega, by go_num, ?_, ?_, hv⟩
  · rw [he, cutOne_split hB, List.append_assoc, List.append_assoc]
  · rw [List.length_append]
    split <;> simp <;> omega

end Go.Proofs.Ytgnjhmmedogcoaa
