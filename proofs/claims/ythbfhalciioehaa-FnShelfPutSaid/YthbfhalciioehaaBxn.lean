/- Blocks with some cells that can be written, and what a row of stores into one leaves, over this seat's translation. No condition. -/
import Derived.Test.YthbfhalciioehaaDknown
import Derived.Test.YthbfhalciioehaaGh
namespace Go.Proofs.Ythbfhalciioehaa
open Go.RowKit Go.Sort

namespace Bxn
open Foot
/-- A block whose first n cells can be written. -/
def Bx (n : Nat) (W : World) (p : Nat) : Prop := ∀ i, i < n → (∃ x, W.cell? ⟨p, i, none⟩ = some x) ∧ W.frozen? ⟨p, i, none⟩ = false
theorem Bx.kept {n : Nat} {W V : World} {p : Nat} (h : Bx n W p) (hb : V.heap[p]? = W.heap[p]?) : Bx n V p := fun i hi => by
  obtain ⟨⟨x, hx⟩, hf⟩ := h i hi
  exact ⟨⟨x, (World.cell?_of_block hb).trans hx⟩, (World.frozen?_of_block hb).trans hf⟩
theorem Bx.below {n : Nat} {W V : World} {B p : Nat} (h : Bx n W p) (hb : Below B W V) (hp : p < B) : Bx n V p := h.kept (hb.block p hp)
theorem Bx.drawn {n : Nat} {W V : World} {p R : Nat} (h : Bx n W p) (hg : W.grownBy V (some R)) (hp : p < W.heap.size) (hne : p ≠ R) : Bx n V p := h.kept (hg.block p hp (fun e => by injection e with e; exact hne e))
theorem Bx.new {n : Nat} (w : World) (cs : Array Value) (t : TypeId) (hn : n ≤ cs.size) : Bx n (w.alloc (.cells cs t)) w.heap.size := fun i hi => by
  have h := heap_alloc_new w (.cells cs t)
  exact ⟨⟨cs[i], (cell_of_row _ _ i _ _ (0, 0) h).trans (Array.getElem?_eq_getElem (by omega))⟩, by simp only [World.frozen?, h]; rfl⟩
/-- A row of stores into one block, from a cell on. -/
def sets (W : World) (p : Nat) : Nat → List Value → World
  | _, [] => W
  | i, x :: t => sets (W.setCell ⟨p, i, none⟩ x) p (i + 1) t
theorem sets_block (p j : Nat) (hj : j ≠ p) : ∀ (xs : List Value) (W : World) (i : Nat), (sets W p i xs).heap[j]? = W.heap[j]?
  | [], _, _ => rfl
  | x :: t, W, i => (sets_block p j hj t _ (i + 1)).trans (Below.heap_setCell W ⟨p, i, none⟩ x j hj)
theorem sets_size (p : Nat) : ∀ (xs : List Value) (W : World) (i : Nat), (sets W p i xs).heap.size = W.heap.size
  | [], _, _ => rfl
  | x :: t, _, i => (sets_size p t _ (i + 1)).trans (by simp [World.setCell])
theorem sets_below {B p : Nat} (hp : B ≤ p) {w : World} : ∀ (xs : List Value) (W : World) (i : Nat), Below B w W → Below B w (sets W p i xs)
  | [], _, _, h => h
  | x :: t, _, i, h => sets_below hp t _ (i + 1) (h.setCell (p := ⟨p, i, none⟩) hp x)
theorem sets_before (p k : Nat) : ∀ (xs : List Value) (W : World) (i : Nat), k < i → (sets W p i xs).cell? ⟨p, k, none⟩ = W.cell? ⟨p, k, none⟩
  | [], _, _, _ => rfl
  | x :: t, W, i, h => (sets_before p k t _ (i + 1) (by omega)).trans (World.cell?_setCell_other (h := fun e => by have := (Addr.mk.inj e).2.1; omega) ..)
theorem sets_at {n p : Nat} : ∀ (xs : List Value) (W : World) (i : Nat), i + xs.length ≤ n → (∀ j, j < n → ∃ x, W.cell? ⟨p, j, none⟩ = some x) → ∀ k (hk : k < xs.length), (sets W p i xs).cell? ⟨p, i + k, none⟩ = some xs[k]
  | [], _, _, _, _, k, hk => by simp at hk
  | x :: t, W, i, hn, h, k, hk => by
    simp only [List.length_cons] at hn hk
    have h' : ∀ j, j < n → ∃ y, (W.setCell ⟨p, i, none⟩ x).cell? ⟨p, j, none⟩ = some y := fun j hj => by
      obtain ⟨y, hy⟩ := h j hj
      by_cases e : j = i
      · subst e
        exact ⟨x, World.cell?_setCell_same (h := hy) ..⟩
      · exact ⟨y, (World.cell?_setCell_other (h := fun e' => e (Addr.mk.inj e').2.1.symm) ..).trans hy⟩
    rcases k with _ | k
    · obtain ⟨y, hy⟩ := h i (by omega)
      exact (sets_before p i t _ (i + 1) (by omega)).trans (World.cell?_setCell_same (h := hy) ..)
    · have := sets_at t (W.setCell ⟨p, i, none⟩ x) (i + 1) (by omega) h' k (by omega)
      rw [show i + (k + 1) = i + 1 + k by omega]
      exact this
theorem sets_rows {V : World} {B p : Nat} {v : Value} {S : List Rel} {fs : List (List Nat)} (h : RGrow V B v S fs) (hp : p < B) (i : Nat) (xs : List Value) : RGrow (sets V p i xs) B v S fs := by
  have e : ∀ j, j ≠ p → (sets V p i xs).heap[j]? = V.heap[j]? := fun j hj => sets_block p j hj xs V i
  obtain ⟨cs, ho, he, hn, hi⟩ := h
  exact ⟨cs, Copy.own_kept ho (fun k e' => e k (by have := (World.ownsRow.lt ho k e').1; omega)), he.kept fun b k => e b (by have := (hi b k).1; omega), hn, fun b k => ⟨(hi b k).1, by rw [sets_size]; exact (hi b k).2⟩⟩
theorem sets_grown (p : Nat) : ∀ (xs : List Value) (W : World) (i : Nat), W.grownBy (sets W p i xs) (some p)
  | [], _, _ => ⟨rfl, rfl, rfl, Nat.le_refl _, fun _ _ _ => rfl⟩
  | x :: t, W, i => by
    have h := sets_grown p t (W.setCell ⟨p, i, none⟩ x) (i + 1)
    exact ⟨h.os, h.tape, h.output, Nat.le_trans (Nat.le_of_eq (by simp [World.setCell])) h.size, fun j hj hne => sets_block p j (fun e => hne (by rw [e])) (x :: t) W i⟩
theorem rg_kept {w V : World} {B : Nat} {v : Value} {S : List Rel} {fs : List (List Nat)} (h : RGrow w B v S fs) (hk : ∀ j, B ≤ j → j < w.heap.size → V.heap[j]? = w.heap[j]?) (hz : w.heap.size ≤ V.heap.size) : RGrow V B v S fs := by
  obtain ⟨cs, ho, he, hn, hi⟩ := h
  exact ⟨cs, Copy.own_kept ho (fun k e' => hk k (World.ownsRow.lt ho k e').1 (World.ownsRow.lt ho k e').2), he.kept fun b k => hk b (hi b k).1 (hi b k).2.1, hn, fun b k => ⟨(hi b k).1, Nat.lt_of_lt_of_le (hi b k).2.1 hz, (hi b k).2.2⟩⟩
end Bxn
end Go.Proofs.Ythbfhalciioehaa
