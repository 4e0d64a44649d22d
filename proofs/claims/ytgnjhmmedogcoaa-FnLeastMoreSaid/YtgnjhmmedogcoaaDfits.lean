/- The contract of the model's draw of a shelf and a need, over this seat's translation: whatever is drawn, at most 31 releases, and a need of at most three spans; nothing that was there has changed. Condition: the code is readable. -/
import Derived.Deep.RegionHeld3
import Derived.Test.YtgnjhmmedogcoaaDshelf
import Derived.Test.YtgnjhmmedogcoaaGe
namespace Go.Proofs.Ytgnjhmmedogcoaa
open Go.RowKit Go.Sort

namespace Dfi
open Foot Dsh
/-- A block with two cells that can be written. -/
def BX (W : World) (p : Nat) : Prop := ∃ x0 x1, W.cell? ⟨p, 0, none⟩ = some x0 ∧ W.cell? ⟨p, 1, none⟩ = some x1 ∧ W.frozen? ⟨p, 0, none⟩ = false ∧ W.frozen? ⟨p, 1, none⟩ = false
theorem BX.below {W V : World} {B p : Nat} (h : BX W p) (hb : Below B W V) (hp : p < B) : BX V p := by
  obtain ⟨x0, x1, h0, h1, f0, f1⟩ := h
  exact ⟨x0, x1, (hb.cell (p := ⟨p, 0, none⟩) hp).trans h0, (hb.cell (p := ⟨p, 1, none⟩) hp).trans h1, (hb.frozen (p := ⟨p, 0, none⟩) hp).trans f0, (hb.frozen (p := ⟨p, 1, none⟩) hp).trans f1⟩
theorem BX.drawn {W V : World} {p R : Nat} (h : BX W p) (hg : W.grownBy V (some R)) (hp : p < W.heap.size) (hne : p ≠ R) : BX V p := by
  obtain ⟨x0, x1, h0, h1, f0, f1⟩ := h
  have hb := hg.block p hp (fun e => by injection e with e; exact hne e)
  exact ⟨x0, x1, (World.cell?_of_block hb).trans h0, (World.cell?_of_block hb).trans h1, (World.frozen?_of_block hb).trans f0, (World.frozen?_of_block hb).trans f1⟩
theorem BX.new (w : World) (a b : Value) : BX (w.alloc (.cells #[a, b] 59)) w.heap.size := by
  have h := heap_alloc_new w (.cells #[a, b] 59)
  exact ⟨a, b, (cell_of_row _ _ 0 _ _ (0, 0) h).trans rfl, (cell_of_row _ _ 1 _ _ (0, 0) h).trans rfl, by simp only [World.frozen?, h]; rfl, by simp only [World.frozen?, h]; rfl⟩
theorem BX.other {W : World} {p b o : Nat} (h : BX W p) (hne : p ≠ b) (x : Value) : BX (W.setCell ⟨b, o, none⟩ x) p := by
  obtain ⟨x0, x1, h0, h1, f0, f1⟩ := h
  have hb := Below.heap_setCell W ⟨b, o, none⟩ x p hne
  exact ⟨x0, x1, (World.cell?_of_block hb).trans h0, (World.cell?_of_block hb).trans h1, (World.frozen?_of_block hb).trans f0, (World.frozen?_of_block hb).trans f1⟩
theorem BX.stored {W : World} {p : Nat} (h : BX W p) (a b : Value) : ((W.setCell ⟨p, 0, none⟩ a).setCell ⟨p, 1, none⟩ b).cell? ⟨p, 0, none⟩ = some a ∧ ((W.setCell ⟨p, 0, none⟩ a).setCell ⟨p, 1, none⟩ b).cell? ⟨p, 1, none⟩ = some b := by
  obtain ⟨x0, x1, h0, h1, _⟩ := h
  have o : ∀ (V : World) (i j : Nat) (x : Value), i ≠ j → (V.setCell ⟨p, i, none⟩ x).cell? ⟨p, j, none⟩ = V.cell? ⟨p, j, none⟩ := fun V i j x h => World.cell?_setCell_other (h := fun e => h (Addr.mk.inj e).2.1) ..
  have s : ∀ (V : World) (i : Nat) (x u : Value), V.cell? ⟨p, i, none⟩ = some u → (V.setCell ⟨p, i, none⟩ x).cell? ⟨p, i, none⟩ = some x := fun V i x u h => World.cell?_setCell_same (h := h) ..
  refine ⟨?_, ?_⟩
  · rw [o _ 1 0 _ (by decide)]
    exact s _ _ _ _ h0
  · exact s _ _ _ _ ((o _ 0 1 _ (by decide)).trans h1)
theorem two_block {W : World} {p j : Nat} (a b : Value) (h : j ≠ p) : ((W.setCell ⟨p, 0, none⟩ a).setCell ⟨p, 1, none⟩ b).heap[j]? = W.heap[j]? := (Below.heap_setCell _ ⟨p, 1, none⟩ b j h).trans (Below.heap_setCell _ ⟨p, 0, none⟩ a j h)
theorem two_size {W : World} {p : Nat} (a b : Value) : ((W.setCell ⟨p, 0, none⟩ a).setCell ⟨p, 1, none⟩ b).heap.size = W.heap.size := by simp [World.setCell]
theorem RGrow_two {V : World} {B p : Nat} {v : Value} {S : List Rel} {fs : List (List Nat)} (h : RGrow V B v S fs) (hp : p < B) (a b : Value) : RGrow ((V.setCell ⟨p, 0, none⟩ a).setCell ⟨p, 1, none⟩ b) B v S fs := by
  obtain ⟨cs, ho, he, hn, hi⟩ := h
  exact ⟨cs, Copy.own_kept ho (fun k e' => two_block a b (by have := (World.ownsRow.lt ho k e').1; omega)), he.kept fun j k => two_block a b (by have := (hi j k).1; omega), hn, fun j k => ⟨(hi j k).1, by rw [two_size]; exact (hi j k).2.1, (hi j k).2.2⟩⟩
theorem SRes_two {V : World} {B p : Nat} {v : Value} {L : Sps} (h : SRes L B v V) (hp : p < B) (a b : Value) : SRes L B v ((V.setCell ⟨p, 0, none⟩ a).setCell ⟨p, 1, none⟩ b) := h.kept fun g hg _ => two_block a b (by omega)
theorem SRes_drawn {W V : World} {B R : Nat} {v : Value} {L : Sps} (h : SRes L B v W) (hg : W.grownBy V (some R)) (hR : R < B) : SRes L B v V := h.kept fun g hb hl => hg.block g hl (fun e => by injection e with e; omega)
def AnyFits (w : World) (e : Ending) (w' : World) : Prop := ∃ S sa caps, ∃ n : Int, ∃ L la lc, e = .returned (.tuple #[.slice sa S.length caps, .agg #[.int .i64 n, .slice la L.length lc]]) ∧ RlAt w' w'.heap.size (.slice sa S.length caps) S ∧ SpAt w' w'.heap.size (.slice la L.length lc) L ∧ S.length ≤ 31 ∧ SzOk S ∧ L.length ≤ 3 ∧ Below w.heap.size w w'
/-- The same, all of it in blocks behind the first one that the call makes. -/
def AnyFitsG (w : World) (e : Ending) (w' : World) : Prop := ∃ S sa caps, ∃ n : Int, ∃ L la lc fs, e = .returned (.tuple #[.slice sa S.length caps, .agg #[.int .i64 n, .slice la L.length lc]]) ∧ RGrow w' (w.heap.size + 1) (.slice sa S.length caps) S fs ∧ SRes L (w.heap.size + 1) (.slice la L.length lc) w' ∧ S.length ≤ 31 ∧ SzOk S ∧ L.length ≤ 3 ∧ Below w.heap.size w w'
theorem rgrow_down {w : World} {B B' : Nat} {v : Value} {S : List Rel} {fs : List (List Nat)} (h : RGrow w B v S fs) (hB : B' ≤ B) : RGrow w B' v S fs := by
  obtain ⟨cs, ⟨hl, ho⟩, he, hn, hi⟩ := h
  refine ⟨cs, ⟨hl, ?_⟩, he, hn, fun b k => ⟨by have := (hi b k).1; omega, (hi b k).2⟩⟩
  rcases ho with h | ⟨g, c, cur, hv, hb, rest⟩
  · exact .inl h
  · exact .inr ⟨g, c, cur, hv, by omega, rest⟩
/-- The two odd needs of the model's table. -/
theorem tab_fit {W : World} {g k : Nat} (h : k < 2) (hs : SRes [(-1, 0)] g (.slice (some ⟨g, 0, none⟩) 1 1) W) :
    ∃ (y : Int) (a : Option Addr) (c : Nat) (L : Sps), (#[.int .i64 (-1), .slice none 0 0, .int .i64 1, .slice (some ⟨g, 0, none⟩) 1 1] : Array Value)[k * 2]? = some (.int .i64 y) ∧ (#[.int .i64 (-1), .slice none 0 0, .int .i64 1, .slice (some ⟨g, 0, none⟩) 1 1] : Array Value)[k * 2 + 1]? = some (.slice a L.length c) ∧ SRes L g (.slice a L.length c) W ∧ L.length ≤ 3 := by
  have : k = 0 ∨ k = 1 := by omega
  rcases this with rfl | rfl
  · exact ⟨-1, none, 0, [], rfl, rfl, ⟨none, 0, rfl, .inl rfl⟩, by simp⟩
  · exact ⟨1, _, _, [(-1, 0)], rfl, rfl, hs, by simp⟩

end Dfi
end Go.Proofs.Ytgnjhmmedogcoaa
