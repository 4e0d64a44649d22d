/- What a walk needs of a world of which only 'Below' is known: calls in it, its old cells, a boxed version, and two closed facts on the program. -/
import Derived.Test.YtdjnfmekbjmdhaaFrame
import Derived.Test.YtdjnfmekbjmdhaaVer
namespace Go.Proofs.Ytdjnfmekbjmdhaa
open Go.ChangeShapes Go.WideShapes Go.ChangeAt Go.RowKit Go.Joins

/-- A callee that changes nothing that was there, met in a world that is, below B, as W was. -/
theorem rel {P : Program} {f : FuncId} {args : Array Value} {v : Value} {B : Nat} {W V : World} (hB : B ≤ W.heap.size) (hb : Below B W V)
    (h : Calls P f args V fun e w' => e = .returned v ∧ Below V.heap.size V w') : Calls P f args V fun e w' => e = .returned v ∧ Below B W w' :=
  h.mono fun _ _ ⟨he, h2⟩ => ⟨he, hb.trans (h2.mono (Nat.le_trans hB hb.size))⟩
theorem cells_of {B : Nat} {W V : World} (hb : Below B W V) : ∀ b o, b < B → V.cell? ⟨b, o, none⟩ = W.cell? ⟨b, o, none⟩ := fun b o h => hb.cell (p := ⟨b, o, none⟩) h

/-- Behind a region that only reads and calls what leaves all old memory: the world is one of which 'Below' alone is known. -/
theorem quiet_end {W W' : World} (h : ∃ p : Regrown, W' = Go.Sort.grow (redrawn W p.d) p.os) : Below W.heap.size W W' := by
  obtain ⟨p, rfl⟩ := h
  exact below_regrown _ _ _

/-- Block p of the world holds a version's four numbers. -/
def VerAt (W : World) (p : Nat) (a b c d : Int) : Prop :=
  W.cell? ⟨p, 0, none⟩ = some (.int .i64 a) ∧ W.cell? ⟨p, 1, none⟩ = some (.int .i64 b) ∧ W.cell? ⟨p, 2, none⟩ = some (.int .i64 c) ∧ W.cell? ⟨p, 3, none⟩ = some (.int .i64 d)
theorem VerAt.below {W V : World} {p B : Nat} {a b c d : Int} (h : VerAt W p a b c d) (hb : Below B W V) (hp : p < B) : VerAt V p a b c d := by
  obtain ⟨h0, h1, h2, h3⟩ := h
  have k := cells_of hb
  exact ⟨(k _ _ hp).trans h0, (k _ _ hp).trans h1, (k _ _ hp).trans h2, (k _ _ hp).trans h3⟩
theorem VerAt.grown {W : World} {p : Nat} {a b c d : Int} (h : VerAt W p a b c d) :
    (∀ n os, (Go.Sort.grow (redrawn W n) os).cell? ⟨p, 0, none⟩ = some (.int .i64 a)) ∧ (∀ n os, (Go.Sort.grow (redrawn W n) os).cell? ⟨p, 1, none⟩ = some (.int .i64 b)) ∧
    (∀ n os, (Go.Sort.grow (redrawn W n) os).cell? ⟨p, 2, none⟩ = some (.int .i64 c)) ∧ (∀ n os, (Go.Sort.grow (redrawn W n) os).cell? ⟨p, 3, none⟩ = some (.int .i64 d)) :=
  ⟨cell_regrown h.1, cell_regrown h.2.1, cell_regrown h.2.2.1, cell_regrown h.2.2.2⟩
theorem verAt_new (w : World) (a b c d : Int) (t : TypeId) : VerAt (w.alloc (.cells #[.int .i64 a, .int .i64 b, .int .i64 c, .int .i64 d] t)) w.heap.size a b c d := by
  refine ⟨?_, ?_, ?_, ?_⟩ <;> go_simp

theorem own : ownKnob Try.prog.godebug = none := by kernel_rfl
theorem laid : laidOutB Try.prog = true := by kernel_rfl
end Go.Proofs.Ytdjnfmekbjmdhaa
