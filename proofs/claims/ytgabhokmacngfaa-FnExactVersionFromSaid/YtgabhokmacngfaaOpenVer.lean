/- A version that comes in by value is four whole numbers, each one fitting its kind. -/
import Derived.Test.YtgabhokmacngfaaFrame
import Derived.Test.YtgabhokmacngfaaVer
namespace Go.Proofs.Ytgabhokmacngfaa
open Go.ChangeShapes Go.WideShapes Go.ChangeAt Go.RowKit Go.Joins

theorem lawVer_cells : Try.prog.cellsOf 23 = 4 := by kernel_rfl

theorem open_ver {H : Type} {enc : TypeId × Value → H} {w : World} {base b0 : Nat} {spare : Nat → Bool} {held : Bool} {v : Value} {d : DataW H} {p : List MemPlace}
    (hv : Value.okWide Try.prog w .any b0 23 v) (h : DataW.Trod enc Try.prog w base spare held 23 v d p) : ∃ a b c e : Int, v = ver a b c e := by
  obtain ⟨c0, c1, c2, c3, y0, y1, y2, y3, m, rfl, _, _, h0, h1, h2, h3⟩ := open_agg4 Try.underlying23 (by kernel_rfl) lawVer_cells hv h
  obtain ⟨a, e0, _, _⟩ := DataW.trod_int Try.underlying3 h0
  obtain ⟨b, e1, _, _⟩ := DataW.trod_int Try.underlying3 h1
  obtain ⟨c, e2, _, _⟩ := DataW.trod_int Try.underlying3 h2
  obtain ⟨e, e3, _, _⟩ := DataW.trod_int Try.underlying3 h3
  simp at e0 e1 e2 e3
  subst e0; subst e1; subst e2; subst e3
  exact ⟨a, b, c, e, rfl⟩

/-- A callee that changes nothing that was there, met in a world that is, below B, as W was. -/
theorem rel {P : Program} {f : FuncId} {args : Array Value} {v : Value} {B : Nat} {W V : World} (hB : B ≤ W.heap.size) (hb : Below B W V)
    (h : Calls P f args V fun e w' => e = .returned v ∧ Below V.heap.size V w') : Calls P f args V fun e w' => e = .returned v ∧ Below B W w' :=
  h.mono fun _ _ ⟨he, h2⟩ => ⟨he, hb.trans (h2.mono (Nat.le_trans hB hb.size))⟩
theorem cells_of {B : Nat} {W V : World} (hb : Below B W V) : ∀ b o, b < B → V.cell? ⟨b, o, none⟩ = W.cell? ⟨b, o, none⟩ := fun b o h => hb.cell (p := ⟨b, o, none⟩) h

/-- Behind a region that only reads and calls what leaves all old memory: the world is one of which 'Below' alone is known. -/
theorem quiet_end {W W' : World} (h : ∃ p : Regrown, W' = Go.Sort.grow (redrawn W p.d) p.os) : Below W.heap.size W W' := by
  obtain ⟨p, rfl⟩ := h
  exact below_regrown _ _ _

/-- Block p of the world holds a version's four numbers. -/
def VerAt (W : World) (p : Nat) (a b c d : Int) : Prop :=
  W.cell? ⟨p, 0, none⟩ = some (.int .i64 a) ∧ W.cell? ⟨p, 1, none⟩ = some (.int .i64 b) ∧ W.cell? ⟨p, 2, none⟩ = some (.int .i64 c) ∧ W.cell? ⟨p, 3, none⟩ = some (.int .i64 d)
theorem VerAt.below {W V : World} {p B : Nat} {a b c d : Int} (h : VerAt W p a b c d) (hb : Below B W V) (hp : p < B) : VerAt V p a b c d := by
  obtain ⟨h0, h1, h2, h3⟩ := h
  have k := cells_of hb
  exact ⟨(k _ _ hp).trans h0, (k _ _ hp).trans h1, (k _ _ hp).trans h2, (k _ _ hp).trans h3⟩
theorem VerAt.grown {W : World} {p : Nat} {a b c d : Int} (h : VerAt W p a b c d) :
    (∀ n os, (Go.Sort.grow (redrawn W n) os).cell? ⟨p, 0, none⟩ = some (.int .i64 a)) ∧ (∀ n os, (Go.Sort.grow (redrawn W n) os).cell? ⟨p, 1, none⟩ = some (.int .i64 b)) ∧
    (∀ n os, (Go.Sort.grow (redrawn W n) os).cell? ⟨p, 2, none⟩ = some (.int .i64 c)) ∧ (∀ n os, (Go.Sort.grow (redrawn W n) os).cell? ⟨p, 3, none⟩ = some (.int .i64 d)) :=
  ⟨cell_regrown h.1, cell_regrown h.2.1, cell_regrown h.2.2.1, cell_regrown h.2.2.2⟩
theorem verAt_new (w : World) (a b c d : Int) (t : TypeId) : VerAt (w.alloc (.cells #[.int .i64 a, .int .i64 b, .int .i64 c, .int .i64 d] t)) w.heap.size a b c d := by
  refine ⟨?_, ?_, ?_, ?_⟩ <;> go_simp

theorem own : ownKnob Try.prog.godebug = none := by kernel_rfl
theorem laid : laidOutB Try.prog = true := by kernel_rfl
end Go.Proofs.Ytgabhokmacngfaa
