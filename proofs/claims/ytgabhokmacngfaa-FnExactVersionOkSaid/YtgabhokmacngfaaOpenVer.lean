/- A version that comes in by value is four whole numbers, each one fitting its kind. -/
import Derived.Test.YtgabhokmacngfaaFrame
import Derived.Test.YtgabhokmacngfaaVer
namespace Go.Proofs.Ytgabhokmacngfaa
open Go.ChangeShapes Go.WideShapes Go.ChangeAt Go.RowKit Go.Joins

theorem lawVer_cells : Try.prog.cellsOf 23 = 4 := by kernel_rfl

theorem open_ver {H : Type} {enc : TypeId × Value → H} {w : World} {base b0 : Nat} {spare : Nat → Bool} {held : Bool} {v : Value} {d : DataW H} {p : List MemPlace}
    (hv : Value.okWide Try.prog w .any b0 23 v) (h : DataW.Trod enc Try.prog w base spare held 23 v d p) : ∃ a b c e : Int, v = ver a b c e := by
  obtain ⟨c0, c1, c2, c3, y0, y1, y2, y3, m, rfl, _, _, h0, h1, h2, h3⟩ := open_agg4 Try.underlying23 (by kernel_rfl) lawVer_cells hv h
  obtain ⟨a, e0, _, _⟩ := DataW.trod_int Try.underlying3 h0
  obtain ⟨b, e1, _, _⟩ := DataW.trod_int Try.underlying3 h1
  obtain ⟨c, e2, _, _⟩ := DataW.trod_int Try.underlying3 h2
  obtain ⟨e, e3, _, _⟩ := DataW.trod_int Try.underlying3 h3
  simp at e0 e1 e2 e3
  subst e0; subst e1; subst e2; subst e3
  exact ⟨a, b, c, e, rfl⟩

/-- A callee that changes nothing that was there, met in a world that is, below B, as W was. -/
theorem rel {P : Program} {f : FuncId} {args : Array Value} {v : Value} {B : Nat} {W V : World} (hB : B ≤ W.heap.size) (hb : Below B W V)
    (h : Calls P f args V fun e w' => e = .returned v ∧ Below V.heap.size V w') : Calls P f args V fun e w' => e = .returned v ∧ Below B W w' :=
  h.mono fun _ _ ⟨he, h2⟩ => ⟨he, hb.trans (h2.mono (Nat.le_trans hB hb.size))⟩
theorem cells_of {B : Nat} {W V : World} (hb : Below B W V) : ∀ b o, b < B → V.cell? ⟨b, o, none⟩ = W.cell? ⟨b, o, none⟩ := fun b o h => hb.cell (p := ⟨b, o, none⟩) h

theorem own : ownKnob Try.prog.godebug = none := by kernel_rfl
theorem laid : laidOutB Try.prog = true := by kernel_rfl
end Go.Proofs.Ytgabhokmacngfaa
