/- Contracts of PickOf and ChoiceBetter, the program's and the model's, over this seat's translation: all answer as plain functions of the picks; nothing that was there before the call has changed. Condition: at most 1048576 picks. -/
import Derived.Test.YtgjmgclgokgobaaPkof
import Derived.Test.YtgjmgclgokgobaaGa
namespace Go.Proofs.Ytgjmgclgokgobaa
open Go.RowKit Go.Sort

/-- A block with four cells that can be written. -/
def VC (W : World) (p : Nat) : Prop :=
  ∃ x0 x1 x2 x3, W.cell? ⟨p, 0, none⟩ = some x0 ∧ W.cell? ⟨p, 1, none⟩ = some x1 ∧ W.cell? ⟨p, 2, none⟩ = some x2 ∧ W.cell? ⟨p, 3, none⟩ = some x3 ∧ W.frozen? ⟨p, 0, none⟩ = false ∧ W.frozen? ⟨p, 1, none⟩ = false ∧ W.frozen? ⟨p, 2, none⟩ = false ∧ W.frozen? ⟨p, 3, none⟩ = false
theorem VC.below {W V : World} {B p : Nat} (h : VC W p) (hb : Below B W V) (hp : p < B) : VC V p := by
  obtain ⟨x0, x1, x2, x3, h0, h1, h2, h3, f0, f1, f2, f3⟩ := h
  exact ⟨x0, x1, x2, x3, (hb.cell (p := ⟨p, 0, none⟩) hp).trans h0, (hb.cell (p := ⟨p, 1, none⟩) hp).trans h1, (hb.cell (p := ⟨p, 2, none⟩) hp).trans h2, (hb.cell (p := ⟨p, 3, none⟩) hp).trans h3,
    (hb.frozen (p := ⟨p, 0, none⟩) hp).trans f0, (hb.frozen (p := ⟨p, 1, none⟩) hp).trans f1, (hb.frozen (p := ⟨p, 2, none⟩) hp).trans f2, (hb.frozen (p := ⟨p, 3, none⟩) hp).trans f3⟩
theorem VC.new (w : World) : VC (w.alloc (.cells #[.int .i64 0, .int .i64 0, .int .i64 0, .int .i64 0] 86)) w.heap.size := by
  refine ⟨.int .i64 0, .int .i64 0, .int .i64 0, .int .i64 0, ?_, ?_, ?_, ?_, ?_, ?_, ?_, ?_⟩ <;> go_simp
/-- What stands there once four numbers were written. -/
theorem VC.stored {W : World} {p : Nat} (h : VC W p) (a b c d : Value) :
    ((((W.setCell ⟨p, 0, none⟩ a).setCell ⟨p, 1, none⟩ b).setCell ⟨p, 2, none⟩ c).setCell ⟨p, 3, none⟩ d).cell? ⟨p, 0, none⟩ = some a ∧ ((((W.setCell ⟨p, 0, none⟩ a).setCell ⟨p, 1, none⟩ b).setCell ⟨p, 2, none⟩ c).setCell ⟨p, 3, none⟩ d).cell? ⟨p, 1, none⟩ = some b ∧
    ((((W.setCell ⟨p, 0, none⟩ a).setCell ⟨p, 1, none⟩ b).setCell ⟨p, 2, none⟩ c).setCell ⟨p, 3, none⟩ d).cell? ⟨p, 2, none⟩ = some c ∧ ((((W.setCell ⟨p, 0, none⟩ a).setCell ⟨p, 1, none⟩ b).setCell ⟨p, 2, none⟩ c).setCell ⟨p, 3, none⟩ d).cell? ⟨p, 3, none⟩ = some d := by
  obtain ⟨x0, x1, x2, x3, h0, h1, h2, h3, _⟩ := h
  exact ver_stored h0 h1 h2 h3 a b c d
theorem _root_.Go.RowKit.Below.stored {W V : World} {p : Nat} (h : Below W.heap.size W V) (hp : W.heap.size ≤ p) (a b c d : Value) : Below W.heap.size W ((((V.setCell ⟨p, 0, none⟩ a).setCell ⟨p, 1, none⟩ b).setCell ⟨p, 2, none⟩ c).setCell ⟨p, 3, none⟩ d) :=
  (((h.setCell (p := ⟨p, 0, none⟩) hp a).setCell (p := ⟨p, 1, none⟩) hp b).setCell (p := ⟨p, 2, none⟩) hp c).setCell (p := ⟨p, 3, none⟩) hp d

theorem verN_alike (a b c d : Int) (V : World) : (binOp .neq 86 (ver a b c d) (ver a b c d)).run Try.prog V = .ok (.bool false) V := by
  go_simp
theorem verN_differ {a b c d p q r s : Int} (h : ¬ (a = p ∧ b = q ∧ c = r ∧ d = s)) (V : World) : (binOp .neq 86 (ver a b c d) (ver p q r s)).run Try.prog V = .ok (.bool true) V := by
  by_cases h1 : a = p
  · by_cases h2 : b = q
    · by_cases h3 : c = r
      · have b4 : (d == s) = false := by rw [beq_eq_false_iff_ne]; exact fun e => h ⟨h1, h2, h3, e⟩
        subst h1; subst h2; subst h3
        go_simp
      · have b3 : (c == r) = false := by rw [beq_eq_false_iff_ne]; exact h3
        subst h1; subst h2
        go_simp
    · have b2 : (b == q) = false := by rw [beq_eq_false_iff_ne]; exact h2
      subst h1
      go_simp
  · have b1 : (a == p) = false := by rw [beq_eq_false_iff_ne]; exact h1
    go_simp

end Go.Proofs.Ytgjmgclgokgobaa
