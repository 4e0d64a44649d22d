/- Contracts of ChoiceBetter, the program's and the model's, over this seat's translation: both answer as the plain function pkBetter; nothing that was there before the call has changed. Condition: at most 1048576 picks. -/
import Derived.Test.YtjnmkkcdcacakaaPkofs
namespace Go.Proofs.Ytjnmkkcdcacakaa
open Go.RowKit Go.Sort

/-- The better one of two rows of picks, from a name on. -/
def pbet (A B : List Pk) : Nat → Int → Bool
  | 0, _ => false
  | f + 1, n => match pkGet n A, pkGet n B with
    | none, none => pbet A B f (n + 1)
    | none, some _ => true
    | some _, none => false
    | some (a, b, c, d), some (p, q, r, s) => if a = p ∧ b = q ∧ c = r ∧ d = s then pbet A B f (n + 1) else vLess p q r s a b c d
def pkBetter (A B : List Pk) : Bool := pkOk A && (pkOk B && pbet A B 8 0)
def BetRel (A B : List Pk) (w : World) (i : Value) (wr : World) : Prop :=
  ∃ k : Nat, k ≤ 8 ∧ i = .int .i64 (k : Int) ∧ pbet A B 8 0 = pbet A B (8 - k) (k : Int) ∧ Below w.heap.size w wr
theorem pbet_here (A B : List Pk) {k : Nat} (hk : k < 8) : pbet A B (8 - k) (k : Int) = match pkGet (k : Int) A, pkGet (k : Int) B with
    | none, none => pbet A B (8 - (k + 1)) ((k + 1 : Nat) : Int)
    | none, some _ => true
    | some _, none => false
    | some (a, b, c, d), some (p, q, r, s) => if a = p ∧ b = q ∧ c = r ∧ d = s then pbet A B (8 - (k + 1)) ((k + 1 : Nat) : Int) else vLess p q r s a b c d := by
  rw [show 8 - k = (8 - (k + 1)) + 1 by omega]
  rfl
theorem bet_push {A B : List Pk} {w wr : World} {k : Nat} (hk : k < 8) (ho : pbet A B 8 0 = pbet A B (8 - (k + 1)) ((k + 1 : Nat) : Int)) (hb : Below w.heap.size w wr) : BetRel A B w (.int .i64 ((k : Int) + 1)) wr :=
  ⟨k + 1, by omega, by go_num, ho, hb⟩
theorem VerBox (w : World) (a b c d : Int) {W : World} (hW : Below (w.heap.size + 1) (w.alloc (.cells #[.int .i64 a, .int .i64 b, .int .i64 c, .int .i64 d] 69)) W) :
    W.cell? ⟨w.heap.size, 0, none⟩ = some (.int .i64 a) ∧ W.cell? ⟨w.heap.size, 1, none⟩ = some (.int .i64 b) ∧ W.cell? ⟨w.heap.size, 2, none⟩ = some (.int .i64 c) ∧ W.cell? ⟨w.heap.size, 3, none⟩ = some (.int .i64 d) := by
  refine ⟨(hW.cell (p := ⟨w.heap.size, 0, none⟩) (Nat.lt_succ_self _)).trans ?_, (hW.cell (p := ⟨w.heap.size, 1, none⟩) (Nat.lt_succ_self _)).trans ?_, (hW.cell (p := ⟨w.heap.size, 2, none⟩) (Nat.lt_succ_self _)).trans ?_, (hW.cell (p := ⟨w.heap.size, 3, none⟩) (Nat.lt_succ_self _)).trans ?_⟩ <;> go_simp

end Go.Proofs.Ytjnmkkcdcacakaa
