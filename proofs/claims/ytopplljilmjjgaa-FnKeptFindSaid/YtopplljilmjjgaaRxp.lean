/- Closed rooms, plainly: when lines are a script, when texts are inputs, and what comes of a run. No condition. -/
import Derived.Test.YtopplljilmjjgaaLn
namespace Go.Proofs.Ytopplljilmjjgaa
namespace Rx

/-- Whether a line is one for so many inputs. -/
abbrev LOk (x : Ln) (ins : Int) : Prop :=
  ((x.1 = 0 ∨ x.1 = 5) ∧ 0 ≤ x.2.1 ∧ x.2.1 < ins ∧ x.2.2.1 = 0 ∧ x.2.2.2.size = 0) ∨ (x.1 = 1 ∧ x.2.1 = 0 ∧ x.2.2.1 = 0 ∧ x.2.2.2.size ≤ 8) ∨
  (x.1 = 2 ∧ 0 ≤ x.2.1 ∧ x.2.1 < ins ∧ 1 ≤ x.2.2.1 ∧ x.2.2.1 ≤ 10 ∧ x.2.2.2.size = 0) ∨ (x.1 = 3 ∧ x.2.1 = 0 ∧ x.2.2.1 = 0 ∧ x.2.2.2.size = 0) ∨ (x.1 = 4 ∧ 0 ≤ x.2.1 ∧ x.2.1 ≤ 40 ∧ x.2.2.1 = 0 ∧ x.2.2.2.size = 0)
def lOk (x : Ln) (ins : Int) : Bool := decide (LOk x ins)
def scOk (S : List Ln) (ins : Int) : Bool := decide (S.length ≤ 10) && decide (0 ≤ ins ∧ ins ≤ 5) && S.all fun x => lOk x ins
def thOk (N : List ByteArray) : Bool := decide (N.length ≤ 5) && N.all fun x => decide (x.size ≤ 40)

/-- A line reads its input. -/
def rd (x : Ln) : Bool := decide (x.1 = 0 ∨ x.1 = 2 ∨ x.1 = 5)
/-- The input of a line. -/
def inp (I : List ByteArray) (x : Ln) : ByteArray := I.getD x.2.1.toNat ByteArray.empty
def addR (R : List Int) (a : Int) : List Int := if a ∈ R then R else R ++ [a]
def tnd (t : ByteArray) : ByteArray := ⟨t.data.toList.reverse.toArray⟩
def cutT (t : ByteArray) (m : Int) : ByteArray := if m < (t.size : Int) then t.extract 0 m.toNat else t
/-- A text begins with an exclamation mark. -/
def mkd (t : ByteArray) : Bool := t.data.toList.head? == some 33
/-- What is made behind a line. -/
def nxt (I : List ByteArray) (x : Ln) (out : ByteArray) : ByteArray :=
  if x.1 = 0 then out ++ inp I x else if x.1 = 1 then out ++ x.2.2.2 else if x.1 = 3 then tnd out else if x.1 = 4 then cutT out x.2.1 else out
/-- How many lines are passed by. -/
def skp (I : List ByteArray) (x : Ln) : Nat := if x.1 = 2 ∧ (inp I x).size = 0 then x.2.2.1.toNat else 0

abbrev Rn := Int × ByteArray × List Int
/-- What comes of one line. -/
def stp (I : List ByteArray) (O : List Bool) (x : Ln) (out : ByteArray) (R : List Int) : Rn :=
  if rd x = true ∧ O.getD x.2.1.toNat false = false then (2, out, R)
  else
    let R' := if rd x then addR R x.2.1 else R
    if x.1 = 5 ∧ mkd (inp I x) = true then (4, out, R')
    else if 40 < (nxt I x out).size then (3, nxt I x out, R') else (0, nxt I x out, R')
/-- What comes of lines. -/
def run (I : List ByteArray) (O : List Bool) : List Ln → ByteArray → List Int → Rn
  | [], out, R => (0, out, R)
  | x :: t, out, R =>
    let s := stp I O x out R
    if s.1 = 0 then run I O (t.drop (skp I x)) s.2.1 s.2.2 else (s.1, ByteArray.empty, s.2.2)
termination_by l => l.length
decreasing_by simp; omega
def roomR (S : List Ln) (I : List ByteArray) (O : List Bool) : Rn :=
  if (thOk I && scOk S I.length && decide (O.length = I.length)) = true then run I O S ByteArray.empty [] else (1, ByteArray.empty, [])

theorem run_nil {I : List ByteArray} {O : List Bool} {out : ByteArray} {R : List Int} : run I O [] out R = (0, out, R) := by rw [run]
theorem run_on {I : List ByteArray} {O : List Bool} {S : List Ln} {k : Nat} {x : Ln} {out : ByteArray} {R : List Int} (h : S[k]? = some x) (h0 : (stp I O x out R).1 = 0) :
    run I O (S.drop k) out R = run I O (S.drop (k + 1 + skp I x)) (stp I O x out R).2.1 (stp I O x out R).2.2 := by
  obtain ⟨hk, rfl⟩ := List.getElem?_eq_some_iff.1 h
  rw [List.drop_eq_getElem_cons hk, run]
  simp only [h0, if_true, List.drop_drop]
theorem run_end {I : List ByteArray} {O : List Bool} {S : List Ln} {k : Nat} {x : Ln} {out : ByteArray} {R : List Int} (h : S[k]? = some x) (h0 : (stp I O x out R).1 ≠ 0) :
    run I O (S.drop k) out R = ((stp I O x out R).1, ByteArray.empty, (stp I O x out R).2.2) := by
  obtain ⟨hk, rfl⟩ := List.getElem?_eq_some_iff.1 h
  rw [List.drop_eq_getElem_cons hk, run]
  simp only [h0, if_false]

theorem scOk_len {S : List Ln} {ins : Int} (h : scOk S ins = true) : S.length ≤ 10 := by simp [scOk] at h; omega
theorem scOk_ins {S : List Ln} {ins : Int} (h : scOk S ins = true) : 0 ≤ ins ∧ ins ≤ 5 := by simp [scOk] at h; omega
theorem scOk_at {S : List Ln} {ins : Int} (h : scOk S ins = true) {k : Nat} {x : Ln} (hx : S[k]? = some x) : LOk x ins := by
  simp only [scOk, Bool.and_eq_true, List.all_eq_true, lOk, decide_eq_true_eq] at h
  exact h.2 x (List.mem_of_getElem? hx)
theorem thOk_len {N : List ByteArray} (h : thOk N = true) : N.length ≤ 5 := by
  simp only [thOk, Bool.and_eq_true, decide_eq_true_eq] at h
  exact h.1
theorem thOk_at {N : List ByteArray} (h : thOk N = true) : ∀ q ∈ N, q.size ≤ 40 := by
  simp only [thOk, Bool.and_eq_true, List.all_eq_true, decide_eq_true_eq] at h
  exact h.2
theorem addR_len (R : List Int) (a : Int) : (addR R a).length ≤ R.length + 1 := by
  unfold addR
  split <;> simp
theorem stp_len {I : List ByteArray} {O : List Bool} {x : Ln} {out : ByteArray} {R : List Int} : (stp I O x out R).2.2.length ≤ R.length + 1 := by
  have h1 := addR_len R x.2.1
  unfold stp
  split
  · exact Nat.le_succ _
  · dsimp only
    split
    · dsimp only; split <;> omega
    · split <;> (dsimp only; split <;> omega)
theorem stp_small {I : List ByteArray} {O : List Bool} {x : Ln} {out : ByteArray} {R : List Int} (h : (stp I O x out R).1 = 0) : (stp I O x out R).2.1.size ≤ 40 := by
  unfold stp at h ⊢
  split at h
  · cases h
  · rename_i h1
    rw [if_neg h1]
    dsimp only at h ⊢
    split at h
    · cases h
    · rename_i h2
      rw [if_neg h2]
      split at h
      · cases h
      · rename_i h3
        rw [if_neg h3]
        show (nxt I x out).size ≤ 40
        omega
end Rx
end Go.Proofs.Ytopplljilmjjgaa
