/-
  No cell of these rows narrows 'for every input' (looked for: loops, veiled, ifaces, maps, wideKeys, modest, calm, conditions, laid).
  DERIVED. THE GIVEN ROWS OF THIS SEAT. 9 by the template 'for every input the law returns true; each argument reads behind the call as it read before'; 0 by the template 'total and deterministic' (their statements: YtlobhikifhbllaaTotals.lean).
  GIVEN WITH THE SEED: the statements are not yours to turn. If you find one false, say at which input.
  Laid BY PROGRAM, IN A SANDBOX (cutbox-rows.mjs): the forced cells as the released guide's own fill.sh prints them over the translation 0b8715d9b77cfe86… (all of the seat's roots in one cut). By AI agents, Wed Nov 11 2026. No macro, syntax, notation, axiom, sorry.
-/
import Derived.Test.YtlobhikifhbllaaChecked
import GoSem.Claim
import GoSem.ClaimJoined
import GoSem.ClaimMapViews
import Derived.JoinedTies
import Derived.KernelRfl
namespace Go.Proofs.Ytlobhikifhbllaa
/- THE CELL 'sum', in the pinned program and in every row, IS THE sha256 OF THE DUMP (.gsa) THAT YtlobhikifhbllaaProg.lean LOADS. Nothing in Lean hashes anything: it is a label: what it is worth is what the hold of that sum in a sandbox is worth. -/
noncomputable def Try.pinned : Pinned := { name := "ytlobhikifhbllaa", sum := "0b8715d9b77cfe864106774f7fa8c93fc472fafcc6677795660679be7b44f98d", checked := Try.checked }
namespace Rows
def none {H : Type} : Left H := { results := [], args := [] }

/-- 'laws.FnExactRangeOk': WHATEVER THE INPUT: true; the input reads as it did. -/
def fnExactRangeOkSpec : ChangeSpec := { name := "fnExactRangeOk", fn := fun _ => fun
  | [d] => { results := [.lit (.bool true)], args := [d] }
  | _ => none }
def fnExactRangeOkRow : OpenClaim := { program := "ytlobhikifhbllaa", sum := "0b8715d9b77cfe864106774f7fa8c93fc472fafcc6677795660679be7b44f98d", func := "loop.example/packageworld/laws.FnExactRangeOk", spec := "fnExactRangeOk", apart := false }
def FnExactRangeOkSaid : Prop := fnExactRangeOkRow.holds Try.pinned (OpenSpec.ofChange fnExactRangeOkSpec)

/-- ITS FALSE NEIGHBOUR: 'it returns false'. Refute it at one input. -/
def fnExactRangeOkWrong : ChangeSpec := { name := "fnExactRangeOk", fn := fun _ => fun
  | [d] => { results := [.lit (.bool false)], args := [d] }
  | _ => none }
def FnExactRangeOkWrongFalsely : Prop := fnExactRangeOkRow.holds Try.pinned (OpenSpec.ofChange fnExactRangeOkWrong)

/-- 'laws.FnExactRangeAll': WHATEVER THE INPUT: true; the input reads as it did. -/
def fnExactRangeAllSpec : ChangeSpec := { name := "fnExactRangeAll", fn := fun _ => fun
  | [] => { results := [.lit (.bool true)], args := [] }
  | _ => none }
def fnExactRangeAllRow : OpenClaim := { program := "ytlobhikifhbllaa", sum := "0b8715d9b77cfe864106774f7fa8c93fc472fafcc6677795660679be7b44f98d", func := "loop.example/packageworld/laws.FnExactRangeAll", spec := "fnExactRangeAll", apart := false }
def FnExactRangeAllSaid : Prop := fnExactRangeAllRow.holds Try.pinned (OpenSpec.ofChange fnExactRangeAllSpec)

/-- ITS FALSE NEIGHBOUR: 'it returns false'. Refute it at one input. -/
def fnExactRangeAllWrong : ChangeSpec := { name := "fnExactRangeAll", fn := fun _ => fun
  | [] => { results := [.lit (.bool false)], args := [] }
  | _ => none }
def FnExactRangeAllWrongFalsely : Prop := fnExactRangeAllRow.holds Try.pinned (OpenSpec.ofChange fnExactRangeAllWrong)

/-- 'laws.FnExactRangeHas': WHATEVER THE INPUT: true; the input reads as it did. -/
def fnExactRangeHasSpec : ChangeSpec := { name := "fnExactRangeHas", fn := fun _ => fun
  | [d1, d2] => { results := [.lit (.bool true)], args := [d1, d2] }
  | _ => none }
def fnExactRangeHasRow : OpenClaim := { program := "ytlobhikifhbllaa", sum := "0b8715d9b77cfe864106774f7fa8c93fc472fafcc6677795660679be7b44f98d", func := "loop.example/packageworld/laws.FnExactRangeHas", spec := "fnExactRangeHas", apart := false }
def FnExactRangeHasSaid : Prop := fnExactRangeHasRow.holds Try.pinned (OpenSpec.ofChange fnExactRangeHasSpec)

/-- ITS FALSE NEIGHBOUR: 'it returns false'. Refute it at one input. -/
def fnExactRangeHasWrong : ChangeSpec := { name := "fnExactRangeHas", fn := fun _ => fun
  | [d1, d2] => { results := [.lit (.bool false)], args := [d1, d2] }
  | _ => none }
def FnExactRangeHasWrongFalsely : Prop := fnExactRangeHasRow.holds Try.pinned (OpenSpec.ofChange fnExactRangeHasWrong)

/-- 'laws.FnExactRangeNot': WHATEVER THE INPUT: true; the input reads as it did. -/
def fnExactRangeNotSpec : ChangeSpec := { name := "fnExactRangeNot", fn := fun _ => fun
  | [d] => { results := [.lit (.bool true)], args := [d] }
  | _ => none }
def fnExactRangeNotRow : OpenClaim := { program := "ytlobhikifhbllaa", sum := "0b8715d9b77cfe864106774f7fa8c93fc472fafcc6677795660679be7b44f98d", func := "loop.example/packageworld/laws.FnExactRangeNot", spec := "fnExactRangeNot", apart := false }
def FnExactRangeNotSaid : Prop := fnExactRangeNotRow.holds Try.pinned (OpenSpec.ofChange fnExactRangeNotSpec)

/-- ITS FALSE NEIGHBOUR: 'it returns false'. Refute it at one input. -/
def fnExactRangeNotWrong : ChangeSpec := { name := "fnExactRangeNot", fn := fun _ => fun
  | [d] => { results := [.lit (.bool false)], args := [d] }
  | _ => none }
def FnExactRangeNotWrongFalsely : Prop := fnExactRangeNotRow.holds Try.pinned (OpenSpec.ofChange fnExactRangeNotWrong)

/-- 'laws.FnExactRangeAnd': WHATEVER THE INPUT: true; the input reads as it did. -/
def fnExactRangeAndSpec : ChangeSpec := { name := "fnExactRangeAnd", fn := fun _ => fun
  | [d1, d2] => { results := [.lit (.bool true)], args := [d1, d2] }
  | _ => none }
def fnExactRangeAndRow : OpenClaim := { program := "ytlobhikifhbllaa", sum := "0b8715d9b77cfe864106774f7fa8c93fc472fafcc6677795660679be7b44f98d", func := "loop.example/packageworld/laws.FnExactRangeAnd", spec := "fnExactRangeAnd", apart := false }
def FnExactRangeAndSaid : Prop := fnExactRangeAndRow.holds Try.pinned (OpenSpec.ofChange fnExactRangeAndSpec)

/-- ITS FALSE NEIGHBOUR: 'it returns false'. Refute it at one input. -/
def fnExactRangeAndWrong : ChangeSpec := { name := "fnExactRangeAnd", fn := fun _ => fun
  | [d1, d2] => { results := [.lit (.bool false)], args := [d1, d2] }
  | _ => none }
def FnExactRangeAndWrongFalsely : Prop := fnExactRangeAndRow.holds Try.pinned (OpenSpec.ofChange fnExactRangeAndWrong)

/-- 'laws.FnExactRangeOr': WHATEVER THE INPUT: true; the input reads as it did. -/
def fnExactRangeOrSpec : ChangeSpec := { name := "fnExactRangeOr", fn := fun _ => fun
  | [d1, d2] => { results := [.lit (.bool true)], args := [d1, d2] }
  | _ => none }
def fnExactRangeOrRow : OpenClaim := { program := "ytlobhikifhbllaa", sum := "0b8715d9b77cfe864106774f7fa8c93fc472fafcc6677795660679be7b44f98d", func := "loop.example/packageworld/laws.FnExactRangeOr", spec := "fnExactRangeOr", apart := false }
def FnExactRangeOrSaid : Prop := fnExactRangeOrRow.holds Try.pinned (OpenSpec.ofChange fnExactRangeOrSpec)

/-- ITS FALSE NEIGHBOUR: 'it returns false'. Refute it at one input. -/
def fnExactRangeOrWrong : ChangeSpec := { name := "fnExactRangeOr", fn := fun _ => fun
  | [d1, d2] => { results := [.lit (.bool false)], args := [d1, d2] }
  | _ => none }
def FnExactRangeOrWrongFalsely : Prop := fnExactRangeOrRow.holds Try.pinned (OpenSpec.ofChange fnExactRangeOrWrong)

/-- 'laws.FnExactRangeFrom': WHATEVER THE INPUT: true; the input reads as it did. -/
def fnExactRangeFromSpec : ChangeSpec := { name := "fnExactRangeFrom", fn := fun _ => fun
  | [d] => { results := [.lit (.bool true)], args := [d] }
  | _ => none }
def fnExactRangeFromRow : OpenClaim := { program := "ytlobhikifhbllaa", sum := "0b8715d9b77cfe864106774f7fa8c93fc472fafcc6677795660679be7b44f98d", func := "loop.example/packageworld/laws.FnExactRangeFrom", spec := "fnExactRangeFrom", apart := false }
def FnExactRangeFromSaid : Prop := fnExactRangeFromRow.holds Try.pinned (OpenSpec.ofChange fnExactRangeFromSpec)

/-- ITS FALSE NEIGHBOUR: 'it returns false'. Refute it at one input. -/
def fnExactRangeFromWrong : ChangeSpec := { name := "fnExactRangeFrom", fn := fun _ => fun
  | [d] => { results := [.lit (.bool false)], args := [d] }
  | _ => none }
def FnExactRangeFromWrongFalsely : Prop := fnExactRangeFromRow.holds Try.pinned (OpenSpec.ofChange fnExactRangeFromWrong)

/-- 'laws.FnExactRangeOne': WHATEVER THE INPUT: true; the input reads as it did. -/
def fnExactRangeOneSpec : ChangeSpec := { name := "fnExactRangeOne", fn := fun _ => fun
  | [d] => { results := [.lit (.bool true)], args := [d] }
  | _ => none }
def fnExactRangeOneRow : OpenClaim := { program := "ytlobhikifhbllaa", sum := "0b8715d9b77cfe864106774f7fa8c93fc472fafcc6677795660679be7b44f98d", func := "loop.example/packageworld/laws.FnExactRangeOne", spec := "fnExactRangeOne", apart := false }
def FnExactRangeOneSaid : Prop := fnExactRangeOneRow.holds Try.pinned (OpenSpec.ofChange fnExactRangeOneSpec)

/-- ITS FALSE NEIGHBOUR: 'it returns false'. Refute it at one input. -/
def fnExactRangeOneWrong : ChangeSpec := { name := "fnExactRangeOne", fn := fun _ => fun
  | [d] => { results := [.lit (.bool false)], args := [d] }
  | _ => none }
def FnExactRangeOneWrongFalsely : Prop := fnExactRangeOneRow.holds Try.pinned (OpenSpec.ofChange fnExactRangeOneWrong)

/-- 'laws.FnExactRangeText': WHATEVER THE INPUT: true; the input reads as it did. -/
def fnExactRangeTextSpec : ChangeSpec := { name := "fnExactRangeText", fn := fun _ => fun
  | [d] => { results := [.lit (.bool true)], args := [d] }
  | _ => none }
def fnExactRangeTextRow : OpenClaim := { program := "ytlobhikifhbllaa", sum := "0b8715d9b77cfe864106774f7fa8c93fc472fafcc6677795660679be7b44f98d", func := "loop.example/packageworld/laws.FnExactRangeText", spec := "fnExactRangeText", apart := false }
def FnExactRangeTextSaid : Prop := fnExactRangeTextRow.holds Try.pinned (OpenSpec.ofChange fnExactRangeTextSpec)

/-- ITS FALSE NEIGHBOUR: 'it returns false'. Refute it at one input. -/
def fnExactRangeTextWrong : ChangeSpec := { name := "fnExactRangeText", fn := fun _ => fun
  | [d] => { results := [.lit (.bool false)], args := [d] }
  | _ => none }
def FnExactRangeTextWrongFalsely : Prop := fnExactRangeTextRow.holds Try.pinned (OpenSpec.ofChange fnExactRangeTextWrong)

/- THE SECOND FORM. 'bulk': how many values and letters a reading holds, each counted each time it is reached (what is shared counts as often as it is met; a slice's spare places count too). A statement '..UptoSaid' is the law's where the arguments, and the package variables that the reading takes, are together of bulk at most 1048576: NARROWER than '..Said'. Prove '..Said' where nothing that the law and all that it calls make is longer than what came in: it says more and counts as full. Else prove '..UptoSaid'. A law counts once. -/
mutual
def uptoBulk {H : Type} : DataW H → Nat
  | .lit (.string bytes) => bytes.length + 1
  | .lit _ => 1
  | .nil => 1
  | .ptr d => uptoBulk d + 1
  | .slice elems spare => uptoBulkAll elems + uptoBulkAll spare + 1
  | .agg parts => uptoBulkAll parts + 1
  | .iface _ d => uptoBulk d + 1
  | .map entries => uptoBulkEntries entries + 1
  | .held _ => 1
def uptoBulkAll {H : Type} : List (DataW H) → Nat
  | [] => 0
  | d :: r => uptoBulk d + uptoBulkAll r
def uptoBulkEntries {H : Type} : List (Lit × DataW H) → Nat
  | [] => 0
  | x :: r => uptoBulkEntry x + uptoBulkEntries r
def uptoBulkEntry {H : Type} : Lit × DataW H → Nat
  | (.string bytes, d) => bytes.length + uptoBulk d + 1
  | (_, d) => uptoBulk d + 1
 end
def uptoSmall : (H : Type) → List (DataW H) → Bool := fun _ ds => decide (uptoBulkAll ds ≤ 1048576)
def OpenSpec.upto (s : _root_.Go.ChangeSpec) : _root_.Go.OpenSpec := { _root_.Go.OpenSpec.ofChange s with cond := some uptoSmall }

/-- 'laws.FnExactRangeOk', WHERE WHAT IT READS IS OF BULK AT MOST 1048576: true; the input reads as it did. -/
def fnExactRangeOkUptoRow : OpenClaim := { program := "ytlobhikifhbllaa", sum := "0b8715d9b77cfe864106774f7fa8c93fc472fafcc6677795660679be7b44f98d", func := "loop.example/packageworld/laws.FnExactRangeOk", spec := "fnExactRangeOk", apart := false, narrowed := true }
def FnExactRangeOkUptoSaid : Prop := fnExactRangeOkUptoRow.holds Try.pinned (OpenSpec.upto fnExactRangeOkSpec)

/-- 'laws.FnExactRangeAll', WHERE WHAT IT READS IS OF BULK AT MOST 1048576: true; the input reads as it did. -/
def fnExactRangeAllUptoRow : OpenClaim := { program := "ytlobhikifhbllaa", sum := "0b8715d9b77cfe864106774f7fa8c93fc472fafcc6677795660679be7b44f98d", func := "loop.example/packageworld/laws.FnExactRangeAll", spec := "fnExactRangeAll", apart := false, narrowed := true }
def FnExactRangeAllUptoSaid : Prop := fnExactRangeAllUptoRow.holds Try.pinned (OpenSpec.upto fnExactRangeAllSpec)

/-- 'laws.FnExactRangeHas', WHERE WHAT IT READS IS OF BULK AT MOST 1048576: true; the input reads as it did. -/
def fnExactRangeHasUptoRow : OpenClaim := { program := "ytlobhikifhbllaa", sum := "0b8715d9b77cfe864106774f7fa8c93fc472fafcc6677795660679be7b44f98d", func := "loop.example/packageworld/laws.FnExactRangeHas", spec := "fnExactRangeHas", apart := false, narrowed := true }
def FnExactRangeHasUptoSaid : Prop := fnExactRangeHasUptoRow.holds Try.pinned (OpenSpec.upto fnExactRangeHasSpec)

/-- 'laws.FnExactRangeNot', WHERE WHAT IT READS IS OF BULK AT MOST 1048576: true; the input reads as it did. -/
def fnExactRangeNotUptoRow : OpenClaim := { program := "ytlobhikifhbllaa", sum := "0b8715d9b77cfe864106774f7fa8c93fc472fafcc6677795660679be7b44f98d", func := "loop.example/packageworld/laws.FnExactRangeNot", spec := "fnExactRangeNot", apart := false, narrowed := true }
def FnExactRangeNotUptoSaid : Prop := fnExactRangeNotUptoRow.holds Try.pinned (OpenSpec.upto fnExactRangeNotSpec)

/-- 'laws.FnExactRangeAnd', WHERE WHAT IT READS IS OF BULK AT MOST 1048576: true; the input reads as it did. -/
def fnExactRangeAndUptoRow : OpenClaim := { program := "ytlobhikifhbllaa", sum := "0b8715d9b77cfe864106774f7fa8c93fc472fafcc6677795660679be7b44f98d", func := "loop.example/packageworld/laws.FnExactRangeAnd", spec := "fnExactRangeAnd", apart := false, narrowed := true }
def FnExactRangeAndUptoSaid : Prop := fnExactRangeAndUptoRow.holds Try.pinned (OpenSpec.upto fnExactRangeAndSpec)

/-- 'laws.FnExactRangeOr', WHERE WHAT IT READS IS OF BULK AT MOST 1048576: true; the input reads as it did. -/
def fnExactRangeOrUptoRow : OpenClaim := { program := "ytlobhikifhbllaa", sum := "0b8715d9b77cfe864106774f7fa8c93fc472fafcc6677795660679be7b44f98d", func := "loop.example/packageworld/laws.FnExactRangeOr", spec := "fnExactRangeOr", apart := false, narrowed := true }
def FnExactRangeOrUptoSaid : Prop := fnExactRangeOrUptoRow.holds Try.pinned (OpenSpec.upto fnExactRangeOrSpec)

/-- 'laws.FnExactRangeFrom', WHERE WHAT IT READS IS OF BULK AT MOST 1048576: true; the input reads as it did. -/
def fnExactRangeFromUptoRow : OpenClaim := { program := "ytlobhikifhbllaa", sum := "0b8715d9b77cfe864106774f7fa8c93fc472fafcc6677795660679be7b44f98d", func := "loop.example/packageworld/laws.FnExactRangeFrom", spec := "fnExactRangeFrom", apart := false, narrowed := true }
def FnExactRangeFromUptoSaid : Prop := fnExactRangeFromUptoRow.holds Try.pinned (OpenSpec.upto fnExactRangeFromSpec)

/-- 'laws.FnExactRangeOne', WHERE WHAT IT READS IS OF BULK AT MOST 1048576: true; the input reads as it did. -/
def fnExactRangeOneUptoRow : OpenClaim := { program := "ytlobhikifhbllaa", sum := "0b8715d9b77cfe864106774f7fa8c93fc472fafcc6677795660679be7b44f98d", func := "loop.example/packageworld/laws.FnExactRangeOne", spec := "fnExactRangeOne", apart := false, narrowed := true }
def FnExactRangeOneUptoSaid : Prop := fnExactRangeOneUptoRow.holds Try.pinned (OpenSpec.upto fnExactRangeOneSpec)

/-- 'laws.FnExactRangeText', WHERE WHAT IT READS IS OF BULK AT MOST 1048576: true; the input reads as it did. -/
def fnExactRangeTextUptoRow : OpenClaim := { program := "ytlobhikifhbllaa", sum := "0b8715d9b77cfe864106774f7fa8c93fc472fafcc6677795660679be7b44f98d", func := "loop.example/packageworld/laws.FnExactRangeText", spec := "fnExactRangeText", apart := false, narrowed := true }
def FnExactRangeTextUptoSaid : Prop := fnExactRangeTextUptoRow.holds Try.pinned (OpenSpec.upto fnExactRangeTextSpec)

end Rows
end Go.Proofs.Ytlobhikifhbllaa
