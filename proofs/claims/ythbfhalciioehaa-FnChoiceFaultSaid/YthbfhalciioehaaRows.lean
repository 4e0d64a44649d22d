/-
  No cell of these rows narrows 'for every input' (looked for: loops, veiled, ifaces, maps, wideKeys, modest, calm, conditions, laid).
  DERIVED. THE GIVEN ROWS OF THIS SEAT. 10 by the template 'for every input the law returns true; each argument reads behind the call as it read before'; 0 by the template 'total and deterministic' (their statements: YthbfhalciioehaaTotals.lean).
  GIVEN WITH THE SEED: the statements are not yours to turn. If you find one false, say at which input.
  Laid BY PROGRAM, IN A SANDBOX (cutbox-rows.mjs): the forced cells as the released guide's own fill.sh prints them over the translation c900c37fd523a22d… (all of the seat's roots in one cut). By AI agents, Wed Nov 11 2026. No macro, syntax, notation, axiom, sorry.
-/
import Derived.Test.YthbfhalciioehaaChecked
import GoSem.Claim
import GoSem.ClaimJoined
import GoSem.ClaimMapViews
import Derived.JoinedTies
import Derived.KernelRfl
namespace Go.Proofs.Ythbfhalciioehaa
/- THE CELL 'sum', in the pinned program and in every row, IS THE sha256 OF THE DUMP (.gsa) THAT YthbfhalciioehaaProg.lean LOADS. Nothing in Lean hashes anything: it is a label: what it is worth is what the hold of that sum in a sandbox is worth. -/
noncomputable def Try.pinned : Pinned := { name := "ythbfhalciioehaa", sum := "c900c37fd523a22da46b88af57f0f5321ca0e0460765b9dbc0097ad56458c920", checked := Try.checked }
namespace Rows
def none {H : Type} : Left H := { results := [], args := [] }

/-- 'laws.FnExactSolve': WHATEVER THE INPUT: true; the input reads as it did. -/
def fnExactSolveSpec : ChangeSpec := { name := "fnExactSolve", fn := fun _ => fun
  | [d1, d2, d3] => { results := [.lit (.bool true)], args := [d1, d2, d3] }
  | _ => none }
def fnExactSolveRow : OpenClaim := { program := "ythbfhalciioehaa", sum := "c900c37fd523a22da46b88af57f0f5321ca0e0460765b9dbc0097ad56458c920", func := "loop.example/packageworld/laws.FnExactSolve", spec := "fnExactSolve", recurses := true, apart := false }
def FnExactSolveSaid : Prop := fnExactSolveRow.holds Try.pinned (OpenSpec.ofChange fnExactSolveSpec)

/-- ITS FALSE NEIGHBOUR: 'it returns false'. Refute it at one input. -/
def fnExactSolveWrong : ChangeSpec := { name := "fnExactSolve", fn := fun _ => fun
  | [d1, d2, d3] => { results := [.lit (.bool false)], args := [d1, d2, d3] }
  | _ => none }
def FnExactSolveWrongFalsely : Prop := fnExactSolveRow.holds Try.pinned (OpenSpec.ofChange fnExactSolveWrong)

/-- 'laws.FnExactSolveAll': WHATEVER THE INPUT: true; the input reads as it did. -/
def fnExactSolveAllSpec : ChangeSpec := { name := "fnExactSolveAll", fn := fun _ => fun
  | [d1, d2, d3] => { results := [.lit (.bool true)], args := [d1, d2, d3] }
  | _ => none }
def fnExactSolveAllRow : OpenClaim := { program := "ythbfhalciioehaa", sum := "c900c37fd523a22da46b88af57f0f5321ca0e0460765b9dbc0097ad56458c920", func := "loop.example/packageworld/laws.FnExactSolveAll", spec := "fnExactSolveAll", recurses := true, apart := false }
def FnExactSolveAllSaid : Prop := fnExactSolveAllRow.holds Try.pinned (OpenSpec.ofChange fnExactSolveAllSpec)

/-- ITS FALSE NEIGHBOUR: 'it returns false'. Refute it at one input. -/
def fnExactSolveAllWrong : ChangeSpec := { name := "fnExactSolveAll", fn := fun _ => fun
  | [d1, d2, d3] => { results := [.lit (.bool false)], args := [d1, d2, d3] }
  | _ => none }
def FnExactSolveAllWrongFalsely : Prop := fnExactSolveAllRow.holds Try.pinned (OpenSpec.ofChange fnExactSolveAllWrong)

/-- 'laws.FnExactChoiceFault': WHATEVER THE INPUT: true; the input reads as it did. -/
def fnExactChoiceFaultSpec : ChangeSpec := { name := "fnExactChoiceFault", fn := fun _ => fun
  | [d1, d2, d3, d4] => { results := [.lit (.bool true)], args := [d1, d2, d3, d4] }
  | _ => none }
def fnExactChoiceFaultRow : OpenClaim := { program := "ythbfhalciioehaa", sum := "c900c37fd523a22da46b88af57f0f5321ca0e0460765b9dbc0097ad56458c920", func := "loop.example/packageworld/laws.FnExactChoiceFault", spec := "fnExactChoiceFault", apart := false }
def FnExactChoiceFaultSaid : Prop := fnExactChoiceFaultRow.holds Try.pinned (OpenSpec.ofChange fnExactChoiceFaultSpec)

/-- ITS FALSE NEIGHBOUR: 'it returns false'. Refute it at one input. -/
def fnExactChoiceFaultWrong : ChangeSpec := { name := "fnExactChoiceFault", fn := fun _ => fun
  | [d1, d2, d3, d4] => { results := [.lit (.bool false)], args := [d1, d2, d3, d4] }
  | _ => none }
def FnExactChoiceFaultWrongFalsely : Prop := fnExactChoiceFaultRow.holds Try.pinned (OpenSpec.ofChange fnExactChoiceFaultWrong)

/-- 'laws.FnShelfPut': WHATEVER THE INPUT: true; the input reads as it did. -/
def fnShelfPutSpec : ChangeSpec := { name := "fnShelfPut", fn := fun _ => fun
  | [d] => { results := [.lit (.bool true)], args := [d] }
  | _ => none }
def fnShelfPutRow : OpenClaim := { program := "ythbfhalciioehaa", sum := "c900c37fd523a22da46b88af57f0f5321ca0e0460765b9dbc0097ad56458c920", func := "loop.example/packageworld/laws.FnShelfPut", spec := "fnShelfPut", apart := false }
def FnShelfPutSaid : Prop := fnShelfPutRow.holds Try.pinned (OpenSpec.ofChange fnShelfPutSpec)

/-- ITS FALSE NEIGHBOUR: 'it returns false'. Refute it at one input. -/
def fnShelfPutWrong : ChangeSpec := { name := "fnShelfPut", fn := fun _ => fun
  | [d] => { results := [.lit (.bool false)], args := [d] }
  | _ => none }
def FnShelfPutWrongFalsely : Prop := fnShelfPutRow.holds Try.pinned (OpenSpec.ofChange fnShelfPutWrong)

/-- 'laws.FnChoiceReach': WHATEVER THE INPUT: true; the input reads as it did. -/
def fnChoiceReachSpec : ChangeSpec := { name := "fnChoiceReach", fn := fun _ => fun
  | [d] => { results := [.lit (.bool true)], args := [d] }
  | _ => none }
def fnChoiceReachRow : OpenClaim := { program := "ythbfhalciioehaa", sum := "c900c37fd523a22da46b88af57f0f5321ca0e0460765b9dbc0097ad56458c920", func := "loop.example/packageworld/laws.FnChoiceReach", spec := "fnChoiceReach", apart := false }
def FnChoiceReachSaid : Prop := fnChoiceReachRow.holds Try.pinned (OpenSpec.ofChange fnChoiceReachSpec)

/-- ITS FALSE NEIGHBOUR: 'it returns false'. Refute it at one input. -/
def fnChoiceReachWrong : ChangeSpec := { name := "fnChoiceReach", fn := fun _ => fun
  | [d] => { results := [.lit (.bool false)], args := [d] }
  | _ => none }
def FnChoiceReachWrongFalsely : Prop := fnChoiceReachRow.holds Try.pinned (OpenSpec.ofChange fnChoiceReachWrong)

/-- 'laws.FnChoiceFault': WHATEVER THE INPUT: true; the input reads as it did. -/
def fnChoiceFaultSpec : ChangeSpec := { name := "fnChoiceFault", fn := fun _ => fun
  | [d] => { results := [.lit (.bool true)], args := [d] }
  | _ => none }
def fnChoiceFaultRow : OpenClaim := { program := "ythbfhalciioehaa", sum := "c900c37fd523a22da46b88af57f0f5321ca0e0460765b9dbc0097ad56458c920", func := "loop.example/packageworld/laws.FnChoiceFault", spec := "fnChoiceFault", apart := false }
def FnChoiceFaultSaid : Prop := fnChoiceFaultRow.holds Try.pinned (OpenSpec.ofChange fnChoiceFaultSpec)

/-- ITS FALSE NEIGHBOUR: 'it returns false'. Refute it at one input. -/
def fnChoiceFaultWrong : ChangeSpec := { name := "fnChoiceFault", fn := fun _ => fun
  | [d] => { results := [.lit (.bool false)], args := [d] }
  | _ => none }
def FnChoiceFaultWrongFalsely : Prop := fnChoiceFaultRow.holds Try.pinned (OpenSpec.ofChange fnChoiceFaultWrong)

/-- 'laws.FnChoiceTrim': WHATEVER THE INPUT: true; the input reads as it did. -/
def fnChoiceTrimSpec : ChangeSpec := { name := "fnChoiceTrim", fn := fun _ => fun
  | [d] => { results := [.lit (.bool true)], args := [d] }
  | _ => none }
def fnChoiceTrimRow : OpenClaim := { program := "ythbfhalciioehaa", sum := "c900c37fd523a22da46b88af57f0f5321ca0e0460765b9dbc0097ad56458c920", func := "loop.example/packageworld/laws.FnChoiceTrim", spec := "fnChoiceTrim", apart := false }
def FnChoiceTrimSaid : Prop := fnChoiceTrimRow.holds Try.pinned (OpenSpec.ofChange fnChoiceTrimSpec)

/-- ITS FALSE NEIGHBOUR: 'it returns false'. Refute it at one input. -/
def fnChoiceTrimWrong : ChangeSpec := { name := "fnChoiceTrim", fn := fun _ => fun
  | [d] => { results := [.lit (.bool false)], args := [d] }
  | _ => none }
def FnChoiceTrimWrongFalsely : Prop := fnChoiceTrimRow.holds Try.pinned (OpenSpec.ofChange fnChoiceTrimWrong)

/-- 'laws.FnSolve': WHATEVER THE INPUT: true; the input reads as it did. -/
def fnSolveSpec : ChangeSpec := { name := "fnSolve", fn := fun _ => fun
  | [d] => { results := [.lit (.bool true)], args := [d] }
  | _ => none }
def fnSolveRow : OpenClaim := { program := "ythbfhalciioehaa", sum := "c900c37fd523a22da46b88af57f0f5321ca0e0460765b9dbc0097ad56458c920", func := "loop.example/packageworld/laws.FnSolve", spec := "fnSolve", recurses := true, apart := false }
def FnSolveSaid : Prop := fnSolveRow.holds Try.pinned (OpenSpec.ofChange fnSolveSpec)

/-- ITS FALSE NEIGHBOUR: 'it returns false'. Refute it at one input. -/
def fnSolveWrong : ChangeSpec := { name := "fnSolve", fn := fun _ => fun
  | [d] => { results := [.lit (.bool false)], args := [d] }
  | _ => none }
def FnSolveWrongFalsely : Prop := fnSolveRow.holds Try.pinned (OpenSpec.ofChange fnSolveWrong)

/-- 'laws.FnSolveBest': WHATEVER THE INPUT: true; the input reads as it did. -/
def fnSolveBestSpec : ChangeSpec := { name := "fnSolveBest", fn := fun _ => fun
  | [d] => { results := [.lit (.bool true)], args := [d] }
  | _ => none }
def fnSolveBestRow : OpenClaim := { program := "ythbfhalciioehaa", sum := "c900c37fd523a22da46b88af57f0f5321ca0e0460765b9dbc0097ad56458c920", func := "loop.example/packageworld/laws.FnSolveBest", spec := "fnSolveBest", recurses := true, apart := false }
def FnSolveBestSaid : Prop := fnSolveBestRow.holds Try.pinned (OpenSpec.ofChange fnSolveBestSpec)

/-- ITS FALSE NEIGHBOUR: 'it returns false'. Refute it at one input. -/
def fnSolveBestWrong : ChangeSpec := { name := "fnSolveBest", fn := fun _ => fun
  | [d] => { results := [.lit (.bool false)], args := [d] }
  | _ => none }
def FnSolveBestWrongFalsely : Prop := fnSolveBestRow.holds Try.pinned (OpenSpec.ofChange fnSolveBestWrong)

/-- 'laws.FnSolveAll': WHATEVER THE INPUT: true; the input reads as it did. -/
def fnSolveAllSpec : ChangeSpec := { name := "fnSolveAll", fn := fun _ => fun
  | [d] => { results := [.lit (.bool true)], args := [d] }
  | _ => none }
def fnSolveAllRow : OpenClaim := { program := "ythbfhalciioehaa", sum := "c900c37fd523a22da46b88af57f0f5321ca0e0460765b9dbc0097ad56458c920", func := "loop.example/packageworld/laws.FnSolveAll", spec := "fnSolveAll", recurses := true, apart := false }
def FnSolveAllSaid : Prop := fnSolveAllRow.holds Try.pinned (OpenSpec.ofChange fnSolveAllSpec)

/-- ITS FALSE NEIGHBOUR: 'it returns false'. Refute it at one input. -/
def fnSolveAllWrong : ChangeSpec := { name := "fnSolveAll", fn := fun _ => fun
  | [d] => { results := [.lit (.bool false)], args := [d] }
  | _ => none }
def FnSolveAllWrongFalsely : Prop := fnSolveAllRow.holds Try.pinned (OpenSpec.ofChange fnSolveAllWrong)

/- THE SECOND FORM. 'bulk': how many values and letters a reading holds, each counted each time it is reached (what is shared counts as often as it is met; a slice's spare places count too). A statement '..UptoSaid' is the law's where the arguments, and the package variables that the reading takes, are together of bulk at most 1048576: NARROWER than '..Said'. Prove '..Said' where nothing that the law and all that it calls make is longer than what came in: it says more and counts as full. Else prove '..UptoSaid'. A law counts once. -/
mutual
def uptoBulk {H : Type} : DataW H → Nat
  | .lit (.string bytes) => bytes.length + 1
  | .lit _ => 1
  | .nil => 1
  | .ptr d => uptoBulk d + 1
  | .slice elems spare => uptoBulkAll elems + uptoBulkAll spare + 1
  | .agg parts => uptoBulkAll parts + 1
  | .iface _ d => uptoBulk d + 1
  | .map entries => uptoBulkEntries entries + 1
  | .held _ => 1
def uptoBulkAll {H : Type} : List (DataW H) → Nat
  | [] => 0
  | d :: r => uptoBulk d + uptoBulkAll r
def uptoBulkEntries {H : Type} : List (Lit × DataW H) → Nat
  | [] => 0
  | x :: r => uptoBulkEntry x + uptoBulkEntries r
def uptoBulkEntry {H : Type} : Lit × DataW H → Nat
  | (.string bytes, d) => bytes.length + uptoBulk d + 1
  | (_, d) => uptoBulk d + 1
 end
def uptoSmall : (H : Type) → List (DataW H) → Bool := fun _ ds => decide (uptoBulkAll ds ≤ 1048576)
def OpenSpec.upto (s : _root_.Go.ChangeSpec) : _root_.Go.OpenSpec := { _root_.Go.OpenSpec.ofChange s with cond := some uptoSmall }

/-- 'laws.FnExactSolve', WHERE WHAT IT READS IS OF BULK AT MOST 1048576: true; the input reads as it did. -/
def fnExactSolveUptoRow : OpenClaim := { program := "ythbfhalciioehaa", sum := "c900c37fd523a22da46b88af57f0f5321ca0e0460765b9dbc0097ad56458c920", func := "loop.example/packageworld/laws.FnExactSolve", spec := "fnExactSolve", recurses := true, apart := false, narrowed := true }
def FnExactSolveUptoSaid : Prop := fnExactSolveUptoRow.holds Try.pinned (OpenSpec.upto fnExactSolveSpec)

/-- 'laws.FnExactSolveAll', WHERE WHAT IT READS IS OF BULK AT MOST 1048576: true; the input reads as it did. -/
def fnExactSolveAllUptoRow : OpenClaim := { program := "ythbfhalciioehaa", sum := "c900c37fd523a22da46b88af57f0f5321ca0e0460765b9dbc0097ad56458c920", func := "loop.example/packageworld/laws.FnExactSolveAll", spec := "fnExactSolveAll", recurses := true, apart := false, narrowed := true }
def FnExactSolveAllUptoSaid : Prop := fnExactSolveAllUptoRow.holds Try.pinned (OpenSpec.upto fnExactSolveAllSpec)

/-- 'laws.FnExactChoiceFault', WHERE WHAT IT READS IS OF BULK AT MOST 1048576: true; the input reads as it did. -/
def fnExactChoiceFaultUptoRow : OpenClaim := { program := "ythbfhalciioehaa", sum := "c900c37fd523a22da46b88af57f0f5321ca0e0460765b9dbc0097ad56458c920", func := "loop.example/packageworld/laws.FnExactChoiceFault", spec := "fnExactChoiceFault", apart := false, narrowed := true }
def FnExactChoiceFaultUptoSaid : Prop := fnExactChoiceFaultUptoRow.holds Try.pinned (OpenSpec.upto fnExactChoiceFaultSpec)

/-- 'laws.FnShelfPut', WHERE WHAT IT READS IS OF BULK AT MOST 1048576: true; the input reads as it did. -/
def fnShelfPutUptoRow : OpenClaim := { program := "ythbfhalciioehaa", sum := "c900c37fd523a22da46b88af57f0f5321ca0e0460765b9dbc0097ad56458c920", func := "loop.example/packageworld/laws.FnShelfPut", spec := "fnShelfPut", apart := false, narrowed := true }
def FnShelfPutUptoSaid : Prop := fnShelfPutUptoRow.holds Try.pinned (OpenSpec.upto fnShelfPutSpec)

/-- 'laws.FnChoiceReach', WHERE WHAT IT READS IS OF BULK AT MOST 1048576: true; the input reads as it did. -/
def fnChoiceReachUptoRow : OpenClaim := { program := "ythbfhalciioehaa", sum := "c900c37fd523a22da46b88af57f0f5321ca0e0460765b9dbc0097ad56458c920", func := "loop.example/packageworld/laws.FnChoiceReach", spec := "fnChoiceReach", apart := false, narrowed := true }
def FnChoiceReachUptoSaid : Prop := fnChoiceReachUptoRow.holds Try.pinned (OpenSpec.upto fnChoiceReachSpec)

/-- 'laws.FnChoiceFault', WHERE WHAT IT READS IS OF BULK AT MOST 1048576: true; the input reads as it did. -/
def fnChoiceFaultUptoRow : OpenClaim := { program := "ythbfhalciioehaa", sum := "c900c37fd523a22da46b88af57f0f5321ca0e0460765b9dbc0097ad56458c920", func := "loop.example/packageworld/laws.FnChoiceFault", spec := "fnChoiceFault", apart := false, narrowed := true }
def FnChoiceFaultUptoSaid : Prop := fnChoiceFaultUptoRow.holds Try.pinned (OpenSpec.upto fnChoiceFaultSpec)

/-- 'laws.FnChoiceTrim', WHERE WHAT IT READS IS OF BULK AT MOST 1048576: true; the input reads as it did. -/
def fnChoiceTrimUptoRow : OpenClaim := { program := "ythbfhalciioehaa", sum := "c900c37fd523a22da46b88af57f0f5321ca0e0460765b9dbc0097ad56458c920", func := "loop.example/packageworld/laws.FnChoiceTrim", spec := "fnChoiceTrim", apart := false, narrowed := true }
def FnChoiceTrimUptoSaid : Prop := fnChoiceTrimUptoRow.holds Try.pinned (OpenSpec.upto fnChoiceTrimSpec)

/-- 'laws.FnSolve', WHERE WHAT IT READS IS OF BULK AT MOST 1048576: true; the input reads as it did. -/
def fnSolveUptoRow : OpenClaim := { program := "ythbfhalciioehaa", sum := "c900c37fd523a22da46b88af57f0f5321ca0e0460765b9dbc0097ad56458c920", func := "loop.example/packageworld/laws.FnSolve", spec := "fnSolve", recurses := true, apart := false, narrowed := true }
def FnSolveUptoSaid : Prop := fnSolveUptoRow.holds Try.pinned (OpenSpec.upto fnSolveSpec)

/-- 'laws.FnSolveBest', WHERE WHAT IT READS IS OF BULK AT MOST 1048576: true; the input reads as it did. -/
def fnSolveBestUptoRow : OpenClaim := { program := "ythbfhalciioehaa", sum := "c900c37fd523a22da46b88af57f0f5321ca0e0460765b9dbc0097ad56458c920", func := "loop.example/packageworld/laws.FnSolveBest", spec := "fnSolveBest", recurses := true, apart := false, narrowed := true }
def FnSolveBestUptoSaid : Prop := fnSolveBestUptoRow.holds Try.pinned (OpenSpec.upto fnSolveBestSpec)

/-- 'laws.FnSolveAll', WHERE WHAT IT READS IS OF BULK AT MOST 1048576: true; the input reads as it did. -/
def fnSolveAllUptoRow : OpenClaim := { program := "ythbfhalciioehaa", sum := "c900c37fd523a22da46b88af57f0f5321ca0e0460765b9dbc0097ad56458c920", func := "loop.example/packageworld/laws.FnSolveAll", spec := "fnSolveAll", recurses := true, apart := false, narrowed := true }
def FnSolveAllUptoSaid : Prop := fnSolveAllUptoRow.holds Try.pinned (OpenSpec.upto fnSolveAllSpec)

end Rows
end Go.Proofs.Ythbfhalciioehaa
