/-
  No cell of these rows narrows 'for every input' (looked for: loops, veiled, ifaces, maps, wideKeys, modest, calm, conditions, laid).
  DERIVED. THE GIVEN ROWS OF THIS SEAT. 10 by the template 'for every input the law returns true; each argument reads behind the call as it read before'; 0 by the template 'total and deterministic' (their statements: YtgenjbeamlffmaaTotals.lean).
  GIVEN WITH THE SEED: the statements are not yours to turn. If you find one false, say at which input.
  Laid BY PROGRAM, IN A SANDBOX (cutbox-rows.mjs): the forced cells as the released guide's own fill.sh prints them over the translation 2f6564c5ddcfd288… (all of the seat's roots in one cut). By AI agents, Wed Nov 11 2026. No macro, syntax, notation, axiom, sorry.
-/
import Derived.Test.YtgenjbeamlffmaaChecked
import GoSem.Claim
import GoSem.ClaimJoined
import GoSem.ClaimMapViews
import Derived.JoinedTies
import Derived.KernelRfl
namespace Go.Proofs.Ytgenjbeamlffmaa
/- THE CELL 'sum', in the pinned program and in every row, IS THE sha256 OF THE DUMP (.gsa) THAT YtgenjbeamlffmaaProg.lean LOADS. Nothing in Lean hashes anything: it is a label: what it is worth is what the hold of that sum in a sandbox is worth. -/
noncomputable def Try.pinned : Pinned := { name := "ytgenjbeamlffmaa", sum := "2f6564c5ddcfd288781341d241cb2b21ad6a51f927b188c687f5b8705779723d", checked := Try.checked }
namespace Rows
def none {H : Type} : Left H := { results := [], args := [] }

/-- 'laws.FnExactSolve': WHATEVER THE INPUT: true; the input reads as it did. -/
def fnExactSolveSpec : ChangeSpec := { name := "fnExactSolve", fn := fun _ => fun
  | [d1, d2, d3] => { results := [.lit (.bool true)], args := [d1, d2, d3] }
  | _ => none }
def fnExactSolveRow : OpenClaim := { program := "ytgenjbeamlffmaa", sum := "2f6564c5ddcfd288781341d241cb2b21ad6a51f927b188c687f5b8705779723d", func := "loop.example/packageworld/laws.FnExactSolve", spec := "fnExactSolve", recurses := true, apart := false }
def FnExactSolveSaid : Prop := fnExactSolveRow.holds Try.pinned (OpenSpec.ofChange fnExactSolveSpec)

/-- ITS FALSE NEIGHBOUR: 'it returns false'. Refute it at one input. -/
def fnExactSolveWrong : ChangeSpec := { name := "fnExactSolve", fn := fun _ => fun
  | [d1, d2, d3] => { results := [.lit (.bool false)], args := [d1, d2, d3] }
  | _ => none }
def FnExactSolveWrongFalsely : Prop := fnExactSolveRow.holds Try.pinned (OpenSpec.ofChange fnExactSolveWrong)

/-- 'laws.FnExactSolveAll': WHATEVER THE INPUT: true; the input reads as it did. -/
def fnExactSolveAllSpec : ChangeSpec := { name := "fnExactSolveAll", fn := fun _ => fun
  | [d1, d2, d3] => { results := [.lit (.bool true)], args := [d1, d2, d3] }
  | _ => none }
def fnExactSolveAllRow : OpenClaim := { program := "ytgenjbeamlffmaa", sum := "2f6564c5ddcfd288781341d241cb2b21ad6a51f927b188c687f5b8705779723d", func := "loop.example/packageworld/laws.FnExactSolveAll", spec := "fnExactSolveAll", recurses := true, apart := false }
def FnExactSolveAllSaid : Prop := fnExactSolveAllRow.holds Try.pinned (OpenSpec.ofChange fnExactSolveAllSpec)

/-- ITS FALSE NEIGHBOUR: 'it returns false'. Refute it at one input. -/
def fnExactSolveAllWrong : ChangeSpec := { name := "fnExactSolveAll", fn := fun _ => fun
  | [d1, d2, d3] => { results := [.lit (.bool false)], args := [d1, d2, d3] }
  | _ => none }
def FnExactSolveAllWrongFalsely : Prop := fnExactSolveAllRow.holds Try.pinned (OpenSpec.ofChange fnExactSolveAllWrong)

/-- 'laws.FnExactClashOk': WHATEVER THE INPUT: true; the input reads as it did. -/
def fnExactClashOkSpec : ChangeSpec := { name := "fnExactClashOk", fn := fun _ => fun
  | [d] => { results := [.lit (.bool true)], args := [d] }
  | _ => none }
def fnExactClashOkRow : OpenClaim := { program := "ytgenjbeamlffmaa", sum := "2f6564c5ddcfd288781341d241cb2b21ad6a51f927b188c687f5b8705779723d", func := "loop.example/packageworld/laws.FnExactClashOk", spec := "fnExactClashOk", apart := false }
def FnExactClashOkSaid : Prop := fnExactClashOkRow.holds Try.pinned (OpenSpec.ofChange fnExactClashOkSpec)

/-- ITS FALSE NEIGHBOUR: 'it returns false'. Refute it at one input. -/
def fnExactClashOkWrong : ChangeSpec := { name := "fnExactClashOk", fn := fun _ => fun
  | [d] => { results := [.lit (.bool false)], args := [d] }
  | _ => none }
def FnExactClashOkWrongFalsely : Prop := fnExactClashOkRow.holds Try.pinned (OpenSpec.ofChange fnExactClashOkWrong)

/-- 'laws.FnExactClashHits': WHATEVER THE INPUT: true; the input reads as it did. -/
def fnExactClashHitsSpec : ChangeSpec := { name := "fnExactClashHits", fn := fun _ => fun
  | [d1, d2] => { results := [.lit (.bool true)], args := [d1, d2] }
  | _ => none }
def fnExactClashHitsRow : OpenClaim := { program := "ytgenjbeamlffmaa", sum := "2f6564c5ddcfd288781341d241cb2b21ad6a51f927b188c687f5b8705779723d", func := "loop.example/packageworld/laws.FnExactClashHits", spec := "fnExactClashHits", apart := false }
def FnExactClashHitsSaid : Prop := fnExactClashHitsRow.holds Try.pinned (OpenSpec.ofChange fnExactClashHitsSpec)

/-- ITS FALSE NEIGHBOUR: 'it returns false'. Refute it at one input. -/
def fnExactClashHitsWrong : ChangeSpec := { name := "fnExactClashHits", fn := fun _ => fun
  | [d1, d2] => { results := [.lit (.bool false)], args := [d1, d2] }
  | _ => none }
def FnExactClashHitsWrongFalsely : Prop := fnExactClashHitsRow.holds Try.pinned (OpenSpec.ofChange fnExactClashHitsWrong)

/-- 'laws.FnExactClashOf': WHATEVER THE INPUT: true; the input reads as it did. -/
def fnExactClashOfSpec : ChangeSpec := { name := "fnExactClashOf", fn := fun _ => fun
  | [d1, d2, d3] => { results := [.lit (.bool true)], args := [d1, d2, d3] }
  | _ => none }
def fnExactClashOfRow : OpenClaim := { program := "ytgenjbeamlffmaa", sum := "2f6564c5ddcfd288781341d241cb2b21ad6a51f927b188c687f5b8705779723d", func := "loop.example/packageworld/laws.FnExactClashOf", spec := "fnExactClashOf", apart := false }
def FnExactClashOfSaid : Prop := fnExactClashOfRow.holds Try.pinned (OpenSpec.ofChange fnExactClashOfSpec)

/-- ITS FALSE NEIGHBOUR: 'it returns false'. Refute it at one input. -/
def fnExactClashOfWrong : ChangeSpec := { name := "fnExactClashOf", fn := fun _ => fun
  | [d1, d2, d3] => { results := [.lit (.bool false)], args := [d1, d2, d3] }
  | _ => none }
def FnExactClashOfWrongFalsely : Prop := fnExactClashOfRow.holds Try.pinned (OpenSpec.ofChange fnExactClashOfWrong)

/-- 'laws.FnExactClashJoin': WHATEVER THE INPUT: true; the input reads as it did. -/
def fnExactClashJoinSpec : ChangeSpec := { name := "fnExactClashJoin", fn := fun _ => fun
  | [d1, d2, d3] => { results := [.lit (.bool true)], args := [d1, d2, d3] }
  | _ => none }
def fnExactClashJoinRow : OpenClaim := { program := "ytgenjbeamlffmaa", sum := "2f6564c5ddcfd288781341d241cb2b21ad6a51f927b188c687f5b8705779723d", func := "loop.example/packageworld/laws.FnExactClashJoin", spec := "fnExactClashJoin", apart := false }
def FnExactClashJoinSaid : Prop := fnExactClashJoinRow.holds Try.pinned (OpenSpec.ofChange fnExactClashJoinSpec)

/-- ITS FALSE NEIGHBOUR: 'it returns false'. Refute it at one input. -/
def fnExactClashJoinWrong : ChangeSpec := { name := "fnExactClashJoin", fn := fun _ => fun
  | [d1, d2, d3] => { results := [.lit (.bool false)], args := [d1, d2, d3] }
  | _ => none }
def FnExactClashJoinWrongFalsely : Prop := fnExactClashJoinRow.holds Try.pinned (OpenSpec.ofChange fnExactClashJoinWrong)

/-- 'laws.FnExactProofOk': WHATEVER THE INPUT: true; the input reads as it did. -/
def fnExactProofOkSpec : ChangeSpec := { name := "fnExactProofOk", fn := fun _ => fun
  | [d1, d2, d3] => { results := [.lit (.bool true)], args := [d1, d2, d3] }
  | _ => none }
def fnExactProofOkRow : OpenClaim := { program := "ytgenjbeamlffmaa", sum := "2f6564c5ddcfd288781341d241cb2b21ad6a51f927b188c687f5b8705779723d", func := "loop.example/packageworld/laws.FnExactProofOk", spec := "fnExactProofOk", apart := false }
def FnExactProofOkSaid : Prop := fnExactProofOkRow.holds Try.pinned (OpenSpec.ofChange fnExactProofOkSpec)

/-- ITS FALSE NEIGHBOUR: 'it returns false'. Refute it at one input. -/
def fnExactProofOkWrong : ChangeSpec := { name := "fnExactProofOk", fn := fun _ => fun
  | [d1, d2, d3] => { results := [.lit (.bool false)], args := [d1, d2, d3] }
  | _ => none }
def FnExactProofOkWrongFalsely : Prop := fnExactProofOkRow.holds Try.pinned (OpenSpec.ofChange fnExactProofOkWrong)

/-- 'laws.FnSolve': WHATEVER THE INPUT: true; the input reads as it did. -/
def fnSolveSpec : ChangeSpec := { name := "fnSolve", fn := fun _ => fun
  | [d] => { results := [.lit (.bool true)], args := [d] }
  | _ => none }
def fnSolveRow : OpenClaim := { program := "ytgenjbeamlffmaa", sum := "2f6564c5ddcfd288781341d241cb2b21ad6a51f927b188c687f5b8705779723d", func := "loop.example/packageworld/laws.FnSolve", spec := "fnSolve", recurses := true, apart := false }
def FnSolveSaid : Prop := fnSolveRow.holds Try.pinned (OpenSpec.ofChange fnSolveSpec)

/-- ITS FALSE NEIGHBOUR: 'it returns false'. Refute it at one input. -/
def fnSolveWrong : ChangeSpec := { name := "fnSolve", fn := fun _ => fun
  | [d] => { results := [.lit (.bool false)], args := [d] }
  | _ => none }
def FnSolveWrongFalsely : Prop := fnSolveRow.holds Try.pinned (OpenSpec.ofChange fnSolveWrong)

/-- 'laws.FnSolveBest': WHATEVER THE INPUT: true; the input reads as it did. -/
def fnSolveBestSpec : ChangeSpec := { name := "fnSolveBest", fn := fun _ => fun
  | [d] => { results := [.lit (.bool true)], args := [d] }
  | _ => none }
def fnSolveBestRow : OpenClaim := { program := "ytgenjbeamlffmaa", sum := "2f6564c5ddcfd288781341d241cb2b21ad6a51f927b188c687f5b8705779723d", func := "loop.example/packageworld/laws.FnSolveBest", spec := "fnSolveBest", recurses := true, apart := false }
def FnSolveBestSaid : Prop := fnSolveBestRow.holds Try.pinned (OpenSpec.ofChange fnSolveBestSpec)

/-- ITS FALSE NEIGHBOUR: 'it returns false'. Refute it at one input. -/
def fnSolveBestWrong : ChangeSpec := { name := "fnSolveBest", fn := fun _ => fun
  | [d] => { results := [.lit (.bool false)], args := [d] }
  | _ => none }
def FnSolveBestWrongFalsely : Prop := fnSolveBestRow.holds Try.pinned (OpenSpec.ofChange fnSolveBestWrong)

/-- 'laws.FnSolveAll': WHATEVER THE INPUT: true; the input reads as it did. -/
def fnSolveAllSpec : ChangeSpec := { name := "fnSolveAll", fn := fun _ => fun
  | [d] => { results := [.lit (.bool true)], args := [d] }
  | _ => none }
def fnSolveAllRow : OpenClaim := { program := "ytgenjbeamlffmaa", sum := "2f6564c5ddcfd288781341d241cb2b21ad6a51f927b188c687f5b8705779723d", func := "loop.example/packageworld/laws.FnSolveAll", spec := "fnSolveAll", recurses := true, apart := false }
def FnSolveAllSaid : Prop := fnSolveAllRow.holds Try.pinned (OpenSpec.ofChange fnSolveAllSpec)

/-- ITS FALSE NEIGHBOUR: 'it returns false'. Refute it at one input. -/
def fnSolveAllWrong : ChangeSpec := { name := "fnSolveAll", fn := fun _ => fun
  | [d] => { results := [.lit (.bool false)], args := [d] }
  | _ => none }
def FnSolveAllWrongFalsely : Prop := fnSolveAllRow.holds Try.pinned (OpenSpec.ofChange fnSolveAllWrong)

/- THE SECOND FORM. 'bulk': how many values and letters a reading holds, each counted each time it is reached (what is shared counts as often as it is met; a slice's spare places count too). A statement '..UptoSaid' is the law's where the arguments, and the package variables that the reading takes, are together of bulk at most 1048576: NARROWER than '..Said'. Prove '..Said' where nothing that the law and all that it calls make is longer than what came in: it says more and counts as full. Else prove '..UptoSaid'. A law counts once. -/
mutual
def uptoBulk {H : Type} : DataW H → Nat
  | .lit (.string bytes) => bytes.length + 1
  | .lit _ => 1
  | .nil => 1
  | .ptr d => uptoBulk d + 1
  | .slice elems spare => uptoBulkAll elems + uptoBulkAll spare + 1
  | .agg parts => uptoBulkAll parts + 1
  | .iface _ d => uptoBulk d + 1
  | .map entries => uptoBulkEntries entries + 1
  | .held _ => 1
def uptoBulkAll {H : Type} : List (DataW H) → Nat
  | [] => 0
  | d :: r => uptoBulk d + uptoBulkAll r
def uptoBulkEntries {H : Type} : List (Lit × DataW H) → Nat
  | [] => 0
  | x :: r => uptoBulkEntry x + uptoBulkEntries r
def uptoBulkEntry {H : Type} : Lit × DataW H → Nat
  | (.string bytes, d) => bytes.length + uptoBulk d + 1
  | (_, d) => uptoBulk d + 1
 end
def uptoSmall : (H : Type) → List (DataW H) → Bool := fun _ ds => decide (uptoBulkAll ds ≤ 1048576)
def OpenSpec.upto (s : _root_.Go.ChangeSpec) : _root_.Go.OpenSpec := { _root_.Go.OpenSpec.ofChange s with cond := some uptoSmall }

/-- 'laws.FnExactSolve', WHERE WHAT IT READS IS OF BULK AT MOST 1048576: true; the input reads as it did. -/
def fnExactSolveUptoRow : OpenClaim := { program := "ytgenjbeamlffmaa", sum := "2f6564c5ddcfd288781341d241cb2b21ad6a51f927b188c687f5b8705779723d", func := "loop.example/packageworld/laws.FnExactSolve", spec := "fnExactSolve", recurses := true, apart := false, narrowed := true }
def FnExactSolveUptoSaid : Prop := fnExactSolveUptoRow.holds Try.pinned (OpenSpec.upto fnExactSolveSpec)

/-- 'laws.FnExactSolveAll', WHERE WHAT IT READS IS OF BULK AT MOST 1048576: true; the input reads as it did. -/
def fnExactSolveAllUptoRow : OpenClaim := { program := "ytgenjbeamlffmaa", sum := "2f6564c5ddcfd288781341d241cb2b21ad6a51f927b188c687f5b8705779723d", func := "loop.example/packageworld/laws.FnExactSolveAll", spec := "fnExactSolveAll", recurses := true, apart := false, narrowed := true }
def FnExactSolveAllUptoSaid : Prop := fnExactSolveAllUptoRow.holds Try.pinned (OpenSpec.upto fnExactSolveAllSpec)

/-- 'laws.FnExactClashOk', WHERE WHAT IT READS IS OF BULK AT MOST 1048576: true; the input reads as it did. -/
def fnExactClashOkUptoRow : OpenClaim := { program := "ytgenjbeamlffmaa", sum := "2f6564c5ddcfd288781341d241cb2b21ad6a51f927b188c687f5b8705779723d", func := "loop.example/packageworld/laws.FnExactClashOk", spec := "fnExactClashOk", apart := false, narrowed := true }
def FnExactClashOkUptoSaid : Prop := fnExactClashOkUptoRow.holds Try.pinned (OpenSpec.upto fnExactClashOkSpec)

/-- 'laws.FnExactClashHits', WHERE WHAT IT READS IS OF BULK AT MOST 1048576: true; the input reads as it did. -/
def fnExactClashHitsUptoRow : OpenClaim := { program := "ytgenjbeamlffmaa", sum := "2f6564c5ddcfd288781341d241cb2b21ad6a51f927b188c687f5b8705779723d", func := "loop.example/packageworld/laws.FnExactClashHits", spec := "fnExactClashHits", apart := false, narrowed := true }
def FnExactClashHitsUptoSaid : Prop := fnExactClashHitsUptoRow.holds Try.pinned (OpenSpec.upto fnExactClashHitsSpec)

/-- 'laws.FnExactClashOf', WHERE WHAT IT READS IS OF BULK AT MOST 1048576: true; the input reads as it did. -/
def fnExactClashOfUptoRow : OpenClaim := { program := "ytgenjbeamlffmaa", sum := "2f6564c5ddcfd288781341d241cb2b21ad6a51f927b188c687f5b8705779723d", func := "loop.example/packageworld/laws.FnExactClashOf", spec := "fnExactClashOf", apart := false, narrowed := true }
def FnExactClashOfUptoSaid : Prop := fnExactClashOfUptoRow.holds Try.pinned (OpenSpec.upto fnExactClashOfSpec)

/-- 'laws.FnExactClashJoin', WHERE WHAT IT READS IS OF BULK AT MOST 1048576: true; the input reads as it did. -/
def fnExactClashJoinUptoRow : OpenClaim := { program := "ytgenjbeamlffmaa", sum := "2f6564c5ddcfd288781341d241cb2b21ad6a51f927b188c687f5b8705779723d", func := "loop.example/packageworld/laws.FnExactClashJoin", spec := "fnExactClashJoin", apart := false, narrowed := true }
def FnExactClashJoinUptoSaid : Prop := fnExactClashJoinUptoRow.holds Try.pinned (OpenSpec.upto fnExactClashJoinSpec)

/-- 'laws.FnExactProofOk', WHERE WHAT IT READS IS OF BULK AT MOST 1048576: true; the input reads as it did. -/
def fnExactProofOkUptoRow : OpenClaim := { program := "ytgenjbeamlffmaa", sum := "2f6564c5ddcfd288781341d241cb2b21ad6a51f927b188c687f5b8705779723d", func := "loop.example/packageworld/laws.FnExactProofOk", spec := "fnExactProofOk", apart := false, narrowed := true }
def FnExactProofOkUptoSaid : Prop := fnExactProofOkUptoRow.holds Try.pinned (OpenSpec.upto fnExactProofOkSpec)

/-- 'laws.FnSolve', WHERE WHAT IT READS IS OF BULK AT MOST 1048576: true; the input reads as it did. -/
def fnSolveUptoRow : OpenClaim := { program := "ytgenjbeamlffmaa", sum := "2f6564c5ddcfd288781341d241cb2b21ad6a51f927b188c687f5b8705779723d", func := "loop.example/packageworld/laws.FnSolve", spec := "fnSolve", recurses := true, apart := false, narrowed := true }
def FnSolveUptoSaid : Prop := fnSolveUptoRow.holds Try.pinned (OpenSpec.upto fnSolveSpec)

/-- 'laws.FnSolveBest', WHERE WHAT IT READS IS OF BULK AT MOST 1048576: true; the input reads as it did. -/
def fnSolveBestUptoRow : OpenClaim := { program := "ytgenjbeamlffmaa", sum := "2f6564c5ddcfd288781341d241cb2b21ad6a51f927b188c687f5b8705779723d", func := "loop.example/packageworld/laws.FnSolveBest", spec := "fnSolveBest", recurses := true, apart := false, narrowed := true }
def FnSolveBestUptoSaid : Prop := fnSolveBestUptoRow.holds Try.pinned (OpenSpec.upto fnSolveBestSpec)

/-- 'laws.FnSolveAll', WHERE WHAT IT READS IS OF BULK AT MOST 1048576: true; the input reads as it did. -/
def fnSolveAllUptoRow : OpenClaim := { program := "ytgenjbeamlffmaa", sum := "2f6564c5ddcfd288781341d241cb2b21ad6a51f927b188c687f5b8705779723d", func := "loop.example/packageworld/laws.FnSolveAll", spec := "fnSolveAll", recurses := true, apart := false, narrowed := true }
def FnSolveAllUptoSaid : Prop := fnSolveAllUptoRow.holds Try.pinned (OpenSpec.upto fnSolveAllSpec)

end Rows
end Go.Proofs.Ytgenjbeamlffmaa
