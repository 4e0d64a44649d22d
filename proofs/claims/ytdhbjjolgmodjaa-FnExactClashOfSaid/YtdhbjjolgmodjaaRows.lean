/-
  No cell of these rows narrows 'for every input' (looked for: loops, veiled, ifaces, maps, wideKeys, modest, calm, conditions, laid).
  DERIVED. THE GIVEN ROWS OF THIS SEAT. 7 by the template 'for every input the law returns true; each argument reads behind the call as it read before'; 0 by the template 'total and deterministic' (their statements: YtdhbjjolgmodjaaTotals.lean).
  GIVEN WITH THE SEED: the statements are not yours to turn. If you find one false, say at which input.
  Laid BY PROGRAM, IN A SANDBOX (cutbox-rows.mjs): the forced cells as the released guide's own fill.sh prints them over the translation 26302ed2e6f2882e… (all of the seat's roots in one cut). By AI agents, Wed Nov 11 2026. No macro, syntax, notation, axiom, sorry.
-/
import Derived.Test.YtdhbjjolgmodjaaChecked
import GoSem.Claim
import GoSem.ClaimJoined
import GoSem.ClaimMapViews
import Derived.JoinedTies
import Derived.KernelRfl
namespace Go.Proofs.Ytdhbjjolgmodjaa
/- THE CELL 'sum', in the pinned program and in every row, IS THE sha256 OF THE DUMP (.gsa) THAT YtdhbjjolgmodjaaProg.lean LOADS. Nothing in Lean hashes anything: it is a label: what it is worth is what the hold of that sum in a sandbox is worth. -/
noncomputable def Try.pinned : Pinned := { name := "ytdhbjjolgmodjaa", sum := "26302ed2e6f2882e177abb314b096a66f1dacf6f3337e4d4490f173846836db9", checked := Try.checked }
namespace Rows
def none {H : Type} : Left H := { results := [], args := [] }

/-- 'laws.FnExactClashJoin': WHATEVER THE INPUT: true; the input reads as it did. -/
def fnExactClashJoinSpec : ChangeSpec := { name := "fnExactClashJoin", fn := fun _ => fun
  | [d1, d2, d3] => { results := [.lit (.bool true)], args := [d1, d2, d3] }
  | _ => none }
def fnExactClashJoinRow : OpenClaim := { program := "ytdhbjjolgmodjaa", sum := "26302ed2e6f2882e177abb314b096a66f1dacf6f3337e4d4490f173846836db9", func := "loop.example/packageworld/laws.FnExactClashJoin", spec := "fnExactClashJoin", apart := false }
def FnExactClashJoinSaid : Prop := fnExactClashJoinRow.holds Try.pinned (OpenSpec.ofChange fnExactClashJoinSpec)

/-- ITS FALSE NEIGHBOUR: 'it returns false'. Refute it at one input. -/
def fnExactClashJoinWrong : ChangeSpec := { name := "fnExactClashJoin", fn := fun _ => fun
  | [d1, d2, d3] => { results := [.lit (.bool false)], args := [d1, d2, d3] }
  | _ => none }
def FnExactClashJoinWrongFalsely : Prop := fnExactClashJoinRow.holds Try.pinned (OpenSpec.ofChange fnExactClashJoinWrong)

/-- 'laws.FnClashJoin': WHATEVER THE INPUT: true; the input reads as it did. -/
def fnClashJoinSpec : ChangeSpec := { name := "fnClashJoin", fn := fun _ => fun
  | [d] => { results := [.lit (.bool true)], args := [d] }
  | _ => none }
def fnClashJoinRow : OpenClaim := { program := "ytdhbjjolgmodjaa", sum := "26302ed2e6f2882e177abb314b096a66f1dacf6f3337e4d4490f173846836db9", func := "loop.example/packageworld/laws.FnClashJoin", spec := "fnClashJoin", apart := false }
def FnClashJoinSaid : Prop := fnClashJoinRow.holds Try.pinned (OpenSpec.ofChange fnClashJoinSpec)

/-- ITS FALSE NEIGHBOUR: 'it returns false'. Refute it at one input. -/
def fnClashJoinWrong : ChangeSpec := { name := "fnClashJoin", fn := fun _ => fun
  | [d] => { results := [.lit (.bool false)], args := [d] }
  | _ => none }
def FnClashJoinWrongFalsely : Prop := fnClashJoinRow.holds Try.pinned (OpenSpec.ofChange fnClashJoinWrong)

/-- 'laws.FnExactClashOf': WHATEVER THE INPUT: true; the input reads as it did. -/
def fnExactClashOfSpec : ChangeSpec := { name := "fnExactClashOf", fn := fun _ => fun
  | [d1, d2, d3] => { results := [.lit (.bool true)], args := [d1, d2, d3] }
  | _ => none }
def fnExactClashOfRow : OpenClaim := { program := "ytdhbjjolgmodjaa", sum := "26302ed2e6f2882e177abb314b096a66f1dacf6f3337e4d4490f173846836db9", func := "loop.example/packageworld/laws.FnExactClashOf", spec := "fnExactClashOf", apart := false }
def FnExactClashOfSaid : Prop := fnExactClashOfRow.holds Try.pinned (OpenSpec.ofChange fnExactClashOfSpec)

/-- ITS FALSE NEIGHBOUR: 'it returns false'. Refute it at one input. -/
def fnExactClashOfWrong : ChangeSpec := { name := "fnExactClashOf", fn := fun _ => fun
  | [d1, d2, d3] => { results := [.lit (.bool false)], args := [d1, d2, d3] }
  | _ => none }
def FnExactClashOfWrongFalsely : Prop := fnExactClashOfRow.holds Try.pinned (OpenSpec.ofChange fnExactClashOfWrong)

/-- 'laws.FnClashOf': WHATEVER THE INPUT: true; the input reads as it did. -/
def fnClashOfSpec : ChangeSpec := { name := "fnClashOf", fn := fun _ => fun
  | [d] => { results := [.lit (.bool true)], args := [d] }
  | _ => none }
def fnClashOfRow : OpenClaim := { program := "ytdhbjjolgmodjaa", sum := "26302ed2e6f2882e177abb314b096a66f1dacf6f3337e4d4490f173846836db9", func := "loop.example/packageworld/laws.FnClashOf", spec := "fnClashOf", recurses := true, apart := false }
def FnClashOfSaid : Prop := fnClashOfRow.holds Try.pinned (OpenSpec.ofChange fnClashOfSpec)

/-- ITS FALSE NEIGHBOUR: 'it returns false'. Refute it at one input. -/
def fnClashOfWrong : ChangeSpec := { name := "fnClashOf", fn := fun _ => fun
  | [d] => { results := [.lit (.bool false)], args := [d] }
  | _ => none }
def FnClashOfWrongFalsely : Prop := fnClashOfRow.holds Try.pinned (OpenSpec.ofChange fnClashOfWrong)

/-- 'laws.FnProofRun': WHATEVER THE INPUT: true; the input reads as it did. -/
def fnProofRunSpec : ChangeSpec := { name := "fnProofRun", fn := fun _ => fun
  | [d] => { results := [.lit (.bool true)], args := [d] }
  | _ => none }
def fnProofRunRow : OpenClaim := { program := "ytdhbjjolgmodjaa", sum := "26302ed2e6f2882e177abb314b096a66f1dacf6f3337e4d4490f173846836db9", func := "loop.example/packageworld/laws.FnProofRun", spec := "fnProofRun", recurses := true, apart := false }
def FnProofRunSaid : Prop := fnProofRunRow.holds Try.pinned (OpenSpec.ofChange fnProofRunSpec)

/-- ITS FALSE NEIGHBOUR: 'it returns false'. Refute it at one input. -/
def fnProofRunWrong : ChangeSpec := { name := "fnProofRun", fn := fun _ => fun
  | [d] => { results := [.lit (.bool false)], args := [d] }
  | _ => none }
def FnProofRunWrongFalsely : Prop := fnProofRunRow.holds Try.pinned (OpenSpec.ofChange fnProofRunWrong)

/-- 'laws.FnExactProofOk': WHATEVER THE INPUT: true; the input reads as it did. -/
def fnExactProofOkSpec : ChangeSpec := { name := "fnExactProofOk", fn := fun _ => fun
  | [d1, d2, d3] => { results := [.lit (.bool true)], args := [d1, d2, d3] }
  | _ => none }
def fnExactProofOkRow : OpenClaim := { program := "ytdhbjjolgmodjaa", sum := "26302ed2e6f2882e177abb314b096a66f1dacf6f3337e4d4490f173846836db9", func := "loop.example/packageworld/laws.FnExactProofOk", spec := "fnExactProofOk", apart := false }
def FnExactProofOkSaid : Prop := fnExactProofOkRow.holds Try.pinned (OpenSpec.ofChange fnExactProofOkSpec)

/-- ITS FALSE NEIGHBOUR: 'it returns false'. Refute it at one input. -/
def fnExactProofOkWrong : ChangeSpec := { name := "fnExactProofOk", fn := fun _ => fun
  | [d1, d2, d3] => { results := [.lit (.bool false)], args := [d1, d2, d3] }
  | _ => none }
def FnExactProofOkWrongFalsely : Prop := fnExactProofOkRow.holds Try.pinned (OpenSpec.ofChange fnExactProofOkWrong)

/-- 'laws.FnProofOk': WHATEVER THE INPUT: true; the input reads as it did. -/
def fnProofOkSpec : ChangeSpec := { name := "fnProofOk", fn := fun _ => fun
  | [d] => { results := [.lit (.bool true)], args := [d] }
  | _ => none }
def fnProofOkRow : OpenClaim := { program := "ytdhbjjolgmodjaa", sum := "26302ed2e6f2882e177abb314b096a66f1dacf6f3337e4d4490f173846836db9", func := "loop.example/packageworld/laws.FnProofOk", spec := "fnProofOk", recurses := true, apart := false }
def FnProofOkSaid : Prop := fnProofOkRow.holds Try.pinned (OpenSpec.ofChange fnProofOkSpec)

/-- ITS FALSE NEIGHBOUR: 'it returns false'. Refute it at one input. -/
def fnProofOkWrong : ChangeSpec := { name := "fnProofOk", fn := fun _ => fun
  | [d] => { results := [.lit (.bool false)], args := [d] }
  | _ => none }
def FnProofOkWrongFalsely : Prop := fnProofOkRow.holds Try.pinned (OpenSpec.ofChange fnProofOkWrong)

/- THE SECOND FORM. 'bulk': how many values and letters a reading holds, each counted each time it is reached (what is shared counts as often as it is met; a slice's spare places count too). A statement '..UptoSaid' is the law's where the arguments, and the package variables that the reading takes, are together of bulk at most 1048576: NARROWER than '..Said'. Prove '..Said' where nothing that the law and all that it calls make is longer than what came in: it says more and counts as full. Else prove '..UptoSaid'. A law counts once. -/
mutual
def uptoBulk {H : Type} : DataW H → Nat
  | .lit (.string bytes) => bytes.length + 1
  | .lit _ => 1
  | .nil => 1
  | .ptr d => uptoBulk d + 1
  | .slice elems spare => uptoBulkAll elems + uptoBulkAll spare + 1
  | .agg parts => uptoBulkAll parts + 1
  | .iface _ d => uptoBulk d + 1
  | .map entries => uptoBulkEntries entries + 1
  | .held _ => 1
def uptoBulkAll {H : Type} : List (DataW H) → Nat
  | [] => 0
  | d :: r => uptoBulk d + uptoBulkAll r
def uptoBulkEntries {H : Type} : List (Lit × DataW H) → Nat
  | [] => 0
  | x :: r => uptoBulkEntry x + uptoBulkEntries r
def uptoBulkEntry {H : Type} : Lit × DataW H → Nat
  | (.string bytes, d) => bytes.length + uptoBulk d + 1
  | (_, d) => uptoBulk d + 1
 end
def uptoSmall : (H : Type) → List (DataW H) → Bool := fun _ ds => decide (uptoBulkAll ds ≤ 1048576)
def OpenSpec.upto (s : _root_.Go.ChangeSpec) : _root_.Go.OpenSpec := { _root_.Go.OpenSpec.ofChange s with cond := some uptoSmall }

/-- 'laws.FnExactClashJoin', WHERE WHAT IT READS IS OF BULK AT MOST 1048576: true; the input reads as it did. -/
def fnExactClashJoinUptoRow : OpenClaim := { program := "ytdhbjjolgmodjaa", sum := "26302ed2e6f2882e177abb314b096a66f1dacf6f3337e4d4490f173846836db9", func := "loop.example/packageworld/laws.FnExactClashJoin", spec := "fnExactClashJoin", apart := false, narrowed := true }
def FnExactClashJoinUptoSaid : Prop := fnExactClashJoinUptoRow.holds Try.pinned (OpenSpec.upto fnExactClashJoinSpec)

/-- 'laws.FnClashJoin', WHERE WHAT IT READS IS OF BULK AT MOST 1048576: true; the input reads as it did. -/
def fnClashJoinUptoRow : OpenClaim := { program := "ytdhbjjolgmodjaa", sum := "26302ed2e6f2882e177abb314b096a66f1dacf6f3337e4d4490f173846836db9", func := "loop.example/packageworld/laws.FnClashJoin", spec := "fnClashJoin", apart := false, narrowed := true }
def FnClashJoinUptoSaid : Prop := fnClashJoinUptoRow.holds Try.pinned (OpenSpec.upto fnClashJoinSpec)

/-- 'laws.FnExactClashOf', WHERE WHAT IT READS IS OF BULK AT MOST 1048576: true; the input reads as it did. -/
def fnExactClashOfUptoRow : OpenClaim := { program := "ytdhbjjolgmodjaa", sum := "26302ed2e6f2882e177abb314b096a66f1dacf6f3337e4d4490f173846836db9", func := "loop.example/packageworld/laws.FnExactClashOf", spec := "fnExactClashOf", apart := false, narrowed := true }
def FnExactClashOfUptoSaid : Prop := fnExactClashOfUptoRow.holds Try.pinned (OpenSpec.upto fnExactClashOfSpec)

/-- 'laws.FnClashOf', WHERE WHAT IT READS IS OF BULK AT MOST 1048576: true; the input reads as it did. -/
def fnClashOfUptoRow : OpenClaim := { program := "ytdhbjjolgmodjaa", sum := "26302ed2e6f2882e177abb314b096a66f1dacf6f3337e4d4490f173846836db9", func := "loop.example/packageworld/laws.FnClashOf", spec := "fnClashOf", recurses := true, apart := false, narrowed := true }
def FnClashOfUptoSaid : Prop := fnClashOfUptoRow.holds Try.pinned (OpenSpec.upto fnClashOfSpec)

/-- 'laws.FnProofRun', WHERE WHAT IT READS IS OF BULK AT MOST 1048576: true; the input reads as it did. -/
def fnProofRunUptoRow : OpenClaim := { program := "ytdhbjjolgmodjaa", sum := "26302ed2e6f2882e177abb314b096a66f1dacf6f3337e4d4490f173846836db9", func := "loop.example/packageworld/laws.FnProofRun", spec := "fnProofRun", recurses := true, apart := false, narrowed := true }
def FnProofRunUptoSaid : Prop := fnProofRunUptoRow.holds Try.pinned (OpenSpec.upto fnProofRunSpec)

/-- 'laws.FnExactProofOk', WHERE WHAT IT READS IS OF BULK AT MOST 1048576: true; the input reads as it did. -/
def fnExactProofOkUptoRow : OpenClaim := { program := "ytdhbjjolgmodjaa", sum := "26302ed2e6f2882e177abb314b096a66f1dacf6f3337e4d4490f173846836db9", func := "loop.example/packageworld/laws.FnExactProofOk", spec := "fnExactProofOk", apart := false, narrowed := true }
def FnExactProofOkUptoSaid : Prop := fnExactProofOkUptoRow.holds Try.pinned (OpenSpec.upto fnExactProofOkSpec)

/-- 'laws.FnProofOk', WHERE WHAT IT READS IS OF BULK AT MOST 1048576: true; the input reads as it did. -/
def fnProofOkUptoRow : OpenClaim := { program := "ytdhbjjolgmodjaa", sum := "26302ed2e6f2882e177abb314b096a66f1dacf6f3337e4d4490f173846836db9", func := "loop.example/packageworld/laws.FnProofOk", spec := "fnProofOk", recurses := true, apart := false, narrowed := true }
def FnProofOkUptoSaid : Prop := fnProofOkUptoRow.holds Try.pinned (OpenSpec.upto fnProofOkSpec)

end Rows
end Go.Proofs.Ytdhbjjolgmodjaa
