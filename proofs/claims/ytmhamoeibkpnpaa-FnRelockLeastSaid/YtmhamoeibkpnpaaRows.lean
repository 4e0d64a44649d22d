/-
  No cell of these rows narrows 'for every input' (looked for: loops, veiled, ifaces, maps, wideKeys, modest, calm, conditions, laid).
  DERIVED. THE GIVEN ROWS OF THIS SEAT. 5 by the template 'for every input the law returns true; each argument reads behind the call as it read before'; 0 by the template 'total and deterministic' (their statements: YtmhamoeibkpnpaaTotals.lean).
  GIVEN WITH THE SEED: the statements are not yours to turn. If you find one false, say at which input.
  Laid BY PROGRAM, IN A SANDBOX (cutbox-rows.mjs): the forced cells as the released guide's own fill.sh prints them over the translation a6976cb66902ae94… (all of the seat's roots in one cut). By AI agents, Wed Nov 11 2026. No macro, syntax, notation, axiom, sorry.
-/
import Derived.Test.YtmhamoeibkpnpaaChecked
import GoSem.Claim
import GoSem.ClaimJoined
import GoSem.ClaimMapViews
import Derived.JoinedTies
import Derived.KernelRfl
namespace Go.Proofs.Ytmhamoeibkpnpaa
/- THE CELL 'sum', in the pinned program and in every row, IS THE sha256 OF THE DUMP (.gsa) THAT YtmhamoeibkpnpaaProg.lean LOADS. Nothing in Lean hashes anything: it is a label: what it is worth is what the hold of that sum in a sandbox is worth. -/
noncomputable def Try.pinned : Pinned := { name := "ytmhamoeibkpnpaa", sum := "a6976cb66902ae9498435280621e88a2a3b0543a2ee3459dbbf592b63d88bf48", checked := Try.checked }
namespace Rows
def none {H : Type} : Left H := { results := [], args := [] }

/-- 'laws.FnLockChanges': WHATEVER THE INPUT: true; the input reads as it did. -/
def fnLockChangesSpec : ChangeSpec := { name := "fnLockChanges", fn := fun _ => fun
  | [d] => { results := [.lit (.bool true)], args := [d] }
  | _ => none }
def fnLockChangesRow : OpenClaim := { program := "ytmhamoeibkpnpaa", sum := "a6976cb66902ae9498435280621e88a2a3b0543a2ee3459dbbf592b63d88bf48", func := "loop.example/packageworld/laws.FnLockChanges", spec := "fnLockChanges", apart := false }
def FnLockChangesSaid : Prop := fnLockChangesRow.holds Try.pinned (OpenSpec.ofChange fnLockChangesSpec)

/-- ITS FALSE NEIGHBOUR: 'it returns false'. Refute it at one input. -/
def fnLockChangesWrong : ChangeSpec := { name := "fnLockChanges", fn := fun _ => fun
  | [d] => { results := [.lit (.bool false)], args := [d] }
  | _ => none }
def FnLockChangesWrongFalsely : Prop := fnLockChangesRow.holds Try.pinned (OpenSpec.ofChange fnLockChangesWrong)

/-- 'laws.FnRelock': WHATEVER THE INPUT: true; the input reads as it did. -/
def fnRelockSpec : ChangeSpec := { name := "fnRelock", fn := fun _ => fun
  | [d] => { results := [.lit (.bool true)], args := [d] }
  | _ => none }
def fnRelockRow : OpenClaim := { program := "ytmhamoeibkpnpaa", sum := "a6976cb66902ae9498435280621e88a2a3b0543a2ee3459dbbf592b63d88bf48", func := "loop.example/packageworld/laws.FnRelock", spec := "fnRelock", recurses := true, apart := false }
def FnRelockSaid : Prop := fnRelockRow.holds Try.pinned (OpenSpec.ofChange fnRelockSpec)

/-- ITS FALSE NEIGHBOUR: 'it returns false'. Refute it at one input. -/
def fnRelockWrong : ChangeSpec := { name := "fnRelock", fn := fun _ => fun
  | [d] => { results := [.lit (.bool false)], args := [d] }
  | _ => none }
def FnRelockWrongFalsely : Prop := fnRelockRow.holds Try.pinned (OpenSpec.ofChange fnRelockWrong)

/-- 'laws.FnRelockLeast': WHATEVER THE INPUT: true; the input reads as it did. -/
def fnRelockLeastSpec : ChangeSpec := { name := "fnRelockLeast", fn := fun _ => fun
  | [d] => { results := [.lit (.bool true)], args := [d] }
  | _ => none }
def fnRelockLeastRow : OpenClaim := { program := "ytmhamoeibkpnpaa", sum := "a6976cb66902ae9498435280621e88a2a3b0543a2ee3459dbbf592b63d88bf48", func := "loop.example/packageworld/laws.FnRelockLeast", spec := "fnRelockLeast", recurses := true, apart := false }
def FnRelockLeastSaid : Prop := fnRelockLeastRow.holds Try.pinned (OpenSpec.ofChange fnRelockLeastSpec)

/-- ITS FALSE NEIGHBOUR: 'it returns false'. Refute it at one input. -/
def fnRelockLeastWrong : ChangeSpec := { name := "fnRelockLeast", fn := fun _ => fun
  | [d] => { results := [.lit (.bool false)], args := [d] }
  | _ => none }
def FnRelockLeastWrongFalsely : Prop := fnRelockLeastRow.holds Try.pinned (OpenSpec.ofChange fnRelockLeastWrong)

/-- 'laws.FnExactLockChanges': WHATEVER THE INPUT: true; the input reads as it did. -/
def fnExactLockChangesSpec : ChangeSpec := { name := "fnExactLockChanges", fn := fun _ => fun
  | [d1, d2, d3] => { results := [.lit (.bool true)], args := [d1, d2, d3] }
  | _ => none }
def fnExactLockChangesRow : OpenClaim := { program := "ytmhamoeibkpnpaa", sum := "a6976cb66902ae9498435280621e88a2a3b0543a2ee3459dbbf592b63d88bf48", func := "loop.example/packageworld/laws.FnExactLockChanges", spec := "fnExactLockChanges", apart := false }
def FnExactLockChangesSaid : Prop := fnExactLockChangesRow.holds Try.pinned (OpenSpec.ofChange fnExactLockChangesSpec)

/-- ITS FALSE NEIGHBOUR: 'it returns false'. Refute it at one input. -/
def fnExactLockChangesWrong : ChangeSpec := { name := "fnExactLockChanges", fn := fun _ => fun
  | [d1, d2, d3] => { results := [.lit (.bool false)], args := [d1, d2, d3] }
  | _ => none }
def FnExactLockChangesWrongFalsely : Prop := fnExactLockChangesRow.holds Try.pinned (OpenSpec.ofChange fnExactLockChangesWrong)

/-- 'laws.FnExactRelock': WHATEVER THE INPUT: true; the input reads as it did. -/
def fnExactRelockSpec : ChangeSpec := { name := "fnExactRelock", fn := fun _ => fun
  | [d1, d2, d3, d4] => { results := [.lit (.bool true)], args := [d1, d2, d3, d4] }
  | _ => none }
def fnExactRelockRow : OpenClaim := { program := "ytmhamoeibkpnpaa", sum := "a6976cb66902ae9498435280621e88a2a3b0543a2ee3459dbbf592b63d88bf48", func := "loop.example/packageworld/laws.FnExactRelock", spec := "fnExactRelock", recurses := true, apart := false }
def FnExactRelockSaid : Prop := fnExactRelockRow.holds Try.pinned (OpenSpec.ofChange fnExactRelockSpec)

/-- ITS FALSE NEIGHBOUR: 'it returns false'. Refute it at one input. -/
def fnExactRelockWrong : ChangeSpec := { name := "fnExactRelock", fn := fun _ => fun
  | [d1, d2, d3, d4] => { results := [.lit (.bool false)], args := [d1, d2, d3, d4] }
  | _ => none }
def FnExactRelockWrongFalsely : Prop := fnExactRelockRow.holds Try.pinned (OpenSpec.ofChange fnExactRelockWrong)

/- THE SECOND FORM. 'bulk': how many values and letters a reading holds, each counted each time it is reached (what is shared counts as often as it is met; a slice's spare places count too). A statement '..UptoSaid' is the law's where the arguments, and the package variables that the reading takes, are together of bulk at most 1048576: NARROWER than '..Said'. Prove '..Said' where nothing that the law and all that it calls make is longer than what came in: it says more and counts as full. Else prove '..UptoSaid'. A law counts once. -/
mutual
def uptoBulk {H : Type} : DataW H → Nat
  | .lit (.string bytes) => bytes.length + 1
  | .lit _ => 1
  | .nil => 1
  | .ptr d => uptoBulk d + 1
  | .slice elems spare => uptoBulkAll elems + uptoBulkAll spare + 1
  | .agg parts => uptoBulkAll parts + 1
  | .iface _ d => uptoBulk d + 1
  | .map entries => uptoBulkEntries entries + 1
  | .held _ => 1
def uptoBulkAll {H : Type} : List (DataW H) → Nat
  | [] => 0
  | d :: r => uptoBulk d + uptoBulkAll r
def uptoBulkEntries {H : Type} : List (Lit × DataW H) → Nat
  | [] => 0
  | x :: r => uptoBulkEntry x + uptoBulkEntries r
def uptoBulkEntry {H : Type} : Lit × DataW H → Nat
  | (.string bytes, d) => bytes.length + uptoBulk d + 1
  | (_, d) => uptoBulk d + 1
 end
def uptoSmall : (H : Type) → List (DataW H) → Bool := fun _ ds => decide (uptoBulkAll ds ≤ 1048576)
def OpenSpec.upto (s : _root_.Go.ChangeSpec) : _root_.Go.OpenSpec := { _root_.Go.OpenSpec.ofChange s with cond := some uptoSmall }

/-- 'laws.FnLockChanges', WHERE WHAT IT READS IS OF BULK AT MOST 1048576: true; the input reads as it did. -/
def fnLockChangesUptoRow : OpenClaim := { program := "ytmhamoeibkpnpaa", sum := "a6976cb66902ae9498435280621e88a2a3b0543a2ee3459dbbf592b63d88bf48", func := "loop.example/packageworld/laws.FnLockChanges", spec := "fnLockChanges", apart := false, narrowed := true }
def FnLockChangesUptoSaid : Prop := fnLockChangesUptoRow.holds Try.pinned (OpenSpec.upto fnLockChangesSpec)

/-- 'laws.FnRelock', WHERE WHAT IT READS IS OF BULK AT MOST 1048576: true; the input reads as it did. -/
def fnRelockUptoRow : OpenClaim := { program := "ytmhamoeibkpnpaa", sum := "a6976cb66902ae9498435280621e88a2a3b0543a2ee3459dbbf592b63d88bf48", func := "loop.example/packageworld/laws.FnRelock", spec := "fnRelock", recurses := true, apart := false, narrowed := true }
def FnRelockUptoSaid : Prop := fnRelockUptoRow.holds Try.pinned (OpenSpec.upto fnRelockSpec)

/-- 'laws.FnRelockLeast', WHERE WHAT IT READS IS OF BULK AT MOST 1048576: true; the input reads as it did. -/
def fnRelockLeastUptoRow : OpenClaim := { program := "ytmhamoeibkpnpaa", sum := "a6976cb66902ae9498435280621e88a2a3b0543a2ee3459dbbf592b63d88bf48", func := "loop.example/packageworld/laws.FnRelockLeast", spec := "fnRelockLeast", recurses := true, apart := false, narrowed := true }
def FnRelockLeastUptoSaid : Prop := fnRelockLeastUptoRow.holds Try.pinned (OpenSpec.upto fnRelockLeastSpec)

/-- 'laws.FnExactLockChanges', WHERE WHAT IT READS IS OF BULK AT MOST 1048576: true; the input reads as it did. -/
def fnExactLockChangesUptoRow : OpenClaim := { program := "ytmhamoeibkpnpaa", sum := "a6976cb66902ae9498435280621e88a2a3b0543a2ee3459dbbf592b63d88bf48", func := "loop.example/packageworld/laws.FnExactLockChanges", spec := "fnExactLockChanges", apart := false, narrowed := true }
def FnExactLockChangesUptoSaid : Prop := fnExactLockChangesUptoRow.holds Try.pinned (OpenSpec.upto fnExactLockChangesSpec)

/-- 'laws.FnExactRelock', WHERE WHAT IT READS IS OF BULK AT MOST 1048576: true; the input reads as it did. -/
def fnExactRelockUptoRow : OpenClaim := { program := "ytmhamoeibkpnpaa", sum := "a6976cb66902ae9498435280621e88a2a3b0543a2ee3459dbbf592b63d88bf48", func := "loop.example/packageworld/laws.FnExactRelock", spec := "fnExactRelock", recurses := true, apart := false, narrowed := true }
def FnExactRelockUptoSaid : Prop := fnExactRelockUptoRow.holds Try.pinned (OpenSpec.upto fnExactRelockSpec)

end Rows
end Go.Proofs.Ytmhamoeibkpnpaa
