/-
  No cell of these rows narrows 'for every input' (looked for: loops, veiled, ifaces, maps, wideKeys, modest, calm, conditions, laid).
  DERIVED. THE GIVEN ROWS OF THIS SEAT. 7 by the template 'for every input the law returns true; each argument reads behind the call as it read before'; 0 by the template 'total and deterministic' (their statements: YtenfdbikgpppdaaTotals.lean).
  GIVEN WITH THE SEED: the statements are not yours to turn. If you find one false, say at which input.
  Laid BY PROGRAM, IN A SANDBOX (cutbox-rows.mjs): the forced cells as the released guide's own fill.sh prints them over the translation ecc922c5e58accdf… (all of the seat's roots in one cut). By AI agents, Wed Nov 11 2026. No macro, syntax, notation, axiom, sorry.
-/
import Derived.Test.YtenfdbikgpppdaaChecked
import GoSem.Claim
import GoSem.ClaimJoined
import GoSem.ClaimMapViews
import Derived.JoinedTies
import Derived.KernelRfl
namespace Go.Proofs.Ytenfdbikgpppdaa
/- THE CELL 'sum', in the pinned program and in every row, IS THE sha256 OF THE DUMP (.gsa) THAT YtenfdbikgpppdaaProg.lean LOADS. Nothing in Lean hashes anything: it is a label: what it is worth is what the hold of that sum in a sandbox is worth. -/
noncomputable def Try.pinned : Pinned := { name := "ytenfdbikgpppdaa", sum := "ecc922c5e58accdf16fe364ab53a202fcbccf63743b1067ebb795195691e15a0", checked := Try.checked }
namespace Rows
def none {H : Type} : Left H := { results := [], args := [] }

/-- 'laws.FnExactLockChanges': WHATEVER THE INPUT: true; the input reads as it did. -/
def fnExactLockChangesSpec : ChangeSpec := { name := "fnExactLockChanges", fn := fun _ => fun
  | [d1, d2, d3] => { results := [.lit (.bool true)], args := [d1, d2, d3] }
  | _ => none }
def fnExactLockChangesRow : OpenClaim := { program := "ytenfdbikgpppdaa", sum := "ecc922c5e58accdf16fe364ab53a202fcbccf63743b1067ebb795195691e15a0", func := "loop.example/packageworld/laws.FnExactLockChanges", spec := "fnExactLockChanges", apart := false }
def FnExactLockChangesSaid : Prop := fnExactLockChangesRow.holds Try.pinned (OpenSpec.ofChange fnExactLockChangesSpec)

/-- ITS FALSE NEIGHBOUR: 'it returns false'. Refute it at one input. -/
def fnExactLockChangesWrong : ChangeSpec := { name := "fnExactLockChanges", fn := fun _ => fun
  | [d1, d2, d3] => { results := [.lit (.bool false)], args := [d1, d2, d3] }
  | _ => none }
def FnExactLockChangesWrongFalsely : Prop := fnExactLockChangesRow.holds Try.pinned (OpenSpec.ofChange fnExactLockChangesWrong)

/-- 'laws.FnExactLockText': WHATEVER THE INPUT: true; the input reads as it did. -/
def fnExactLockTextSpec : ChangeSpec := { name := "fnExactLockText", fn := fun _ => fun
  | [d] => { results := [.lit (.bool true)], args := [d] }
  | _ => none }
def fnExactLockTextRow : OpenClaim := { program := "ytenfdbikgpppdaa", sum := "ecc922c5e58accdf16fe364ab53a202fcbccf63743b1067ebb795195691e15a0", func := "loop.example/packageworld/laws.FnExactLockText", spec := "fnExactLockText", apart := false }
def FnExactLockTextSaid : Prop := fnExactLockTextRow.holds Try.pinned (OpenSpec.ofChange fnExactLockTextSpec)

/-- ITS FALSE NEIGHBOUR: 'it returns false'. Refute it at one input. -/
def fnExactLockTextWrong : ChangeSpec := { name := "fnExactLockText", fn := fun _ => fun
  | [d] => { results := [.lit (.bool false)], args := [d] }
  | _ => none }
def FnExactLockTextWrongFalsely : Prop := fnExactLockTextRow.holds Try.pinned (OpenSpec.ofChange fnExactLockTextWrong)

/-- 'laws.FnExactLockFrom': WHATEVER THE INPUT: true; the input reads as it did. -/
def fnExactLockFromSpec : ChangeSpec := { name := "fnExactLockFrom", fn := fun _ => fun
  | [d] => { results := [.lit (.bool true)], args := [d] }
  | _ => none }
def fnExactLockFromRow : OpenClaim := { program := "ytenfdbikgpppdaa", sum := "ecc922c5e58accdf16fe364ab53a202fcbccf63743b1067ebb795195691e15a0", func := "loop.example/packageworld/laws.FnExactLockFrom", spec := "fnExactLockFrom", apart := false }
def FnExactLockFromSaid : Prop := fnExactLockFromRow.holds Try.pinned (OpenSpec.ofChange fnExactLockFromSpec)

/-- ITS FALSE NEIGHBOUR: 'it returns false'. Refute it at one input. -/
def fnExactLockFromWrong : ChangeSpec := { name := "fnExactLockFrom", fn := fun _ => fun
  | [d] => { results := [.lit (.bool false)], args := [d] }
  | _ => none }
def FnExactLockFromWrongFalsely : Prop := fnExactLockFromRow.holds Try.pinned (OpenSpec.ofChange fnExactLockFromWrong)

/-- 'laws.FnLockChanges': WHATEVER THE INPUT: true; the input reads as it did. -/
def fnLockChangesSpec : ChangeSpec := { name := "fnLockChanges", fn := fun _ => fun
  | [d] => { results := [.lit (.bool true)], args := [d] }
  | _ => none }
def fnLockChangesRow : OpenClaim := { program := "ytenfdbikgpppdaa", sum := "ecc922c5e58accdf16fe364ab53a202fcbccf63743b1067ebb795195691e15a0", func := "loop.example/packageworld/laws.FnLockChanges", spec := "fnLockChanges", apart := false }
def FnLockChangesSaid : Prop := fnLockChangesRow.holds Try.pinned (OpenSpec.ofChange fnLockChangesSpec)

/-- ITS FALSE NEIGHBOUR: 'it returns false'. Refute it at one input. -/
def fnLockChangesWrong : ChangeSpec := { name := "fnLockChanges", fn := fun _ => fun
  | [d] => { results := [.lit (.bool false)], args := [d] }
  | _ => none }
def FnLockChangesWrongFalsely : Prop := fnLockChangesRow.holds Try.pinned (OpenSpec.ofChange fnLockChangesWrong)

/-- 'laws.FnLockText': WHATEVER THE INPUT: true; the input reads as it did. -/
def fnLockTextSpec : ChangeSpec := { name := "fnLockText", fn := fun _ => fun
  | [d] => { results := [.lit (.bool true)], args := [d] }
  | _ => none }
def fnLockTextRow : OpenClaim := { program := "ytenfdbikgpppdaa", sum := "ecc922c5e58accdf16fe364ab53a202fcbccf63743b1067ebb795195691e15a0", func := "loop.example/packageworld/laws.FnLockText", spec := "fnLockText", apart := false }
def FnLockTextSaid : Prop := fnLockTextRow.holds Try.pinned (OpenSpec.ofChange fnLockTextSpec)

/-- ITS FALSE NEIGHBOUR: 'it returns false'. Refute it at one input. -/
def fnLockTextWrong : ChangeSpec := { name := "fnLockText", fn := fun _ => fun
  | [d] => { results := [.lit (.bool false)], args := [d] }
  | _ => none }
def FnLockTextWrongFalsely : Prop := fnLockTextRow.holds Try.pinned (OpenSpec.ofChange fnLockTextWrong)

/-- 'laws.FnLockFrom': WHATEVER THE INPUT: true; the input reads as it did. -/
def fnLockFromSpec : ChangeSpec := { name := "fnLockFrom", fn := fun _ => fun
  | [d] => { results := [.lit (.bool true)], args := [d] }
  | _ => none }
def fnLockFromRow : OpenClaim := { program := "ytenfdbikgpppdaa", sum := "ecc922c5e58accdf16fe364ab53a202fcbccf63743b1067ebb795195691e15a0", func := "loop.example/packageworld/laws.FnLockFrom", spec := "fnLockFrom", apart := false }
def FnLockFromSaid : Prop := fnLockFromRow.holds Try.pinned (OpenSpec.ofChange fnLockFromSpec)

/-- ITS FALSE NEIGHBOUR: 'it returns false'. Refute it at one input. -/
def fnLockFromWrong : ChangeSpec := { name := "fnLockFrom", fn := fun _ => fun
  | [d] => { results := [.lit (.bool false)], args := [d] }
  | _ => none }
def FnLockFromWrongFalsely : Prop := fnLockFromRow.holds Try.pinned (OpenSpec.ofChange fnLockFromWrong)

/-- 'laws.FnRoadsText': WHATEVER THE INPUT: true; the input reads as it did. -/
def fnRoadsTextSpec : ChangeSpec := { name := "fnRoadsText", fn := fun _ => fun
  | [d] => { results := [.lit (.bool true)], args := [d] }
  | _ => none }
def fnRoadsTextRow : OpenClaim := { program := "ytenfdbikgpppdaa", sum := "ecc922c5e58accdf16fe364ab53a202fcbccf63743b1067ebb795195691e15a0", func := "loop.example/packageworld/laws.FnRoadsText", spec := "fnRoadsText", apart := false }
def FnRoadsTextSaid : Prop := fnRoadsTextRow.holds Try.pinned (OpenSpec.ofChange fnRoadsTextSpec)

/-- ITS FALSE NEIGHBOUR: 'it returns false'. Refute it at one input. -/
def fnRoadsTextWrong : ChangeSpec := { name := "fnRoadsText", fn := fun _ => fun
  | [d] => { results := [.lit (.bool false)], args := [d] }
  | _ => none }
def FnRoadsTextWrongFalsely : Prop := fnRoadsTextRow.holds Try.pinned (OpenSpec.ofChange fnRoadsTextWrong)

/- THE SECOND FORM. 'bulk': how many values and letters a reading holds, each counted each time it is reached (what is shared counts as often as it is met; a slice's spare places count too). A statement '..UptoSaid' is the law's where the arguments, and the package variables that the reading takes, are together of bulk at most 1048576: NARROWER than '..Said'. Prove '..Said' where nothing that the law and all that it calls make is longer than what came in: it says more and counts as full. Else prove '..UptoSaid'. A law counts once. -/
mutual
def uptoBulk {H : Type} : DataW H → Nat
  | .lit (.string bytes) => bytes.length + 1
  | .lit _ => 1
  | .nil => 1
  | .ptr d => uptoBulk d + 1
  | .slice elems spare => uptoBulkAll elems + uptoBulkAll spare + 1
  | .agg parts => uptoBulkAll parts + 1
  | .iface _ d => uptoBulk d + 1
  | .map entries => uptoBulkEntries entries + 1
  | .held _ => 1
def uptoBulkAll {H : Type} : List (DataW H) → Nat
  | [] => 0
  | d :: r => uptoBulk d + uptoBulkAll r
def uptoBulkEntries {H : Type} : List (Lit × DataW H) → Nat
  | [] => 0
  | x :: r => uptoBulkEntry x + uptoBulkEntries r
def uptoBulkEntry {H : Type} : Lit × DataW H → Nat
  | (.string bytes, d) => bytes.length + uptoBulk d + 1
  | (_, d) => uptoBulk d + 1
 end
def uptoSmall : (H : Type) → List (DataW H) → Bool := fun _ ds => decide (uptoBulkAll ds ≤ 1048576)
def OpenSpec.upto (s : _root_.Go.ChangeSpec) : _root_.Go.OpenSpec := { _root_.Go.OpenSpec.ofChange s with cond := some uptoSmall }

/-- 'laws.FnExactLockChanges', WHERE WHAT IT READS IS OF BULK AT MOST 1048576: true; the input reads as it did. -/
def fnExactLockChangesUptoRow : OpenClaim := { program := "ytenfdbikgpppdaa", sum := "ecc922c5e58accdf16fe364ab53a202fcbccf63743b1067ebb795195691e15a0", func := "loop.example/packageworld/laws.FnExactLockChanges", spec := "fnExactLockChanges", apart := false, narrowed := true }
def FnExactLockChangesUptoSaid : Prop := fnExactLockChangesUptoRow.holds Try.pinned (OpenSpec.upto fnExactLockChangesSpec)

/-- 'laws.FnExactLockText', WHERE WHAT IT READS IS OF BULK AT MOST 1048576: true; the input reads as it did. -/
def fnExactLockTextUptoRow : OpenClaim := { program := "ytenfdbikgpppdaa", sum := "ecc922c5e58accdf16fe364ab53a202fcbccf63743b1067ebb795195691e15a0", func := "loop.example/packageworld/laws.FnExactLockText", spec := "fnExactLockText", apart := false, narrowed := true }
def FnExactLockTextUptoSaid : Prop := fnExactLockTextUptoRow.holds Try.pinned (OpenSpec.upto fnExactLockTextSpec)

/-- 'laws.FnExactLockFrom', WHERE WHAT IT READS IS OF BULK AT MOST 1048576: true; the input reads as it did. -/
def fnExactLockFromUptoRow : OpenClaim := { program := "ytenfdbikgpppdaa", sum := "ecc922c5e58accdf16fe364ab53a202fcbccf63743b1067ebb795195691e15a0", func := "loop.example/packageworld/laws.FnExactLockFrom", spec := "fnExactLockFrom", apart := false, narrowed := true }
def FnExactLockFromUptoSaid : Prop := fnExactLockFromUptoRow.holds Try.pinned (OpenSpec.upto fnExactLockFromSpec)

/-- 'laws.FnLockChanges', WHERE WHAT IT READS IS OF BULK AT MOST 1048576: true; the input reads as it did. -/
def fnLockChangesUptoRow : OpenClaim := { program := "ytenfdbikgpppdaa", sum := "ecc922c5e58accdf16fe364ab53a202fcbccf63743b1067ebb795195691e15a0", func := "loop.example/packageworld/laws.FnLockChanges", spec := "fnLockChanges", apart := false, narrowed := true }
def FnLockChangesUptoSaid : Prop := fnLockChangesUptoRow.holds Try.pinned (OpenSpec.upto fnLockChangesSpec)

/-- 'laws.FnLockText', WHERE WHAT IT READS IS OF BULK AT MOST 1048576: true; the input reads as it did. -/
def fnLockTextUptoRow : OpenClaim := { program := "ytenfdbikgpppdaa", sum := "ecc922c5e58accdf16fe364ab53a202fcbccf63743b1067ebb795195691e15a0", func := "loop.example/packageworld/laws.FnLockText", spec := "fnLockText", apart := false, narrowed := true }
def FnLockTextUptoSaid : Prop := fnLockTextUptoRow.holds Try.pinned (OpenSpec.upto fnLockTextSpec)

/-- 'laws.FnLockFrom', WHERE WHAT IT READS IS OF BULK AT MOST 1048576: true; the input reads as it did. -/
def fnLockFromUptoRow : OpenClaim := { program := "ytenfdbikgpppdaa", sum := "ecc922c5e58accdf16fe364ab53a202fcbccf63743b1067ebb795195691e15a0", func := "loop.example/packageworld/laws.FnLockFrom", spec := "fnLockFrom", apart := false, narrowed := true }
def FnLockFromUptoSaid : Prop := fnLockFromUptoRow.holds Try.pinned (OpenSpec.upto fnLockFromSpec)

/-- 'laws.FnRoadsText', WHERE WHAT IT READS IS OF BULK AT MOST 1048576: true; the input reads as it did. -/
def fnRoadsTextUptoRow : OpenClaim := { program := "ytenfdbikgpppdaa", sum := "ecc922c5e58accdf16fe364ab53a202fcbccf63743b1067ebb795195691e15a0", func := "loop.example/packageworld/laws.FnRoadsText", spec := "fnRoadsText", apart := false, narrowed := true }
def FnRoadsTextUptoSaid : Prop := fnRoadsTextUptoRow.holds Try.pinned (OpenSpec.upto fnRoadsTextSpec)

end Rows
end Go.Proofs.Ytenfdbikgpppdaa
