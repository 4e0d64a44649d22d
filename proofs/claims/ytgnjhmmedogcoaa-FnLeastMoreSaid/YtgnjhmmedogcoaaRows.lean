/-
  No cell of these rows narrows 'for every input' (looked for: loops, veiled, ifaces, maps, wideKeys, modest, calm, conditions, laid).
  DERIVED. THE GIVEN ROWS OF THIS SEAT. 7 by the template 'for every input the law returns true; each argument reads behind the call as it read before'; 0 by the template 'total and deterministic' (their statements: YtgnjhmmedogcoaaTotals.lean).
  GIVEN WITH THE SEED: the statements are not yours to turn. If you find one false, say at which input.
  Laid BY PROGRAM, IN A SANDBOX (cutbox-rows.mjs): the forced cells as the released guide's own fill.sh prints them over the translation 30804df67d5711eb… (all of the seat's roots in one cut). By AI agents, Wed Nov 11 2026. No macro, syntax, notation, axiom, sorry.
-/
import Derived.Test.YtgnjhmmedogcoaaChecked
import GoSem.Claim
import GoSem.ClaimJoined
import GoSem.ClaimMapViews
import Derived.JoinedTies
import Derived.KernelRfl
namespace Go.Proofs.Ytgnjhmmedogcoaa
/- THE CELL 'sum', in the pinned program and in every row, IS THE sha256 OF THE DUMP (.gsa) THAT YtgnjhmmedogcoaaProg.lean LOADS. Nothing in Lean hashes anything: it is a label: what it is worth is what the hold of that sum in a sandbox is worth. -/
noncomputable def Try.pinned : Pinned := { name := "ytgnjhmmedogcoaa", sum := "30804df67d5711ebc18653f1af6d1d9b757a6477f41ff5ce8efef0ab1aa79607", checked := Try.checked }
namespace Rows
def none {H : Type} : Left H := { results := [], args := [] }

/-- 'laws.FnExactLeastVisit': WHATEVER THE INPUT: true; the input reads as it did. -/
def fnExactLeastVisitSpec : ChangeSpec := { name := "fnExactLeastVisit", fn := fun _ => fun
  | [d1, d2] => { results := [.lit (.bool true)], args := [d1, d2] }
  | _ => none }
def fnExactLeastVisitRow : OpenClaim := { program := "ytgnjhmmedogcoaa", sum := "30804df67d5711ebc18653f1af6d1d9b757a6477f41ff5ce8efef0ab1aa79607", func := "loop.example/packageworld/laws.FnExactLeastVisit", spec := "fnExactLeastVisit", apart := false }
def FnExactLeastVisitSaid : Prop := fnExactLeastVisitRow.holds Try.pinned (OpenSpec.ofChange fnExactLeastVisitSpec)

/-- ITS FALSE NEIGHBOUR: 'it returns false'. Refute it at one input. -/
def fnExactLeastVisitWrong : ChangeSpec := { name := "fnExactLeastVisit", fn := fun _ => fun
  | [d1, d2] => { results := [.lit (.bool false)], args := [d1, d2] }
  | _ => none }
def FnExactLeastVisitWrongFalsely : Prop := fnExactLeastVisitRow.holds Try.pinned (OpenSpec.ofChange fnExactLeastVisitWrong)

/-- 'laws.FnExactLeast': WHATEVER THE INPUT: true; the input reads as it did. -/
def fnExactLeastSpec : ChangeSpec := { name := "fnExactLeast", fn := fun _ => fun
  | [d1, d2] => { results := [.lit (.bool true)], args := [d1, d2] }
  | _ => none }
def fnExactLeastRow : OpenClaim := { program := "ytgnjhmmedogcoaa", sum := "30804df67d5711ebc18653f1af6d1d9b757a6477f41ff5ce8efef0ab1aa79607", func := "loop.example/packageworld/laws.FnExactLeast", spec := "fnExactLeast", apart := false }
def FnExactLeastSaid : Prop := fnExactLeastRow.holds Try.pinned (OpenSpec.ofChange fnExactLeastSpec)

/-- ITS FALSE NEIGHBOUR: 'it returns false'. Refute it at one input. -/
def fnExactLeastWrong : ChangeSpec := { name := "fnExactLeast", fn := fun _ => fun
  | [d1, d2] => { results := [.lit (.bool false)], args := [d1, d2] }
  | _ => none }
def FnExactLeastWrongFalsely : Prop := fnExactLeastRow.holds Try.pinned (OpenSpec.ofChange fnExactLeastWrong)

/-- 'laws.FnExactLeastNeeds': WHATEVER THE INPUT: true; the input reads as it did. -/
def fnExactLeastNeedsSpec : ChangeSpec := { name := "fnExactLeastNeeds", fn := fun _ => fun
  | [d] => { results := [.lit (.bool true)], args := [d] }
  | _ => none }
def fnExactLeastNeedsRow : OpenClaim := { program := "ytgnjhmmedogcoaa", sum := "30804df67d5711ebc18653f1af6d1d9b757a6477f41ff5ce8efef0ab1aa79607", func := "loop.example/packageworld/laws.FnExactLeastNeeds", spec := "fnExactLeastNeeds", apart := false }
def FnExactLeastNeedsSaid : Prop := fnExactLeastNeedsRow.holds Try.pinned (OpenSpec.ofChange fnExactLeastNeedsSpec)

/-- ITS FALSE NEIGHBOUR: 'it returns false'. Refute it at one input. -/
def fnExactLeastNeedsWrong : ChangeSpec := { name := "fnExactLeastNeeds", fn := fun _ => fun
  | [d] => { results := [.lit (.bool false)], args := [d] }
  | _ => none }
def FnExactLeastNeedsWrongFalsely : Prop := fnExactLeastNeedsRow.holds Try.pinned (OpenSpec.ofChange fnExactLeastNeedsWrong)

/-- 'laws.FnLeastVisit': WHATEVER THE INPUT: true; the input reads as it did. -/
def fnLeastVisitSpec : ChangeSpec := { name := "fnLeastVisit", fn := fun _ => fun
  | [d] => { results := [.lit (.bool true)], args := [d] }
  | _ => none }
def fnLeastVisitRow : OpenClaim := { program := "ytgnjhmmedogcoaa", sum := "30804df67d5711ebc18653f1af6d1d9b757a6477f41ff5ce8efef0ab1aa79607", func := "loop.example/packageworld/laws.FnLeastVisit", spec := "fnLeastVisit", apart := false }
def FnLeastVisitSaid : Prop := fnLeastVisitRow.holds Try.pinned (OpenSpec.ofChange fnLeastVisitSpec)

/-- ITS FALSE NEIGHBOUR: 'it returns false'. Refute it at one input. -/
def fnLeastVisitWrong : ChangeSpec := { name := "fnLeastVisit", fn := fun _ => fun
  | [d] => { results := [.lit (.bool false)], args := [d] }
  | _ => none }
def FnLeastVisitWrongFalsely : Prop := fnLeastVisitRow.holds Try.pinned (OpenSpec.ofChange fnLeastVisitWrong)

/-- 'laws.FnLeast': WHATEVER THE INPUT: true; the input reads as it did. -/
def fnLeastSpec : ChangeSpec := { name := "fnLeast", fn := fun _ => fun
  | [d] => { results := [.lit (.bool true)], args := [d] }
  | _ => none }
def fnLeastRow : OpenClaim := { program := "ytgnjhmmedogcoaa", sum := "30804df67d5711ebc18653f1af6d1d9b757a6477f41ff5ce8efef0ab1aa79607", func := "loop.example/packageworld/laws.FnLeast", spec := "fnLeast", apart := false }
def FnLeastSaid : Prop := fnLeastRow.holds Try.pinned (OpenSpec.ofChange fnLeastSpec)

/-- ITS FALSE NEIGHBOUR: 'it returns false'. Refute it at one input. -/
def fnLeastWrong : ChangeSpec := { name := "fnLeast", fn := fun _ => fun
  | [d] => { results := [.lit (.bool false)], args := [d] }
  | _ => none }
def FnLeastWrongFalsely : Prop := fnLeastRow.holds Try.pinned (OpenSpec.ofChange fnLeastWrong)

/-- 'laws.FnLeastNeeds': WHATEVER THE INPUT: true; the input reads as it did. -/
def fnLeastNeedsSpec : ChangeSpec := { name := "fnLeastNeeds", fn := fun _ => fun
  | [d] => { results := [.lit (.bool true)], args := [d] }
  | _ => none }
def fnLeastNeedsRow : OpenClaim := { program := "ytgnjhmmedogcoaa", sum := "30804df67d5711ebc18653f1af6d1d9b757a6477f41ff5ce8efef0ab1aa79607", func := "loop.example/packageworld/laws.FnLeastNeeds", spec := "fnLeastNeeds", apart := false }
def FnLeastNeedsSaid : Prop := fnLeastNeedsRow.holds Try.pinned (OpenSpec.ofChange fnLeastNeedsSpec)

/-- ITS FALSE NEIGHBOUR: 'it returns false'. Refute it at one input. -/
def fnLeastNeedsWrong : ChangeSpec := { name := "fnLeastNeeds", fn := fun _ => fun
  | [d] => { results := [.lit (.bool false)], args := [d] }
  | _ => none }
def FnLeastNeedsWrongFalsely : Prop := fnLeastNeedsRow.holds Try.pinned (OpenSpec.ofChange fnLeastNeedsWrong)

/-- 'laws.FnLeastMore': WHATEVER THE INPUT: true; the input reads as it did. -/
def fnLeastMoreSpec : ChangeSpec := { name := "fnLeastMore", fn := fun _ => fun
  | [d] => { results := [.lit (.bool true)], args := [d] }
  | _ => none }
def fnLeastMoreRow : OpenClaim := { program := "ytgnjhmmedogcoaa", sum := "30804df67d5711ebc18653f1af6d1d9b757a6477f41ff5ce8efef0ab1aa79607", func := "loop.example/packageworld/laws.FnLeastMore", spec := "fnLeastMore", apart := false }
def FnLeastMoreSaid : Prop := fnLeastMoreRow.holds Try.pinned (OpenSpec.ofChange fnLeastMoreSpec)

/-- ITS FALSE NEIGHBOUR: 'it returns false'. Refute it at one input. -/
def fnLeastMoreWrong : ChangeSpec := { name := "fnLeastMore", fn := fun _ => fun
  | [d] => { results := [.lit (.bool false)], args := [d] }
  | _ => none }
def FnLeastMoreWrongFalsely : Prop := fnLeastMoreRow.holds Try.pinned (OpenSpec.ofChange fnLeastMoreWrong)

/- THE SECOND FORM. 'bulk': how many values and letters a reading holds, each counted each time it is reached (what is shared counts as often as it is met; a slice's spare places count too). A statement '..UptoSaid' is the law's where the arguments, and the package variables that the reading takes, are together of bulk at most 1048576: NARROWER than '..Said'. Prove '..Said' where nothing that the law and all that it calls make is longer than what came in: it says more and counts as full. Else prove '..UptoSaid'. A law counts once. -/
mutual
def uptoBulk {H : Type} : DataW H → Nat
  | .lit (.string bytes) => bytes.length + 1
  | .lit _ => 1
  | .nil => 1
  | .ptr d => uptoBulk d + 1
  | .slice elems spare => uptoBulkAll elems + uptoBulkAll spare + 1
  | .agg parts => uptoBulkAll parts + 1
  | .iface _ d => uptoBulk d + 1
  | .map entries => uptoBulkEntries entries + 1
  | .held _ => 1
def uptoBulkAll {H : Type} : List (DataW H) → Nat
  | [] => 0
  | d :: r => uptoBulk d + uptoBulkAll r
def uptoBulkEntries {H : Type} : List (Lit × DataW H) → Nat
  | [] => 0
  | x :: r => uptoBulkEntry x + uptoBulkEntries r
def uptoBulkEntry {H : Type} : Lit × DataW H → Nat
  | (.string bytes, d) => bytes.length + uptoBulk d + 1
  | (_, d) => uptoBulk d + 1
 end
def uptoSmall : (H : Type) → List (DataW H) → Bool := fun _ ds => decide (uptoBulkAll ds ≤ 1048576)
def OpenSpec.upto (s : _root_.Go.ChangeSpec) : _root_.Go.OpenSpec := { _root_.Go.OpenSpec.ofChange s with cond := some uptoSmall }

/-- 'laws.FnExactLeastVisit', WHERE WHAT IT READS IS OF BULK AT MOST 1048576: true; the input reads as it did. -/
def fnExactLeastVisitUptoRow : OpenClaim := { program := "ytgnjhmmedogcoaa", sum := "30804df67d5711ebc18653f1af6d1d9b757a6477f41ff5ce8efef0ab1aa79607", func := "loop.example/packageworld/laws.FnExactLeastVisit", spec := "fnExactLeastVisit", apart := false, narrowed := true }
def FnExactLeastVisitUptoSaid : Prop := fnExactLeastVisitUptoRow.holds Try.pinned (OpenSpec.upto fnExactLeastVisitSpec)

/-- 'laws.FnExactLeast', WHERE WHAT IT READS IS OF BULK AT MOST 1048576: true; the input reads as it did. -/
def fnExactLeastUptoRow : OpenClaim := { program := "ytgnjhmmedogcoaa", sum := "30804df67d5711ebc18653f1af6d1d9b757a6477f41ff5ce8efef0ab1aa79607", func := "loop.example/packageworld/laws.FnExactLeast", spec := "fnExactLeast", apart := false, narrowed := true }
def FnExactLeastUptoSaid : Prop := fnExactLeastUptoRow.holds Try.pinned (OpenSpec.upto fnExactLeastSpec)

/-- 'laws.FnExactLeastNeeds', WHERE WHAT IT READS IS OF BULK AT MOST 1048576: true; the input reads as it did. -/
def fnExactLeastNeedsUptoRow : OpenClaim := { program := "ytgnjhmmedogcoaa", sum := "30804df67d5711ebc18653f1af6d1d9b757a6477f41ff5ce8efef0ab1aa79607", func := "loop.example/packageworld/laws.FnExactLeastNeeds", spec := "fnExactLeastNeeds", apart := false, narrowed := true }
def FnExactLeastNeedsUptoSaid : Prop := fnExactLeastNeedsUptoRow.holds Try.pinned (OpenSpec.upto fnExactLeastNeedsSpec)

/-- 'laws.FnLeastVisit', WHERE WHAT IT READS IS OF BULK AT MOST 1048576: true; the input reads as it did. -/
def fnLeastVisitUptoRow : OpenClaim := { program := "ytgnjhmmedogcoaa", sum := "30804df67d5711ebc18653f1af6d1d9b757a6477f41ff5ce8efef0ab1aa79607", func := "loop.example/packageworld/laws.FnLeastVisit", spec := "fnLeastVisit", apart := false, narrowed := true }
def FnLeastVisitUptoSaid : Prop := fnLeastVisitUptoRow.holds Try.pinned (OpenSpec.upto fnLeastVisitSpec)

/-- 'laws.FnLeast', WHERE WHAT IT READS IS OF BULK AT MOST 1048576: true; the input reads as it did. -/
def fnLeastUptoRow : OpenClaim := { program := "ytgnjhmmedogcoaa", sum := "30804df67d5711ebc18653f1af6d1d9b757a6477f41ff5ce8efef0ab1aa79607", func := "loop.example/packageworld/laws.FnLeast", spec := "fnLeast", apart := false, narrowed := true }
def FnLeastUptoSaid : Prop := fnLeastUptoRow.holds Try.pinned (OpenSpec.upto fnLeastSpec)

/-- 'laws.FnLeastNeeds', WHERE WHAT IT READS IS OF BULK AT MOST 1048576: true; the input reads as it did. -/
def fnLeastNeedsUptoRow : OpenClaim := { program := "ytgnjhmmedogcoaa", sum := "30804df67d5711ebc18653f1af6d1d9b757a6477f41ff5ce8efef0ab1aa79607", func := "loop.example/packageworld/laws.FnLeastNeeds", spec := "fnLeastNeeds", apart := false, narrowed := true }
def FnLeastNeedsUptoSaid : Prop := fnLeastNeedsUptoRow.holds Try.pinned (OpenSpec.upto fnLeastNeedsSpec)

/-- 'laws.FnLeastMore', WHERE WHAT IT READS IS OF BULK AT MOST 1048576: true; the input reads as it did. -/
def fnLeastMoreUptoRow : OpenClaim := { program := "ytgnjhmmedogcoaa", sum := "30804df67d5711ebc18653f1af6d1d9b757a6477f41ff5ce8efef0ab1aa79607", func := "loop.example/packageworld/laws.FnLeastMore", spec := "fnLeastMore", apart := false, narrowed := true }
def FnLeastMoreUptoSaid : Prop := fnLeastMoreUptoRow.holds Try.pinned (OpenSpec.upto fnLeastMoreSpec)

end Rows
end Go.Proofs.Ytgnjhmmedogcoaa
