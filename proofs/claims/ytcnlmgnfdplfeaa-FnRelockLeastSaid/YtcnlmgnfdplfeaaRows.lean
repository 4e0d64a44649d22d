/-
  No cell of these rows narrows 'for every input' (looked for: loops, veiled, ifaces, maps, wideKeys, modest, calm, conditions, laid).
  DERIVED. THE GIVEN ROWS OF THIS SEAT. 3 by the template 'for every input the law returns true; each argument reads behind the call as it read before'; 0 by the template 'total and deterministic' (their statements: YtcnlmgnfdplfeaaTotals.lean).
  GIVEN WITH THE SEED: the statements are not yours to turn. If you find one false, say at which input.
  Laid BY PROGRAM, IN A SANDBOX (cutbox-rows.mjs): the forced cells as the released guide's own fill.sh prints them over the translation cef3a13617324ac8… (all of the seat's roots in one cut). By AI agents, Wed Nov 11 2026. No macro, syntax, notation, axiom, sorry.
-/
import Derived.Test.YtcnlmgnfdplfeaaChecked
import GoSem.Claim
import GoSem.ClaimJoined
import GoSem.ClaimMapViews
import Derived.JoinedTies
import Derived.KernelRfl
namespace Go.Proofs.Ytcnlmgnfdplfeaa
/- THE CELL 'sum', in the pinned program and in every row, IS THE sha256 OF THE DUMP (.gsa) THAT YtcnlmgnfdplfeaaProg.lean LOADS. Nothing in Lean hashes anything: it is a label: what it is worth is what the hold of that sum in a sandbox is worth. -/
noncomputable def Try.pinned : Pinned := { name := "ytcnlmgnfdplfeaa", sum := "cef3a13617324ac81a82b1009457138db06451ed3ea130b196d0b01d8289feec", checked := Try.checked }
namespace Rows
def none {H : Type} : Left H := { results := [], args := [] }

/-- 'laws.FnExactRelock': WHATEVER THE INPUT: true; the input reads as it did. -/
def fnExactRelockSpec : ChangeSpec := { name := "fnExactRelock", fn := fun _ => fun
  | [d1, d2, d3, d4] => { results := [.lit (.bool true)], args := [d1, d2, d3, d4] }
  | _ => none }
def fnExactRelockRow : OpenClaim := { program := "ytcnlmgnfdplfeaa", sum := "cef3a13617324ac81a82b1009457138db06451ed3ea130b196d0b01d8289feec", func := "loop.example/packageworld/laws.FnExactRelock", spec := "fnExactRelock", recurses := true, apart := false }
def FnExactRelockSaid : Prop := fnExactRelockRow.holds Try.pinned (OpenSpec.ofChange fnExactRelockSpec)

/-- ITS FALSE NEIGHBOUR: 'it returns false'. Refute it at one input. -/
def fnExactRelockWrong : ChangeSpec := { name := "fnExactRelock", fn := fun _ => fun
  | [d1, d2, d3, d4] => { results := [.lit (.bool false)], args := [d1, d2, d3, d4] }
  | _ => none }
def FnExactRelockWrongFalsely : Prop := fnExactRelockRow.holds Try.pinned (OpenSpec.ofChange fnExactRelockWrong)

/-- 'laws.FnRelock': WHATEVER THE INPUT: true; the input reads as it did. -/
def fnRelockSpec : ChangeSpec := { name := "fnRelock", fn := fun _ => fun
  | [d] => { results := [.lit (.bool true)], args := [d] }
  | _ => none }
def fnRelockRow : OpenClaim := { program := "ytcnlmgnfdplfeaa", sum := "cef3a13617324ac81a82b1009457138db06451ed3ea130b196d0b01d8289feec", func := "loop.example/packageworld/laws.FnRelock", spec := "fnRelock", recurses := true, apart := false }
def FnRelockSaid : Prop := fnRelockRow.holds Try.pinned (OpenSpec.ofChange fnRelockSpec)

/-- ITS FALSE NEIGHBOUR: 'it returns false'. Refute it at one input. -/
def fnRelockWrong : ChangeSpec := { name := "fnRelock", fn := fun _ => fun
  | [d] => { results := [.lit (.bool false)], args := [d] }
  | _ => none }
def FnRelockWrongFalsely : Prop := fnRelockRow.holds Try.pinned (OpenSpec.ofChange fnRelockWrong)

/-- 'laws.FnRelockLeast': WHATEVER THE INPUT: true; the input reads as it did. -/
def fnRelockLeastSpec : ChangeSpec := { name := "fnRelockLeast", fn := fun _ => fun
  | [d] => { results := [.lit (.bool true)], args := [d] }
  | _ => none }
def fnRelockLeastRow : OpenClaim := { program := "ytcnlmgnfdplfeaa", sum := "cef3a13617324ac81a82b1009457138db06451ed3ea130b196d0b01d8289feec", func := "loop.example/packageworld/laws.FnRelockLeast", spec := "fnRelockLeast", recurses := true, apart := false }
def FnRelockLeastSaid : Prop := fnRelockLeastRow.holds Try.pinned (OpenSpec.ofChange fnRelockLeastSpec)

/-- ITS FALSE NEIGHBOUR: 'it returns false'. Refute it at one input. -/
def fnRelockLeastWrong : ChangeSpec := { name := "fnRelockLeast", fn := fun _ => fun
  | [d] => { results := [.lit (.bool false)], args := [d] }
  | _ => none }
def FnRelockLeastWrongFalsely : Prop := fnRelockLeastRow.holds Try.pinned (OpenSpec.ofChange fnRelockLeastWrong)

/- THE SECOND FORM. 'bulk': how many values and letters a reading holds, each counted each time it is reached (what is shared counts as often as it is met; a slice's spare places count too). A statement '..UptoSaid' is the law's where the arguments, and the package variables that the reading takes, are together of bulk at most 1048576: NARROWER than '..Said'. Prove '..Said' where nothing that the law and all that it calls make is longer than what came in: it says more and counts as full. Else prove '..UptoSaid'. A law counts once. -/
mutual
def uptoBulk {H : Type} : DataW H → Nat
  | .lit (.string bytes) => bytes.length + 1
  | .lit _ => 1
  | .nil => 1
  | .ptr d => uptoBulk d + 1
  | .slice elems spare => uptoBulkAll elems + uptoBulkAll spare + 1
  | .agg parts => uptoBulkAll parts + 1
  | .iface _ d => uptoBulk d + 1
  | .map entries => uptoBulkEntries entries + 1
  | .held _ => 1
def uptoBulkAll {H : Type} : List (DataW H) → Nat
  | [] => 0
  | d :: r => uptoBulk d + uptoBulkAll r
def uptoBulkEntries {H : Type} : List (Lit × DataW H) → Nat
  | [] => 0
  | x :: r => uptoBulkEntry x + uptoBulkEntries r
def uptoBulkEntry {H : Type} : Lit × DataW H → Nat
  | (.string bytes, d) => bytes.length + uptoBulk d + 1
  | (_, d) => uptoBulk d + 1
 end
def uptoSmall : (H : Type) → List (DataW H) → Bool := fun _ ds => decide (uptoBulkAll ds ≤ 1048576)
def OpenSpec.upto (s : _root_.Go.ChangeSpec) : _root_.Go.OpenSpec := { _root_.Go.OpenSpec.ofChange s with cond := some uptoSmall }

/-- 'laws.FnExactRelock', WHERE WHAT IT READS IS OF BULK AT MOST 1048576: true; the input reads as it did. -/
def fnExactRelockUptoRow : OpenClaim := { program := "ytcnlmgnfdplfeaa", sum := "cef3a13617324ac81a82b1009457138db06451ed3ea130b196d0b01d8289feec", func := "loop.example/packageworld/laws.FnExactRelock", spec := "fnExactRelock", recurses := true, apart := false, narrowed := true }
def FnExactRelockUptoSaid : Prop := fnExactRelockUptoRow.holds Try.pinned (OpenSpec.upto fnExactRelockSpec)

/-- 'laws.FnRelock', WHERE WHAT IT READS IS OF BULK AT MOST 1048576: true; the input reads as it did. -/
def fnRelockUptoRow : OpenClaim := { program := "ytcnlmgnfdplfeaa", sum := "cef3a13617324ac81a82b1009457138db06451ed3ea130b196d0b01d8289feec", func := "loop.example/packageworld/laws.FnRelock", spec := "fnRelock", recurses := true, apart := false, narrowed := true }
def FnRelockUptoSaid : Prop := fnRelockUptoRow.holds Try.pinned (OpenSpec.upto fnRelockSpec)

/-- 'laws.FnRelockLeast', WHERE WHAT IT READS IS OF BULK AT MOST 1048576: true; the input reads as it did. -/
def fnRelockLeastUptoRow : OpenClaim := { program := "ytcnlmgnfdplfeaa", sum := "cef3a13617324ac81a82b1009457138db06451ed3ea130b196d0b01d8289feec", func := "loop.example/packageworld/laws.FnRelockLeast", spec := "fnRelockLeast", recurses := true, apart := false, narrowed := true }
def FnRelockLeastUptoSaid : Prop := fnRelockLeastUptoRow.holds Try.pinned (OpenSpec.upto fnRelockLeastSpec)

end Rows
end Go.Proofs.Ytcnlmgnfdplfeaa
