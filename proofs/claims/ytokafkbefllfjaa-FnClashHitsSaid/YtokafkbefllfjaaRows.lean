/-
  No cell of these rows narrows 'for every input' (looked for: loops, veiled, ifaces, maps, wideKeys, modest, calm, conditions, laid).
  DERIVED. THE GIVEN ROWS OF THIS SEAT. 2 by the template 'for every input the law returns true; each argument reads behind the call as it read before'; 0 by the template 'total and deterministic' (their statements: YtokafkbefllfjaaTotals.lean).
  GIVEN WITH THE SEED: the statements are not yours to turn. If you find one false, say at which input.
  Laid BY PROGRAM, IN A SANDBOX (cutbox-rows.mjs): the forced cells as the released guide's own fill.sh prints them over the translation 642545d5269a2f11… (all of the seat's roots in one cut). By AI agents, Wed Nov 11 2026. No macro, syntax, notation, axiom, sorry.
-/
import Derived.Test.YtokafkbefllfjaaChecked
import GoSem.Claim
import GoSem.ClaimJoined
import GoSem.ClaimMapViews
import Derived.JoinedTies
import Derived.KernelRfl
namespace Go.Proofs.Ytokafkbefllfjaa
/- THE CELL 'sum', in the pinned program and in every row, IS THE sha256 OF THE DUMP (.gsa) THAT YtokafkbefllfjaaProg.lean LOADS. Nothing in Lean hashes anything: it is a label: what it is worth is what the hold of that sum in a sandbox is worth. -/
noncomputable def Try.pinned : Pinned := { name := "ytokafkbefllfjaa", sum := "642545d5269a2f11a096176ca704a1066770e53ab00d46cab63586995ae973ba", checked := Try.checked }
namespace Rows
def none {H : Type} : Left H := { results := [], args := [] }

/-- 'laws.FnClashOk': WHATEVER THE INPUT: true; the input reads as it did. -/
def fnClashOkSpec : ChangeSpec := { name := "fnClashOk", fn := fun _ => fun
  | [d] => { results := [.lit (.bool true)], args := [d] }
  | _ => none }
def fnClashOkRow : OpenClaim := { program := "ytokafkbefllfjaa", sum := "642545d5269a2f11a096176ca704a1066770e53ab00d46cab63586995ae973ba", func := "loop.example/packageworld/laws.FnClashOk", spec := "fnClashOk", apart := false }
def FnClashOkSaid : Prop := fnClashOkRow.holds Try.pinned (OpenSpec.ofChange fnClashOkSpec)

/-- ITS FALSE NEIGHBOUR: 'it returns false'. Refute it at one input. -/
def fnClashOkWrong : ChangeSpec := { name := "fnClashOk", fn := fun _ => fun
  | [d] => { results := [.lit (.bool false)], args := [d] }
  | _ => none }
def FnClashOkWrongFalsely : Prop := fnClashOkRow.holds Try.pinned (OpenSpec.ofChange fnClashOkWrong)

/-- 'laws.FnClashHits': WHATEVER THE INPUT: true; the input reads as it did. -/
def fnClashHitsSpec : ChangeSpec := { name := "fnClashHits", fn := fun _ => fun
  | [d] => { results := [.lit (.bool true)], args := [d] }
  | _ => none }
def fnClashHitsRow : OpenClaim := { program := "ytokafkbefllfjaa", sum := "642545d5269a2f11a096176ca704a1066770e53ab00d46cab63586995ae973ba", func := "loop.example/packageworld/laws.FnClashHits", spec := "fnClashHits", apart := false }
def FnClashHitsSaid : Prop := fnClashHitsRow.holds Try.pinned (OpenSpec.ofChange fnClashHitsSpec)

/-- ITS FALSE NEIGHBOUR: 'it returns false'. Refute it at one input. -/
def fnClashHitsWrong : ChangeSpec := { name := "fnClashHits", fn := fun _ => fun
  | [d] => { results := [.lit (.bool false)], args := [d] }
  | _ => none }
def FnClashHitsWrongFalsely : Prop := fnClashHitsRow.holds Try.pinned (OpenSpec.ofChange fnClashHitsWrong)

/- THE SECOND FORM. 'bulk': how many values and letters a reading holds, each counted each time it is reached (what is shared counts as often as it is met; a slice's spare places count too). A statement '..UptoSaid' is the law's where the arguments, and the package variables that the reading takes, are together of bulk at most 1048576: NARROWER than '..Said'. Prove '..Said' where nothing that the law and all that it calls make is longer than what came in: it says more and counts as full. Else prove '..UptoSaid'. A law counts once. -/
mutual
def uptoBulk {H : Type} : DataW H → Nat
  | .lit (.string bytes) => bytes.length + 1
  | .lit _ => 1
  | .nil => 1
  | .ptr d => uptoBulk d + 1
  | .slice elems spare => uptoBulkAll elems + uptoBulkAll spare + 1
  | .agg parts => uptoBulkAll parts + 1
  | .iface _ d => uptoBulk d + 1
  | .map entries => uptoBulkEntries entries + 1
  | .held _ => 1
def uptoBulkAll {H : Type} : List (DataW H) → Nat
  | [] => 0
  | d :: r => uptoBulk d + uptoBulkAll r
def uptoBulkEntries {H : Type} : List (Lit × DataW H) → Nat
  | [] => 0
  | x :: r => uptoBulkEntry x + uptoBulkEntries r
def uptoBulkEntry {H : Type} : Lit × DataW H → Nat
  | (.string bytes, d) => bytes.length + uptoBulk d + 1
  | (_, d) => uptoBulk d + 1
 end
def uptoSmall : (H : Type) → List (DataW H) → Bool := fun _ ds => decide (uptoBulkAll ds ≤ 1048576)
def OpenSpec.upto (s : _root_.Go.ChangeSpec) : _root_.Go.OpenSpec := { _root_.Go.OpenSpec.ofChange s with cond := some uptoSmall }

/-- 'laws.FnClashOk', WHERE WHAT IT READS IS OF BULK AT MOST 1048576: true; the input reads as it did. -/
def fnClashOkUptoRow : OpenClaim := { program := "ytokafkbefllfjaa", sum := "642545d5269a2f11a096176ca704a1066770e53ab00d46cab63586995ae973ba", func := "loop.example/packageworld/laws.FnClashOk", spec := "fnClashOk", apart := false, narrowed := true }
def FnClashOkUptoSaid : Prop := fnClashOkUptoRow.holds Try.pinned (OpenSpec.upto fnClashOkSpec)

/-- 'laws.FnClashHits', WHERE WHAT IT READS IS OF BULK AT MOST 1048576: true; the input reads as it did. -/
def fnClashHitsUptoRow : OpenClaim := { program := "ytokafkbefllfjaa", sum := "642545d5269a2f11a096176ca704a1066770e53ab00d46cab63586995ae973ba", func := "loop.example/packageworld/laws.FnClashHits", spec := "fnClashHits", apart := false, narrowed := true }
def FnClashHitsUptoSaid : Prop := fnClashHitsUptoRow.holds Try.pinned (OpenSpec.upto fnClashHitsSpec)

end Rows
end Go.Proofs.Ytokafkbefllfjaa
