/-
  No cell of these rows narrows 'for every input' (looked for: loops, veiled, ifaces, maps, wideKeys, modest, calm, conditions, laid).
  DERIVED. THE GIVEN ROWS OF THIS SEAT. 6 by the template 'for every input the law returns true; each argument reads behind the call as it read before'; 0 by the template 'total and deterministic' (their statements: YtgabhokmacngfaaTotals.lean).
  GIVEN WITH THE SEED: the statements are not yours to turn. If you find one false, say at which input.
  Laid BY PROGRAM, IN A SANDBOX (cutbox-rows.mjs): the forced cells as the released guide's own fill.sh prints them over the translation 6cb8f13c14e536b6… (all of the seat's roots in one cut). By AI agents, Wed Nov 11 2026. No macro, syntax, notation, axiom, sorry.
-/
import Derived.Test.YtgabhokmacngfaaChecked
import GoSem.Claim
import GoSem.ClaimJoined
import GoSem.ClaimMapViews
import Derived.JoinedTies
import Derived.KernelRfl
namespace Go.Proofs.Ytgabhokmacngfaa
/- THE CELL 'sum', in the pinned program and in every row, IS THE sha256 OF THE DUMP (.gsa) THAT YtgabhokmacngfaaProg.lean LOADS. Nothing in Lean hashes anything: it is a label: what it is worth is what the hold of that sum in a sandbox is worth. -/
noncomputable def Try.pinned : Pinned := { name := "ytgabhokmacngfaa", sum := "6cb8f13c14e536b6396b69d9023f0274e4ce026024aa04572040acd2fe2731fb", checked := Try.checked }
namespace Rows
def none {H : Type} : Left H := { results := [], args := [] }

/-- 'laws.FnExactVersionOk': WHATEVER THE INPUT: true; the input reads as it did. -/
def fnExactVersionOkSpec : ChangeSpec := { name := "fnExactVersionOk", fn := fun _ => fun
  | [d] => { results := [.lit (.bool true)], args := [d] }
  | _ => none }
def fnExactVersionOkRow : OpenClaim := { program := "ytgabhokmacngfaa", sum := "6cb8f13c14e536b6396b69d9023f0274e4ce026024aa04572040acd2fe2731fb", func := "loop.example/packageworld/laws.FnExactVersionOk", spec := "fnExactVersionOk", apart := false }
def FnExactVersionOkSaid : Prop := fnExactVersionOkRow.holds Try.pinned (OpenSpec.ofChange fnExactVersionOkSpec)

/-- ITS FALSE NEIGHBOUR: 'it returns false'. Refute it at one input. -/
def fnExactVersionOkWrong : ChangeSpec := { name := "fnExactVersionOk", fn := fun _ => fun
  | [d] => { results := [.lit (.bool false)], args := [d] }
  | _ => none }
def FnExactVersionOkWrongFalsely : Prop := fnExactVersionOkRow.holds Try.pinned (OpenSpec.ofChange fnExactVersionOkWrong)

/-- 'laws.FnExactVersionRank': WHATEVER THE INPUT: true; the input reads as it did. -/
def fnExactVersionRankSpec : ChangeSpec := { name := "fnExactVersionRank", fn := fun _ => fun
  | [d] => { results := [.lit (.bool true)], args := [d] }
  | _ => none }
def fnExactVersionRankRow : OpenClaim := { program := "ytgabhokmacngfaa", sum := "6cb8f13c14e536b6396b69d9023f0274e4ce026024aa04572040acd2fe2731fb", func := "loop.example/packageworld/laws.FnExactVersionRank", spec := "fnExactVersionRank", apart := false }
def FnExactVersionRankSaid : Prop := fnExactVersionRankRow.holds Try.pinned (OpenSpec.ofChange fnExactVersionRankSpec)

/-- ITS FALSE NEIGHBOUR: 'it returns false'. Refute it at one input. -/
def fnExactVersionRankWrong : ChangeSpec := { name := "fnExactVersionRank", fn := fun _ => fun
  | [d] => { results := [.lit (.bool false)], args := [d] }
  | _ => none }
def FnExactVersionRankWrongFalsely : Prop := fnExactVersionRankRow.holds Try.pinned (OpenSpec.ofChange fnExactVersionRankWrong)

/-- 'laws.FnExactVersionAt': WHATEVER THE INPUT: true; the input reads as it did. -/
def fnExactVersionAtSpec : ChangeSpec := { name := "fnExactVersionAt", fn := fun _ => fun
  | [d] => { results := [.lit (.bool true)], args := [d] }
  | _ => none }
def fnExactVersionAtRow : OpenClaim := { program := "ytgabhokmacngfaa", sum := "6cb8f13c14e536b6396b69d9023f0274e4ce026024aa04572040acd2fe2731fb", func := "loop.example/packageworld/laws.FnExactVersionAt", spec := "fnExactVersionAt", apart := false }
def FnExactVersionAtSaid : Prop := fnExactVersionAtRow.holds Try.pinned (OpenSpec.ofChange fnExactVersionAtSpec)

/-- ITS FALSE NEIGHBOUR: 'it returns false'. Refute it at one input. -/
def fnExactVersionAtWrong : ChangeSpec := { name := "fnExactVersionAt", fn := fun _ => fun
  | [d] => { results := [.lit (.bool false)], args := [d] }
  | _ => none }
def FnExactVersionAtWrongFalsely : Prop := fnExactVersionAtRow.holds Try.pinned (OpenSpec.ofChange fnExactVersionAtWrong)

/-- 'laws.FnExactVersionLess': WHATEVER THE INPUT: true; the input reads as it did. -/
def fnExactVersionLessSpec : ChangeSpec := { name := "fnExactVersionLess", fn := fun _ => fun
  | [d1, d2] => { results := [.lit (.bool true)], args := [d1, d2] }
  | _ => none }
def fnExactVersionLessRow : OpenClaim := { program := "ytgabhokmacngfaa", sum := "6cb8f13c14e536b6396b69d9023f0274e4ce026024aa04572040acd2fe2731fb", func := "loop.example/packageworld/laws.FnExactVersionLess", spec := "fnExactVersionLess", apart := false }
def FnExactVersionLessSaid : Prop := fnExactVersionLessRow.holds Try.pinned (OpenSpec.ofChange fnExactVersionLessSpec)

/-- ITS FALSE NEIGHBOUR: 'it returns false'. Refute it at one input. -/
def fnExactVersionLessWrong : ChangeSpec := { name := "fnExactVersionLess", fn := fun _ => fun
  | [d1, d2] => { results := [.lit (.bool false)], args := [d1, d2] }
  | _ => none }
def FnExactVersionLessWrongFalsely : Prop := fnExactVersionLessRow.holds Try.pinned (OpenSpec.ofChange fnExactVersionLessWrong)

/-- 'laws.FnExactVersionText': WHATEVER THE INPUT: true; the input reads as it did. -/
def fnExactVersionTextSpec : ChangeSpec := { name := "fnExactVersionText", fn := fun _ => fun
  | [d] => { results := [.lit (.bool true)], args := [d] }
  | _ => none }
def fnExactVersionTextRow : OpenClaim := { program := "ytgabhokmacngfaa", sum := "6cb8f13c14e536b6396b69d9023f0274e4ce026024aa04572040acd2fe2731fb", func := "loop.example/packageworld/laws.FnExactVersionText", spec := "fnExactVersionText", apart := false }
def FnExactVersionTextSaid : Prop := fnExactVersionTextRow.holds Try.pinned (OpenSpec.ofChange fnExactVersionTextSpec)

/-- ITS FALSE NEIGHBOUR: 'it returns false'. Refute it at one input. -/
def fnExactVersionTextWrong : ChangeSpec := { name := "fnExactVersionText", fn := fun _ => fun
  | [d] => { results := [.lit (.bool false)], args := [d] }
  | _ => none }
def FnExactVersionTextWrongFalsely : Prop := fnExactVersionTextRow.holds Try.pinned (OpenSpec.ofChange fnExactVersionTextWrong)

/-- 'laws.FnExactVersionFrom': WHATEVER THE INPUT: true; the input reads as it did. -/
def fnExactVersionFromSpec : ChangeSpec := { name := "fnExactVersionFrom", fn := fun _ => fun
  | [d] => { results := [.lit (.bool true)], args := [d] }
  | _ => none }
def fnExactVersionFromRow : OpenClaim := { program := "ytgabhokmacngfaa", sum := "6cb8f13c14e536b6396b69d9023f0274e4ce026024aa04572040acd2fe2731fb", func := "loop.example/packageworld/laws.FnExactVersionFrom", spec := "fnExactVersionFrom", apart := false }
def FnExactVersionFromSaid : Prop := fnExactVersionFromRow.holds Try.pinned (OpenSpec.ofChange fnExactVersionFromSpec)

/-- ITS FALSE NEIGHBOUR: 'it returns false'. Refute it at one input. -/
def fnExactVersionFromWrong : ChangeSpec := { name := "fnExactVersionFrom", fn := fun _ => fun
  | [d] => { results := [.lit (.bool false)], args := [d] }
  | _ => none }
def FnExactVersionFromWrongFalsely : Prop := fnExactVersionFromRow.holds Try.pinned (OpenSpec.ofChange fnExactVersionFromWrong)

/- THE SECOND FORM. 'bulk': how many values and letters a reading holds, each counted each time it is reached (what is shared counts as often as it is met; a slice's spare places count too). A statement '..UptoSaid' is the law's where the arguments, and the package variables that the reading takes, are together of bulk at most 1048576: NARROWER than '..Said'. Prove '..Said' where nothing that the law and all that it calls make is longer than what came in: it says more and counts as full. Else prove '..UptoSaid'. A law counts once. -/
mutual
def uptoBulk {H : Type} : DataW H → Nat
  | .lit (.string bytes) => bytes.length + 1
  | .lit _ => 1
  | .nil => 1
  | .ptr d => uptoBulk d + 1
  | .slice elems spare => uptoBulkAll elems + uptoBulkAll spare + 1
  | .agg parts => uptoBulkAll parts + 1
  | .iface _ d => uptoBulk d + 1
  | .map entries => uptoBulkEntries entries + 1
  | .held _ => 1
def uptoBulkAll {H : Type} : List (DataW H) → Nat
  | [] => 0
  | d :: r => uptoBulk d + uptoBulkAll r
def uptoBulkEntries {H : Type} : List (Lit × DataW H) → Nat
  | [] => 0
  | x :: r => uptoBulkEntry x + uptoBulkEntries r
def uptoBulkEntry {H : Type} : Lit × DataW H → Nat
  | (.string bytes, d) => bytes.length + uptoBulk d + 1
  | (_, d) => uptoBulk d + 1
 end
def uptoSmall : (H : Type) → List (DataW H) → Bool := fun _ ds => decide (uptoBulkAll ds ≤ 1048576)
def OpenSpec.upto (s : _root_.Go.ChangeSpec) : _root_.Go.OpenSpec := { _root_.Go.OpenSpec.ofChange s with cond := some uptoSmall }

/-- 'laws.FnExactVersionOk', WHERE WHAT IT READS IS OF BULK AT MOST 1048576: true; the input reads as it did. -/
def fnExactVersionOkUptoRow : OpenClaim := { program := "ytgabhokmacngfaa", sum := "6cb8f13c14e536b6396b69d9023f0274e4ce026024aa04572040acd2fe2731fb", func := "loop.example/packageworld/laws.FnExactVersionOk", spec := "fnExactVersionOk", apart := false, narrowed := true }
def FnExactVersionOkUptoSaid : Prop := fnExactVersionOkUptoRow.holds Try.pinned (OpenSpec.upto fnExactVersionOkSpec)

/-- 'laws.FnExactVersionRank', WHERE WHAT IT READS IS OF BULK AT MOST 1048576: true; the input reads as it did. -/
def fnExactVersionRankUptoRow : OpenClaim := { program := "ytgabhokmacngfaa", sum := "6cb8f13c14e536b6396b69d9023f0274e4ce026024aa04572040acd2fe2731fb", func := "loop.example/packageworld/laws.FnExactVersionRank", spec := "fnExactVersionRank", apart := false, narrowed := true }
def FnExactVersionRankUptoSaid : Prop := fnExactVersionRankUptoRow.holds Try.pinned (OpenSpec.upto fnExactVersionRankSpec)

/-- 'laws.FnExactVersionAt', WHERE WHAT IT READS IS OF BULK AT MOST 1048576: true; the input reads as it did. -/
def fnExactVersionAtUptoRow : OpenClaim := { program := "ytgabhokmacngfaa", sum := "6cb8f13c14e536b6396b69d9023f0274e4ce026024aa04572040acd2fe2731fb", func := "loop.example/packageworld/laws.FnExactVersionAt", spec := "fnExactVersionAt", apart := false, narrowed := true }
def FnExactVersionAtUptoSaid : Prop := fnExactVersionAtUptoRow.holds Try.pinned (OpenSpec.upto fnExactVersionAtSpec)

/-- 'laws.FnExactVersionLess', WHERE WHAT IT READS IS OF BULK AT MOST 1048576: true; the input reads as it did. -/
def fnExactVersionLessUptoRow : OpenClaim := { program := "ytgabhokmacngfaa", sum := "6cb8f13c14e536b6396b69d9023f0274e4ce026024aa04572040acd2fe2731fb", func := "loop.example/packageworld/laws.FnExactVersionLess", spec := "fnExactVersionLess", apart := false, narrowed := true }
def FnExactVersionLessUptoSaid : Prop := fnExactVersionLessUptoRow.holds Try.pinned (OpenSpec.upto fnExactVersionLessSpec)

/-- 'laws.FnExactVersionText', WHERE WHAT IT READS IS OF BULK AT MOST 1048576: true; the input reads as it did. -/
def fnExactVersionTextUptoRow : OpenClaim := { program := "ytgabhokmacngfaa", sum := "6cb8f13c14e536b6396b69d9023f0274e4ce026024aa04572040acd2fe2731fb", func := "loop.example/packageworld/laws.FnExactVersionText", spec := "fnExactVersionText", apart := false, narrowed := true }
def FnExactVersionTextUptoSaid : Prop := fnExactVersionTextUptoRow.holds Try.pinned (OpenSpec.upto fnExactVersionTextSpec)

/-- 'laws.FnExactVersionFrom', WHERE WHAT IT READS IS OF BULK AT MOST 1048576: true; the input reads as it did. -/
def fnExactVersionFromUptoRow : OpenClaim := { program := "ytgabhokmacngfaa", sum := "6cb8f13c14e536b6396b69d9023f0274e4ce026024aa04572040acd2fe2731fb", func := "loop.example/packageworld/laws.FnExactVersionFrom", spec := "fnExactVersionFrom", apart := false, narrowed := true }
def FnExactVersionFromUptoSaid : Prop := fnExactVersionFromUptoRow.holds Try.pinned (OpenSpec.upto fnExactVersionFromSpec)

end Rows
end Go.Proofs.Ytgabhokmacngfaa
