/-
  No cell of these rows narrows 'for every input' (looked for: loops, veiled, ifaces, maps, wideKeys, modest, calm, conditions, laid).
  DERIVED. THE GIVEN ROWS OF THIS SEAT. 6 by the template 'for every input the law returns true; each argument reads behind the call as it read before'; 0 by the template 'total and deterministic' (their statements: YtgabhokmacngfabTotals.lean).
  GIVEN WITH THE SEED: the statements are not yours to turn. If you find one false, say at which input.
  Laid BY PROGRAM, IN A SANDBOX (cutbox-rows.mjs): the forced cells as the released guide's own fill.sh prints them over the translation 136677c6b1db9f8d… (all of the seat's roots in one cut). By AI agents, Wed Nov 11 2026. No macro, syntax, notation, axiom, sorry.
-/
import Derived.Test.YtgabhokmacngfabChecked
import GoSem.Claim
import GoSem.ClaimJoined
import GoSem.ClaimMapViews
import Derived.JoinedTies
import Derived.KernelRfl
namespace Go.Proofs.Ytgabhokmacngfab
/- THE CELL 'sum', in the pinned program and in every row, IS THE sha256 OF THE DUMP (.gsa) THAT YtgabhokmacngfabProg.lean LOADS. Nothing in Lean hashes anything: it is a label: what it is worth is what the hold of that sum in a sandbox is worth. -/
noncomputable def Try.pinned : Pinned := { name := "ytgabhokmacngfab", sum := "136677c6b1db9f8df2598d015db2b4d5531bbc44040b65b2170401e8d1f7b978", checked := Try.checked }
namespace Rows
def none {H : Type} : Left H := { results := [], args := [] }

/-- 'laws.FnVersionOk': WHATEVER THE INPUT: true; the input reads as it did. -/
def fnVersionOkSpec : ChangeSpec := { name := "fnVersionOk", fn := fun _ => fun
  | [d] => { results := [.lit (.bool true)], args := [d] }
  | _ => none }
def fnVersionOkRow : OpenClaim := { program := "ytgabhokmacngfab", sum := "136677c6b1db9f8df2598d015db2b4d5531bbc44040b65b2170401e8d1f7b978", func := "loop.example/packageworld/laws.FnVersionOk", spec := "fnVersionOk", apart := false }
def FnVersionOkSaid : Prop := fnVersionOkRow.holds Try.pinned (OpenSpec.ofChange fnVersionOkSpec)

/-- ITS FALSE NEIGHBOUR: 'it returns false'. Refute it at one input. -/
def fnVersionOkWrong : ChangeSpec := { name := "fnVersionOk", fn := fun _ => fun
  | [d] => { results := [.lit (.bool false)], args := [d] }
  | _ => none }
def FnVersionOkWrongFalsely : Prop := fnVersionOkRow.holds Try.pinned (OpenSpec.ofChange fnVersionOkWrong)

/-- 'laws.FnVersionRank': WHATEVER THE INPUT: true; the input reads as it did. -/
def fnVersionRankSpec : ChangeSpec := { name := "fnVersionRank", fn := fun _ => fun
  | [d] => { results := [.lit (.bool true)], args := [d] }
  | _ => none }
def fnVersionRankRow : OpenClaim := { program := "ytgabhokmacngfab", sum := "136677c6b1db9f8df2598d015db2b4d5531bbc44040b65b2170401e8d1f7b978", func := "loop.example/packageworld/laws.FnVersionRank", spec := "fnVersionRank", apart := false }
def FnVersionRankSaid : Prop := fnVersionRankRow.holds Try.pinned (OpenSpec.ofChange fnVersionRankSpec)

/-- ITS FALSE NEIGHBOUR: 'it returns false'. Refute it at one input. -/
def fnVersionRankWrong : ChangeSpec := { name := "fnVersionRank", fn := fun _ => fun
  | [d] => { results := [.lit (.bool false)], args := [d] }
  | _ => none }
def FnVersionRankWrongFalsely : Prop := fnVersionRankRow.holds Try.pinned (OpenSpec.ofChange fnVersionRankWrong)

/-- 'laws.FnVersionAt': WHATEVER THE INPUT: true; the input reads as it did. -/
def fnVersionAtSpec : ChangeSpec := { name := "fnVersionAt", fn := fun _ => fun
  | [d] => { results := [.lit (.bool true)], args := [d] }
  | _ => none }
def fnVersionAtRow : OpenClaim := { program := "ytgabhokmacngfab", sum := "136677c6b1db9f8df2598d015db2b4d5531bbc44040b65b2170401e8d1f7b978", func := "loop.example/packageworld/laws.FnVersionAt", spec := "fnVersionAt", apart := false }
def FnVersionAtSaid : Prop := fnVersionAtRow.holds Try.pinned (OpenSpec.ofChange fnVersionAtSpec)

/-- ITS FALSE NEIGHBOUR: 'it returns false'. Refute it at one input. -/
def fnVersionAtWrong : ChangeSpec := { name := "fnVersionAt", fn := fun _ => fun
  | [d] => { results := [.lit (.bool false)], args := [d] }
  | _ => none }
def FnVersionAtWrongFalsely : Prop := fnVersionAtRow.holds Try.pinned (OpenSpec.ofChange fnVersionAtWrong)

/-- 'laws.FnVersionLess': WHATEVER THE INPUT: true; the input reads as it did. -/
def fnVersionLessSpec : ChangeSpec := { name := "fnVersionLess", fn := fun _ => fun
  | [d] => { results := [.lit (.bool true)], args := [d] }
  | _ => none }
def fnVersionLessRow : OpenClaim := { program := "ytgabhokmacngfab", sum := "136677c6b1db9f8df2598d015db2b4d5531bbc44040b65b2170401e8d1f7b978", func := "loop.example/packageworld/laws.FnVersionLess", spec := "fnVersionLess", apart := false }
def FnVersionLessSaid : Prop := fnVersionLessRow.holds Try.pinned (OpenSpec.ofChange fnVersionLessSpec)

/-- ITS FALSE NEIGHBOUR: 'it returns false'. Refute it at one input. -/
def fnVersionLessWrong : ChangeSpec := { name := "fnVersionLess", fn := fun _ => fun
  | [d] => { results := [.lit (.bool false)], args := [d] }
  | _ => none }
def FnVersionLessWrongFalsely : Prop := fnVersionLessRow.holds Try.pinned (OpenSpec.ofChange fnVersionLessWrong)

/-- 'laws.FnVersionText': WHATEVER THE INPUT: true; the input reads as it did. -/
def fnVersionTextSpec : ChangeSpec := { name := "fnVersionText", fn := fun _ => fun
  | [d] => { results := [.lit (.bool true)], args := [d] }
  | _ => none }
def fnVersionTextRow : OpenClaim := { program := "ytgabhokmacngfab", sum := "136677c6b1db9f8df2598d015db2b4d5531bbc44040b65b2170401e8d1f7b978", func := "loop.example/packageworld/laws.FnVersionText", spec := "fnVersionText", apart := false }
def FnVersionTextSaid : Prop := fnVersionTextRow.holds Try.pinned (OpenSpec.ofChange fnVersionTextSpec)

/-- ITS FALSE NEIGHBOUR: 'it returns false'. Refute it at one input. -/
def fnVersionTextWrong : ChangeSpec := { name := "fnVersionText", fn := fun _ => fun
  | [d] => { results := [.lit (.bool false)], args := [d] }
  | _ => none }
def FnVersionTextWrongFalsely : Prop := fnVersionTextRow.holds Try.pinned (OpenSpec.ofChange fnVersionTextWrong)

/-- 'laws.FnVersionFrom': WHATEVER THE INPUT: true; the input reads as it did. -/
def fnVersionFromSpec : ChangeSpec := { name := "fnVersionFrom", fn := fun _ => fun
  | [d] => { results := [.lit (.bool true)], args := [d] }
  | _ => none }
def fnVersionFromRow : OpenClaim := { program := "ytgabhokmacngfab", sum := "136677c6b1db9f8df2598d015db2b4d5531bbc44040b65b2170401e8d1f7b978", func := "loop.example/packageworld/laws.FnVersionFrom", spec := "fnVersionFrom", apart := false }
def FnVersionFromSaid : Prop := fnVersionFromRow.holds Try.pinned (OpenSpec.ofChange fnVersionFromSpec)

/-- ITS FALSE NEIGHBOUR: 'it returns false'. Refute it at one input. -/
def fnVersionFromWrong : ChangeSpec := { name := "fnVersionFrom", fn := fun _ => fun
  | [d] => { results := [.lit (.bool false)], args := [d] }
  | _ => none }
def FnVersionFromWrongFalsely : Prop := fnVersionFromRow.holds Try.pinned (OpenSpec.ofChange fnVersionFromWrong)

/- THE SECOND FORM. 'bulk': how many values and letters a reading holds, each counted each time it is reached (what is shared counts as often as it is met; a slice's spare places count too). A statement '..UptoSaid' is the law's where the arguments, and the package variables that the reading takes, are together of bulk at most 1048576: NARROWER than '..Said'. Prove '..Said' where nothing that the law and all that it calls make is longer than what came in: it says more and counts as full. Else prove '..UptoSaid'. A law counts once. -/
mutual
def uptoBulk {H : Type} : DataW H → Nat
  | .lit (.string bytes) => bytes.length + 1
  | .lit _ => 1
  | .nil => 1
  | .ptr d => uptoBulk d + 1
  | .slice elems spare => uptoBulkAll elems + uptoBulkAll spare + 1
  | .agg parts => uptoBulkAll parts + 1
  | .iface _ d => uptoBulk d + 1
  | .map entries => uptoBulkEntries entries + 1
  | .held _ => 1
def uptoBulkAll {H : Type} : List (DataW H) → Nat
  | [] => 0
  | d :: r => uptoBulk d + uptoBulkAll r
def uptoBulkEntries {H : Type} : List (Lit × DataW H) → Nat
  | [] => 0
  | x :: r => uptoBulkEntry x + uptoBulkEntries r
def uptoBulkEntry {H : Type} : Lit × DataW H → Nat
  | (.string bytes, d) => bytes.length + uptoBulk d + 1
  | (_, d) => uptoBulk d + 1
 end
def uptoSmall : (H : Type) → List (DataW H) → Bool := fun _ ds => decide (uptoBulkAll ds ≤ 1048576)
def OpenSpec.upto (s : _root_.Go.ChangeSpec) : _root_.Go.OpenSpec := { _root_.Go.OpenSpec.ofChange s with cond := some uptoSmall }

/-- 'laws.FnVersionOk', WHERE WHAT IT READS IS OF BULK AT MOST 1048576: true; the input reads as it did. -/
def fnVersionOkUptoRow : OpenClaim := { program := "ytgabhokmacngfab", sum := "136677c6b1db9f8df2598d015db2b4d5531bbc44040b65b2170401e8d1f7b978", func := "loop.example/packageworld/laws.FnVersionOk", spec := "fnVersionOk", apart := false, narrowed := true }
def FnVersionOkUptoSaid : Prop := fnVersionOkUptoRow.holds Try.pinned (OpenSpec.upto fnVersionOkSpec)

/-- 'laws.FnVersionRank', WHERE WHAT IT READS IS OF BULK AT MOST 1048576: true; the input reads as it did. -/
def fnVersionRankUptoRow : OpenClaim := { program := "ytgabhokmacngfab", sum := "136677c6b1db9f8df2598d015db2b4d5531bbc44040b65b2170401e8d1f7b978", func := "loop.example/packageworld/laws.FnVersionRank", spec := "fnVersionRank", apart := false, narrowed := true }
def FnVersionRankUptoSaid : Prop := fnVersionRankUptoRow.holds Try.pinned (OpenSpec.upto fnVersionRankSpec)

/-- 'laws.FnVersionAt', WHERE WHAT IT READS IS OF BULK AT MOST 1048576: true; the input reads as it did. -/
def fnVersionAtUptoRow : OpenClaim := { program := "ytgabhokmacngfab", sum := "136677c6b1db9f8df2598d015db2b4d5531bbc44040b65b2170401e8d1f7b978", func := "loop.example/packageworld/laws.FnVersionAt", spec := "fnVersionAt", apart := false, narrowed := true }
def FnVersionAtUptoSaid : Prop := fnVersionAtUptoRow.holds Try.pinned (OpenSpec.upto fnVersionAtSpec)

/-- 'laws.FnVersionLess', WHERE WHAT IT READS IS OF BULK AT MOST 1048576: true; the input reads as it did. -/
def fnVersionLessUptoRow : OpenClaim := { program := "ytgabhokmacngfab", sum := "136677c6b1db9f8df2598d015db2b4d5531bbc44040b65b2170401e8d1f7b978", func := "loop.example/packageworld/laws.FnVersionLess", spec := "fnVersionLess", apart := false, narrowed := true }
def FnVersionLessUptoSaid : Prop := fnVersionLessUptoRow.holds Try.pinned (OpenSpec.upto fnVersionLessSpec)

/-- 'laws.FnVersionText', WHERE WHAT IT READS IS OF BULK AT MOST 1048576: true; the input reads as it did. -/
def fnVersionTextUptoRow : OpenClaim := { program := "ytgabhokmacngfab", sum := "136677c6b1db9f8df2598d015db2b4d5531bbc44040b65b2170401e8d1f7b978", func := "loop.example/packageworld/laws.FnVersionText", spec := "fnVersionText", apart := false, narrowed := true }
def FnVersionTextUptoSaid : Prop := fnVersionTextUptoRow.holds Try.pinned (OpenSpec.upto fnVersionTextSpec)

/-- 'laws.FnVersionFrom', WHERE WHAT IT READS IS OF BULK AT MOST 1048576: true; the input reads as it did. -/
def fnVersionFromUptoRow : OpenClaim := { program := "ytgabhokmacngfab", sum := "136677c6b1db9f8df2598d015db2b4d5531bbc44040b65b2170401e8d1f7b978", func := "loop.example/packageworld/laws.FnVersionFrom", spec := "fnVersionFrom", apart := false, narrowed := true }
def FnVersionFromUptoSaid : Prop := fnVersionFromUptoRow.holds Try.pinned (OpenSpec.upto fnVersionFromSpec)

end Rows
end Go.Proofs.Ytgabhokmacngfab
