/-
  No cell of these rows narrows 'for every input' (looked for: loops, veiled, ifaces, maps, wideKeys, modest, calm, conditions, laid).
  DERIVED. THE GIVEN ROWS OF THIS SEAT. 12 by the template 'for every input the law returns true; each argument reads behind the call as it read before'; 0 by the template 'total and deterministic' (their statements: YtopplljilmjjgaaTotals.lean).
  GIVEN WITH THE SEED: the statements are not yours to turn. If you find one false, say at which input.
  Laid BY PROGRAM, IN A SANDBOX (cutbox-rows.mjs): the forced cells as the released guide's own fill.sh prints them over the translation 15a0f553c8b30700… (all of the seat's roots in one cut). By AI agents, Wed Nov 11 2026. No macro, syntax, notation, axiom, sorry.
-/
import Derived.Test.YtopplljilmjjgaaChecked
import GoSem.Claim
import GoSem.ClaimJoined
import GoSem.ClaimMapViews
import Derived.JoinedTies
import Derived.KernelRfl
namespace Go.Proofs.Ytopplljilmjjgaa
/- THE CELL 'sum', in the pinned program and in every row, IS THE sha256 OF THE DUMP (.gsa) THAT YtopplljilmjjgaaProg.lean LOADS. Nothing in Lean hashes anything: it is a label: what it is worth is what the hold of that sum in a sandbox is worth. -/
noncomputable def Try.pinned : Pinned := { name := "ytopplljilmjjgaa", sum := "15a0f553c8b30700e75a90ac2739db01f19dde11916980c770932760a66d0d97", checked := Try.checked }
namespace Rows
def none {H : Type} : Left H := { results := [], args := [] }

/-- 'laws.FnExactKeptFind': WHATEVER THE INPUT: true; the input reads as it did. -/
def fnExactKeptFindSpec : ChangeSpec := { name := "fnExactKeptFind", fn := fun _ => fun
  | [d1, d2, d3] => { results := [.lit (.bool true)], args := [d1, d2, d3] }
  | _ => none }
def fnExactKeptFindRow : OpenClaim := { program := "ytopplljilmjjgaa", sum := "15a0f553c8b30700e75a90ac2739db01f19dde11916980c770932760a66d0d97", func := "loop.example/packageworld/laws.FnExactKeptFind", spec := "fnExactKeptFind", apart := false }
def FnExactKeptFindSaid : Prop := fnExactKeptFindRow.holds Try.pinned (OpenSpec.ofChange fnExactKeptFindSpec)

/-- ITS FALSE NEIGHBOUR: 'it returns false'. Refute it at one input. -/
def fnExactKeptFindWrong : ChangeSpec := { name := "fnExactKeptFind", fn := fun _ => fun
  | [d1, d2, d3] => { results := [.lit (.bool false)], args := [d1, d2, d3] }
  | _ => none }
def FnExactKeptFindWrongFalsely : Prop := fnExactKeptFindRow.holds Try.pinned (OpenSpec.ofChange fnExactKeptFindWrong)

/-- 'laws.FnExactKeptOk': WHATEVER THE INPUT: true; the input reads as it did. -/
def fnExactKeptOkSpec : ChangeSpec := { name := "fnExactKeptOk", fn := fun _ => fun
  | [d] => { results := [.lit (.bool true)], args := [d] }
  | _ => none }
def fnExactKeptOkRow : OpenClaim := { program := "ytopplljilmjjgaa", sum := "15a0f553c8b30700e75a90ac2739db01f19dde11916980c770932760a66d0d97", func := "loop.example/packageworld/laws.FnExactKeptOk", spec := "fnExactKeptOk", apart := false }
def FnExactKeptOkSaid : Prop := fnExactKeptOkRow.holds Try.pinned (OpenSpec.ofChange fnExactKeptOkSpec)

/-- ITS FALSE NEIGHBOUR: 'it returns false'. Refute it at one input. -/
def fnExactKeptOkWrong : ChangeSpec := { name := "fnExactKeptOk", fn := fun _ => fun
  | [d] => { results := [.lit (.bool false)], args := [d] }
  | _ => none }
def FnExactKeptOkWrongFalsely : Prop := fnExactKeptOkRow.holds Try.pinned (OpenSpec.ofChange fnExactKeptOkWrong)

/-- 'laws.FnExactKeptBuild': WHATEVER THE INPUT: true; the input reads as it did. -/
def fnExactKeptBuildSpec : ChangeSpec := { name := "fnExactKeptBuild", fn := fun _ => fun
  | [d1, d2] => { results := [.lit (.bool true)], args := [d1, d2] }
  | _ => none }
def fnExactKeptBuildRow : OpenClaim := { program := "ytopplljilmjjgaa", sum := "15a0f553c8b30700e75a90ac2739db01f19dde11916980c770932760a66d0d97", func := "loop.example/packageworld/laws.FnExactKeptBuild", spec := "fnExactKeptBuild", apart := false }
def FnExactKeptBuildSaid : Prop := fnExactKeptBuildRow.holds Try.pinned (OpenSpec.ofChange fnExactKeptBuildSpec)

/-- ITS FALSE NEIGHBOUR: 'it returns false'. Refute it at one input. -/
def fnExactKeptBuildWrong : ChangeSpec := { name := "fnExactKeptBuild", fn := fun _ => fun
  | [d1, d2] => { results := [.lit (.bool false)], args := [d1, d2] }
  | _ => none }
def FnExactKeptBuildWrongFalsely : Prop := fnExactKeptBuildRow.holds Try.pinned (OpenSpec.ofChange fnExactKeptBuildWrong)

/-- 'laws.FnExactKeptSweep': WHATEVER THE INPUT: true; the input reads as it did. -/
def fnExactKeptSweepSpec : ChangeSpec := { name := "fnExactKeptSweep", fn := fun _ => fun
  | [d1, d2] => { results := [.lit (.bool true)], args := [d1, d2] }
  | _ => none }
def fnExactKeptSweepRow : OpenClaim := { program := "ytopplljilmjjgaa", sum := "15a0f553c8b30700e75a90ac2739db01f19dde11916980c770932760a66d0d97", func := "loop.example/packageworld/laws.FnExactKeptSweep", spec := "fnExactKeptSweep", apart := false }
def FnExactKeptSweepSaid : Prop := fnExactKeptSweepRow.holds Try.pinned (OpenSpec.ofChange fnExactKeptSweepSpec)

/-- ITS FALSE NEIGHBOUR: 'it returns false'. Refute it at one input. -/
def fnExactKeptSweepWrong : ChangeSpec := { name := "fnExactKeptSweep", fn := fun _ => fun
  | [d1, d2] => { results := [.lit (.bool false)], args := [d1, d2] }
  | _ => none }
def FnExactKeptSweepWrongFalsely : Prop := fnExactKeptSweepRow.holds Try.pinned (OpenSpec.ofChange fnExactKeptSweepWrong)

/-- 'laws.FnExactWorldPart': WHATEVER THE INPUT: true; the input reads as it did. -/
def fnExactWorldPartSpec : ChangeSpec := { name := "fnExactWorldPart", fn := fun _ => fun
  | [d1, d2] => { results := [.lit (.bool true)], args := [d1, d2] }
  | _ => none }
def fnExactWorldPartRow : OpenClaim := { program := "ytopplljilmjjgaa", sum := "15a0f553c8b30700e75a90ac2739db01f19dde11916980c770932760a66d0d97", func := "loop.example/packageworld/laws.FnExactWorldPart", spec := "fnExactWorldPart", apart := false }
def FnExactWorldPartSaid : Prop := fnExactWorldPartRow.holds Try.pinned (OpenSpec.ofChange fnExactWorldPartSpec)

/-- ITS FALSE NEIGHBOUR: 'it returns false'. Refute it at one input. -/
def fnExactWorldPartWrong : ChangeSpec := { name := "fnExactWorldPart", fn := fun _ => fun
  | [d1, d2] => { results := [.lit (.bool false)], args := [d1, d2] }
  | _ => none }
def FnExactWorldPartWrongFalsely : Prop := fnExactWorldPartRow.holds Try.pinned (OpenSpec.ofChange fnExactWorldPartWrong)

/-- 'laws.FnWorldPart': WHATEVER THE INPUT: true; the input reads as it did. -/
def fnWorldPartSpec : ChangeSpec := { name := "fnWorldPart", fn := fun _ => fun
  | [d] => { results := [.lit (.bool true)], args := [d] }
  | _ => none }
def fnWorldPartRow : OpenClaim := { program := "ytopplljilmjjgaa", sum := "15a0f553c8b30700e75a90ac2739db01f19dde11916980c770932760a66d0d97", func := "loop.example/packageworld/laws.FnWorldPart", spec := "fnWorldPart", apart := false }
def FnWorldPartSaid : Prop := fnWorldPartRow.holds Try.pinned (OpenSpec.ofChange fnWorldPartSpec)

/-- ITS FALSE NEIGHBOUR: 'it returns false'. Refute it at one input. -/
def fnWorldPartWrong : ChangeSpec := { name := "fnWorldPart", fn := fun _ => fun
  | [d] => { results := [.lit (.bool false)], args := [d] }
  | _ => none }
def FnWorldPartWrongFalsely : Prop := fnWorldPartRow.holds Try.pinned (OpenSpec.ofChange fnWorldPartWrong)

/-- 'laws.FnWorlds': WHATEVER THE INPUT: true; the input reads as it did. -/
def fnWorldsSpec : ChangeSpec := { name := "fnWorlds", fn := fun _ => fun
  | [d] => { results := [.lit (.bool true)], args := [d] }
  | _ => none }
def fnWorldsRow : OpenClaim := { program := "ytopplljilmjjgaa", sum := "15a0f553c8b30700e75a90ac2739db01f19dde11916980c770932760a66d0d97", func := "loop.example/packageworld/laws.FnWorlds", spec := "fnWorlds", apart := false }
def FnWorldsSaid : Prop := fnWorldsRow.holds Try.pinned (OpenSpec.ofChange fnWorldsSpec)

/-- ITS FALSE NEIGHBOUR: 'it returns false'. Refute it at one input. -/
def fnWorldsWrong : ChangeSpec := { name := "fnWorlds", fn := fun _ => fun
  | [d] => { results := [.lit (.bool false)], args := [d] }
  | _ => none }
def FnWorldsWrongFalsely : Prop := fnWorldsRow.holds Try.pinned (OpenSpec.ofChange fnWorldsWrong)

/-- 'laws.FnKeptFind': WHATEVER THE INPUT: true; the input reads as it did. -/
def fnKeptFindSpec : ChangeSpec := { name := "fnKeptFind", fn := fun _ => fun
  | [d] => { results := [.lit (.bool true)], args := [d] }
  | _ => none }
def fnKeptFindRow : OpenClaim := { program := "ytopplljilmjjgaa", sum := "15a0f553c8b30700e75a90ac2739db01f19dde11916980c770932760a66d0d97", func := "loop.example/packageworld/laws.FnKeptFind", spec := "fnKeptFind", apart := false }
def FnKeptFindSaid : Prop := fnKeptFindRow.holds Try.pinned (OpenSpec.ofChange fnKeptFindSpec)

/-- ITS FALSE NEIGHBOUR: 'it returns false'. Refute it at one input. -/
def fnKeptFindWrong : ChangeSpec := { name := "fnKeptFind", fn := fun _ => fun
  | [d] => { results := [.lit (.bool false)], args := [d] }
  | _ => none }
def FnKeptFindWrongFalsely : Prop := fnKeptFindRow.holds Try.pinned (OpenSpec.ofChange fnKeptFindWrong)

/-- 'laws.FnKeptOk': WHATEVER THE INPUT: true; the input reads as it did. -/
def fnKeptOkSpec : ChangeSpec := { name := "fnKeptOk", fn := fun _ => fun
  | [d] => { results := [.lit (.bool true)], args := [d] }
  | _ => none }
def fnKeptOkRow : OpenClaim := { program := "ytopplljilmjjgaa", sum := "15a0f553c8b30700e75a90ac2739db01f19dde11916980c770932760a66d0d97", func := "loop.example/packageworld/laws.FnKeptOk", spec := "fnKeptOk", apart := false }
def FnKeptOkSaid : Prop := fnKeptOkRow.holds Try.pinned (OpenSpec.ofChange fnKeptOkSpec)

/-- ITS FALSE NEIGHBOUR: 'it returns false'. Refute it at one input. -/
def fnKeptOkWrong : ChangeSpec := { name := "fnKeptOk", fn := fun _ => fun
  | [d] => { results := [.lit (.bool false)], args := [d] }
  | _ => none }
def FnKeptOkWrongFalsely : Prop := fnKeptOkRow.holds Try.pinned (OpenSpec.ofChange fnKeptOkWrong)

/-- 'laws.FnKeptBuild': WHATEVER THE INPUT: true; the input reads as it did. -/
def fnKeptBuildSpec : ChangeSpec := { name := "fnKeptBuild", fn := fun _ => fun
  | [d] => { results := [.lit (.bool true)], args := [d] }
  | _ => none }
def fnKeptBuildRow : OpenClaim := { program := "ytopplljilmjjgaa", sum := "15a0f553c8b30700e75a90ac2739db01f19dde11916980c770932760a66d0d97", func := "loop.example/packageworld/laws.FnKeptBuild", spec := "fnKeptBuild", apart := false }
def FnKeptBuildSaid : Prop := fnKeptBuildRow.holds Try.pinned (OpenSpec.ofChange fnKeptBuildSpec)

/-- ITS FALSE NEIGHBOUR: 'it returns false'. Refute it at one input. -/
def fnKeptBuildWrong : ChangeSpec := { name := "fnKeptBuild", fn := fun _ => fun
  | [d] => { results := [.lit (.bool false)], args := [d] }
  | _ => none }
def FnKeptBuildWrongFalsely : Prop := fnKeptBuildRow.holds Try.pinned (OpenSpec.ofChange fnKeptBuildWrong)

/-- 'laws.FnKeptTurn': WHATEVER THE INPUT: true; the input reads as it did. -/
def fnKeptTurnSpec : ChangeSpec := { name := "fnKeptTurn", fn := fun _ => fun
  | [d] => { results := [.lit (.bool true)], args := [d] }
  | _ => none }
def fnKeptTurnRow : OpenClaim := { program := "ytopplljilmjjgaa", sum := "15a0f553c8b30700e75a90ac2739db01f19dde11916980c770932760a66d0d97", func := "loop.example/packageworld/laws.FnKeptTurn", spec := "fnKeptTurn", apart := false }
def FnKeptTurnSaid : Prop := fnKeptTurnRow.holds Try.pinned (OpenSpec.ofChange fnKeptTurnSpec)

/-- ITS FALSE NEIGHBOUR: 'it returns false'. Refute it at one input. -/
def fnKeptTurnWrong : ChangeSpec := { name := "fnKeptTurn", fn := fun _ => fun
  | [d] => { results := [.lit (.bool false)], args := [d] }
  | _ => none }
def FnKeptTurnWrongFalsely : Prop := fnKeptTurnRow.holds Try.pinned (OpenSpec.ofChange fnKeptTurnWrong)

/-- 'laws.FnKeptSweep': WHATEVER THE INPUT: true; the input reads as it did. -/
def fnKeptSweepSpec : ChangeSpec := { name := "fnKeptSweep", fn := fun _ => fun
  | [d] => { results := [.lit (.bool true)], args := [d] }
  | _ => none }
def fnKeptSweepRow : OpenClaim := { program := "ytopplljilmjjgaa", sum := "15a0f553c8b30700e75a90ac2739db01f19dde11916980c770932760a66d0d97", func := "loop.example/packageworld/laws.FnKeptSweep", spec := "fnKeptSweep", apart := false }
def FnKeptSweepSaid : Prop := fnKeptSweepRow.holds Try.pinned (OpenSpec.ofChange fnKeptSweepSpec)

/-- ITS FALSE NEIGHBOUR: 'it returns false'. Refute it at one input. -/
def fnKeptSweepWrong : ChangeSpec := { name := "fnKeptSweep", fn := fun _ => fun
  | [d] => { results := [.lit (.bool false)], args := [d] }
  | _ => none }
def FnKeptSweepWrongFalsely : Prop := fnKeptSweepRow.holds Try.pinned (OpenSpec.ofChange fnKeptSweepWrong)

/- THE SECOND FORM. 'bulk': how many values and letters a reading holds, each counted each time it is reached (what is shared counts as often as it is met; a slice's spare places count too). A statement '..UptoSaid' is the law's where the arguments, and the package variables that the reading takes, are together of bulk at most 1048576: NARROWER than '..Said'. Prove '..Said' where nothing that the law and all that it calls make is longer than what came in: it says more and counts as full. Else prove '..UptoSaid'. A law counts once. -/
mutual
def uptoBulk {H : Type} : DataW H → Nat
  | .lit (.string bytes) => bytes.length + 1
  | .lit _ => 1
  | .nil => 1
  | .ptr d => uptoBulk d + 1
  | .slice elems spare => uptoBulkAll elems + uptoBulkAll spare + 1
  | .agg parts => uptoBulkAll parts + 1
  | .iface _ d => uptoBulk d + 1
  | .map entries => uptoBulkEntries entries + 1
  | .held _ => 1
def uptoBulkAll {H : Type} : List (DataW H) → Nat
  | [] => 0
  | d :: r => uptoBulk d + uptoBulkAll r
def uptoBulkEntries {H : Type} : List (Lit × DataW H) → Nat
  | [] => 0
  | x :: r => uptoBulkEntry x + uptoBulkEntries r
def uptoBulkEntry {H : Type} : Lit × DataW H → Nat
  | (.string bytes, d) => bytes.length + uptoBulk d + 1
  | (_, d) => uptoBulk d + 1
 end
def uptoSmall : (H : Type) → List (DataW H) → Bool := fun _ ds => decide (uptoBulkAll ds ≤ 1048576)
def OpenSpec.upto (s : _root_.Go.ChangeSpec) : _root_.Go.OpenSpec := { _root_.Go.OpenSpec.ofChange s with cond := some uptoSmall }

/-- 'laws.FnExactKeptFind', WHERE WHAT IT READS IS OF BULK AT MOST 1048576: true; the input reads as it did. -/
def fnExactKeptFindUptoRow : OpenClaim := { program := "ytopplljilmjjgaa", sum := "15a0f553c8b30700e75a90ac2739db01f19dde11916980c770932760a66d0d97", func := "loop.example/packageworld/laws.FnExactKeptFind", spec := "fnExactKeptFind", apart := false, narrowed := true }
def FnExactKeptFindUptoSaid : Prop := fnExactKeptFindUptoRow.holds Try.pinned (OpenSpec.upto fnExactKeptFindSpec)

/-- 'laws.FnExactKeptOk', WHERE WHAT IT READS IS OF BULK AT MOST 1048576: true; the input reads as it did. -/
def fnExactKeptOkUptoRow : OpenClaim := { program := "ytopplljilmjjgaa", sum := "15a0f553c8b30700e75a90ac2739db01f19dde11916980c770932760a66d0d97", func := "loop.example/packageworld/laws.FnExactKeptOk", spec := "fnExactKeptOk", apart := false, narrowed := true }
def FnExactKeptOkUptoSaid : Prop := fnExactKeptOkUptoRow.holds Try.pinned (OpenSpec.upto fnExactKeptOkSpec)

/-- 'laws.FnExactKeptBuild', WHERE WHAT IT READS IS OF BULK AT MOST 1048576: true; the input reads as it did. -/
def fnExactKeptBuildUptoRow : OpenClaim := { program := "ytopplljilmjjgaa", sum := "15a0f553c8b30700e75a90ac2739db01f19dde11916980c770932760a66d0d97", func := "loop.example/packageworld/laws.FnExactKeptBuild", spec := "fnExactKeptBuild", apart := false, narrowed := true }
def FnExactKeptBuildUptoSaid : Prop := fnExactKeptBuildUptoRow.holds Try.pinned (OpenSpec.upto fnExactKeptBuildSpec)

/-- 'laws.FnExactKeptSweep', WHERE WHAT IT READS IS OF BULK AT MOST 1048576: true; the input reads as it did. -/
def fnExactKeptSweepUptoRow : OpenClaim := { program := "ytopplljilmjjgaa", sum := "15a0f553c8b30700e75a90ac2739db01f19dde11916980c770932760a66d0d97", func := "loop.example/packageworld/laws.FnExactKeptSweep", spec := "fnExactKeptSweep", apart := false, narrowed := true }
def FnExactKeptSweepUptoSaid : Prop := fnExactKeptSweepUptoRow.holds Try.pinned (OpenSpec.upto fnExactKeptSweepSpec)

/-- 'laws.FnExactWorldPart', WHERE WHAT IT READS IS OF BULK AT MOST 1048576: true; the input reads as it did. -/
def fnExactWorldPartUptoRow : OpenClaim := { program := "ytopplljilmjjgaa", sum := "15a0f553c8b30700e75a90ac2739db01f19dde11916980c770932760a66d0d97", func := "loop.example/packageworld/laws.FnExactWorldPart", spec := "fnExactWorldPart", apart := false, narrowed := true }
def FnExactWorldPartUptoSaid : Prop := fnExactWorldPartUptoRow.holds Try.pinned (OpenSpec.upto fnExactWorldPartSpec)

/-- 'laws.FnWorldPart', WHERE WHAT IT READS IS OF BULK AT MOST 1048576: true; the input reads as it did. -/
def fnWorldPartUptoRow : OpenClaim := { program := "ytopplljilmjjgaa", sum := "15a0f553c8b30700e75a90ac2739db01f19dde11916980c770932760a66d0d97", func := "loop.example/packageworld/laws.FnWorldPart", spec := "fnWorldPart", apart := false, narrowed := true }
def FnWorldPartUptoSaid : Prop := fnWorldPartUptoRow.holds Try.pinned (OpenSpec.upto fnWorldPartSpec)

/-- 'laws.FnWorlds', WHERE WHAT IT READS IS OF BULK AT MOST 1048576: true; the input reads as it did. -/
def fnWorldsUptoRow : OpenClaim := { program := "ytopplljilmjjgaa", sum := "15a0f553c8b30700e75a90ac2739db01f19dde11916980c770932760a66d0d97", func := "loop.example/packageworld/laws.FnWorlds", spec := "fnWorlds", apart := false, narrowed := true }
def FnWorldsUptoSaid : Prop := fnWorldsUptoRow.holds Try.pinned (OpenSpec.upto fnWorldsSpec)

/-- 'laws.FnKeptFind', WHERE WHAT IT READS IS OF BULK AT MOST 1048576: true; the input reads as it did. -/
def fnKeptFindUptoRow : OpenClaim := { program := "ytopplljilmjjgaa", sum := "15a0f553c8b30700e75a90ac2739db01f19dde11916980c770932760a66d0d97", func := "loop.example/packageworld/laws.FnKeptFind", spec := "fnKeptFind", apart := false, narrowed := true }
def FnKeptFindUptoSaid : Prop := fnKeptFindUptoRow.holds Try.pinned (OpenSpec.upto fnKeptFindSpec)

/-- 'laws.FnKeptOk', WHERE WHAT IT READS IS OF BULK AT MOST 1048576: true; the input reads as it did. -/
def fnKeptOkUptoRow : OpenClaim := { program := "ytopplljilmjjgaa", sum := "15a0f553c8b30700e75a90ac2739db01f19dde11916980c770932760a66d0d97", func := "loop.example/packageworld/laws.FnKeptOk", spec := "fnKeptOk", apart := false, narrowed := true }
def FnKeptOkUptoSaid : Prop := fnKeptOkUptoRow.holds Try.pinned (OpenSpec.upto fnKeptOkSpec)

/-- 'laws.FnKeptBuild', WHERE WHAT IT READS IS OF BULK AT MOST 1048576: true; the input reads as it did. -/
def fnKeptBuildUptoRow : OpenClaim := { program := "ytopplljilmjjgaa", sum := "15a0f553c8b30700e75a90ac2739db01f19dde11916980c770932760a66d0d97", func := "loop.example/packageworld/laws.FnKeptBuild", spec := "fnKeptBuild", apart := false, narrowed := true }
def FnKeptBuildUptoSaid : Prop := fnKeptBuildUptoRow.holds Try.pinned (OpenSpec.upto fnKeptBuildSpec)

/-- 'laws.FnKeptTurn', WHERE WHAT IT READS IS OF BULK AT MOST 1048576: true; the input reads as it did. -/
def fnKeptTurnUptoRow : OpenClaim := { program := "ytopplljilmjjgaa", sum := "15a0f553c8b30700e75a90ac2739db01f19dde11916980c770932760a66d0d97", func := "loop.example/packageworld/laws.FnKeptTurn", spec := "fnKeptTurn", apart := false, narrowed := true }
def FnKeptTurnUptoSaid : Prop := fnKeptTurnUptoRow.holds Try.pinned (OpenSpec.upto fnKeptTurnSpec)

/-- 'laws.FnKeptSweep', WHERE WHAT IT READS IS OF BULK AT MOST 1048576: true; the input reads as it did. -/
def fnKeptSweepUptoRow : OpenClaim := { program := "ytopplljilmjjgaa", sum := "15a0f553c8b30700e75a90ac2739db01f19dde11916980c770932760a66d0d97", func := "loop.example/packageworld/laws.FnKeptSweep", spec := "fnKeptSweep", apart := false, narrowed := true }
def FnKeptSweepUptoSaid : Prop := fnKeptSweepUptoRow.holds Try.pinned (OpenSpec.upto fnKeptSweepSpec)

end Rows
end Go.Proofs.Ytopplljilmjjgaa
