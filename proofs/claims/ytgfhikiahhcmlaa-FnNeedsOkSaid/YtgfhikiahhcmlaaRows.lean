/-
  No cell of these rows narrows 'for every input' (looked for: loops, veiled, ifaces, maps, wideKeys, modest, calm, conditions, laid).
  DERIVED. THE GIVEN ROWS OF THIS SEAT. 10 by the template 'for every input the law returns true; each argument reads behind the call as it read before'; 0 by the template 'total and deterministic' (their statements: YtgfhikiahhcmlaaTotals.lean).
  GIVEN WITH THE SEED: the statements are not yours to turn. If you find one false, say at which input.
  Laid BY PROGRAM, IN A SANDBOX (cutbox-rows.mjs): the forced cells as the released guide's own fill.sh prints them over the translation 8b7f9d0d368dac55… (all of the seat's roots in one cut). By AI agents, Wed Nov 11 2026. No macro, syntax, notation, axiom, sorry.
-/
import Derived.Test.YtgfhikiahhcmlaaChecked
import GoSem.Claim
import GoSem.ClaimJoined
import GoSem.ClaimMapViews
import Derived.JoinedTies
import Derived.KernelRfl
namespace Go.Proofs.Ytgfhikiahhcmlaa
/- THE CELL 'sum', in the pinned program and in every row, IS THE sha256 OF THE DUMP (.gsa) THAT YtgfhikiahhcmlaaProg.lean LOADS. Nothing in Lean hashes anything: it is a label: what it is worth is what the hold of that sum in a sandbox is worth. -/
noncomputable def Try.pinned : Pinned := { name := "ytgfhikiahhcmlaa", sum := "8b7f9d0d368dac552e37e6cb12145b0c43449c98e924039fff1150e42dbdb5b7", checked := Try.checked }
namespace Rows
def none {H : Type} : Left H := { results := [], args := [] }

/-- 'laws.FnExactNeedsOk': WHATEVER THE INPUT: true; the input reads as it did. -/
def fnExactNeedsOkSpec : ChangeSpec := { name := "fnExactNeedsOk", fn := fun _ => fun
  | [d] => { results := [.lit (.bool true)], args := [d] }
  | _ => none }
def fnExactNeedsOkRow : OpenClaim := { program := "ytgfhikiahhcmlaa", sum := "8b7f9d0d368dac552e37e6cb12145b0c43449c98e924039fff1150e42dbdb5b7", func := "loop.example/packageworld/laws.FnExactNeedsOk", spec := "fnExactNeedsOk", apart := false }
def FnExactNeedsOkSaid : Prop := fnExactNeedsOkRow.holds Try.pinned (OpenSpec.ofChange fnExactNeedsOkSpec)

/-- ITS FALSE NEIGHBOUR: 'it returns false'. Refute it at one input. -/
def fnExactNeedsOkWrong : ChangeSpec := { name := "fnExactNeedsOk", fn := fun _ => fun
  | [d] => { results := [.lit (.bool false)], args := [d] }
  | _ => none }
def FnExactNeedsOkWrongFalsely : Prop := fnExactNeedsOkRow.holds Try.pinned (OpenSpec.ofChange fnExactNeedsOkWrong)

/-- 'laws.FnExactShelfOk': WHATEVER THE INPUT: true; the input reads as it did. -/
def fnExactShelfOkSpec : ChangeSpec := { name := "fnExactShelfOk", fn := fun _ => fun
  | [d] => { results := [.lit (.bool true)], args := [d] }
  | _ => none }
def fnExactShelfOkRow : OpenClaim := { program := "ytgfhikiahhcmlaa", sum := "8b7f9d0d368dac552e37e6cb12145b0c43449c98e924039fff1150e42dbdb5b7", func := "loop.example/packageworld/laws.FnExactShelfOk", spec := "fnExactShelfOk", apart := false }
def FnExactShelfOkSaid : Prop := fnExactShelfOkRow.holds Try.pinned (OpenSpec.ofChange fnExactShelfOkSpec)

/-- ITS FALSE NEIGHBOUR: 'it returns false'. Refute it at one input. -/
def fnExactShelfOkWrong : ChangeSpec := { name := "fnExactShelfOk", fn := fun _ => fun
  | [d] => { results := [.lit (.bool false)], args := [d] }
  | _ => none }
def FnExactShelfOkWrongFalsely : Prop := fnExactShelfOkRow.holds Try.pinned (OpenSpec.ofChange fnExactShelfOkWrong)

/-- 'laws.FnExactShelfAt': WHATEVER THE INPUT: true; the input reads as it did. -/
def fnExactShelfAtSpec : ChangeSpec := { name := "fnExactShelfAt", fn := fun _ => fun
  | [d1, d2, d3] => { results := [.lit (.bool true)], args := [d1, d2, d3] }
  | _ => none }
def fnExactShelfAtRow : OpenClaim := { program := "ytgfhikiahhcmlaa", sum := "8b7f9d0d368dac552e37e6cb12145b0c43449c98e924039fff1150e42dbdb5b7", func := "loop.example/packageworld/laws.FnExactShelfAt", spec := "fnExactShelfAt", apart := false }
def FnExactShelfAtSaid : Prop := fnExactShelfAtRow.holds Try.pinned (OpenSpec.ofChange fnExactShelfAtSpec)

/-- ITS FALSE NEIGHBOUR: 'it returns false'. Refute it at one input. -/
def fnExactShelfAtWrong : ChangeSpec := { name := "fnExactShelfAt", fn := fun _ => fun
  | [d1, d2, d3] => { results := [.lit (.bool false)], args := [d1, d2, d3] }
  | _ => none }
def FnExactShelfAtWrongFalsely : Prop := fnExactShelfAtRow.holds Try.pinned (OpenSpec.ofChange fnExactShelfAtWrong)

/-- 'laws.FnExactShelfPut': WHATEVER THE INPUT: true; the input reads as it did. -/
def fnExactShelfPutSpec : ChangeSpec := { name := "fnExactShelfPut", fn := fun _ => fun
  | [d1, d2] => { results := [.lit (.bool true)], args := [d1, d2] }
  | _ => none }
def fnExactShelfPutRow : OpenClaim := { program := "ytgfhikiahhcmlaa", sum := "8b7f9d0d368dac552e37e6cb12145b0c43449c98e924039fff1150e42dbdb5b7", func := "loop.example/packageworld/laws.FnExactShelfPut", spec := "fnExactShelfPut", apart := false }
def FnExactShelfPutSaid : Prop := fnExactShelfPutRow.holds Try.pinned (OpenSpec.ofChange fnExactShelfPutSpec)

/-- ITS FALSE NEIGHBOUR: 'it returns false'. Refute it at one input. -/
def fnExactShelfPutWrong : ChangeSpec := { name := "fnExactShelfPut", fn := fun _ => fun
  | [d1, d2] => { results := [.lit (.bool false)], args := [d1, d2] }
  | _ => none }
def FnExactShelfPutWrongFalsely : Prop := fnExactShelfPutRow.holds Try.pinned (OpenSpec.ofChange fnExactShelfPutWrong)

/-- 'laws.FnExactShelfGone': WHATEVER THE INPUT: true; the input reads as it did. -/
def fnExactShelfGoneSpec : ChangeSpec := { name := "fnExactShelfGone", fn := fun _ => fun
  | [d1, d2, d3] => { results := [.lit (.bool true)], args := [d1, d2, d3] }
  | _ => none }
def fnExactShelfGoneRow : OpenClaim := { program := "ytgfhikiahhcmlaa", sum := "8b7f9d0d368dac552e37e6cb12145b0c43449c98e924039fff1150e42dbdb5b7", func := "loop.example/packageworld/laws.FnExactShelfGone", spec := "fnExactShelfGone", apart := false }
def FnExactShelfGoneSaid : Prop := fnExactShelfGoneRow.holds Try.pinned (OpenSpec.ofChange fnExactShelfGoneSpec)

/-- ITS FALSE NEIGHBOUR: 'it returns false'. Refute it at one input. -/
def fnExactShelfGoneWrong : ChangeSpec := { name := "fnExactShelfGone", fn := fun _ => fun
  | [d1, d2, d3] => { results := [.lit (.bool false)], args := [d1, d2, d3] }
  | _ => none }
def FnExactShelfGoneWrongFalsely : Prop := fnExactShelfGoneRow.holds Try.pinned (OpenSpec.ofChange fnExactShelfGoneWrong)

/-- 'laws.FnExactShelfFits': WHATEVER THE INPUT: true; the input reads as it did. -/
def fnExactShelfFitsSpec : ChangeSpec := { name := "fnExactShelfFits", fn := fun _ => fun
  | [d1, d2] => { results := [.lit (.bool true)], args := [d1, d2] }
  | _ => none }
def fnExactShelfFitsRow : OpenClaim := { program := "ytgfhikiahhcmlaa", sum := "8b7f9d0d368dac552e37e6cb12145b0c43449c98e924039fff1150e42dbdb5b7", func := "loop.example/packageworld/laws.FnExactShelfFits", spec := "fnExactShelfFits", apart := false }
def FnExactShelfFitsSaid : Prop := fnExactShelfFitsRow.holds Try.pinned (OpenSpec.ofChange fnExactShelfFitsSpec)

/-- ITS FALSE NEIGHBOUR: 'it returns false'. Refute it at one input. -/
def fnExactShelfFitsWrong : ChangeSpec := { name := "fnExactShelfFits", fn := fun _ => fun
  | [d1, d2] => { results := [.lit (.bool false)], args := [d1, d2] }
  | _ => none }
def FnExactShelfFitsWrongFalsely : Prop := fnExactShelfFitsRow.holds Try.pinned (OpenSpec.ofChange fnExactShelfFitsWrong)

/-- 'laws.FnExactShelfNames': WHATEVER THE INPUT: true; the input reads as it did. -/
def fnExactShelfNamesSpec : ChangeSpec := { name := "fnExactShelfNames", fn := fun _ => fun
  | [d1, d2] => { results := [.lit (.bool true)], args := [d1, d2] }
  | _ => none }
def fnExactShelfNamesRow : OpenClaim := { program := "ytgfhikiahhcmlaa", sum := "8b7f9d0d368dac552e37e6cb12145b0c43449c98e924039fff1150e42dbdb5b7", func := "loop.example/packageworld/laws.FnExactShelfNames", spec := "fnExactShelfNames", apart := false }
def FnExactShelfNamesSaid : Prop := fnExactShelfNamesRow.holds Try.pinned (OpenSpec.ofChange fnExactShelfNamesSpec)

/-- ITS FALSE NEIGHBOUR: 'it returns false'. Refute it at one input. -/
def fnExactShelfNamesWrong : ChangeSpec := { name := "fnExactShelfNames", fn := fun _ => fun
  | [d1, d2] => { results := [.lit (.bool false)], args := [d1, d2] }
  | _ => none }
def FnExactShelfNamesWrongFalsely : Prop := fnExactShelfNamesRow.holds Try.pinned (OpenSpec.ofChange fnExactShelfNamesWrong)

/-- 'laws.FnNeedsOk': WHATEVER THE INPUT: true; the input reads as it did. -/
def fnNeedsOkSpec : ChangeSpec := { name := "fnNeedsOk", fn := fun _ => fun
  | [d] => { results := [.lit (.bool true)], args := [d] }
  | _ => none }
def fnNeedsOkRow : OpenClaim := { program := "ytgfhikiahhcmlaa", sum := "8b7f9d0d368dac552e37e6cb12145b0c43449c98e924039fff1150e42dbdb5b7", func := "loop.example/packageworld/laws.FnNeedsOk", spec := "fnNeedsOk", apart := false }
def FnNeedsOkSaid : Prop := fnNeedsOkRow.holds Try.pinned (OpenSpec.ofChange fnNeedsOkSpec)

/-- ITS FALSE NEIGHBOUR: 'it returns false'. Refute it at one input. -/
def fnNeedsOkWrong : ChangeSpec := { name := "fnNeedsOk", fn := fun _ => fun
  | [d] => { results := [.lit (.bool false)], args := [d] }
  | _ => none }
def FnNeedsOkWrongFalsely : Prop := fnNeedsOkRow.holds Try.pinned (OpenSpec.ofChange fnNeedsOkWrong)

/-- 'laws.FnShelfOk': WHATEVER THE INPUT: true; the input reads as it did. -/
def fnShelfOkSpec : ChangeSpec := { name := "fnShelfOk", fn := fun _ => fun
  | [d] => { results := [.lit (.bool true)], args := [d] }
  | _ => none }
def fnShelfOkRow : OpenClaim := { program := "ytgfhikiahhcmlaa", sum := "8b7f9d0d368dac552e37e6cb12145b0c43449c98e924039fff1150e42dbdb5b7", func := "loop.example/packageworld/laws.FnShelfOk", spec := "fnShelfOk", apart := false }
def FnShelfOkSaid : Prop := fnShelfOkRow.holds Try.pinned (OpenSpec.ofChange fnShelfOkSpec)

/-- ITS FALSE NEIGHBOUR: 'it returns false'. Refute it at one input. -/
def fnShelfOkWrong : ChangeSpec := { name := "fnShelfOk", fn := fun _ => fun
  | [d] => { results := [.lit (.bool false)], args := [d] }
  | _ => none }
def FnShelfOkWrongFalsely : Prop := fnShelfOkRow.holds Try.pinned (OpenSpec.ofChange fnShelfOkWrong)

/-- 'laws.FnShelfAt': WHATEVER THE INPUT: true; the input reads as it did. -/
def fnShelfAtSpec : ChangeSpec := { name := "fnShelfAt", fn := fun _ => fun
  | [d] => { results := [.lit (.bool true)], args := [d] }
  | _ => none }
def fnShelfAtRow : OpenClaim := { program := "ytgfhikiahhcmlaa", sum := "8b7f9d0d368dac552e37e6cb12145b0c43449c98e924039fff1150e42dbdb5b7", func := "loop.example/packageworld/laws.FnShelfAt", spec := "fnShelfAt", apart := false }
def FnShelfAtSaid : Prop := fnShelfAtRow.holds Try.pinned (OpenSpec.ofChange fnShelfAtSpec)

/-- ITS FALSE NEIGHBOUR: 'it returns false'. Refute it at one input. -/
def fnShelfAtWrong : ChangeSpec := { name := "fnShelfAt", fn := fun _ => fun
  | [d] => { results := [.lit (.bool false)], args := [d] }
  | _ => none }
def FnShelfAtWrongFalsely : Prop := fnShelfAtRow.holds Try.pinned (OpenSpec.ofChange fnShelfAtWrong)

/- THE SECOND FORM. 'bulk': how many values and letters a reading holds, each counted each time it is reached (what is shared counts as often as it is met; a slice's spare places count too). A statement '..UptoSaid' is the law's where the arguments, and the package variables that the reading takes, are together of bulk at most 1048576: NARROWER than '..Said'. Prove '..Said' where nothing that the law and all that it calls make is longer than what came in: it says more and counts as full. Else prove '..UptoSaid'. A law counts once. -/
mutual
def uptoBulk {H : Type} : DataW H → Nat
  | .lit (.string bytes) => bytes.length + 1
  | .lit _ => 1
  | .nil => 1
  | .ptr d => uptoBulk d + 1
  | .slice elems spare => uptoBulkAll elems + uptoBulkAll spare + 1
  | .agg parts => uptoBulkAll parts + 1
  | .iface _ d => uptoBulk d + 1
  | .map entries => uptoBulkEntries entries + 1
  | .held _ => 1
def uptoBulkAll {H : Type} : List (DataW H) → Nat
  | [] => 0
  | d :: r => uptoBulk d + uptoBulkAll r
def uptoBulkEntries {H : Type} : List (Lit × DataW H) → Nat
  | [] => 0
  | x :: r => uptoBulkEntry x + uptoBulkEntries r
def uptoBulkEntry {H : Type} : Lit × DataW H → Nat
  | (.string bytes, d) => bytes.length + uptoBulk d + 1
  | (_, d) => uptoBulk d + 1
 end
def uptoSmall : (H : Type) → List (DataW H) → Bool := fun _ ds => decide (uptoBulkAll ds ≤ 1048576)
def OpenSpec.upto (s : _root_.Go.ChangeSpec) : _root_.Go.OpenSpec := { _root_.Go.OpenSpec.ofChange s with cond := some uptoSmall }

/-- 'laws.FnExactNeedsOk', WHERE WHAT IT READS IS OF BULK AT MOST 1048576: true; the input reads as it did. -/
def fnExactNeedsOkUptoRow : OpenClaim := { program := "ytgfhikiahhcmlaa", sum := "8b7f9d0d368dac552e37e6cb12145b0c43449c98e924039fff1150e42dbdb5b7", func := "loop.example/packageworld/laws.FnExactNeedsOk", spec := "fnExactNeedsOk", apart := false, narrowed := true }
def FnExactNeedsOkUptoSaid : Prop := fnExactNeedsOkUptoRow.holds Try.pinned (OpenSpec.upto fnExactNeedsOkSpec)

/-- 'laws.FnExactShelfOk', WHERE WHAT IT READS IS OF BULK AT MOST 1048576: true; the input reads as it did. -/
def fnExactShelfOkUptoRow : OpenClaim := { program := "ytgfhikiahhcmlaa", sum := "8b7f9d0d368dac552e37e6cb12145b0c43449c98e924039fff1150e42dbdb5b7", func := "loop.example/packageworld/laws.FnExactShelfOk", spec := "fnExactShelfOk", apart := false, narrowed := true }
def FnExactShelfOkUptoSaid : Prop := fnExactShelfOkUptoRow.holds Try.pinned (OpenSpec.upto fnExactShelfOkSpec)

/-- 'laws.FnExactShelfAt', WHERE WHAT IT READS IS OF BULK AT MOST 1048576: true; the input reads as it did. -/
def fnExactShelfAtUptoRow : OpenClaim := { program := "ytgfhikiahhcmlaa", sum := "8b7f9d0d368dac552e37e6cb12145b0c43449c98e924039fff1150e42dbdb5b7", func := "loop.example/packageworld/laws.FnExactShelfAt", spec := "fnExactShelfAt", apart := false, narrowed := true }
def FnExactShelfAtUptoSaid : Prop := fnExactShelfAtUptoRow.holds Try.pinned (OpenSpec.upto fnExactShelfAtSpec)

/-- 'laws.FnExactShelfPut', WHERE WHAT IT READS IS OF BULK AT MOST 1048576: true; the input reads as it did. -/
def fnExactShelfPutUptoRow : OpenClaim := { program := "ytgfhikiahhcmlaa", sum := "8b7f9d0d368dac552e37e6cb12145b0c43449c98e924039fff1150e42dbdb5b7", func := "loop.example/packageworld/laws.FnExactShelfPut", spec := "fnExactShelfPut", apart := false, narrowed := true }
def FnExactShelfPutUptoSaid : Prop := fnExactShelfPutUptoRow.holds Try.pinned (OpenSpec.upto fnExactShelfPutSpec)

/-- 'laws.FnExactShelfGone', WHERE WHAT IT READS IS OF BULK AT MOST 1048576: true; the input reads as it did. -/
def fnExactShelfGoneUptoRow : OpenClaim := { program := "ytgfhikiahhcmlaa", sum := "8b7f9d0d368dac552e37e6cb12145b0c43449c98e924039fff1150e42dbdb5b7", func := "loop.example/packageworld/laws.FnExactShelfGone", spec := "fnExactShelfGone", apart := false, narrowed := true }
def FnExactShelfGoneUptoSaid : Prop := fnExactShelfGoneUptoRow.holds Try.pinned (OpenSpec.upto fnExactShelfGoneSpec)

/-- 'laws.FnExactShelfFits', WHERE WHAT IT READS IS OF BULK AT MOST 1048576: true; the input reads as it did. -/
def fnExactShelfFitsUptoRow : OpenClaim := { program := "ytgfhikiahhcmlaa", sum := "8b7f9d0d368dac552e37e6cb12145b0c43449c98e924039fff1150e42dbdb5b7", func := "loop.example/packageworld/laws.FnExactShelfFits", spec := "fnExactShelfFits", apart := false, narrowed := true }
def FnExactShelfFitsUptoSaid : Prop := fnExactShelfFitsUptoRow.holds Try.pinned (OpenSpec.upto fnExactShelfFitsSpec)

/-- 'laws.FnExactShelfNames', WHERE WHAT IT READS IS OF BULK AT MOST 1048576: true; the input reads as it did. -/
def fnExactShelfNamesUptoRow : OpenClaim := { program := "ytgfhikiahhcmlaa", sum := "8b7f9d0d368dac552e37e6cb12145b0c43449c98e924039fff1150e42dbdb5b7", func := "loop.example/packageworld/laws.FnExactShelfNames", spec := "fnExactShelfNames", apart := false, narrowed := true }
def FnExactShelfNamesUptoSaid : Prop := fnExactShelfNamesUptoRow.holds Try.pinned (OpenSpec.upto fnExactShelfNamesSpec)

/-- 'laws.FnNeedsOk', WHERE WHAT IT READS IS OF BULK AT MOST 1048576: true; the input reads as it did. -/
def fnNeedsOkUptoRow : OpenClaim := { program := "ytgfhikiahhcmlaa", sum := "8b7f9d0d368dac552e37e6cb12145b0c43449c98e924039fff1150e42dbdb5b7", func := "loop.example/packageworld/laws.FnNeedsOk", spec := "fnNeedsOk", apart := false, narrowed := true }
def FnNeedsOkUptoSaid : Prop := fnNeedsOkUptoRow.holds Try.pinned (OpenSpec.upto fnNeedsOkSpec)

/-- 'laws.FnShelfOk', WHERE WHAT IT READS IS OF BULK AT MOST 1048576: true; the input reads as it did. -/
def fnShelfOkUptoRow : OpenClaim := { program := "ytgfhikiahhcmlaa", sum := "8b7f9d0d368dac552e37e6cb12145b0c43449c98e924039fff1150e42dbdb5b7", func := "loop.example/packageworld/laws.FnShelfOk", spec := "fnShelfOk", apart := false, narrowed := true }
def FnShelfOkUptoSaid : Prop := fnShelfOkUptoRow.holds Try.pinned (OpenSpec.upto fnShelfOkSpec)

/-- 'laws.FnShelfAt', WHERE WHAT IT READS IS OF BULK AT MOST 1048576: true; the input reads as it did. -/
def fnShelfAtUptoRow : OpenClaim := { program := "ytgfhikiahhcmlaa", sum := "8b7f9d0d368dac552e37e6cb12145b0c43449c98e924039fff1150e42dbdb5b7", func := "loop.example/packageworld/laws.FnShelfAt", spec := "fnShelfAt", apart := false, narrowed := true }
def FnShelfAtUptoSaid : Prop := fnShelfAtUptoRow.holds Try.pinned (OpenSpec.upto fnShelfAtSpec)

end Rows
end Go.Proofs.Ytgfhikiahhcmlaa
