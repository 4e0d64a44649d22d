/-
  No cell of these rows narrows 'for every input' (looked for: loops, veiled, ifaces, maps, wideKeys, modest, calm, conditions, laid).
  DERIVED. THE GIVEN ROWS OF THIS SEAT. 12 by the template 'for every input the law returns true; each argument reads behind the call as it read before'; 0 by the template 'total and deterministic' (their statements: YtigkfhgmnenplaaTotals.lean).
  GIVEN WITH THE SEED: the statements are not yours to turn. If you find one false, say at which input.
  Laid BY PROGRAM, IN A SANDBOX (cutbox-rows.mjs): the forced cells as the released guide's own fill.sh prints them over the translation 8e75afdc3ed5d1f4… (all of the seat's roots in one cut). By AI agents, Wed Nov 11 2026. No macro, syntax, notation, axiom, sorry.
-/
import Derived.Test.YtigkfhgmnenplaaChecked
import GoSem.Claim
import GoSem.ClaimJoined
import GoSem.ClaimMapViews
import Derived.JoinedTies
import Derived.KernelRfl
namespace Go.Proofs.Ytigkfhgmnenplaa
/- THE CELL 'sum', in the pinned program and in every row, IS THE sha256 OF THE DUMP (.gsa) THAT YtigkfhgmnenplaaProg.lean LOADS. Nothing in Lean hashes anything: it is a label: what it is worth is what the hold of that sum in a sandbox is worth. -/
noncomputable def Try.pinned : Pinned := { name := "ytigkfhgmnenplaa", sum := "8e75afdc3ed5d1f469ccf2fd220186a7e3451d9b75fea60663eabefd51c6429f", checked := Try.checked }
namespace Rows
def none {H : Type} : Left H := { results := [], args := [] }

/-- 'laws.FnExactShelfPut': WHATEVER THE INPUT: true; the input reads as it did. -/
def fnExactShelfPutSpec : ChangeSpec := { name := "fnExactShelfPut", fn := fun _ => fun
  | [d1, d2] => { results := [.lit (.bool true)], args := [d1, d2] }
  | _ => none }
def fnExactShelfPutRow : OpenClaim := { program := "ytigkfhgmnenplaa", sum := "8e75afdc3ed5d1f469ccf2fd220186a7e3451d9b75fea60663eabefd51c6429f", func := "loop.example/packageworld/laws.FnExactShelfPut", spec := "fnExactShelfPut", apart := false }
def FnExactShelfPutSaid : Prop := fnExactShelfPutRow.holds Try.pinned (OpenSpec.ofChange fnExactShelfPutSpec)

/-- ITS FALSE NEIGHBOUR: 'it returns false'. Refute it at one input. -/
def fnExactShelfPutWrong : ChangeSpec := { name := "fnExactShelfPut", fn := fun _ => fun
  | [d1, d2] => { results := [.lit (.bool false)], args := [d1, d2] }
  | _ => none }
def FnExactShelfPutWrongFalsely : Prop := fnExactShelfPutRow.holds Try.pinned (OpenSpec.ofChange fnExactShelfPutWrong)

/-- 'laws.FnExactShelfGone': WHATEVER THE INPUT: true; the input reads as it did. -/
def fnExactShelfGoneSpec : ChangeSpec := { name := "fnExactShelfGone", fn := fun _ => fun
  | [d1, d2, d3] => { results := [.lit (.bool true)], args := [d1, d2, d3] }
  | _ => none }
def fnExactShelfGoneRow : OpenClaim := { program := "ytigkfhgmnenplaa", sum := "8e75afdc3ed5d1f469ccf2fd220186a7e3451d9b75fea60663eabefd51c6429f", func := "loop.example/packageworld/laws.FnExactShelfGone", spec := "fnExactShelfGone", apart := false }
def FnExactShelfGoneSaid : Prop := fnExactShelfGoneRow.holds Try.pinned (OpenSpec.ofChange fnExactShelfGoneSpec)

/-- ITS FALSE NEIGHBOUR: 'it returns false'. Refute it at one input. -/
def fnExactShelfGoneWrong : ChangeSpec := { name := "fnExactShelfGone", fn := fun _ => fun
  | [d1, d2, d3] => { results := [.lit (.bool false)], args := [d1, d2, d3] }
  | _ => none }
def FnExactShelfGoneWrongFalsely : Prop := fnExactShelfGoneRow.holds Try.pinned (OpenSpec.ofChange fnExactShelfGoneWrong)

/-- 'laws.FnExactShelfNames': WHATEVER THE INPUT: true; the input reads as it did. -/
def fnExactShelfNamesSpec : ChangeSpec := { name := "fnExactShelfNames", fn := fun _ => fun
  | [d1, d2] => { results := [.lit (.bool true)], args := [d1, d2] }
  | _ => none }
def fnExactShelfNamesRow : OpenClaim := { program := "ytigkfhgmnenplaa", sum := "8e75afdc3ed5d1f469ccf2fd220186a7e3451d9b75fea60663eabefd51c6429f", func := "loop.example/packageworld/laws.FnExactShelfNames", spec := "fnExactShelfNames", apart := false }
def FnExactShelfNamesSaid : Prop := fnExactShelfNamesRow.holds Try.pinned (OpenSpec.ofChange fnExactShelfNamesSpec)

/-- ITS FALSE NEIGHBOUR: 'it returns false'. Refute it at one input. -/
def fnExactShelfNamesWrong : ChangeSpec := { name := "fnExactShelfNames", fn := fun _ => fun
  | [d1, d2] => { results := [.lit (.bool false)], args := [d1, d2] }
  | _ => none }
def FnExactShelfNamesWrongFalsely : Prop := fnExactShelfNamesRow.holds Try.pinned (OpenSpec.ofChange fnExactShelfNamesWrong)

/-- 'laws.FnExactChoiceReach': WHATEVER THE INPUT: true; the input reads as it did. -/
def fnExactChoiceReachSpec : ChangeSpec := { name := "fnExactChoiceReach", fn := fun _ => fun
  | [d1, d2, d3] => { results := [.lit (.bool true)], args := [d1, d2, d3] }
  | _ => none }
def fnExactChoiceReachRow : OpenClaim := { program := "ytigkfhgmnenplaa", sum := "8e75afdc3ed5d1f469ccf2fd220186a7e3451d9b75fea60663eabefd51c6429f", func := "loop.example/packageworld/laws.FnExactChoiceReach", spec := "fnExactChoiceReach", apart := false }
def FnExactChoiceReachSaid : Prop := fnExactChoiceReachRow.holds Try.pinned (OpenSpec.ofChange fnExactChoiceReachSpec)

/-- ITS FALSE NEIGHBOUR: 'it returns false'. Refute it at one input. -/
def fnExactChoiceReachWrong : ChangeSpec := { name := "fnExactChoiceReach", fn := fun _ => fun
  | [d1, d2, d3] => { results := [.lit (.bool false)], args := [d1, d2, d3] }
  | _ => none }
def FnExactChoiceReachWrongFalsely : Prop := fnExactChoiceReachRow.holds Try.pinned (OpenSpec.ofChange fnExactChoiceReachWrong)

/-- 'laws.FnExactChoiceFault': WHATEVER THE INPUT: true; the input reads as it did. -/
def fnExactChoiceFaultSpec : ChangeSpec := { name := "fnExactChoiceFault", fn := fun _ => fun
  | [d1, d2, d3, d4] => { results := [.lit (.bool true)], args := [d1, d2, d3, d4] }
  | _ => none }
def fnExactChoiceFaultRow : OpenClaim := { program := "ytigkfhgmnenplaa", sum := "8e75afdc3ed5d1f469ccf2fd220186a7e3451d9b75fea60663eabefd51c6429f", func := "loop.example/packageworld/laws.FnExactChoiceFault", spec := "fnExactChoiceFault", apart := false }
def FnExactChoiceFaultSaid : Prop := fnExactChoiceFaultRow.holds Try.pinned (OpenSpec.ofChange fnExactChoiceFaultSpec)

/-- ITS FALSE NEIGHBOUR: 'it returns false'. Refute it at one input. -/
def fnExactChoiceFaultWrong : ChangeSpec := { name := "fnExactChoiceFault", fn := fun _ => fun
  | [d1, d2, d3, d4] => { results := [.lit (.bool false)], args := [d1, d2, d3, d4] }
  | _ => none }
def FnExactChoiceFaultWrongFalsely : Prop := fnExactChoiceFaultRow.holds Try.pinned (OpenSpec.ofChange fnExactChoiceFaultWrong)

/-- 'laws.FnExactChoiceTrim': WHATEVER THE INPUT: true; the input reads as it did. -/
def fnExactChoiceTrimSpec : ChangeSpec := { name := "fnExactChoiceTrim", fn := fun _ => fun
  | [d1, d2, d3] => { results := [.lit (.bool true)], args := [d1, d2, d3] }
  | _ => none }
def fnExactChoiceTrimRow : OpenClaim := { program := "ytigkfhgmnenplaa", sum := "8e75afdc3ed5d1f469ccf2fd220186a7e3451d9b75fea60663eabefd51c6429f", func := "loop.example/packageworld/laws.FnExactChoiceTrim", spec := "fnExactChoiceTrim", apart := false }
def FnExactChoiceTrimSaid : Prop := fnExactChoiceTrimRow.holds Try.pinned (OpenSpec.ofChange fnExactChoiceTrimSpec)

/-- ITS FALSE NEIGHBOUR: 'it returns false'. Refute it at one input. -/
def fnExactChoiceTrimWrong : ChangeSpec := { name := "fnExactChoiceTrim", fn := fun _ => fun
  | [d1, d2, d3] => { results := [.lit (.bool false)], args := [d1, d2, d3] }
  | _ => none }
def FnExactChoiceTrimWrongFalsely : Prop := fnExactChoiceTrimRow.holds Try.pinned (OpenSpec.ofChange fnExactChoiceTrimWrong)

/-- 'laws.FnShelfFits': WHATEVER THE INPUT: true; the input reads as it did. -/
def fnShelfFitsSpec : ChangeSpec := { name := "fnShelfFits", fn := fun _ => fun
  | [d] => { results := [.lit (.bool true)], args := [d] }
  | _ => none }
def fnShelfFitsRow : OpenClaim := { program := "ytigkfhgmnenplaa", sum := "8e75afdc3ed5d1f469ccf2fd220186a7e3451d9b75fea60663eabefd51c6429f", func := "loop.example/packageworld/laws.FnShelfFits", spec := "fnShelfFits", apart := false }
def FnShelfFitsSaid : Prop := fnShelfFitsRow.holds Try.pinned (OpenSpec.ofChange fnShelfFitsSpec)

/-- ITS FALSE NEIGHBOUR: 'it returns false'. Refute it at one input. -/
def fnShelfFitsWrong : ChangeSpec := { name := "fnShelfFits", fn := fun _ => fun
  | [d] => { results := [.lit (.bool false)], args := [d] }
  | _ => none }
def FnShelfFitsWrongFalsely : Prop := fnShelfFitsRow.holds Try.pinned (OpenSpec.ofChange fnShelfFitsWrong)

/-- 'laws.FnShelfPut': WHATEVER THE INPUT: true; the input reads as it did. -/
def fnShelfPutSpec : ChangeSpec := { name := "fnShelfPut", fn := fun _ => fun
  | [d] => { results := [.lit (.bool true)], args := [d] }
  | _ => none }
def fnShelfPutRow : OpenClaim := { program := "ytigkfhgmnenplaa", sum := "8e75afdc3ed5d1f469ccf2fd220186a7e3451d9b75fea60663eabefd51c6429f", func := "loop.example/packageworld/laws.FnShelfPut", spec := "fnShelfPut", apart := false }
def FnShelfPutSaid : Prop := fnShelfPutRow.holds Try.pinned (OpenSpec.ofChange fnShelfPutSpec)

/-- ITS FALSE NEIGHBOUR: 'it returns false'. Refute it at one input. -/
def fnShelfPutWrong : ChangeSpec := { name := "fnShelfPut", fn := fun _ => fun
  | [d] => { results := [.lit (.bool false)], args := [d] }
  | _ => none }
def FnShelfPutWrongFalsely : Prop := fnShelfPutRow.holds Try.pinned (OpenSpec.ofChange fnShelfPutWrong)

/-- 'laws.FnShelfGone': WHATEVER THE INPUT: true; the input reads as it did. -/
def fnShelfGoneSpec : ChangeSpec := { name := "fnShelfGone", fn := fun _ => fun
  | [d] => { results := [.lit (.bool true)], args := [d] }
  | _ => none }
def fnShelfGoneRow : OpenClaim := { program := "ytigkfhgmnenplaa", sum := "8e75afdc3ed5d1f469ccf2fd220186a7e3451d9b75fea60663eabefd51c6429f", func := "loop.example/packageworld/laws.FnShelfGone", spec := "fnShelfGone", apart := false }
def FnShelfGoneSaid : Prop := fnShelfGoneRow.holds Try.pinned (OpenSpec.ofChange fnShelfGoneSpec)

/-- ITS FALSE NEIGHBOUR: 'it returns false'. Refute it at one input. -/
def fnShelfGoneWrong : ChangeSpec := { name := "fnShelfGone", fn := fun _ => fun
  | [d] => { results := [.lit (.bool false)], args := [d] }
  | _ => none }
def FnShelfGoneWrongFalsely : Prop := fnShelfGoneRow.holds Try.pinned (OpenSpec.ofChange fnShelfGoneWrong)

/-- 'laws.FnShelfNames': WHATEVER THE INPUT: true; the input reads as it did. -/
def fnShelfNamesSpec : ChangeSpec := { name := "fnShelfNames", fn := fun _ => fun
  | [d] => { results := [.lit (.bool true)], args := [d] }
  | _ => none }
def fnShelfNamesRow : OpenClaim := { program := "ytigkfhgmnenplaa", sum := "8e75afdc3ed5d1f469ccf2fd220186a7e3451d9b75fea60663eabefd51c6429f", func := "loop.example/packageworld/laws.FnShelfNames", spec := "fnShelfNames", apart := false }
def FnShelfNamesSaid : Prop := fnShelfNamesRow.holds Try.pinned (OpenSpec.ofChange fnShelfNamesSpec)

/-- ITS FALSE NEIGHBOUR: 'it returns false'. Refute it at one input. -/
def fnShelfNamesWrong : ChangeSpec := { name := "fnShelfNames", fn := fun _ => fun
  | [d] => { results := [.lit (.bool false)], args := [d] }
  | _ => none }
def FnShelfNamesWrongFalsely : Prop := fnShelfNamesRow.holds Try.pinned (OpenSpec.ofChange fnShelfNamesWrong)

/-- 'laws.FnChoiceReach': WHATEVER THE INPUT: true; the input reads as it did. -/
def fnChoiceReachSpec : ChangeSpec := { name := "fnChoiceReach", fn := fun _ => fun
  | [d] => { results := [.lit (.bool true)], args := [d] }
  | _ => none }
def fnChoiceReachRow : OpenClaim := { program := "ytigkfhgmnenplaa", sum := "8e75afdc3ed5d1f469ccf2fd220186a7e3451d9b75fea60663eabefd51c6429f", func := "loop.example/packageworld/laws.FnChoiceReach", spec := "fnChoiceReach", apart := false }
def FnChoiceReachSaid : Prop := fnChoiceReachRow.holds Try.pinned (OpenSpec.ofChange fnChoiceReachSpec)

/-- ITS FALSE NEIGHBOUR: 'it returns false'. Refute it at one input. -/
def fnChoiceReachWrong : ChangeSpec := { name := "fnChoiceReach", fn := fun _ => fun
  | [d] => { results := [.lit (.bool false)], args := [d] }
  | _ => none }
def FnChoiceReachWrongFalsely : Prop := fnChoiceReachRow.holds Try.pinned (OpenSpec.ofChange fnChoiceReachWrong)

/-- 'laws.FnChoiceTrim': WHATEVER THE INPUT: true; the input reads as it did. -/
def fnChoiceTrimSpec : ChangeSpec := { name := "fnChoiceTrim", fn := fun _ => fun
  | [d] => { results := [.lit (.bool true)], args := [d] }
  | _ => none }
def fnChoiceTrimRow : OpenClaim := { program := "ytigkfhgmnenplaa", sum := "8e75afdc3ed5d1f469ccf2fd220186a7e3451d9b75fea60663eabefd51c6429f", func := "loop.example/packageworld/laws.FnChoiceTrim", spec := "fnChoiceTrim", apart := false }
def FnChoiceTrimSaid : Prop := fnChoiceTrimRow.holds Try.pinned (OpenSpec.ofChange fnChoiceTrimSpec)

/-- ITS FALSE NEIGHBOUR: 'it returns false'. Refute it at one input. -/
def fnChoiceTrimWrong : ChangeSpec := { name := "fnChoiceTrim", fn := fun _ => fun
  | [d] => { results := [.lit (.bool false)], args := [d] }
  | _ => none }
def FnChoiceTrimWrongFalsely : Prop := fnChoiceTrimRow.holds Try.pinned (OpenSpec.ofChange fnChoiceTrimWrong)

/- THE SECOND FORM. 'bulk': how many values and letters a reading holds, each counted each time it is reached (what is shared counts as often as it is met; a slice's spare places count too). A statement '..UptoSaid' is the law's where the arguments, and the package variables that the reading takes, are together of bulk at most 1048576: NARROWER than '..Said'. Prove '..Said' where nothing that the law and all that it calls make is longer than what came in: it says more and counts as full. Else prove '..UptoSaid'. A law counts once. -/
mutual
def uptoBulk {H : Type} : DataW H → Nat
  | .lit (.string bytes) => bytes.length + 1
  | .lit _ => 1
  | .nil => 1
  | .ptr d => uptoBulk d + 1
  | .slice elems spare => uptoBulkAll elems + uptoBulkAll spare + 1
  | .agg parts => uptoBulkAll parts + 1
  | .iface _ d => uptoBulk d + 1
  | .map entries => uptoBulkEntries entries + 1
  | .held _ => 1
def uptoBulkAll {H : Type} : List (DataW H) → Nat
  | [] => 0
  | d :: r => uptoBulk d + uptoBulkAll r
def uptoBulkEntries {H : Type} : List (Lit × DataW H) → Nat
  | [] => 0
  | x :: r => uptoBulkEntry x + uptoBulkEntries r
def uptoBulkEntry {H : Type} : Lit × DataW H → Nat
  | (.string bytes, d) => bytes.length + uptoBulk d + 1
  | (_, d) => uptoBulk d + 1
 end
def uptoSmall : (H : Type) → List (DataW H) → Bool := fun _ ds => decide (uptoBulkAll ds ≤ 1048576)
def OpenSpec.upto (s : _root_.Go.ChangeSpec) : _root_.Go.OpenSpec := { _root_.Go.OpenSpec.ofChange s with cond := some uptoSmall }

/-- 'laws.FnExactShelfPut', WHERE WHAT IT READS IS OF BULK AT MOST 1048576: true; the input reads as it did. -/
def fnExactShelfPutUptoRow : OpenClaim := { program := "ytigkfhgmnenplaa", sum := "8e75afdc3ed5d1f469ccf2fd220186a7e3451d9b75fea60663eabefd51c6429f", func := "loop.example/packageworld/laws.FnExactShelfPut", spec := "fnExactShelfPut", apart := false, narrowed := true }
def FnExactShelfPutUptoSaid : Prop := fnExactShelfPutUptoRow.holds Try.pinned (OpenSpec.upto fnExactShelfPutSpec)

/-- 'laws.FnExactShelfGone', WHERE WHAT IT READS IS OF BULK AT MOST 1048576: true; the input reads as it did. -/
def fnExactShelfGoneUptoRow : OpenClaim := { program := "ytigkfhgmnenplaa", sum := "8e75afdc3ed5d1f469ccf2fd220186a7e3451d9b75fea60663eabefd51c6429f", func := "loop.example/packageworld/laws.FnExactShelfGone", spec := "fnExactShelfGone", apart := false, narrowed := true }
def FnExactShelfGoneUptoSaid : Prop := fnExactShelfGoneUptoRow.holds Try.pinned (OpenSpec.upto fnExactShelfGoneSpec)

/-- 'laws.FnExactShelfNames', WHERE WHAT IT READS IS OF BULK AT MOST 1048576: true; the input reads as it did. -/
def fnExactShelfNamesUptoRow : OpenClaim := { program := "ytigkfhgmnenplaa", sum := "8e75afdc3ed5d1f469ccf2fd220186a7e3451d9b75fea60663eabefd51c6429f", func := "loop.example/packageworld/laws.FnExactShelfNames", spec := "fnExactShelfNames", apart := false, narrowed := true }
def FnExactShelfNamesUptoSaid : Prop := fnExactShelfNamesUptoRow.holds Try.pinned (OpenSpec.upto fnExactShelfNamesSpec)

/-- 'laws.FnExactChoiceReach', WHERE WHAT IT READS IS OF BULK AT MOST 1048576: true; the input reads as it did. -/
def fnExactChoiceReachUptoRow : OpenClaim := { program := "ytigkfhgmnenplaa", sum := "8e75afdc3ed5d1f469ccf2fd220186a7e3451d9b75fea60663eabefd51c6429f", func := "loop.example/packageworld/laws.FnExactChoiceReach", spec := "fnExactChoiceReach", apart := false, narrowed := true }
def FnExactChoiceReachUptoSaid : Prop := fnExactChoiceReachUptoRow.holds Try.pinned (OpenSpec.upto fnExactChoiceReachSpec)

/-- 'laws.FnExactChoiceFault', WHERE WHAT IT READS IS OF BULK AT MOST 1048576: true; the input reads as it did. -/
def fnExactChoiceFaultUptoRow : OpenClaim := { program := "ytigkfhgmnenplaa", sum := "8e75afdc3ed5d1f469ccf2fd220186a7e3451d9b75fea60663eabefd51c6429f", func := "loop.example/packageworld/laws.FnExactChoiceFault", spec := "fnExactChoiceFault", apart := false, narrowed := true }
def FnExactChoiceFaultUptoSaid : Prop := fnExactChoiceFaultUptoRow.holds Try.pinned (OpenSpec.upto fnExactChoiceFaultSpec)

/-- 'laws.FnExactChoiceTrim', WHERE WHAT IT READS IS OF BULK AT MOST 1048576: true; the input reads as it did. -/
def fnExactChoiceTrimUptoRow : OpenClaim := { program := "ytigkfhgmnenplaa", sum := "8e75afdc3ed5d1f469ccf2fd220186a7e3451d9b75fea60663eabefd51c6429f", func := "loop.example/packageworld/laws.FnExactChoiceTrim", spec := "fnExactChoiceTrim", apart := false, narrowed := true }
def FnExactChoiceTrimUptoSaid : Prop := fnExactChoiceTrimUptoRow.holds Try.pinned (OpenSpec.upto fnExactChoiceTrimSpec)

/-- 'laws.FnShelfFits', WHERE WHAT IT READS IS OF BULK AT MOST 1048576: true; the input reads as it did. -/
def fnShelfFitsUptoRow : OpenClaim := { program := "ytigkfhgmnenplaa", sum := "8e75afdc3ed5d1f469ccf2fd220186a7e3451d9b75fea60663eabefd51c6429f", func := "loop.example/packageworld/laws.FnShelfFits", spec := "fnShelfFits", apart := false, narrowed := true }
def FnShelfFitsUptoSaid : Prop := fnShelfFitsUptoRow.holds Try.pinned (OpenSpec.upto fnShelfFitsSpec)

/-- 'laws.FnShelfPut', WHERE WHAT IT READS IS OF BULK AT MOST 1048576: true; the input reads as it did. -/
def fnShelfPutUptoRow : OpenClaim := { program := "ytigkfhgmnenplaa", sum := "8e75afdc3ed5d1f469ccf2fd220186a7e3451d9b75fea60663eabefd51c6429f", func := "loop.example/packageworld/laws.FnShelfPut", spec := "fnShelfPut", apart := false, narrowed := true }
def FnShelfPutUptoSaid : Prop := fnShelfPutUptoRow.holds Try.pinned (OpenSpec.upto fnShelfPutSpec)

/-- 'laws.FnShelfGone', WHERE WHAT IT READS IS OF BULK AT MOST 1048576: true; the input reads as it did. -/
def fnShelfGoneUptoRow : OpenClaim := { program := "ytigkfhgmnenplaa", sum := "8e75afdc3ed5d1f469ccf2fd220186a7e3451d9b75fea60663eabefd51c6429f", func := "loop.example/packageworld/laws.FnShelfGone", spec := "fnShelfGone", apart := false, narrowed := true }
def FnShelfGoneUptoSaid : Prop := fnShelfGoneUptoRow.holds Try.pinned (OpenSpec.upto fnShelfGoneSpec)

/-- 'laws.FnShelfNames', WHERE WHAT IT READS IS OF BULK AT MOST 1048576: true; the input reads as it did. -/
def fnShelfNamesUptoRow : OpenClaim := { program := "ytigkfhgmnenplaa", sum := "8e75afdc3ed5d1f469ccf2fd220186a7e3451d9b75fea60663eabefd51c6429f", func := "loop.example/packageworld/laws.FnShelfNames", spec := "fnShelfNames", apart := false, narrowed := true }
def FnShelfNamesUptoSaid : Prop := fnShelfNamesUptoRow.holds Try.pinned (OpenSpec.upto fnShelfNamesSpec)

/-- 'laws.FnChoiceReach', WHERE WHAT IT READS IS OF BULK AT MOST 1048576: true; the input reads as it did. -/
def fnChoiceReachUptoRow : OpenClaim := { program := "ytigkfhgmnenplaa", sum := "8e75afdc3ed5d1f469ccf2fd220186a7e3451d9b75fea60663eabefd51c6429f", func := "loop.example/packageworld/laws.FnChoiceReach", spec := "fnChoiceReach", apart := false, narrowed := true }
def FnChoiceReachUptoSaid : Prop := fnChoiceReachUptoRow.holds Try.pinned (OpenSpec.upto fnChoiceReachSpec)

/-- 'laws.FnChoiceTrim', WHERE WHAT IT READS IS OF BULK AT MOST 1048576: true; the input reads as it did. -/
def fnChoiceTrimUptoRow : OpenClaim := { program := "ytigkfhgmnenplaa", sum := "8e75afdc3ed5d1f469ccf2fd220186a7e3451d9b75fea60663eabefd51c6429f", func := "loop.example/packageworld/laws.FnChoiceTrim", spec := "fnChoiceTrim", apart := false, narrowed := true }
def FnChoiceTrimUptoSaid : Prop := fnChoiceTrimUptoRow.holds Try.pinned (OpenSpec.upto fnChoiceTrimSpec)

end Rows
end Go.Proofs.Ytigkfhgmnenplaa
