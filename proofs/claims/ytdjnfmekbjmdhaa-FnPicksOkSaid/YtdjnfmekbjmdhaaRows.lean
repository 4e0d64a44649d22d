/-
  No cell of these rows narrows 'for every input' (looked for: loops, veiled, ifaces, maps, wideKeys, modest, calm, conditions, laid).
  DERIVED. THE GIVEN ROWS OF THIS SEAT. 12 by the template 'for every input the law returns true; each argument reads behind the call as it read before'; 0 by the template 'total and deterministic' (their statements: YtdjnfmekbjmdhaaTotals.lean).
  GIVEN WITH THE SEED: the statements are not yours to turn. If you find one false, say at which input.
  Laid BY PROGRAM, IN A SANDBOX (cutbox-rows.mjs): the forced cells as the released guide's own fill.sh prints them over the translation c2416a312b922752… (all of the seat's roots in one cut). By AI agents, Wed Nov 11 2026. No macro, syntax, notation, axiom, sorry.
-/
import Derived.Test.YtdjnfmekbjmdhaaChecked
import GoSem.Claim
import GoSem.ClaimJoined
import GoSem.ClaimMapViews
import Derived.JoinedTies
import Derived.KernelRfl
namespace Go.Proofs.Ytdjnfmekbjmdhaa
/- THE CELL 'sum', in the pinned program and in every row, IS THE sha256 OF THE DUMP (.gsa) THAT YtdjnfmekbjmdhaaProg.lean LOADS. Nothing in Lean hashes anything: it is a label: what it is worth is what the hold of that sum in a sandbox is worth. -/
noncomputable def Try.pinned : Pinned := { name := "ytdjnfmekbjmdhaa", sum := "c2416a312b922752775bb712fc499f246f5c4632ff25df0b8276f0559939bf3c", checked := Try.checked }
namespace Rows
def none {H : Type} : Left H := { results := [], args := [] }

/-- 'laws.FnExactShelfAt': WHATEVER THE INPUT: true; the input reads as it did. -/
def fnExactShelfAtSpec : ChangeSpec := { name := "fnExactShelfAt", fn := fun _ => fun
  | [d1, d2, d3] => { results := [.lit (.bool true)], args := [d1, d2, d3] }
  | _ => none }
def fnExactShelfAtRow : OpenClaim := { program := "ytdjnfmekbjmdhaa", sum := "c2416a312b922752775bb712fc499f246f5c4632ff25df0b8276f0559939bf3c", func := "loop.example/packageworld/laws.FnExactShelfAt", spec := "fnExactShelfAt", apart := false }
def FnExactShelfAtSaid : Prop := fnExactShelfAtRow.holds Try.pinned (OpenSpec.ofChange fnExactShelfAtSpec)

/-- ITS FALSE NEIGHBOUR: 'it returns false'. Refute it at one input. -/
def fnExactShelfAtWrong : ChangeSpec := { name := "fnExactShelfAt", fn := fun _ => fun
  | [d1, d2, d3] => { results := [.lit (.bool false)], args := [d1, d2, d3] }
  | _ => none }
def FnExactShelfAtWrongFalsely : Prop := fnExactShelfAtRow.holds Try.pinned (OpenSpec.ofChange fnExactShelfAtWrong)

/-- 'laws.FnExactShelfPut': WHATEVER THE INPUT: true; the input reads as it did. -/
def fnExactShelfPutSpec : ChangeSpec := { name := "fnExactShelfPut", fn := fun _ => fun
  | [d1, d2] => { results := [.lit (.bool true)], args := [d1, d2] }
  | _ => none }
def fnExactShelfPutRow : OpenClaim := { program := "ytdjnfmekbjmdhaa", sum := "c2416a312b922752775bb712fc499f246f5c4632ff25df0b8276f0559939bf3c", func := "loop.example/packageworld/laws.FnExactShelfPut", spec := "fnExactShelfPut", apart := false }
def FnExactShelfPutSaid : Prop := fnExactShelfPutRow.holds Try.pinned (OpenSpec.ofChange fnExactShelfPutSpec)

/-- ITS FALSE NEIGHBOUR: 'it returns false'. Refute it at one input. -/
def fnExactShelfPutWrong : ChangeSpec := { name := "fnExactShelfPut", fn := fun _ => fun
  | [d1, d2] => { results := [.lit (.bool false)], args := [d1, d2] }
  | _ => none }
def FnExactShelfPutWrongFalsely : Prop := fnExactShelfPutRow.holds Try.pinned (OpenSpec.ofChange fnExactShelfPutWrong)

/-- 'laws.FnExactShelfGone': WHATEVER THE INPUT: true; the input reads as it did. -/
def fnExactShelfGoneSpec : ChangeSpec := { name := "fnExactShelfGone", fn := fun _ => fun
  | [d1, d2, d3] => { results := [.lit (.bool true)], args := [d1, d2, d3] }
  | _ => none }
def fnExactShelfGoneRow : OpenClaim := { program := "ytdjnfmekbjmdhaa", sum := "c2416a312b922752775bb712fc499f246f5c4632ff25df0b8276f0559939bf3c", func := "loop.example/packageworld/laws.FnExactShelfGone", spec := "fnExactShelfGone", apart := false }
def FnExactShelfGoneSaid : Prop := fnExactShelfGoneRow.holds Try.pinned (OpenSpec.ofChange fnExactShelfGoneSpec)

/-- ITS FALSE NEIGHBOUR: 'it returns false'. Refute it at one input. -/
def fnExactShelfGoneWrong : ChangeSpec := { name := "fnExactShelfGone", fn := fun _ => fun
  | [d1, d2, d3] => { results := [.lit (.bool false)], args := [d1, d2, d3] }
  | _ => none }
def FnExactShelfGoneWrongFalsely : Prop := fnExactShelfGoneRow.holds Try.pinned (OpenSpec.ofChange fnExactShelfGoneWrong)

/-- 'laws.FnExactShelfNames': WHATEVER THE INPUT: true; the input reads as it did. -/
def fnExactShelfNamesSpec : ChangeSpec := { name := "fnExactShelfNames", fn := fun _ => fun
  | [d1, d2] => { results := [.lit (.bool true)], args := [d1, d2] }
  | _ => none }
def fnExactShelfNamesRow : OpenClaim := { program := "ytdjnfmekbjmdhaa", sum := "c2416a312b922752775bb712fc499f246f5c4632ff25df0b8276f0559939bf3c", func := "loop.example/packageworld/laws.FnExactShelfNames", spec := "fnExactShelfNames", apart := false }
def FnExactShelfNamesSaid : Prop := fnExactShelfNamesRow.holds Try.pinned (OpenSpec.ofChange fnExactShelfNamesSpec)

/-- ITS FALSE NEIGHBOUR: 'it returns false'. Refute it at one input. -/
def fnExactShelfNamesWrong : ChangeSpec := { name := "fnExactShelfNames", fn := fun _ => fun
  | [d1, d2] => { results := [.lit (.bool false)], args := [d1, d2] }
  | _ => none }
def FnExactShelfNamesWrongFalsely : Prop := fnExactShelfNamesRow.holds Try.pinned (OpenSpec.ofChange fnExactShelfNamesWrong)

/-- 'laws.FnExactPicksOk': WHATEVER THE INPUT: true; the input reads as it did. -/
def fnExactPicksOkSpec : ChangeSpec := { name := "fnExactPicksOk", fn := fun _ => fun
  | [d] => { results := [.lit (.bool true)], args := [d] }
  | _ => none }
def fnExactPicksOkRow : OpenClaim := { program := "ytdjnfmekbjmdhaa", sum := "c2416a312b922752775bb712fc499f246f5c4632ff25df0b8276f0559939bf3c", func := "loop.example/packageworld/laws.FnExactPicksOk", spec := "fnExactPicksOk", apart := false }
def FnExactPicksOkSaid : Prop := fnExactPicksOkRow.holds Try.pinned (OpenSpec.ofChange fnExactPicksOkSpec)

/-- ITS FALSE NEIGHBOUR: 'it returns false'. Refute it at one input. -/
def fnExactPicksOkWrong : ChangeSpec := { name := "fnExactPicksOk", fn := fun _ => fun
  | [d] => { results := [.lit (.bool false)], args := [d] }
  | _ => none }
def FnExactPicksOkWrongFalsely : Prop := fnExactPicksOkRow.holds Try.pinned (OpenSpec.ofChange fnExactPicksOkWrong)

/-- 'laws.FnExactPickOf': WHATEVER THE INPUT: true; the input reads as it did. -/
def fnExactPickOfSpec : ChangeSpec := { name := "fnExactPickOf", fn := fun _ => fun
  | [d1, d2] => { results := [.lit (.bool true)], args := [d1, d2] }
  | _ => none }
def fnExactPickOfRow : OpenClaim := { program := "ytdjnfmekbjmdhaa", sum := "c2416a312b922752775bb712fc499f246f5c4632ff25df0b8276f0559939bf3c", func := "loop.example/packageworld/laws.FnExactPickOf", spec := "fnExactPickOf", apart := false }
def FnExactPickOfSaid : Prop := fnExactPickOfRow.holds Try.pinned (OpenSpec.ofChange fnExactPickOfSpec)

/-- ITS FALSE NEIGHBOUR: 'it returns false'. Refute it at one input. -/
def fnExactPickOfWrong : ChangeSpec := { name := "fnExactPickOf", fn := fun _ => fun
  | [d1, d2] => { results := [.lit (.bool false)], args := [d1, d2] }
  | _ => none }
def FnExactPickOfWrongFalsely : Prop := fnExactPickOfRow.holds Try.pinned (OpenSpec.ofChange fnExactPickOfWrong)

/-- 'laws.FnExactChoiceReach': WHATEVER THE INPUT: true; the input reads as it did. -/
def fnExactChoiceReachSpec : ChangeSpec := { name := "fnExactChoiceReach", fn := fun _ => fun
  | [d1, d2, d3] => { results := [.lit (.bool true)], args := [d1, d2, d3] }
  | _ => none }
def fnExactChoiceReachRow : OpenClaim := { program := "ytdjnfmekbjmdhaa", sum := "c2416a312b922752775bb712fc499f246f5c4632ff25df0b8276f0559939bf3c", func := "loop.example/packageworld/laws.FnExactChoiceReach", spec := "fnExactChoiceReach", apart := false }
def FnExactChoiceReachSaid : Prop := fnExactChoiceReachRow.holds Try.pinned (OpenSpec.ofChange fnExactChoiceReachSpec)

/-- ITS FALSE NEIGHBOUR: 'it returns false'. Refute it at one input. -/
def fnExactChoiceReachWrong : ChangeSpec := { name := "fnExactChoiceReach", fn := fun _ => fun
  | [d1, d2, d3] => { results := [.lit (.bool false)], args := [d1, d2, d3] }
  | _ => none }
def FnExactChoiceReachWrongFalsely : Prop := fnExactChoiceReachRow.holds Try.pinned (OpenSpec.ofChange fnExactChoiceReachWrong)

/-- 'laws.FnExactChoiceFault': WHATEVER THE INPUT: true; the input reads as it did. -/
def fnExactChoiceFaultSpec : ChangeSpec := { name := "fnExactChoiceFault", fn := fun _ => fun
  | [d1, d2, d3, d4] => { results := [.lit (.bool true)], args := [d1, d2, d3, d4] }
  | _ => none }
def fnExactChoiceFaultRow : OpenClaim := { program := "ytdjnfmekbjmdhaa", sum := "c2416a312b922752775bb712fc499f246f5c4632ff25df0b8276f0559939bf3c", func := "loop.example/packageworld/laws.FnExactChoiceFault", spec := "fnExactChoiceFault", apart := false }
def FnExactChoiceFaultSaid : Prop := fnExactChoiceFaultRow.holds Try.pinned (OpenSpec.ofChange fnExactChoiceFaultSpec)

/-- ITS FALSE NEIGHBOUR: 'it returns false'. Refute it at one input. -/
def fnExactChoiceFaultWrong : ChangeSpec := { name := "fnExactChoiceFault", fn := fun _ => fun
  | [d1, d2, d3, d4] => { results := [.lit (.bool false)], args := [d1, d2, d3, d4] }
  | _ => none }
def FnExactChoiceFaultWrongFalsely : Prop := fnExactChoiceFaultRow.holds Try.pinned (OpenSpec.ofChange fnExactChoiceFaultWrong)

/-- 'laws.FnExactChoiceTrim': WHATEVER THE INPUT: true; the input reads as it did. -/
def fnExactChoiceTrimSpec : ChangeSpec := { name := "fnExactChoiceTrim", fn := fun _ => fun
  | [d1, d2, d3] => { results := [.lit (.bool true)], args := [d1, d2, d3] }
  | _ => none }
def fnExactChoiceTrimRow : OpenClaim := { program := "ytdjnfmekbjmdhaa", sum := "c2416a312b922752775bb712fc499f246f5c4632ff25df0b8276f0559939bf3c", func := "loop.example/packageworld/laws.FnExactChoiceTrim", spec := "fnExactChoiceTrim", apart := false }
def FnExactChoiceTrimSaid : Prop := fnExactChoiceTrimRow.holds Try.pinned (OpenSpec.ofChange fnExactChoiceTrimSpec)

/-- ITS FALSE NEIGHBOUR: 'it returns false'. Refute it at one input. -/
def fnExactChoiceTrimWrong : ChangeSpec := { name := "fnExactChoiceTrim", fn := fun _ => fun
  | [d1, d2, d3] => { results := [.lit (.bool false)], args := [d1, d2, d3] }
  | _ => none }
def FnExactChoiceTrimWrongFalsely : Prop := fnExactChoiceTrimRow.holds Try.pinned (OpenSpec.ofChange fnExactChoiceTrimWrong)

/-- 'laws.FnExactChoiceBetter': WHATEVER THE INPUT: true; the input reads as it did. -/
def fnExactChoiceBetterSpec : ChangeSpec := { name := "fnExactChoiceBetter", fn := fun _ => fun
  | [d1, d2] => { results := [.lit (.bool true)], args := [d1, d2] }
  | _ => none }
def fnExactChoiceBetterRow : OpenClaim := { program := "ytdjnfmekbjmdhaa", sum := "c2416a312b922752775bb712fc499f246f5c4632ff25df0b8276f0559939bf3c", func := "loop.example/packageworld/laws.FnExactChoiceBetter", spec := "fnExactChoiceBetter", apart := false }
def FnExactChoiceBetterSaid : Prop := fnExactChoiceBetterRow.holds Try.pinned (OpenSpec.ofChange fnExactChoiceBetterSpec)

/-- ITS FALSE NEIGHBOUR: 'it returns false'. Refute it at one input. -/
def fnExactChoiceBetterWrong : ChangeSpec := { name := "fnExactChoiceBetter", fn := fun _ => fun
  | [d1, d2] => { results := [.lit (.bool false)], args := [d1, d2] }
  | _ => none }
def FnExactChoiceBetterWrongFalsely : Prop := fnExactChoiceBetterRow.holds Try.pinned (OpenSpec.ofChange fnExactChoiceBetterWrong)

/-- 'laws.FnPicksOk': WHATEVER THE INPUT: true; the input reads as it did. -/
def fnPicksOkSpec : ChangeSpec := { name := "fnPicksOk", fn := fun _ => fun
  | [d] => { results := [.lit (.bool true)], args := [d] }
  | _ => none }
def fnPicksOkRow : OpenClaim := { program := "ytdjnfmekbjmdhaa", sum := "c2416a312b922752775bb712fc499f246f5c4632ff25df0b8276f0559939bf3c", func := "loop.example/packageworld/laws.FnPicksOk", spec := "fnPicksOk", apart := false }
def FnPicksOkSaid : Prop := fnPicksOkRow.holds Try.pinned (OpenSpec.ofChange fnPicksOkSpec)

/-- ITS FALSE NEIGHBOUR: 'it returns false'. Refute it at one input. -/
def fnPicksOkWrong : ChangeSpec := { name := "fnPicksOk", fn := fun _ => fun
  | [d] => { results := [.lit (.bool false)], args := [d] }
  | _ => none }
def FnPicksOkWrongFalsely : Prop := fnPicksOkRow.holds Try.pinned (OpenSpec.ofChange fnPicksOkWrong)

/-- 'laws.FnShelfOk': WHATEVER THE INPUT: true; the input reads as it did. -/
def fnShelfOkSpec : ChangeSpec := { name := "fnShelfOk", fn := fun _ => fun
  | [d] => { results := [.lit (.bool true)], args := [d] }
  | _ => none }
def fnShelfOkRow : OpenClaim := { program := "ytdjnfmekbjmdhaa", sum := "c2416a312b922752775bb712fc499f246f5c4632ff25df0b8276f0559939bf3c", func := "loop.example/packageworld/laws.FnShelfOk", spec := "fnShelfOk", apart := false }
def FnShelfOkSaid : Prop := fnShelfOkRow.holds Try.pinned (OpenSpec.ofChange fnShelfOkSpec)

/-- ITS FALSE NEIGHBOUR: 'it returns false'. Refute it at one input. -/
def fnShelfOkWrong : ChangeSpec := { name := "fnShelfOk", fn := fun _ => fun
  | [d] => { results := [.lit (.bool false)], args := [d] }
  | _ => none }
def FnShelfOkWrongFalsely : Prop := fnShelfOkRow.holds Try.pinned (OpenSpec.ofChange fnShelfOkWrong)

/- THE SECOND FORM. 'bulk': how many values and letters a reading holds, each counted each time it is reached (what is shared counts as often as it is met; a slice's spare places count too). A statement '..UptoSaid' is the law's where the arguments, and the package variables that the reading takes, are together of bulk at most 1048576: NARROWER than '..Said'. Prove '..Said' where nothing that the law and all that it calls make is longer than what came in: it says more and counts as full. Else prove '..UptoSaid'. A law counts once. -/
mutual
def uptoBulk {H : Type} : DataW H → Nat
  | .lit (.string bytes) => bytes.length + 1
  | .lit _ => 1
  | .nil => 1
  | .ptr d => uptoBulk d + 1
  | .slice elems spare => uptoBulkAll elems + uptoBulkAll spare + 1
  | .agg parts => uptoBulkAll parts + 1
  | .iface _ d => uptoBulk d + 1
  | .map entries => uptoBulkEntries entries + 1
  | .held _ => 1
def uptoBulkAll {H : Type} : List (DataW H) → Nat
  | [] => 0
  | d :: r => uptoBulk d + uptoBulkAll r
def uptoBulkEntries {H : Type} : List (Lit × DataW H) → Nat
  | [] => 0
  | x :: r => uptoBulkEntry x + uptoBulkEntries r
def uptoBulkEntry {H : Type} : Lit × DataW H → Nat
  | (.string bytes, d) => bytes.length + uptoBulk d + 1
  | (_, d) => uptoBulk d + 1
 end
def uptoSmall : (H : Type) → List (DataW H) → Bool := fun _ ds => decide (uptoBulkAll ds ≤ 1048576)
def OpenSpec.upto (s : _root_.Go.ChangeSpec) : _root_.Go.OpenSpec := { _root_.Go.OpenSpec.ofChange s with cond := some uptoSmall }

/-- 'laws.FnExactShelfAt', WHERE WHAT IT READS IS OF BULK AT MOST 1048576: true; the input reads as it did. -/
def fnExactShelfAtUptoRow : OpenClaim := { program := "ytdjnfmekbjmdhaa", sum := "c2416a312b922752775bb712fc499f246f5c4632ff25df0b8276f0559939bf3c", func := "loop.example/packageworld/laws.FnExactShelfAt", spec := "fnExactShelfAt", apart := false, narrowed := true }
def FnExactShelfAtUptoSaid : Prop := fnExactShelfAtUptoRow.holds Try.pinned (OpenSpec.upto fnExactShelfAtSpec)

/-- 'laws.FnExactShelfPut', WHERE WHAT IT READS IS OF BULK AT MOST 1048576: true; the input reads as it did. -/
def fnExactShelfPutUptoRow : OpenClaim := { program := "ytdjnfmekbjmdhaa", sum := "c2416a312b922752775bb712fc499f246f5c4632ff25df0b8276f0559939bf3c", func := "loop.example/packageworld/laws.FnExactShelfPut", spec := "fnExactShelfPut", apart := false, narrowed := true }
def FnExactShelfPutUptoSaid : Prop := fnExactShelfPutUptoRow.holds Try.pinned (OpenSpec.upto fnExactShelfPutSpec)

/-- 'laws.FnExactShelfGone', WHERE WHAT IT READS IS OF BULK AT MOST 1048576: true; the input reads as it did. -/
def fnExactShelfGoneUptoRow : OpenClaim := { program := "ytdjnfmekbjmdhaa", sum := "c2416a312b922752775bb712fc499f246f5c4632ff25df0b8276f0559939bf3c", func := "loop.example/packageworld/laws.FnExactShelfGone", spec := "fnExactShelfGone", apart := false, narrowed := true }
def FnExactShelfGoneUptoSaid : Prop := fnExactShelfGoneUptoRow.holds Try.pinned (OpenSpec.upto fnExactShelfGoneSpec)

/-- 'laws.FnExactShelfNames', WHERE WHAT IT READS IS OF BULK AT MOST 1048576: true; the input reads as it did. -/
def fnExactShelfNamesUptoRow : OpenClaim := { program := "ytdjnfmekbjmdhaa", sum := "c2416a312b922752775bb712fc499f246f5c4632ff25df0b8276f0559939bf3c", func := "loop.example/packageworld/laws.FnExactShelfNames", spec := "fnExactShelfNames", apart := false, narrowed := true }
def FnExactShelfNamesUptoSaid : Prop := fnExactShelfNamesUptoRow.holds Try.pinned (OpenSpec.upto fnExactShelfNamesSpec)

/-- 'laws.FnExactPicksOk', WHERE WHAT IT READS IS OF BULK AT MOST 1048576: true; the input reads as it did. -/
def fnExactPicksOkUptoRow : OpenClaim := { program := "ytdjnfmekbjmdhaa", sum := "c2416a312b922752775bb712fc499f246f5c4632ff25df0b8276f0559939bf3c", func := "loop.example/packageworld/laws.FnExactPicksOk", spec := "fnExactPicksOk", apart := false, narrowed := true }
def FnExactPicksOkUptoSaid : Prop := fnExactPicksOkUptoRow.holds Try.pinned (OpenSpec.upto fnExactPicksOkSpec)

/-- 'laws.FnExactPickOf', WHERE WHAT IT READS IS OF BULK AT MOST 1048576: true; the input reads as it did. -/
def fnExactPickOfUptoRow : OpenClaim := { program := "ytdjnfmekbjmdhaa", sum := "c2416a312b922752775bb712fc499f246f5c4632ff25df0b8276f0559939bf3c", func := "loop.example/packageworld/laws.FnExactPickOf", spec := "fnExactPickOf", apart := false, narrowed := true }
def FnExactPickOfUptoSaid : Prop := fnExactPickOfUptoRow.holds Try.pinned (OpenSpec.upto fnExactPickOfSpec)

/-- 'laws.FnExactChoiceReach', WHERE WHAT IT READS IS OF BULK AT MOST 1048576: true; the input reads as it did. -/
def fnExactChoiceReachUptoRow : OpenClaim := { program := "ytdjnfmekbjmdhaa", sum := "c2416a312b922752775bb712fc499f246f5c4632ff25df0b8276f0559939bf3c", func := "loop.example/packageworld/laws.FnExactChoiceReach", spec := "fnExactChoiceReach", apart := false, narrowed := true }
def FnExactChoiceReachUptoSaid : Prop := fnExactChoiceReachUptoRow.holds Try.pinned (OpenSpec.upto fnExactChoiceReachSpec)

/-- 'laws.FnExactChoiceFault', WHERE WHAT IT READS IS OF BULK AT MOST 1048576: true; the input reads as it did. -/
def fnExactChoiceFaultUptoRow : OpenClaim := { program := "ytdjnfmekbjmdhaa", sum := "c2416a312b922752775bb712fc499f246f5c4632ff25df0b8276f0559939bf3c", func := "loop.example/packageworld/laws.FnExactChoiceFault", spec := "fnExactChoiceFault", apart := false, narrowed := true }
def FnExactChoiceFaultUptoSaid : Prop := fnExactChoiceFaultUptoRow.holds Try.pinned (OpenSpec.upto fnExactChoiceFaultSpec)

/-- 'laws.FnExactChoiceTrim', WHERE WHAT IT READS IS OF BULK AT MOST 1048576: true; the input reads as it did. -/
def fnExactChoiceTrimUptoRow : OpenClaim := { program := "ytdjnfmekbjmdhaa", sum := "c2416a312b922752775bb712fc499f246f5c4632ff25df0b8276f0559939bf3c", func := "loop.example/packageworld/laws.FnExactChoiceTrim", spec := "fnExactChoiceTrim", apart := false, narrowed := true }
def FnExactChoiceTrimUptoSaid : Prop := fnExactChoiceTrimUptoRow.holds Try.pinned (OpenSpec.upto fnExactChoiceTrimSpec)

/-- 'laws.FnExactChoiceBetter', WHERE WHAT IT READS IS OF BULK AT MOST 1048576: true; the input reads as it did. -/
def fnExactChoiceBetterUptoRow : OpenClaim := { program := "ytdjnfmekbjmdhaa", sum := "c2416a312b922752775bb712fc499f246f5c4632ff25df0b8276f0559939bf3c", func := "loop.example/packageworld/laws.FnExactChoiceBetter", spec := "fnExactChoiceBetter", apart := false, narrowed := true }
def FnExactChoiceBetterUptoSaid : Prop := fnExactChoiceBetterUptoRow.holds Try.pinned (OpenSpec.upto fnExactChoiceBetterSpec)

/-- 'laws.FnPicksOk', WHERE WHAT IT READS IS OF BULK AT MOST 1048576: true; the input reads as it did. -/
def fnPicksOkUptoRow : OpenClaim := { program := "ytdjnfmekbjmdhaa", sum := "c2416a312b922752775bb712fc499f246f5c4632ff25df0b8276f0559939bf3c", func := "loop.example/packageworld/laws.FnPicksOk", spec := "fnPicksOk", apart := false, narrowed := true }
def FnPicksOkUptoSaid : Prop := fnPicksOkUptoRow.holds Try.pinned (OpenSpec.upto fnPicksOkSpec)

/-- 'laws.FnShelfOk', WHERE WHAT IT READS IS OF BULK AT MOST 1048576: true; the input reads as it did. -/
def fnShelfOkUptoRow : OpenClaim := { program := "ytdjnfmekbjmdhaa", sum := "c2416a312b922752775bb712fc499f246f5c4632ff25df0b8276f0559939bf3c", func := "loop.example/packageworld/laws.FnShelfOk", spec := "fnShelfOk", apart := false, narrowed := true }
def FnShelfOkUptoSaid : Prop := fnShelfOkUptoRow.holds Try.pinned (OpenSpec.upto fnShelfOkSpec)

end Rows
end Go.Proofs.Ytdjnfmekbjmdhaa
