/-
  No cell of these rows narrows 'for every input' (looked for: loops, veiled, ifaces, maps, wideKeys, modest, calm, conditions, laid).
  DERIVED. THE GIVEN ROWS OF THIS SEAT. 4 by the template 'for every input the law returns true; each argument reads behind the call as it read before'; 0 by the template 'total and deterministic' (their statements: YtblecmmebmfhiaaTotals.lean).
  GIVEN WITH THE SEED: the statements are not yours to turn. If you find one false, say at which input.
  Laid BY PROGRAM, IN A SANDBOX (cutbox-rows.mjs): the forced cells as the released guide's own fill.sh prints them over the translation c1e2f04411cb417f… (all of the seat's roots in one cut). By AI agents, Wed Nov 11 2026. No macro, syntax, notation, axiom, sorry.
-/
import Derived.Test.YtblecmmebmfhiaaChecked
import GoSem.Claim
import GoSem.ClaimJoined
import GoSem.ClaimMapViews
import Derived.JoinedTies
import Derived.KernelRfl
namespace Go.Proofs.Ytblecmmebmfhiaa
/- THE CELL 'sum', in the pinned program and in every row, IS THE sha256 OF THE DUMP (.gsa) THAT YtblecmmebmfhiaaProg.lean LOADS. Nothing in Lean hashes anything: it is a label: what it is worth is what the hold of that sum in a sandbox is worth. -/
noncomputable def Try.pinned : Pinned := { name := "ytblecmmebmfhiaa", sum := "c1e2f04411cb417fbfe43bf57988c172b6166e2d475a7f42933143e773ebeb03", checked := Try.checked }
namespace Rows
def none {H : Type} : Left H := { results := [], args := [] }

/-- 'laws.FnShelfAt': WHATEVER THE INPUT: true; the input reads as it did. -/
def fnShelfAtSpec : ChangeSpec := { name := "fnShelfAt", fn := fun _ => fun
  | [d] => { results := [.lit (.bool true)], args := [d] }
  | _ => none }
def fnShelfAtRow : OpenClaim := { program := "ytblecmmebmfhiaa", sum := "c1e2f04411cb417fbfe43bf57988c172b6166e2d475a7f42933143e773ebeb03", func := "loop.example/packageworld/laws.FnShelfAt", spec := "fnShelfAt", apart := false }
def FnShelfAtSaid : Prop := fnShelfAtRow.holds Try.pinned (OpenSpec.ofChange fnShelfAtSpec)

/-- ITS FALSE NEIGHBOUR: 'it returns false'. Refute it at one input. -/
def fnShelfAtWrong : ChangeSpec := { name := "fnShelfAt", fn := fun _ => fun
  | [d] => { results := [.lit (.bool false)], args := [d] }
  | _ => none }
def FnShelfAtWrongFalsely : Prop := fnShelfAtRow.holds Try.pinned (OpenSpec.ofChange fnShelfAtWrong)

/-- 'laws.FnShelfFits': WHATEVER THE INPUT: true; the input reads as it did. -/
def fnShelfFitsSpec : ChangeSpec := { name := "fnShelfFits", fn := fun _ => fun
  | [d] => { results := [.lit (.bool true)], args := [d] }
  | _ => none }
def fnShelfFitsRow : OpenClaim := { program := "ytblecmmebmfhiaa", sum := "c1e2f04411cb417fbfe43bf57988c172b6166e2d475a7f42933143e773ebeb03", func := "loop.example/packageworld/laws.FnShelfFits", spec := "fnShelfFits", apart := false }
def FnShelfFitsSaid : Prop := fnShelfFitsRow.holds Try.pinned (OpenSpec.ofChange fnShelfFitsSpec)

/-- ITS FALSE NEIGHBOUR: 'it returns false'. Refute it at one input. -/
def fnShelfFitsWrong : ChangeSpec := { name := "fnShelfFits", fn := fun _ => fun
  | [d] => { results := [.lit (.bool false)], args := [d] }
  | _ => none }
def FnShelfFitsWrongFalsely : Prop := fnShelfFitsRow.holds Try.pinned (OpenSpec.ofChange fnShelfFitsWrong)

/-- 'laws.FnPickOf': WHATEVER THE INPUT: true; the input reads as it did. -/
def fnPickOfSpec : ChangeSpec := { name := "fnPickOf", fn := fun _ => fun
  | [d] => { results := [.lit (.bool true)], args := [d] }
  | _ => none }
def fnPickOfRow : OpenClaim := { program := "ytblecmmebmfhiaa", sum := "c1e2f04411cb417fbfe43bf57988c172b6166e2d475a7f42933143e773ebeb03", func := "loop.example/packageworld/laws.FnPickOf", spec := "fnPickOf", apart := false }
def FnPickOfSaid : Prop := fnPickOfRow.holds Try.pinned (OpenSpec.ofChange fnPickOfSpec)

/-- ITS FALSE NEIGHBOUR: 'it returns false'. Refute it at one input. -/
def fnPickOfWrong : ChangeSpec := { name := "fnPickOf", fn := fun _ => fun
  | [d] => { results := [.lit (.bool false)], args := [d] }
  | _ => none }
def FnPickOfWrongFalsely : Prop := fnPickOfRow.holds Try.pinned (OpenSpec.ofChange fnPickOfWrong)

/-- 'laws.FnChoiceBetter': WHATEVER THE INPUT: true; the input reads as it did. -/
def fnChoiceBetterSpec : ChangeSpec := { name := "fnChoiceBetter", fn := fun _ => fun
  | [d] => { results := [.lit (.bool true)], args := [d] }
  | _ => none }
def fnChoiceBetterRow : OpenClaim := { program := "ytblecmmebmfhiaa", sum := "c1e2f04411cb417fbfe43bf57988c172b6166e2d475a7f42933143e773ebeb03", func := "loop.example/packageworld/laws.FnChoiceBetter", spec := "fnChoiceBetter", apart := false }
def FnChoiceBetterSaid : Prop := fnChoiceBetterRow.holds Try.pinned (OpenSpec.ofChange fnChoiceBetterSpec)

/-- ITS FALSE NEIGHBOUR: 'it returns false'. Refute it at one input. -/
def fnChoiceBetterWrong : ChangeSpec := { name := "fnChoiceBetter", fn := fun _ => fun
  | [d] => { results := [.lit (.bool false)], args := [d] }
  | _ => none }
def FnChoiceBetterWrongFalsely : Prop := fnChoiceBetterRow.holds Try.pinned (OpenSpec.ofChange fnChoiceBetterWrong)

/- THE SECOND FORM. 'bulk': how many values and letters a reading holds, each counted each time it is reached (what is shared counts as often as it is met; a slice's spare places count too). A statement '..UptoSaid' is the law's where the arguments, and the package variables that the reading takes, are together of bulk at most 1048576: NARROWER than '..Said'. Prove '..Said' where nothing that the law and all that it calls make is longer than what came in: it says more and counts as full. Else prove '..UptoSaid'. A law counts once. -/
mutual
def uptoBulk {H : Type} : DataW H → Nat
  | .lit (.string bytes) => bytes.length + 1
  | .lit _ => 1
  | .nil => 1
  | .ptr d => uptoBulk d + 1
  | .slice elems spare => uptoBulkAll elems + uptoBulkAll spare + 1
  | .agg parts => uptoBulkAll parts + 1
  | .iface _ d => uptoBulk d + 1
  | .map entries => uptoBulkEntries entries + 1
  | .held _ => 1
def uptoBulkAll {H : Type} : List (DataW H) → Nat
  | [] => 0
  | d :: r => uptoBulk d + uptoBulkAll r
def uptoBulkEntries {H : Type} : List (Lit × DataW H) → Nat
  | [] => 0
  | x :: r => uptoBulkEntry x + uptoBulkEntries r
def uptoBulkEntry {H : Type} : Lit × DataW H → Nat
  | (.string bytes, d) => bytes.length + uptoBulk d + 1
  | (_, d) => uptoBulk d + 1
 end
def uptoSmall : (H : Type) → List (DataW H) → Bool := fun _ ds => decide (uptoBulkAll ds ≤ 1048576)
def OpenSpec.upto (s : _root_.Go.ChangeSpec) : _root_.Go.OpenSpec := { _root_.Go.OpenSpec.ofChange s with cond := some uptoSmall }

/-- 'laws.FnShelfAt', WHERE WHAT IT READS IS OF BULK AT MOST 1048576: true; the input reads as it did. -/
def fnShelfAtUptoRow : OpenClaim := { program := "ytblecmmebmfhiaa", sum := "c1e2f04411cb417fbfe43bf57988c172b6166e2d475a7f42933143e773ebeb03", func := "loop.example/packageworld/laws.FnShelfAt", spec := "fnShelfAt", apart := false, narrowed := true }
def FnShelfAtUptoSaid : Prop := fnShelfAtUptoRow.holds Try.pinned (OpenSpec.upto fnShelfAtSpec)

/-- 'laws.FnShelfFits', WHERE WHAT IT READS IS OF BULK AT MOST 1048576: true; the input reads as it did. -/
def fnShelfFitsUptoRow : OpenClaim := { program := "ytblecmmebmfhiaa", sum := "c1e2f04411cb417fbfe43bf57988c172b6166e2d475a7f42933143e773ebeb03", func := "loop.example/packageworld/laws.FnShelfFits", spec := "fnShelfFits", apart := false, narrowed := true }
def FnShelfFitsUptoSaid : Prop := fnShelfFitsUptoRow.holds Try.pinned (OpenSpec.upto fnShelfFitsSpec)

/-- 'laws.FnPickOf', WHERE WHAT IT READS IS OF BULK AT MOST 1048576: true; the input reads as it did. -/
def fnPickOfUptoRow : OpenClaim := { program := "ytblecmmebmfhiaa", sum := "c1e2f04411cb417fbfe43bf57988c172b6166e2d475a7f42933143e773ebeb03", func := "loop.example/packageworld/laws.FnPickOf", spec := "fnPickOf", apart := false, narrowed := true }
def FnPickOfUptoSaid : Prop := fnPickOfUptoRow.holds Try.pinned (OpenSpec.upto fnPickOfSpec)

/-- 'laws.FnChoiceBetter', WHERE WHAT IT READS IS OF BULK AT MOST 1048576: true; the input reads as it did. -/
def fnChoiceBetterUptoRow : OpenClaim := { program := "ytblecmmebmfhiaa", sum := "c1e2f04411cb417fbfe43bf57988c172b6166e2d475a7f42933143e773ebeb03", func := "loop.example/packageworld/laws.FnChoiceBetter", spec := "fnChoiceBetter", apart := false, narrowed := true }
def FnChoiceBetterUptoSaid : Prop := fnChoiceBetterUptoRow.holds Try.pinned (OpenSpec.upto fnChoiceBetterSpec)

end Rows
end Go.Proofs.Ytblecmmebmfhiaa
