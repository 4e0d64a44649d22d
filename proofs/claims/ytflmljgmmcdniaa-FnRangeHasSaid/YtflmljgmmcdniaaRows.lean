/-
  No cell of these rows narrows 'for every input' (looked for: loops, veiled, ifaces, maps, wideKeys, modest, calm, conditions, laid).
  DERIVED. THE GIVEN ROWS OF THIS SEAT. 11 by the template 'for every input the law returns true; each argument reads behind the call as it read before'; 0 by the template 'total and deterministic' (their statements: YtflmljgmmcdniaaTotals.lean).
  GIVEN WITH THE SEED: the statements are not yours to turn. If you find one false, say at which input.
  Laid BY PROGRAM, IN A SANDBOX (cutbox-rows.mjs): the forced cells as the released guide's own fill.sh prints them over the translation a1f8036bee35e00a… (all of the seat's roots in one cut). By AI agents, Wed Nov 11 2026. No macro, syntax, notation, axiom, sorry.
-/
import Derived.Test.YtflmljgmmcdniaaChecked
import GoSem.Claim
import GoSem.ClaimJoined
import GoSem.ClaimMapViews
import Derived.JoinedTies
import Derived.KernelRfl
namespace Go.Proofs.Ytflmljgmmcdniaa
/- THE CELL 'sum', in the pinned program and in every row, IS THE sha256 OF THE DUMP (.gsa) THAT YtflmljgmmcdniaaProg.lean LOADS. Nothing in Lean hashes anything: it is a label: what it is worth is what the hold of that sum in a sandbox is worth. -/
noncomputable def Try.pinned : Pinned := { name := "ytflmljgmmcdniaa", sum := "a1f8036bee35e00ae973d1da605053fb841b05dbe8a79697223704ca38a6d55f", checked := Try.checked }
namespace Rows
def none {H : Type} : Left H := { results := [], args := [] }

/-- 'laws.FnExactRangeAnd': WHATEVER THE INPUT: true; the input reads as it did. -/
def fnExactRangeAndSpec : ChangeSpec := { name := "fnExactRangeAnd", fn := fun _ => fun
  | [d1, d2] => { results := [.lit (.bool true)], args := [d1, d2] }
  | _ => none }
def fnExactRangeAndRow : OpenClaim := { program := "ytflmljgmmcdniaa", sum := "a1f8036bee35e00ae973d1da605053fb841b05dbe8a79697223704ca38a6d55f", func := "loop.example/packageworld/laws.FnExactRangeAnd", spec := "fnExactRangeAnd", apart := false }
def FnExactRangeAndSaid : Prop := fnExactRangeAndRow.holds Try.pinned (OpenSpec.ofChange fnExactRangeAndSpec)

/-- ITS FALSE NEIGHBOUR: 'it returns false'. Refute it at one input. -/
def fnExactRangeAndWrong : ChangeSpec := { name := "fnExactRangeAnd", fn := fun _ => fun
  | [d1, d2] => { results := [.lit (.bool false)], args := [d1, d2] }
  | _ => none }
def FnExactRangeAndWrongFalsely : Prop := fnExactRangeAndRow.holds Try.pinned (OpenSpec.ofChange fnExactRangeAndWrong)

/-- 'laws.FnExactRangeOr': WHATEVER THE INPUT: true; the input reads as it did. -/
def fnExactRangeOrSpec : ChangeSpec := { name := "fnExactRangeOr", fn := fun _ => fun
  | [d1, d2] => { results := [.lit (.bool true)], args := [d1, d2] }
  | _ => none }
def fnExactRangeOrRow : OpenClaim := { program := "ytflmljgmmcdniaa", sum := "a1f8036bee35e00ae973d1da605053fb841b05dbe8a79697223704ca38a6d55f", func := "loop.example/packageworld/laws.FnExactRangeOr", spec := "fnExactRangeOr", apart := false }
def FnExactRangeOrSaid : Prop := fnExactRangeOrRow.holds Try.pinned (OpenSpec.ofChange fnExactRangeOrSpec)

/-- ITS FALSE NEIGHBOUR: 'it returns false'. Refute it at one input. -/
def fnExactRangeOrWrong : ChangeSpec := { name := "fnExactRangeOr", fn := fun _ => fun
  | [d1, d2] => { results := [.lit (.bool false)], args := [d1, d2] }
  | _ => none }
def FnExactRangeOrWrongFalsely : Prop := fnExactRangeOrRow.holds Try.pinned (OpenSpec.ofChange fnExactRangeOrWrong)

/-- 'laws.FnRangeOk': WHATEVER THE INPUT: true; the input reads as it did. -/
def fnRangeOkSpec : ChangeSpec := { name := "fnRangeOk", fn := fun _ => fun
  | [d] => { results := [.lit (.bool true)], args := [d] }
  | _ => none }
def fnRangeOkRow : OpenClaim := { program := "ytflmljgmmcdniaa", sum := "a1f8036bee35e00ae973d1da605053fb841b05dbe8a79697223704ca38a6d55f", func := "loop.example/packageworld/laws.FnRangeOk", spec := "fnRangeOk", apart := false }
def FnRangeOkSaid : Prop := fnRangeOkRow.holds Try.pinned (OpenSpec.ofChange fnRangeOkSpec)

/-- ITS FALSE NEIGHBOUR: 'it returns false'. Refute it at one input. -/
def fnRangeOkWrong : ChangeSpec := { name := "fnRangeOk", fn := fun _ => fun
  | [d] => { results := [.lit (.bool false)], args := [d] }
  | _ => none }
def FnRangeOkWrongFalsely : Prop := fnRangeOkRow.holds Try.pinned (OpenSpec.ofChange fnRangeOkWrong)

/-- 'laws.FnRangeHas': WHATEVER THE INPUT: true; the input reads as it did. -/
def fnRangeHasSpec : ChangeSpec := { name := "fnRangeHas", fn := fun _ => fun
  | [d] => { results := [.lit (.bool true)], args := [d] }
  | _ => none }
def fnRangeHasRow : OpenClaim := { program := "ytflmljgmmcdniaa", sum := "a1f8036bee35e00ae973d1da605053fb841b05dbe8a79697223704ca38a6d55f", func := "loop.example/packageworld/laws.FnRangeHas", spec := "fnRangeHas", apart := false }
def FnRangeHasSaid : Prop := fnRangeHasRow.holds Try.pinned (OpenSpec.ofChange fnRangeHasSpec)

/-- ITS FALSE NEIGHBOUR: 'it returns false'. Refute it at one input. -/
def fnRangeHasWrong : ChangeSpec := { name := "fnRangeHas", fn := fun _ => fun
  | [d] => { results := [.lit (.bool false)], args := [d] }
  | _ => none }
def FnRangeHasWrongFalsely : Prop := fnRangeHasRow.holds Try.pinned (OpenSpec.ofChange fnRangeHasWrong)

/-- 'laws.FnRangeNot': WHATEVER THE INPUT: true; the input reads as it did. -/
def fnRangeNotSpec : ChangeSpec := { name := "fnRangeNot", fn := fun _ => fun
  | [d] => { results := [.lit (.bool true)], args := [d] }
  | _ => none }
def fnRangeNotRow : OpenClaim := { program := "ytflmljgmmcdniaa", sum := "a1f8036bee35e00ae973d1da605053fb841b05dbe8a79697223704ca38a6d55f", func := "loop.example/packageworld/laws.FnRangeNot", spec := "fnRangeNot", apart := false }
def FnRangeNotSaid : Prop := fnRangeNotRow.holds Try.pinned (OpenSpec.ofChange fnRangeNotSpec)

/-- ITS FALSE NEIGHBOUR: 'it returns false'. Refute it at one input. -/
def fnRangeNotWrong : ChangeSpec := { name := "fnRangeNot", fn := fun _ => fun
  | [d] => { results := [.lit (.bool false)], args := [d] }
  | _ => none }
def FnRangeNotWrongFalsely : Prop := fnRangeNotRow.holds Try.pinned (OpenSpec.ofChange fnRangeNotWrong)

/-- 'laws.FnRangeAnd': WHATEVER THE INPUT: true; the input reads as it did. -/
def fnRangeAndSpec : ChangeSpec := { name := "fnRangeAnd", fn := fun _ => fun
  | [d] => { results := [.lit (.bool true)], args := [d] }
  | _ => none }
def fnRangeAndRow : OpenClaim := { program := "ytflmljgmmcdniaa", sum := "a1f8036bee35e00ae973d1da605053fb841b05dbe8a79697223704ca38a6d55f", func := "loop.example/packageworld/laws.FnRangeAnd", spec := "fnRangeAnd", apart := false }
def FnRangeAndSaid : Prop := fnRangeAndRow.holds Try.pinned (OpenSpec.ofChange fnRangeAndSpec)

/-- ITS FALSE NEIGHBOUR: 'it returns false'. Refute it at one input. -/
def fnRangeAndWrong : ChangeSpec := { name := "fnRangeAnd", fn := fun _ => fun
  | [d] => { results := [.lit (.bool false)], args := [d] }
  | _ => none }
def FnRangeAndWrongFalsely : Prop := fnRangeAndRow.holds Try.pinned (OpenSpec.ofChange fnRangeAndWrong)

/-- 'laws.FnRangeOr': WHATEVER THE INPUT: true; the input reads as it did. -/
def fnRangeOrSpec : ChangeSpec := { name := "fnRangeOr", fn := fun _ => fun
  | [d] => { results := [.lit (.bool true)], args := [d] }
  | _ => none }
def fnRangeOrRow : OpenClaim := { program := "ytflmljgmmcdniaa", sum := "a1f8036bee35e00ae973d1da605053fb841b05dbe8a79697223704ca38a6d55f", func := "loop.example/packageworld/laws.FnRangeOr", spec := "fnRangeOr", apart := false }
def FnRangeOrSaid : Prop := fnRangeOrRow.holds Try.pinned (OpenSpec.ofChange fnRangeOrSpec)

/-- ITS FALSE NEIGHBOUR: 'it returns false'. Refute it at one input. -/
def fnRangeOrWrong : ChangeSpec := { name := "fnRangeOr", fn := fun _ => fun
  | [d] => { results := [.lit (.bool false)], args := [d] }
  | _ => none }
def FnRangeOrWrongFalsely : Prop := fnRangeOrRow.holds Try.pinned (OpenSpec.ofChange fnRangeOrWrong)

/-- 'laws.FnRangeLaw': WHATEVER THE INPUT: true; the input reads as it did. -/
def fnRangeLawSpec : ChangeSpec := { name := "fnRangeLaw", fn := fun _ => fun
  | [d] => { results := [.lit (.bool true)], args := [d] }
  | _ => none }
def fnRangeLawRow : OpenClaim := { program := "ytflmljgmmcdniaa", sum := "a1f8036bee35e00ae973d1da605053fb841b05dbe8a79697223704ca38a6d55f", func := "loop.example/packageworld/laws.FnRangeLaw", spec := "fnRangeLaw", apart := false }
def FnRangeLawSaid : Prop := fnRangeLawRow.holds Try.pinned (OpenSpec.ofChange fnRangeLawSpec)

/-- ITS FALSE NEIGHBOUR: 'it returns false'. Refute it at one input. -/
def fnRangeLawWrong : ChangeSpec := { name := "fnRangeLaw", fn := fun _ => fun
  | [d] => { results := [.lit (.bool false)], args := [d] }
  | _ => none }
def FnRangeLawWrongFalsely : Prop := fnRangeLawRow.holds Try.pinned (OpenSpec.ofChange fnRangeLawWrong)

/-- 'laws.FnRangeFrom': WHATEVER THE INPUT: true; the input reads as it did. -/
def fnRangeFromSpec : ChangeSpec := { name := "fnRangeFrom", fn := fun _ => fun
  | [d] => { results := [.lit (.bool true)], args := [d] }
  | _ => none }
def fnRangeFromRow : OpenClaim := { program := "ytflmljgmmcdniaa", sum := "a1f8036bee35e00ae973d1da605053fb841b05dbe8a79697223704ca38a6d55f", func := "loop.example/packageworld/laws.FnRangeFrom", spec := "fnRangeFrom", apart := false }
def FnRangeFromSaid : Prop := fnRangeFromRow.holds Try.pinned (OpenSpec.ofChange fnRangeFromSpec)

/-- ITS FALSE NEIGHBOUR: 'it returns false'. Refute it at one input. -/
def fnRangeFromWrong : ChangeSpec := { name := "fnRangeFrom", fn := fun _ => fun
  | [d] => { results := [.lit (.bool false)], args := [d] }
  | _ => none }
def FnRangeFromWrongFalsely : Prop := fnRangeFromRow.holds Try.pinned (OpenSpec.ofChange fnRangeFromWrong)

/-- 'laws.FnRangeOne': WHATEVER THE INPUT: true; the input reads as it did. -/
def fnRangeOneSpec : ChangeSpec := { name := "fnRangeOne", fn := fun _ => fun
  | [d] => { results := [.lit (.bool true)], args := [d] }
  | _ => none }
def fnRangeOneRow : OpenClaim := { program := "ytflmljgmmcdniaa", sum := "a1f8036bee35e00ae973d1da605053fb841b05dbe8a79697223704ca38a6d55f", func := "loop.example/packageworld/laws.FnRangeOne", spec := "fnRangeOne", apart := false }
def FnRangeOneSaid : Prop := fnRangeOneRow.holds Try.pinned (OpenSpec.ofChange fnRangeOneSpec)

/-- ITS FALSE NEIGHBOUR: 'it returns false'. Refute it at one input. -/
def fnRangeOneWrong : ChangeSpec := { name := "fnRangeOne", fn := fun _ => fun
  | [d] => { results := [.lit (.bool false)], args := [d] }
  | _ => none }
def FnRangeOneWrongFalsely : Prop := fnRangeOneRow.holds Try.pinned (OpenSpec.ofChange fnRangeOneWrong)

/-- 'laws.FnRangeText': WHATEVER THE INPUT: true; the input reads as it did. -/
def fnRangeTextSpec : ChangeSpec := { name := "fnRangeText", fn := fun _ => fun
  | [d] => { results := [.lit (.bool true)], args := [d] }
  | _ => none }
def fnRangeTextRow : OpenClaim := { program := "ytflmljgmmcdniaa", sum := "a1f8036bee35e00ae973d1da605053fb841b05dbe8a79697223704ca38a6d55f", func := "loop.example/packageworld/laws.FnRangeText", spec := "fnRangeText", apart := false }
def FnRangeTextSaid : Prop := fnRangeTextRow.holds Try.pinned (OpenSpec.ofChange fnRangeTextSpec)

/-- ITS FALSE NEIGHBOUR: 'it returns false'. Refute it at one input. -/
def fnRangeTextWrong : ChangeSpec := { name := "fnRangeText", fn := fun _ => fun
  | [d] => { results := [.lit (.bool false)], args := [d] }
  | _ => none }
def FnRangeTextWrongFalsely : Prop := fnRangeTextRow.holds Try.pinned (OpenSpec.ofChange fnRangeTextWrong)

/- THE SECOND FORM. 'bulk': how many values and letters a reading holds, each counted each time it is reached (what is shared counts as often as it is met; a slice's spare places count too). A statement '..UptoSaid' is the law's where the arguments, and the package variables that the reading takes, are together of bulk at most 1048576: NARROWER than '..Said'. Prove '..Said' where nothing that the law and all that it calls make is longer than what came in: it says more and counts as full. Else prove '..UptoSaid'. A law counts once. -/
mutual
def uptoBulk {H : Type} : DataW H → Nat
  | .lit (.string bytes) => bytes.length + 1
  | .lit _ => 1
  | .nil => 1
  | .ptr d => uptoBulk d + 1
  | .slice elems spare => uptoBulkAll elems + uptoBulkAll spare + 1
  | .agg parts => uptoBulkAll parts + 1
  | .iface _ d => uptoBulk d + 1
  | .map entries => uptoBulkEntries entries + 1
  | .held _ => 1
def uptoBulkAll {H : Type} : List (DataW H) → Nat
  | [] => 0
  | d :: r => uptoBulk d + uptoBulkAll r
def uptoBulkEntries {H : Type} : List (Lit × DataW H) → Nat
  | [] => 0
  | x :: r => uptoBulkEntry x + uptoBulkEntries r
def uptoBulkEntry {H : Type} : Lit × DataW H → Nat
  | (.string bytes, d) => bytes.length + uptoBulk d + 1
  | (_, d) => uptoBulk d + 1
 end
def uptoSmall : (H : Type) → List (DataW H) → Bool := fun _ ds => decide (uptoBulkAll ds ≤ 1048576)
def OpenSpec.upto (s : _root_.Go.ChangeSpec) : _root_.Go.OpenSpec := { _root_.Go.OpenSpec.ofChange s with cond := some uptoSmall }

/-- 'laws.FnExactRangeAnd', WHERE WHAT IT READS IS OF BULK AT MOST 1048576: true; the input reads as it did. -/
def fnExactRangeAndUptoRow : OpenClaim := { program := "ytflmljgmmcdniaa", sum := "a1f8036bee35e00ae973d1da605053fb841b05dbe8a79697223704ca38a6d55f", func := "loop.example/packageworld/laws.FnExactRangeAnd", spec := "fnExactRangeAnd", apart := false, narrowed := true }
def FnExactRangeAndUptoSaid : Prop := fnExactRangeAndUptoRow.holds Try.pinned (OpenSpec.upto fnExactRangeAndSpec)

/-- 'laws.FnExactRangeOr', WHERE WHAT IT READS IS OF BULK AT MOST 1048576: true; the input reads as it did. -/
def fnExactRangeOrUptoRow : OpenClaim := { program := "ytflmljgmmcdniaa", sum := "a1f8036bee35e00ae973d1da605053fb841b05dbe8a79697223704ca38a6d55f", func := "loop.example/packageworld/laws.FnExactRangeOr", spec := "fnExactRangeOr", apart := false, narrowed := true }
def FnExactRangeOrUptoSaid : Prop := fnExactRangeOrUptoRow.holds Try.pinned (OpenSpec.upto fnExactRangeOrSpec)

/-- 'laws.FnRangeOk', WHERE WHAT IT READS IS OF BULK AT MOST 1048576: true; the input reads as it did. -/
def fnRangeOkUptoRow : OpenClaim := { program := "ytflmljgmmcdniaa", sum := "a1f8036bee35e00ae973d1da605053fb841b05dbe8a79697223704ca38a6d55f", func := "loop.example/packageworld/laws.FnRangeOk", spec := "fnRangeOk", apart := false, narrowed := true }
def FnRangeOkUptoSaid : Prop := fnRangeOkUptoRow.holds Try.pinned (OpenSpec.upto fnRangeOkSpec)

/-- 'laws.FnRangeHas', WHERE WHAT IT READS IS OF BULK AT MOST 1048576: true; the input reads as it did. -/
def fnRangeHasUptoRow : OpenClaim := { program := "ytflmljgmmcdniaa", sum := "a1f8036bee35e00ae973d1da605053fb841b05dbe8a79697223704ca38a6d55f", func := "loop.example/packageworld/laws.FnRangeHas", spec := "fnRangeHas", apart := false, narrowed := true }
def FnRangeHasUptoSaid : Prop := fnRangeHasUptoRow.holds Try.pinned (OpenSpec.upto fnRangeHasSpec)

/-- 'laws.FnRangeNot', WHERE WHAT IT READS IS OF BULK AT MOST 1048576: true; the input reads as it did. -/
def fnRangeNotUptoRow : OpenClaim := { program := "ytflmljgmmcdniaa", sum := "a1f8036bee35e00ae973d1da605053fb841b05dbe8a79697223704ca38a6d55f", func := "loop.example/packageworld/laws.FnRangeNot", spec := "fnRangeNot", apart := false, narrowed := true }
def FnRangeNotUptoSaid : Prop := fnRangeNotUptoRow.holds Try.pinned (OpenSpec.upto fnRangeNotSpec)

/-- 'laws.FnRangeAnd', WHERE WHAT IT READS IS OF BULK AT MOST 1048576: true; the input reads as it did. -/
def fnRangeAndUptoRow : OpenClaim := { program := "ytflmljgmmcdniaa", sum := "a1f8036bee35e00ae973d1da605053fb841b05dbe8a79697223704ca38a6d55f", func := "loop.example/packageworld/laws.FnRangeAnd", spec := "fnRangeAnd", apart := false, narrowed := true }
def FnRangeAndUptoSaid : Prop := fnRangeAndUptoRow.holds Try.pinned (OpenSpec.upto fnRangeAndSpec)

/-- 'laws.FnRangeOr', WHERE WHAT IT READS IS OF BULK AT MOST 1048576: true; the input reads as it did. -/
def fnRangeOrUptoRow : OpenClaim := { program := "ytflmljgmmcdniaa", sum := "a1f8036bee35e00ae973d1da605053fb841b05dbe8a79697223704ca38a6d55f", func := "loop.example/packageworld/laws.FnRangeOr", spec := "fnRangeOr", apart := false, narrowed := true }
def FnRangeOrUptoSaid : Prop := fnRangeOrUptoRow.holds Try.pinned (OpenSpec.upto fnRangeOrSpec)

/-- 'laws.FnRangeLaw', WHERE WHAT IT READS IS OF BULK AT MOST 1048576: true; the input reads as it did. -/
def fnRangeLawUptoRow : OpenClaim := { program := "ytflmljgmmcdniaa", sum := "a1f8036bee35e00ae973d1da605053fb841b05dbe8a79697223704ca38a6d55f", func := "loop.example/packageworld/laws.FnRangeLaw", spec := "fnRangeLaw", apart := false, narrowed := true }
def FnRangeLawUptoSaid : Prop := fnRangeLawUptoRow.holds Try.pinned (OpenSpec.upto fnRangeLawSpec)

/-- 'laws.FnRangeFrom', WHERE WHAT IT READS IS OF BULK AT MOST 1048576: true; the input reads as it did. -/
def fnRangeFromUptoRow : OpenClaim := { program := "ytflmljgmmcdniaa", sum := "a1f8036bee35e00ae973d1da605053fb841b05dbe8a79697223704ca38a6d55f", func := "loop.example/packageworld/laws.FnRangeFrom", spec := "fnRangeFrom", apart := false, narrowed := true }
def FnRangeFromUptoSaid : Prop := fnRangeFromUptoRow.holds Try.pinned (OpenSpec.upto fnRangeFromSpec)

/-- 'laws.FnRangeOne', WHERE WHAT IT READS IS OF BULK AT MOST 1048576: true; the input reads as it did. -/
def fnRangeOneUptoRow : OpenClaim := { program := "ytflmljgmmcdniaa", sum := "a1f8036bee35e00ae973d1da605053fb841b05dbe8a79697223704ca38a6d55f", func := "loop.example/packageworld/laws.FnRangeOne", spec := "fnRangeOne", apart := false, narrowed := true }
def FnRangeOneUptoSaid : Prop := fnRangeOneUptoRow.holds Try.pinned (OpenSpec.upto fnRangeOneSpec)

/-- 'laws.FnRangeText', WHERE WHAT IT READS IS OF BULK AT MOST 1048576: true; the input reads as it did. -/
def fnRangeTextUptoRow : OpenClaim := { program := "ytflmljgmmcdniaa", sum := "a1f8036bee35e00ae973d1da605053fb841b05dbe8a79697223704ca38a6d55f", func := "loop.example/packageworld/laws.FnRangeText", spec := "fnRangeText", apart := false, narrowed := true }
def FnRangeTextUptoSaid : Prop := fnRangeTextUptoRow.holds Try.pinned (OpenSpec.upto fnRangeTextSpec)

end Rows
end Go.Proofs.Ytflmljgmmcdniaa
