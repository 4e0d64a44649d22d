/-
  No cell of these rows narrows 'for every input' (looked for: loops, veiled, ifaces, maps, wideKeys, modest, calm, conditions, laid).
  DERIVED. THE GIVEN ROWS OF THIS SEAT. 10 by the template 'for every input the law returns true; each argument reads behind the call as it read before'; 0 by the template 'total and deterministic' (their statements: YtcibjicgfhgomaaTotals.lean).
  GIVEN WITH THE SEED: the statements are not yours to turn. If you find one false, say at which input.
  Laid BY PROGRAM, IN A SANDBOX (cutbox-rows.mjs): the forced cells as the released guide's own fill.sh prints them over the translation b07f3dd5bca47de6… (all of the seat's roots in one cut). By AI agents, Wed Nov 11 2026. No macro, syntax, notation, axiom, sorry.
-/
import Derived.Test.YtcibjicgfhgomaaChecked
import GoSem.Claim
import GoSem.ClaimJoined
import GoSem.ClaimMapViews
import Derived.JoinedTies
import Derived.KernelRfl
namespace Go.Proofs.Ytcibjicgfhgomaa
/- THE CELL 'sum', in the pinned program and in every row, IS THE sha256 OF THE DUMP (.gsa) THAT YtcibjicgfhgomaaProg.lean LOADS. Nothing in Lean hashes anything: it is a label: what it is worth is what the hold of that sum in a sandbox is worth. -/
noncomputable def Try.pinned : Pinned := { name := "ytcibjicgfhgomaa", sum := "b07f3dd5bca47de66f640fc3972be8e510f54febef599c7e4ad6a4b2ed33d83c", checked := Try.checked }
namespace Rows
def none {H : Type} : Left H := { results := [], args := [] }

/-- 'laws.FnExactWorldOk': WHATEVER THE INPUT: true; the input reads as it did. -/
def fnExactWorldOkSpec : ChangeSpec := { name := "fnExactWorldOk", fn := fun _ => fun
  | [d] => { results := [.lit (.bool true)], args := [d] }
  | _ => none }
def fnExactWorldOkRow : OpenClaim := { program := "ytcibjicgfhgomaa", sum := "b07f3dd5bca47de66f640fc3972be8e510f54febef599c7e4ad6a4b2ed33d83c", func := "loop.example/packageworld/laws.FnExactWorldOk", spec := "fnExactWorldOk", apart := false }
def FnExactWorldOkSaid : Prop := fnExactWorldOkRow.holds Try.pinned (OpenSpec.ofChange fnExactWorldOkSpec)

/-- ITS FALSE NEIGHBOUR: 'it returns false'. Refute it at one input. -/
def fnExactWorldOkWrong : ChangeSpec := { name := "fnExactWorldOk", fn := fun _ => fun
  | [d] => { results := [.lit (.bool false)], args := [d] }
  | _ => none }
def FnExactWorldOkWrongFalsely : Prop := fnExactWorldOkRow.holds Try.pinned (OpenSpec.ofChange fnExactWorldOkWrong)

/-- 'laws.FnExactBuild': WHATEVER THE INPUT: true; the input reads as it did. -/
def fnExactBuildSpec : ChangeSpec := { name := "fnExactBuild", fn := fun _ => fun
  | [d] => { results := [.lit (.bool true)], args := [d] }
  | _ => none }
def fnExactBuildRow : OpenClaim := { program := "ytcibjicgfhgomaa", sum := "b07f3dd5bca47de66f640fc3972be8e510f54febef599c7e4ad6a4b2ed33d83c", func := "loop.example/packageworld/laws.FnExactBuild", spec := "fnExactBuild", apart := false }
def FnExactBuildSaid : Prop := fnExactBuildRow.holds Try.pinned (OpenSpec.ofChange fnExactBuildSpec)

/-- ITS FALSE NEIGHBOUR: 'it returns false'. Refute it at one input. -/
def fnExactBuildWrong : ChangeSpec := { name := "fnExactBuild", fn := fun _ => fun
  | [d] => { results := [.lit (.bool false)], args := [d] }
  | _ => none }
def FnExactBuildWrongFalsely : Prop := fnExactBuildRow.holds Try.pinned (OpenSpec.ofChange fnExactBuildWrong)

/-- 'laws.FnExactWorldNeeds': WHATEVER THE INPUT: true; the input reads as it did. -/
def fnExactWorldNeedsSpec : ChangeSpec := { name := "fnExactWorldNeeds", fn := fun _ => fun
  | [d1, d2] => { results := [.lit (.bool true)], args := [d1, d2] }
  | _ => none }
def fnExactWorldNeedsRow : OpenClaim := { program := "ytcibjicgfhgomaa", sum := "b07f3dd5bca47de66f640fc3972be8e510f54febef599c7e4ad6a4b2ed33d83c", func := "loop.example/packageworld/laws.FnExactWorldNeeds", spec := "fnExactWorldNeeds", apart := false }
def FnExactWorldNeedsSaid : Prop := fnExactWorldNeedsRow.holds Try.pinned (OpenSpec.ofChange fnExactWorldNeedsSpec)

/-- ITS FALSE NEIGHBOUR: 'it returns false'. Refute it at one input. -/
def fnExactWorldNeedsWrong : ChangeSpec := { name := "fnExactWorldNeeds", fn := fun _ => fun
  | [d1, d2] => { results := [.lit (.bool false)], args := [d1, d2] }
  | _ => none }
def FnExactWorldNeedsWrongFalsely : Prop := fnExactWorldNeedsRow.holds Try.pinned (OpenSpec.ofChange fnExactWorldNeedsWrong)

/-- 'laws.FnExactWorldPart': WHATEVER THE INPUT: true; the input reads as it did. -/
def fnExactWorldPartSpec : ChangeSpec := { name := "fnExactWorldPart", fn := fun _ => fun
  | [d1, d2] => { results := [.lit (.bool true)], args := [d1, d2] }
  | _ => none }
def fnExactWorldPartRow : OpenClaim := { program := "ytcibjicgfhgomaa", sum := "b07f3dd5bca47de66f640fc3972be8e510f54febef599c7e4ad6a4b2ed33d83c", func := "loop.example/packageworld/laws.FnExactWorldPart", spec := "fnExactWorldPart", apart := false }
def FnExactWorldPartSaid : Prop := fnExactWorldPartRow.holds Try.pinned (OpenSpec.ofChange fnExactWorldPartSpec)

/-- ITS FALSE NEIGHBOUR: 'it returns false'. Refute it at one input. -/
def fnExactWorldPartWrong : ChangeSpec := { name := "fnExactWorldPart", fn := fun _ => fun
  | [d1, d2] => { results := [.lit (.bool false)], args := [d1, d2] }
  | _ => none }
def FnExactWorldPartWrongFalsely : Prop := fnExactWorldPartRow.holds Try.pinned (OpenSpec.ofChange fnExactWorldPartWrong)

/-- 'laws.FnWorldOk': WHATEVER THE INPUT: true; the input reads as it did. -/
def fnWorldOkSpec : ChangeSpec := { name := "fnWorldOk", fn := fun _ => fun
  | [d] => { results := [.lit (.bool true)], args := [d] }
  | _ => none }
def fnWorldOkRow : OpenClaim := { program := "ytcibjicgfhgomaa", sum := "b07f3dd5bca47de66f640fc3972be8e510f54febef599c7e4ad6a4b2ed33d83c", func := "loop.example/packageworld/laws.FnWorldOk", spec := "fnWorldOk", apart := false }
def FnWorldOkSaid : Prop := fnWorldOkRow.holds Try.pinned (OpenSpec.ofChange fnWorldOkSpec)

/-- ITS FALSE NEIGHBOUR: 'it returns false'. Refute it at one input. -/
def fnWorldOkWrong : ChangeSpec := { name := "fnWorldOk", fn := fun _ => fun
  | [d] => { results := [.lit (.bool false)], args := [d] }
  | _ => none }
def FnWorldOkWrongFalsely : Prop := fnWorldOkRow.holds Try.pinned (OpenSpec.ofChange fnWorldOkWrong)

/-- 'laws.FnBuild': WHATEVER THE INPUT: true; the input reads as it did. -/
def fnBuildSpec : ChangeSpec := { name := "fnBuild", fn := fun _ => fun
  | [d] => { results := [.lit (.bool true)], args := [d] }
  | _ => none }
def fnBuildRow : OpenClaim := { program := "ytcibjicgfhgomaa", sum := "b07f3dd5bca47de66f640fc3972be8e510f54febef599c7e4ad6a4b2ed33d83c", func := "loop.example/packageworld/laws.FnBuild", spec := "fnBuild", apart := false }
def FnBuildSaid : Prop := fnBuildRow.holds Try.pinned (OpenSpec.ofChange fnBuildSpec)

/-- ITS FALSE NEIGHBOUR: 'it returns false'. Refute it at one input. -/
def fnBuildWrong : ChangeSpec := { name := "fnBuild", fn := fun _ => fun
  | [d] => { results := [.lit (.bool false)], args := [d] }
  | _ => none }
def FnBuildWrongFalsely : Prop := fnBuildRow.holds Try.pinned (OpenSpec.ofChange fnBuildWrong)

/-- 'laws.FnWorldNeeds': WHATEVER THE INPUT: true; the input reads as it did. -/
def fnWorldNeedsSpec : ChangeSpec := { name := "fnWorldNeeds", fn := fun _ => fun
  | [d] => { results := [.lit (.bool true)], args := [d] }
  | _ => none }
def fnWorldNeedsRow : OpenClaim := { program := "ytcibjicgfhgomaa", sum := "b07f3dd5bca47de66f640fc3972be8e510f54febef599c7e4ad6a4b2ed33d83c", func := "loop.example/packageworld/laws.FnWorldNeeds", spec := "fnWorldNeeds", apart := false }
def FnWorldNeedsSaid : Prop := fnWorldNeedsRow.holds Try.pinned (OpenSpec.ofChange fnWorldNeedsSpec)

/-- ITS FALSE NEIGHBOUR: 'it returns false'. Refute it at one input. -/
def fnWorldNeedsWrong : ChangeSpec := { name := "fnWorldNeeds", fn := fun _ => fun
  | [d] => { results := [.lit (.bool false)], args := [d] }
  | _ => none }
def FnWorldNeedsWrongFalsely : Prop := fnWorldNeedsRow.holds Try.pinned (OpenSpec.ofChange fnWorldNeedsWrong)

/-- 'laws.FnWorldPart': WHATEVER THE INPUT: true; the input reads as it did. -/
def fnWorldPartSpec : ChangeSpec := { name := "fnWorldPart", fn := fun _ => fun
  | [d] => { results := [.lit (.bool true)], args := [d] }
  | _ => none }
def fnWorldPartRow : OpenClaim := { program := "ytcibjicgfhgomaa", sum := "b07f3dd5bca47de66f640fc3972be8e510f54febef599c7e4ad6a4b2ed33d83c", func := "loop.example/packageworld/laws.FnWorldPart", spec := "fnWorldPart", apart := false }
def FnWorldPartSaid : Prop := fnWorldPartRow.holds Try.pinned (OpenSpec.ofChange fnWorldPartSpec)

/-- ITS FALSE NEIGHBOUR: 'it returns false'. Refute it at one input. -/
def fnWorldPartWrong : ChangeSpec := { name := "fnWorldPart", fn := fun _ => fun
  | [d] => { results := [.lit (.bool false)], args := [d] }
  | _ => none }
def FnWorldPartWrongFalsely : Prop := fnWorldPartRow.holds Try.pinned (OpenSpec.ofChange fnWorldPartWrong)

/-- 'laws.FnWorlds': WHATEVER THE INPUT: true; the input reads as it did. -/
def fnWorldsSpec : ChangeSpec := { name := "fnWorlds", fn := fun _ => fun
  | [d] => { results := [.lit (.bool true)], args := [d] }
  | _ => none }
def fnWorldsRow : OpenClaim := { program := "ytcibjicgfhgomaa", sum := "b07f3dd5bca47de66f640fc3972be8e510f54febef599c7e4ad6a4b2ed33d83c", func := "loop.example/packageworld/laws.FnWorlds", spec := "fnWorlds", apart := false }
def FnWorldsSaid : Prop := fnWorldsRow.holds Try.pinned (OpenSpec.ofChange fnWorldsSpec)

/-- ITS FALSE NEIGHBOUR: 'it returns false'. Refute it at one input. -/
def fnWorldsWrong : ChangeSpec := { name := "fnWorlds", fn := fun _ => fun
  | [d] => { results := [.lit (.bool false)], args := [d] }
  | _ => none }
def FnWorldsWrongFalsely : Prop := fnWorldsRow.holds Try.pinned (OpenSpec.ofChange fnWorldsWrong)

/-- 'laws.FnRooms': WHATEVER THE INPUT: true; the input reads as it did. -/
def fnRoomsSpec : ChangeSpec := { name := "fnRooms", fn := fun _ => fun
  | [d] => { results := [.lit (.bool true)], args := [d] }
  | _ => none }
def fnRoomsRow : OpenClaim := { program := "ytcibjicgfhgomaa", sum := "b07f3dd5bca47de66f640fc3972be8e510f54febef599c7e4ad6a4b2ed33d83c", func := "loop.example/packageworld/laws.FnRooms", spec := "fnRooms", apart := false }
def FnRoomsSaid : Prop := fnRoomsRow.holds Try.pinned (OpenSpec.ofChange fnRoomsSpec)

/-- ITS FALSE NEIGHBOUR: 'it returns false'. Refute it at one input. -/
def fnRoomsWrong : ChangeSpec := { name := "fnRooms", fn := fun _ => fun
  | [d] => { results := [.lit (.bool false)], args := [d] }
  | _ => none }
def FnRoomsWrongFalsely : Prop := fnRoomsRow.holds Try.pinned (OpenSpec.ofChange fnRoomsWrong)

/- THE SECOND FORM. 'bulk': how many values and letters a reading holds, each counted each time it is reached (what is shared counts as often as it is met; a slice's spare places count too). A statement '..UptoSaid' is the law's where the arguments, and the package variables that the reading takes, are together of bulk at most 1048576: NARROWER than '..Said'. Prove '..Said' where nothing that the law and all that it calls make is longer than what came in: it says more and counts as full. Else prove '..UptoSaid'. A law counts once. -/
mutual
def uptoBulk {H : Type} : DataW H → Nat
  | .lit (.string bytes) => bytes.length + 1
  | .lit _ => 1
  | .nil => 1
  | .ptr d => uptoBulk d + 1
  | .slice elems spare => uptoBulkAll elems + uptoBulkAll spare + 1
  | .agg parts => uptoBulkAll parts + 1
  | .iface _ d => uptoBulk d + 1
  | .map entries => uptoBulkEntries entries + 1
  | .held _ => 1
def uptoBulkAll {H : Type} : List (DataW H) → Nat
  | [] => 0
  | d :: r => uptoBulk d + uptoBulkAll r
def uptoBulkEntries {H : Type} : List (Lit × DataW H) → Nat
  | [] => 0
  | x :: r => uptoBulkEntry x + uptoBulkEntries r
def uptoBulkEntry {H : Type} : Lit × DataW H → Nat
  | (.string bytes, d) => bytes.length + uptoBulk d + 1
  | (_, d) => uptoBulk d + 1
 end
def uptoSmall : (H : Type) → List (DataW H) → Bool := fun _ ds => decide (uptoBulkAll ds ≤ 1048576)
def OpenSpec.upto (s : _root_.Go.ChangeSpec) : _root_.Go.OpenSpec := { _root_.Go.OpenSpec.ofChange s with cond := some uptoSmall }

/-- 'laws.FnExactWorldOk', WHERE WHAT IT READS IS OF BULK AT MOST 1048576: true; the input reads as it did. -/
def fnExactWorldOkUptoRow : OpenClaim := { program := "ytcibjicgfhgomaa", sum := "b07f3dd5bca47de66f640fc3972be8e510f54febef599c7e4ad6a4b2ed33d83c", func := "loop.example/packageworld/laws.FnExactWorldOk", spec := "fnExactWorldOk", apart := false, narrowed := true }
def FnExactWorldOkUptoSaid : Prop := fnExactWorldOkUptoRow.holds Try.pinned (OpenSpec.upto fnExactWorldOkSpec)

/-- 'laws.FnExactBuild', WHERE WHAT IT READS IS OF BULK AT MOST 1048576: true; the input reads as it did. -/
def fnExactBuildUptoRow : OpenClaim := { program := "ytcibjicgfhgomaa", sum := "b07f3dd5bca47de66f640fc3972be8e510f54febef599c7e4ad6a4b2ed33d83c", func := "loop.example/packageworld/laws.FnExactBuild", spec := "fnExactBuild", apart := false, narrowed := true }
def FnExactBuildUptoSaid : Prop := fnExactBuildUptoRow.holds Try.pinned (OpenSpec.upto fnExactBuildSpec)

/-- 'laws.FnExactWorldNeeds', WHERE WHAT IT READS IS OF BULK AT MOST 1048576: true; the input reads as it did. -/
def fnExactWorldNeedsUptoRow : OpenClaim := { program := "ytcibjicgfhgomaa", sum := "b07f3dd5bca47de66f640fc3972be8e510f54febef599c7e4ad6a4b2ed33d83c", func := "loop.example/packageworld/laws.FnExactWorldNeeds", spec := "fnExactWorldNeeds", apart := false, narrowed := true }
def FnExactWorldNeedsUptoSaid : Prop := fnExactWorldNeedsUptoRow.holds Try.pinned (OpenSpec.upto fnExactWorldNeedsSpec)

/-- 'laws.FnExactWorldPart', WHERE WHAT IT READS IS OF BULK AT MOST 1048576: true; the input reads as it did. -/
def fnExactWorldPartUptoRow : OpenClaim := { program := "ytcibjicgfhgomaa", sum := "b07f3dd5bca47de66f640fc3972be8e510f54febef599c7e4ad6a4b2ed33d83c", func := "loop.example/packageworld/laws.FnExactWorldPart", spec := "fnExactWorldPart", apart := false, narrowed := true }
def FnExactWorldPartUptoSaid : Prop := fnExactWorldPartUptoRow.holds Try.pinned (OpenSpec.upto fnExactWorldPartSpec)

/-- 'laws.FnWorldOk', WHERE WHAT IT READS IS OF BULK AT MOST 1048576: true; the input reads as it did. -/
def fnWorldOkUptoRow : OpenClaim := { program := "ytcibjicgfhgomaa", sum := "b07f3dd5bca47de66f640fc3972be8e510f54febef599c7e4ad6a4b2ed33d83c", func := "loop.example/packageworld/laws.FnWorldOk", spec := "fnWorldOk", apart := false, narrowed := true }
def FnWorldOkUptoSaid : Prop := fnWorldOkUptoRow.holds Try.pinned (OpenSpec.upto fnWorldOkSpec)

/-- 'laws.FnBuild', WHERE WHAT IT READS IS OF BULK AT MOST 1048576: true; the input reads as it did. -/
def fnBuildUptoRow : OpenClaim := { program := "ytcibjicgfhgomaa", sum := "b07f3dd5bca47de66f640fc3972be8e510f54febef599c7e4ad6a4b2ed33d83c", func := "loop.example/packageworld/laws.FnBuild", spec := "fnBuild", apart := false, narrowed := true }
def FnBuildUptoSaid : Prop := fnBuildUptoRow.holds Try.pinned (OpenSpec.upto fnBuildSpec)

/-- 'laws.FnWorldNeeds', WHERE WHAT IT READS IS OF BULK AT MOST 1048576: true; the input reads as it did. -/
def fnWorldNeedsUptoRow : OpenClaim := { program := "ytcibjicgfhgomaa", sum := "b07f3dd5bca47de66f640fc3972be8e510f54febef599c7e4ad6a4b2ed33d83c", func := "loop.example/packageworld/laws.FnWorldNeeds", spec := "fnWorldNeeds", apart := false, narrowed := true }
def FnWorldNeedsUptoSaid : Prop := fnWorldNeedsUptoRow.holds Try.pinned (OpenSpec.upto fnWorldNeedsSpec)

/-- 'laws.FnWorldPart', WHERE WHAT IT READS IS OF BULK AT MOST 1048576: true; the input reads as it did. -/
def fnWorldPartUptoRow : OpenClaim := { program := "ytcibjicgfhgomaa", sum := "b07f3dd5bca47de66f640fc3972be8e510f54febef599c7e4ad6a4b2ed33d83c", func := "loop.example/packageworld/laws.FnWorldPart", spec := "fnWorldPart", apart := false, narrowed := true }
def FnWorldPartUptoSaid : Prop := fnWorldPartUptoRow.holds Try.pinned (OpenSpec.upto fnWorldPartSpec)

/-- 'laws.FnWorlds', WHERE WHAT IT READS IS OF BULK AT MOST 1048576: true; the input reads as it did. -/
def fnWorldsUptoRow : OpenClaim := { program := "ytcibjicgfhgomaa", sum := "b07f3dd5bca47de66f640fc3972be8e510f54febef599c7e4ad6a4b2ed33d83c", func := "loop.example/packageworld/laws.FnWorlds", spec := "fnWorlds", apart := false, narrowed := true }
def FnWorldsUptoSaid : Prop := fnWorldsUptoRow.holds Try.pinned (OpenSpec.upto fnWorldsSpec)

/-- 'laws.FnRooms', WHERE WHAT IT READS IS OF BULK AT MOST 1048576: true; the input reads as it did. -/
def fnRoomsUptoRow : OpenClaim := { program := "ytcibjicgfhgomaa", sum := "b07f3dd5bca47de66f640fc3972be8e510f54febef599c7e4ad6a4b2ed33d83c", func := "loop.example/packageworld/laws.FnRooms", spec := "fnRooms", apart := false, narrowed := true }
def FnRoomsUptoSaid : Prop := fnRoomsUptoRow.holds Try.pinned (OpenSpec.upto fnRoomsSpec)

end Rows
end Go.Proofs.Ytcibjicgfhgomaa
