/-
  No cell of these rows narrows 'for every input' (looked for: loops, veiled, ifaces, maps, wideKeys, modest, calm, conditions, laid).
  DERIVED. THE GIVEN ROWS OF THIS SEAT. 7 by the template 'for every input the law returns true; each argument reads behind the call as it read before'; 0 by the template 'total and deterministic' (their statements: YtfmidekffcjbgaaTotals.lean).
  GIVEN WITH THE SEED: the statements are not yours to turn. If you find one false, say at which input.
  Laid BY PROGRAM, IN A SANDBOX (cutbox-rows.mjs): the forced cells as the released guide's own fill.sh prints them over the translation 0c2161344f6922d8… (all of the seat's roots in one cut). By AI agents, Wed Nov 11 2026. No macro, syntax, notation, axiom, sorry.
-/
import Derived.Test.YtfmidekffcjbgaaChecked
import GoSem.Claim
import GoSem.ClaimJoined
import GoSem.ClaimMapViews
import Derived.JoinedTies
import Derived.KernelRfl
namespace Go.Proofs.Ytfmidekffcjbgaa
/- THE CELL 'sum', in the pinned program and in every row, IS THE sha256 OF THE DUMP (.gsa) THAT YtfmidekffcjbgaaProg.lean LOADS. Nothing in Lean hashes anything: it is a label: what it is worth is what the hold of that sum in a sandbox is worth. -/
noncomputable def Try.pinned : Pinned := { name := "ytfmidekffcjbgaa", sum := "0c2161344f6922d8c339cb6a2659f52506d292ec71c07e9c29fd3d225626cab5", checked := Try.checked }
namespace Rows
def none {H : Type} : Left H := { results := [], args := [] }

/-- 'laws.FnScriptOk': WHATEVER THE INPUT: true; the input reads as it did. -/
def fnScriptOkSpec : ChangeSpec := { name := "fnScriptOk", fn := fun _ => fun
  | [d] => { results := [.lit (.bool true)], args := [d] }
  | _ => none }
def fnScriptOkRow : OpenClaim := { program := "ytfmidekffcjbgaa", sum := "0c2161344f6922d8c339cb6a2659f52506d292ec71c07e9c29fd3d225626cab5", func := "loop.example/packageworld/laws.FnScriptOk", spec := "fnScriptOk", apart := false }
def FnScriptOkSaid : Prop := fnScriptOkRow.holds Try.pinned (OpenSpec.ofChange fnScriptOkSpec)

/-- ITS FALSE NEIGHBOUR: 'it returns false'. Refute it at one input. -/
def fnScriptOkWrong : ChangeSpec := { name := "fnScriptOk", fn := fun _ => fun
  | [d] => { results := [.lit (.bool false)], args := [d] }
  | _ => none }
def FnScriptOkWrongFalsely : Prop := fnScriptOkRow.holds Try.pinned (OpenSpec.ofChange fnScriptOkWrong)

/-- 'laws.FnThingsOk': WHATEVER THE INPUT: true; the input reads as it did. -/
def fnThingsOkSpec : ChangeSpec := { name := "fnThingsOk", fn := fun _ => fun
  | [d] => { results := [.lit (.bool true)], args := [d] }
  | _ => none }
def fnThingsOkRow : OpenClaim := { program := "ytfmidekffcjbgaa", sum := "0c2161344f6922d8c339cb6a2659f52506d292ec71c07e9c29fd3d225626cab5", func := "loop.example/packageworld/laws.FnThingsOk", spec := "fnThingsOk", apart := false }
def FnThingsOkSaid : Prop := fnThingsOkRow.holds Try.pinned (OpenSpec.ofChange fnThingsOkSpec)

/-- ITS FALSE NEIGHBOUR: 'it returns false'. Refute it at one input. -/
def fnThingsOkWrong : ChangeSpec := { name := "fnThingsOk", fn := fun _ => fun
  | [d] => { results := [.lit (.bool false)], args := [d] }
  | _ => none }
def FnThingsOkWrongFalsely : Prop := fnThingsOkRow.holds Try.pinned (OpenSpec.ofChange fnThingsOkWrong)

/-- 'laws.FnRoomRun': WHATEVER THE INPUT: true; the input reads as it did. -/
def fnRoomRunSpec : ChangeSpec := { name := "fnRoomRun", fn := fun _ => fun
  | [d] => { results := [.lit (.bool true)], args := [d] }
  | _ => none }
def fnRoomRunRow : OpenClaim := { program := "ytfmidekffcjbgaa", sum := "0c2161344f6922d8c339cb6a2659f52506d292ec71c07e9c29fd3d225626cab5", func := "loop.example/packageworld/laws.FnRoomRun", spec := "fnRoomRun", apart := false }
def FnRoomRunSaid : Prop := fnRoomRunRow.holds Try.pinned (OpenSpec.ofChange fnRoomRunSpec)

/-- ITS FALSE NEIGHBOUR: 'it returns false'. Refute it at one input. -/
def fnRoomRunWrong : ChangeSpec := { name := "fnRoomRun", fn := fun _ => fun
  | [d] => { results := [.lit (.bool false)], args := [d] }
  | _ => none }
def FnRoomRunWrongFalsely : Prop := fnRoomRunRow.holds Try.pinned (OpenSpec.ofChange fnRoomRunWrong)

/-- 'laws.FnRooms': WHATEVER THE INPUT: true; the input reads as it did. -/
def fnRoomsSpec : ChangeSpec := { name := "fnRooms", fn := fun _ => fun
  | [d] => { results := [.lit (.bool true)], args := [d] }
  | _ => none }
def fnRoomsRow : OpenClaim := { program := "ytfmidekffcjbgaa", sum := "0c2161344f6922d8c339cb6a2659f52506d292ec71c07e9c29fd3d225626cab5", func := "loop.example/packageworld/laws.FnRooms", spec := "fnRooms", apart := false }
def FnRoomsSaid : Prop := fnRoomsRow.holds Try.pinned (OpenSpec.ofChange fnRoomsSpec)

/-- ITS FALSE NEIGHBOUR: 'it returns false'. Refute it at one input. -/
def fnRoomsWrong : ChangeSpec := { name := "fnRooms", fn := fun _ => fun
  | [d] => { results := [.lit (.bool false)], args := [d] }
  | _ => none }
def FnRoomsWrongFalsely : Prop := fnRoomsRow.holds Try.pinned (OpenSpec.ofChange fnRoomsWrong)

/-- 'laws.FnExactScriptOk': WHATEVER THE INPUT: true; the input reads as it did. -/
def fnExactScriptOkSpec : ChangeSpec := { name := "fnExactScriptOk", fn := fun _ => fun
  | [d1, d2] => { results := [.lit (.bool true)], args := [d1, d2] }
  | _ => none }
def fnExactScriptOkRow : OpenClaim := { program := "ytfmidekffcjbgaa", sum := "0c2161344f6922d8c339cb6a2659f52506d292ec71c07e9c29fd3d225626cab5", func := "loop.example/packageworld/laws.FnExactScriptOk", spec := "fnExactScriptOk", apart := false }
def FnExactScriptOkSaid : Prop := fnExactScriptOkRow.holds Try.pinned (OpenSpec.ofChange fnExactScriptOkSpec)

/-- ITS FALSE NEIGHBOUR: 'it returns false'. Refute it at one input. -/
def fnExactScriptOkWrong : ChangeSpec := { name := "fnExactScriptOk", fn := fun _ => fun
  | [d1, d2] => { results := [.lit (.bool false)], args := [d1, d2] }
  | _ => none }
def FnExactScriptOkWrongFalsely : Prop := fnExactScriptOkRow.holds Try.pinned (OpenSpec.ofChange fnExactScriptOkWrong)

/-- 'laws.FnExactThingsOk': WHATEVER THE INPUT: true; the input reads as it did. -/
def fnExactThingsOkSpec : ChangeSpec := { name := "fnExactThingsOk", fn := fun _ => fun
  | [d] => { results := [.lit (.bool true)], args := [d] }
  | _ => none }
def fnExactThingsOkRow : OpenClaim := { program := "ytfmidekffcjbgaa", sum := "0c2161344f6922d8c339cb6a2659f52506d292ec71c07e9c29fd3d225626cab5", func := "loop.example/packageworld/laws.FnExactThingsOk", spec := "fnExactThingsOk", apart := false }
def FnExactThingsOkSaid : Prop := fnExactThingsOkRow.holds Try.pinned (OpenSpec.ofChange fnExactThingsOkSpec)

/-- ITS FALSE NEIGHBOUR: 'it returns false'. Refute it at one input. -/
def fnExactThingsOkWrong : ChangeSpec := { name := "fnExactThingsOk", fn := fun _ => fun
  | [d] => { results := [.lit (.bool false)], args := [d] }
  | _ => none }
def FnExactThingsOkWrongFalsely : Prop := fnExactThingsOkRow.holds Try.pinned (OpenSpec.ofChange fnExactThingsOkWrong)

/-- 'laws.FnExactRoomRun': WHATEVER THE INPUT: true; the input reads as it did. -/
def fnExactRoomRunSpec : ChangeSpec := { name := "fnExactRoomRun", fn := fun _ => fun
  | [d1, d2, d3] => { results := [.lit (.bool true)], args := [d1, d2, d3] }
  | _ => none }
def fnExactRoomRunRow : OpenClaim := { program := "ytfmidekffcjbgaa", sum := "0c2161344f6922d8c339cb6a2659f52506d292ec71c07e9c29fd3d225626cab5", func := "loop.example/packageworld/laws.FnExactRoomRun", spec := "fnExactRoomRun", apart := false }
def FnExactRoomRunSaid : Prop := fnExactRoomRunRow.holds Try.pinned (OpenSpec.ofChange fnExactRoomRunSpec)

/-- ITS FALSE NEIGHBOUR: 'it returns false'. Refute it at one input. -/
def fnExactRoomRunWrong : ChangeSpec := { name := "fnExactRoomRun", fn := fun _ => fun
  | [d1, d2, d3] => { results := [.lit (.bool false)], args := [d1, d2, d3] }
  | _ => none }
def FnExactRoomRunWrongFalsely : Prop := fnExactRoomRunRow.holds Try.pinned (OpenSpec.ofChange fnExactRoomRunWrong)

/- THE SECOND FORM. 'bulk': how many values and letters a reading holds, each counted each time it is reached (what is shared counts as often as it is met; a slice's spare places count too). A statement '..UptoSaid' is the law's where the arguments, and the package variables that the reading takes, are together of bulk at most 1048576: NARROWER than '..Said'. Prove '..Said' where nothing that the law and all that it calls make is longer than what came in: it says more and counts as full. Else prove '..UptoSaid'. A law counts once. -/
mutual
def uptoBulk {H : Type} : DataW H → Nat
  | .lit (.string bytes) => bytes.length + 1
  | .lit _ => 1
  | .nil => 1
  | .ptr d => uptoBulk d + 1
  | .slice elems spare => uptoBulkAll elems + uptoBulkAll spare + 1
  | .agg parts => uptoBulkAll parts + 1
  | .iface _ d => uptoBulk d + 1
  | .map entries => uptoBulkEntries entries + 1
  | .held _ => 1
def uptoBulkAll {H : Type} : List (DataW H) → Nat
  | [] => 0
  | d :: r => uptoBulk d + uptoBulkAll r
def uptoBulkEntries {H : Type} : List (Lit × DataW H) → Nat
  | [] => 0
  | x :: r => uptoBulkEntry x + uptoBulkEntries r
def uptoBulkEntry {H : Type} : Lit × DataW H → Nat
  | (.string bytes, d) => bytes.length + uptoBulk d + 1
  | (_, d) => uptoBulk d + 1
 end
def uptoSmall : (H : Type) → List (DataW H) → Bool := fun _ ds => decide (uptoBulkAll ds ≤ 1048576)
def OpenSpec.upto (s : _root_.Go.ChangeSpec) : _root_.Go.OpenSpec := { _root_.Go.OpenSpec.ofChange s with cond := some uptoSmall }

/-- 'laws.FnScriptOk', WHERE WHAT IT READS IS OF BULK AT MOST 1048576: true; the input reads as it did. -/
def fnScriptOkUptoRow : OpenClaim := { program := "ytfmidekffcjbgaa", sum := "0c2161344f6922d8c339cb6a2659f52506d292ec71c07e9c29fd3d225626cab5", func := "loop.example/packageworld/laws.FnScriptOk", spec := "fnScriptOk", apart := false, narrowed := true }
def FnScriptOkUptoSaid : Prop := fnScriptOkUptoRow.holds Try.pinned (OpenSpec.upto fnScriptOkSpec)

/-- 'laws.FnThingsOk', WHERE WHAT IT READS IS OF BULK AT MOST 1048576: true; the input reads as it did. -/
def fnThingsOkUptoRow : OpenClaim := { program := "ytfmidekffcjbgaa", sum := "0c2161344f6922d8c339cb6a2659f52506d292ec71c07e9c29fd3d225626cab5", func := "loop.example/packageworld/laws.FnThingsOk", spec := "fnThingsOk", apart := false, narrowed := true }
def FnThingsOkUptoSaid : Prop := fnThingsOkUptoRow.holds Try.pinned (OpenSpec.upto fnThingsOkSpec)

/-- 'laws.FnRoomRun', WHERE WHAT IT READS IS OF BULK AT MOST 1048576: true; the input reads as it did. -/
def fnRoomRunUptoRow : OpenClaim := { program := "ytfmidekffcjbgaa", sum := "0c2161344f6922d8c339cb6a2659f52506d292ec71c07e9c29fd3d225626cab5", func := "loop.example/packageworld/laws.FnRoomRun", spec := "fnRoomRun", apart := false, narrowed := true }
def FnRoomRunUptoSaid : Prop := fnRoomRunUptoRow.holds Try.pinned (OpenSpec.upto fnRoomRunSpec)

/-- 'laws.FnRooms', WHERE WHAT IT READS IS OF BULK AT MOST 1048576: true; the input reads as it did. -/
def fnRoomsUptoRow : OpenClaim := { program := "ytfmidekffcjbgaa", sum := "0c2161344f6922d8c339cb6a2659f52506d292ec71c07e9c29fd3d225626cab5", func := "loop.example/packageworld/laws.FnRooms", spec := "fnRooms", apart := false, narrowed := true }
def FnRoomsUptoSaid : Prop := fnRoomsUptoRow.holds Try.pinned (OpenSpec.upto fnRoomsSpec)

/-- 'laws.FnExactScriptOk', WHERE WHAT IT READS IS OF BULK AT MOST 1048576: true; the input reads as it did. -/
def fnExactScriptOkUptoRow : OpenClaim := { program := "ytfmidekffcjbgaa", sum := "0c2161344f6922d8c339cb6a2659f52506d292ec71c07e9c29fd3d225626cab5", func := "loop.example/packageworld/laws.FnExactScriptOk", spec := "fnExactScriptOk", apart := false, narrowed := true }
def FnExactScriptOkUptoSaid : Prop := fnExactScriptOkUptoRow.holds Try.pinned (OpenSpec.upto fnExactScriptOkSpec)

/-- 'laws.FnExactThingsOk', WHERE WHAT IT READS IS OF BULK AT MOST 1048576: true; the input reads as it did. -/
def fnExactThingsOkUptoRow : OpenClaim := { program := "ytfmidekffcjbgaa", sum := "0c2161344f6922d8c339cb6a2659f52506d292ec71c07e9c29fd3d225626cab5", func := "loop.example/packageworld/laws.FnExactThingsOk", spec := "fnExactThingsOk", apart := false, narrowed := true }
def FnExactThingsOkUptoSaid : Prop := fnExactThingsOkUptoRow.holds Try.pinned (OpenSpec.upto fnExactThingsOkSpec)

/-- 'laws.FnExactRoomRun', WHERE WHAT IT READS IS OF BULK AT MOST 1048576: true; the input reads as it did. -/
def fnExactRoomRunUptoRow : OpenClaim := { program := "ytfmidekffcjbgaa", sum := "0c2161344f6922d8c339cb6a2659f52506d292ec71c07e9c29fd3d225626cab5", func := "loop.example/packageworld/laws.FnExactRoomRun", spec := "fnExactRoomRun", apart := false, narrowed := true }
def FnExactRoomRunUptoSaid : Prop := fnExactRoomRunUptoRow.holds Try.pinned (OpenSpec.upto fnExactRoomRunSpec)

end Rows
end Go.Proofs.Ytfmidekffcjbgaa
