/- Contracts of the model's ChoiceReach and ChoiceTrim, over this seat's translation, as plain functions tell them; nothing that was there before a call has changed. Condition: at most 1048576 of each row and of what is in it. -/
import Derived.Test.YtgjmgclgokgobaaGi
import Derived.Test.YtgjmgclgokgobaaNms
import Derived.Test.YtgjmgclgokgobaaPkofs
namespace Go.Proofs.Ytgjmgclgokgobaa
open Go.RowKit Go.Sort

namespace Cpu
open Foot Copy Nup Pkf
/-- What the loop over the needs keeps. -/
def QRel (S : List Rel) (N : List Nd) (C : List Pk) (w : World) (gs : Nat) (v i : Value) (wr : World) : Prop :=
  ∃ (k : Nat) (st : St), i = .int .i64 (k : Int) ∧ k ≤ st.2.length ∧ OkK S N C st ∧ endK S N C = runK S C (200 - k) k st ∧ NOwn wr w.heap.size 0 v st.2 ∧ Fl wr gs (seenK (cameL C st.1)) ∧ Below w.heap.size w wr
theorem q_next {S : List Rel} {N : List Nd} {C : List Pk} {w wr : World} {gs k : Nat} {n : Nd} {st s2 : St} {v : Value} (hk : k < 200) (hn : st.2[k]? = some n) (hu : endK S N C = runK S C (200 - k) k st) (hp : passK S n.1 0 C st = s2)
    (hl : k < s2.2.length) (ho : OkK S N C s2) (hN : NOwn wr w.heap.size 0 v s2.2) (hF : Fl wr gs (seenK (cameL C s2.1))) (hb : Below w.heap.size w wr) : QRel S N C w gs v (.int .i64 ((k : Int) + 1)) wr := by
  refine ⟨k + 1, s2, by go_num, by omega, ho, ?_, hN, hF, hb⟩
  rw [hu, show 200 - k = (200 - (k + 1)) + 1 by omega, runK_step hn, hp]

end Cpu
end Go.Proofs.Ytgjmgclgokgobaa
