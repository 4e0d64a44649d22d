/- At every code the law FnClashJoin returns true: the program joins two drawn clashes as the model does, turned about alike, and what it answers is a clash with not more terms than both. No condition. -/
import Derived.BigFrame
import Derived.Test.YtdhbjjolgmodjaaGm
import Derived.Test.YtdhbjjolgmodjaaTjo
import Derived.Test.YtdhbjjolgmodjaaGq
import Derived.Test.YtdhbjjolgmodjaaDjoin
import Derived.Test.YtdhbjjolgmodjaaGr
import Derived.Test.YtdhbjjolgmodjaaGe
namespace Go.Proofs.Ytdhbjjolgmodjaa
open Go.ChangeShapes Go.WideShapes Go.ChangeAt Go.RowKit Go.Joins Go.Sort

namespace Ptj
open Foot Copy Tmo Tmc Tmj
theorem fine_spans {O : List Tm} (h : tmOk O = true) : ∀ q ∈ O, q.2.1.length ≤ 1048576 := fun q hq => by
  have := (spOk_iff.1 (ok_mem h hq).2.2.1).2
  omega
theorem fine_len {A B O : List Tm} {n : Int} (h : joinL A B n = some O) : O.length ≤ 8 := by
  unfold joinL at h
  split at h
  · exact go_len h
  · cases h
set_option maxRecDepth 100000 in
set_option maxHeartbeats 8000000 in
theorem join_short (a : Option Addr) (len cap : Nat) (w : World) (h : CodeIn w a len cap) (hl : len ≤ 1048576) :
    Calls Try.prog 4 #[.slice a len cap] w fun e w' => e = .returned (.bool true) ∧ Below w.heap.size w w' := by
  go_enter Try.func4, Try.ntmps4
  go_wp2_with fail
  refine (DrawClashJoin_any a len cap w h).mono ?_
  rintro e w1 ⟨A, va, vc, B, vb, vd, n, rfl, hA1, hB1, ⟨hA, hqA, hvc⟩, ⟨hB, hqB, hvd⟩, b1⟩
  have hA' : A.length ≤ 1048576 := by omega
  have hB' : B.length ≤ 1048576 := by omega
  have hqA' : ∀ q ∈ A, q.2.1.length ≤ 1048576 := fun q hq => by have := hqA q hq; omega
  have hqB' : ∀ q ∈ B, q.2.1.length ≤ 1048576 := fun q hq => by have := hqB q hq; omega
  have K1 : Hid (∀ V, Below w1.heap.size w1 V → Calls Try.prog 13 #[.slice va A.length vc, .slice vb B.length vd, .int .i64 n] V (TjPost (joinL A B n) V)) := Lib.hid fun V g => implClashJoin_any _ _ _ _ A B n V hA' hqA' hvc hB' hqB' hvd (hA1.stepAt g) (hB1.stepAt g)
  have K2 : Hid (∀ V, Below w1.heap.size w1 V → Calls Try.prog 13 #[.slice vb B.length vd, .slice va A.length vc, .int .i64 n] V (TjPost (joinL A B n) V)) := Lib.hid fun V g => by rw [← join_turn]; exact implClashJoin_any _ _ _ _ B A n V hB' hqB' hvd hA' hqA' hvc (hB1.stepAt g) (hA1.stepAt g)
  have KS : Hid (∀ V, Below w1.heap.size w1 V → Calls Try.prog 11 #[.slice va A.length vc, .slice vb B.length vd, .int .i64 n] V (TjPost (joinL A B n) V)) := Lib.hid fun V g => specClashJoin_any _ _ _ _ A B n V hA' hqA' hB' hqB' (hA1.stepAt g) (hB1.stepAt g)
  have hsum : (A.length : Int) + (B.length : Int) ≤ 12 := by omega
  have hsum0 : 0 ≤ (A.length : Int) + (B.length : Int) := by omega
  have h00 : decide (0 ≤ (A.length : Int) + (B.length : Int)) = true := decide_eq_true hsum0
  obtain ⟨o, ho⟩ : ∃ o, joinL A B n = o := ⟨_, rfl⟩
  rw [ho] at K1 K2 KS
  clear hA1 hB1 hqA hqB hqA' hqB'
  rcases o with _ | O
  · have KE : Hid (∀ V u u', TmAt V V.heap.size u ([] : List Tm) → TmAt V V.heap.size u' ([] : List Tm) → Calls Try.prog 18 #[u, u'] V fun e w' => e = .returned (.bool true) ∧ Below V.heap.size V w') := Lib.hid fun V u u' g g' => Tsm.sameTerms_same u u' [] V (by simp) (fun q hq => (by cases hq)) g g'
    clear ho
    go_wp2_with fail
    refine (K1.out _ (Below.refl _ _)).mono ?_
    rintro e w2 ⟨a2, c2, rfl, _, t2, hb⟩
    have b2 := b1.trans (hb.mono b1.size)
    have n2 := hb
    have T2 := Lib.hid t2.at
    simp only [Option.getD_none, List.length_nil, Option.isSome_none] at T2 ⊢
    clear t2
    clear hb
    go_wp2_with fail
    refine (KS.out _ n2).mono ?_
    rintro e w3 ⟨a3, c3, rfl, _, t3, hb⟩
    have b3 := b2.trans (hb.mono b2.size)
    have n3 := n2.trans (hb.mono n2.size)
    have T3 := Lib.hid t3.at
    simp only [Option.getD_none, List.length_nil, Option.isSome_none] at T3 ⊢
    clear t3
    have T2b := Lib.hid (T2.out.stepAt hb)
    clear hb b2 n2 T2
    go_wp2_with fail
    refine (KE.out _ _ _ T2b.out T3.out).mono ?_
    rintro e w4 ⟨rfl, hb⟩
    have b4 := b3.trans (hb.mono b3.size)
    have n4 := n3.trans (hb.mono n3.size)
    have T2c := Lib.hid (T2b.out.stepAt hb)
    clear hb b3 n3 T2b T3
    go_wp2_with fail
    refine (K2.out _ n4).mono ?_
    rintro e w5 ⟨a5, c5, rfl, _, t5, hb⟩
    have b5 := b4.trans (hb.mono b4.size)
    have n5 := n4.trans (hb.mono n4.size)
    have T5 := Lib.hid t5.at
    simp only [Option.getD_none, List.length_nil, Option.isSome_none] at T5 ⊢
    clear t5
    have T2d := Lib.hid (T2c.out.stepAt hb)
    clear hb b4 n4 T2c
    go_wp2_with fail
    refine (KE.out _ _ _ T5.out T2d.out).mono ?_
    rintro e w6 ⟨rfl, hb⟩
    have b6 := b5.trans (hb.mono b5.size)
    have T2e := Lib.hid (T2d.out.stepAt hb)
    clear hb b5 n5 T2d T5
    go_wp2_with fail
    refine (alive_any w6).mono ?_
    rintro e w8 ⟨rfl, hb3⟩
    go_wp2_with fail
    go_ret
    exact ⟨rfl, b6.trans (hb3.mono b6.size)⟩
  · obtain ⟨hfine, hlen⟩ := join_fine ho
    have hO8 := fine_len ho
    have KE : Hid (∀ V u u', TmAt V V.heap.size u O → TmAt V V.heap.size u' O → Calls Try.prog 18 #[u, u'] V fun e w' => e = .returned (.bool true) ∧ Below V.heap.size V w') := Lib.hid fun V u u' g g' => Tsm.sameTerms_same u u' O V (by omega) (fine_spans hfine) g g'
    have KO : Hid (∀ V u, TmAt V V.heap.size u O → Calls Try.prog 19 #[u] V fun e w' => e = .returned (.bool true) ∧ Below V.heap.size V w') := Lib.hid fun V u g => by rw [← hfine]; exact implClashOk_any u O V (by omega) (fine_spans hfine) g
    have h01 : decide ((O.length : Int) ≤ (A.length : Int) + (B.length : Int)) = true := decide_eq_true (by omega)
    have h02 : (O.length : Int) ≤ (A.length : Int) + (B.length : Int) := by omega
    clear ho hfine hlen
    go_wp2_with fail
    refine (K1.out _ (Below.refl _ _)).mono ?_
    rintro e w2 ⟨a2, c2, rfl, _, t2, hb⟩
    have b2 := b1.trans (hb.mono b1.size)
    have n2 := hb
    have T2 := Lib.hid t2.at
    simp only [Option.getD_some, Option.isSome_some] at T2 ⊢
    clear t2
    clear hb
    go_wp2_with fail
    refine (KS.out _ n2).mono ?_
    rintro e w3 ⟨a3, c3, rfl, _, t3, hb⟩
    have b3 := b2.trans (hb.mono b2.size)
    have n3 := n2.trans (hb.mono n2.size)
    have T3 := Lib.hid t3.at
    simp only [Option.getD_some, Option.isSome_some] at T3 ⊢
    clear t3
    have T2b := Lib.hid (T2.out.stepAt hb)
    clear hb b2 n2 T2
    go_wp2_with fail
    refine (KE.out _ _ _ T2b.out T3.out).mono ?_
    rintro e w4 ⟨rfl, hb⟩
    have b4 := b3.trans (hb.mono b3.size)
    have n4 := n3.trans (hb.mono n3.size)
    have T2c := Lib.hid (T2b.out.stepAt hb)
    clear hb b3 n3 T2b T3
    go_wp2_with fail
    refine (K2.out _ n4).mono ?_
    rintro e w5 ⟨a5, c5, rfl, _, t5, hb⟩
    have b5 := b4.trans (hb.mono b4.size)
    have n5 := n4.trans (hb.mono n4.size)
    have T5 := Lib.hid t5.at
    simp only [Option.getD_some, Option.isSome_some] at T5 ⊢
    clear t5
    have T2d := Lib.hid (T2c.out.stepAt hb)
    clear hb b4 n4 T2c
    go_wp2_with fail
    refine (KE.out _ _ _ T5.out T2d.out).mono ?_
    rintro e w6 ⟨rfl, hb⟩
    have b6 := b5.trans (hb.mono b5.size)
    have T2e := Lib.hid (T2d.out.stepAt hb)
    clear hb b5 n5 T2d T5
    go_wp2_with fail
    refine (KO.out _ _ T2e.out).mono ?_
    rintro e w7 ⟨rfl, hb⟩
    have b7 := b6.trans (hb.mono b6.size)
    clear hb b6 T2e
    go_wp2_with fail
    refine (alive_any w7).mono ?_
    rintro e w8 ⟨rfl, hb3⟩
    go_wp2_with fail
    go_ret
    exact ⟨rfl, b7.trans (hb3.mono b7.size)⟩
set_option maxRecDepth 100000 in
set_option maxHeartbeats 1000000 in
theorem join_long (a : Option Addr) (len cap : Nat) (w : World) (hl : 1048576 < len) :
    Calls Try.prog 4 #[.slice a len cap] w fun e w' => e = .returned (.bool true) ∧ Below w.heap.size w w' := by
  go_enter Try.func4, Try.ntmps4
  go_wp2
  go_ret
  exact ⟨rfl, Below.refl _ _⟩

theorem join_walk (a : Option Addr) (len cap : Nat) (w : World) (h : CodeIn w a len cap) :
    Calls Try.prog 4 #[.slice a len cap] w fun e w' => e = .returned (.bool true) ∧ Below w.heap.size w w' := by
  by_cases hl : len ≤ 1048576
  · exact join_short a len cap w h hl
  · exact join_long a len cap w (by omega)
end Ptj

set_option maxRecDepth 100000 in
theorem clashJoinP_holds : Rows.FnClashJoinSaid :=
  OpenClaim.holds_of_wide 4 Try.f4 rfl rfl rfl rfl rfl rfl rfl ⟨rfl, rfl, rfl, rfl, rfl⟩ rfl rfl rfl rfl rfl (by kernel_rfl) Try.func4 (by kernel_rfl)
    (of_decide_eq_true (by kernel_rfl)) (by unfold Func.isWrapper; rw [if_neg (by decide +kernel)]; exact ⟨rfl, rfl⟩)
    (fun os started H enc _ => law_lifted (s := Rows.fnClashJoinSpec) (tb := 4) own started laid (by kernel_rfl) Try.func4 rfl (by kernel_rfl) Try.underlying4 (by kernel_rfl)
      (fun ds h => by rw [Try.params4] at h; match ds, h with | [_], _ => rfl)
      (ChangeSpec.witness6 (enc := enc) (C := Try.checked) false ⟨#[], #[.slice none 0 0], []⟩ 8 (by kernel_rfl) (by kernel_rfl) (by kernel_rfl) (by kernel_rfl))
      (law_code Try.params4 Ptj.join_walk))
#print axioms clashJoinP_holds

end Go.Proofs.Ytdhbjjolgmodjaa
