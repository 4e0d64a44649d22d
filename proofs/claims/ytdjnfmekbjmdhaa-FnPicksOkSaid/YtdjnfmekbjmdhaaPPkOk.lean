/- At every code the law FnPicksOk returns true: the program and the model agree on whether the drawn picks are fine; no picks are, and picks that stand twice are not. No condition. -/
import Derived.BigFrame
import Derived.Test.YtdjnfmekbjmdhaaDpicks
import Derived.Test.YtdjnfmekbjmdhaaGg
import Derived.Test.YtdjnfmekbjmdhaaGe
namespace Go.Proofs.Ytdjnfmekbjmdhaa
open Go.ChangeShapes Go.WideShapes Go.ChangeAt Go.RowKit Go.Joins Go.Sort

namespace Ppk
open Foot Dsh Dpk
theorem pkFrom_low : ∀ {M : List Pk} {lo : Int}, pkFrom lo M = true → ∀ q ∈ M, lo ≤ q.1
  | [], _, _, q, hq => by simp at hq
  | x :: t, lo, h, q, hq => by
    simp only [pkFrom, Bool.and_eq_true, decide_eq_true_eq] at h
    rcases List.mem_cons.1 hq with rfl | hq
    · exact h.1.1
    · have := pkFrom_low h.2.2 q hq
      omega
theorem pkOk_twice {M : List Pk} (h : M ≠ []) : pkOk (M ++ M) = false := by
  rw [← Bool.not_eq_true]
  intro hk
  rcases M with _ | ⟨x, t⟩
  · exact h rfl
  · simp only [pkOk, List.cons_append, pkFrom, Bool.and_eq_true, decide_eq_true_eq] at hk
    have := pkFrom_low hk.2.2 x (by simp)
    omega
def AnyPicks (w : World) (e : Ending) (w' : World) : Prop := ∃ A v, e = .returned v ∧ POwn w' w.heap.size v A ∧ A.length ≤ 7 ∧ Below w.heap.size w w'

set_option maxRecDepth 100000 in
set_option maxHeartbeats 1000000 in
theorem DrawPicksOk_any (a : Option Addr) (len cap : Nat) (w : World) (h : CodeIn w a len cap) : Calls Try.prog 58 #[.slice a len cap] w (AnyPicks w) := by
  go_enter Try.func58, Try.ntmps58
  go_wp2_with fail
  refine (open_any a len cap _ h).mono ?_
  rintro e w1 ⟨rfl, hr1, hb1⟩
  have hz := rdAt_lt hr1
  have z1 := hb1.size
  go_wp2_with fail
  refine (l20Shelf_any _ 0 4 0 w1 (by omega) hr1 (by omega) (by omega) (by omega)).mono ?_
  rintro e w2 ⟨S, v, fs, rfl, hg, hl, hsz, hd⟩
  have b2 := drawn_below hd hb1 (Nat.le_refl _)
  obtain ⟨sa, caps, rfl, hform, hcap⟩ := hg.form
  obtain ⟨q, hq0, hq1, hr2, hg2⟩ := hd
  have HG := Lib.hid hg
  have z2 := b2.size
  clear hg hr1 hg2 hb1
  go_wp2_with fail
  refine (l20Picks_any _ q w1.heap.size 2 sa caps S fs w2 hr2 (by omega) (by omega) (by omega) HG.out (by omega) hl).mono ?_
  rintro e w3 ⟨A, v, rfl, ho, hl, hd⟩
  have b3 := drawn_below hd b2 (Nat.le_refl _)
  have HO := Lib.hid (show POwn w3 w.heap.size v A from ⟨ho.1, by rcases ho.2 with h | ⟨g, c, cur, hv, hb, rest⟩; exact .inl h; exact .inr ⟨g, c, cur, hv, Nat.le_trans z2 hb, rest⟩⟩)
  clear hd ho hr2 b2
  go_wp2_with fail
  go_ret
  exact ⟨A, v, rfl, HO.out, hl, b3⟩

set_option maxRecDepth 100000 in
set_option maxHeartbeats 8000000 in
theorem picksOkP_short (a : Option Addr) (len cap : Nat) (w : World) (h : CodeIn w a len cap) (hl : len ≤ 1048576) :
    Calls Try.prog 13 #[.slice a len cap] w fun e w' => e = .returned (.bool true) ∧ Below w.heap.size w w' := by
  obtain ⟨i0, hi, hz0, hz1, hz2⟩ := info_parts infoPick
  go_enter Try.func13, Try.ntmps13
  go_wp2_with fail
  refine (DrawPicksOk_any a len cap w h).mono ?_
  rintro e w1 ⟨A, v, rfl, hown, hm, b1⟩
  have hA : A.length ≤ 1048576 := by omega
  have hat1 := hown.at
  obtain ⟨va, vc, rfl⟩ := hown.form
  have KI : Hid (∀ V, PkAt V V.heap.size (.slice va A.length vc) A → Calls Try.prog 43 #[.slice va A.length vc] V fun e w' => e = .returned (.bool (pkOk A)) ∧ Below V.heap.size V w') := Lib.hid fun V g => implPicksOk_any _ A V hA g
  have KS : Hid (∀ V, PkAt V V.heap.size (.slice va A.length vc) A → Calls Try.prog 41 #[.slice va A.length vc] V fun e w' => e = .returned (.bool (pkOk A)) ∧ Below V.heap.size V w') := Lib.hid fun V g => specPicksOk_any _ A V hA g
  have KN : Hid (∀ V, Calls Try.prog 43 #[.slice none 0 0] V fun e w' => e = .returned (.bool true) ∧ Below V.heap.size V w') := Lib.hid fun V => implPicksOk_any (.slice none 0 0) [] V (by simp) ⟨_, _, rfl, .inl rfl⟩
  have H := Lib.hid hat1
  have HOWN := Lib.hid hown
  generalize pkOk A = ok at KI KS
  clear hat1 hown h
  by_cases hA0 : A = []
  · have hlZ : (A.length : Int) = 0 := by rw [hA0]; rfl
    have hlZ2 : ((A.length : Int) == 0) = true := by rw [hlZ]; rfl
    clear hlZ hA0
    cases ok
    all_goals
      go_wp2_with fail
      refine (KI.out _ H.out).mono ?_
      rintro e w2 ⟨rfl, hb⟩
      have n2 := hb
      clear hb
      go_wp2_with fail
      refine (KS.out _ (H.out.stepAt n2)).mono ?_
      rintro e w3 ⟨rfl, hb⟩
      have n3 := n2.trans (hb.mono n2.size)
      clear hb
      go_wp2_with fail
      refine (KN.out _).mono ?_
      rintro e w4 ⟨rfl, hb⟩
      have n4 := n3.trans (hb.mono n3.size)
      clear hb
      go_wp2_with fail
      go_ret
      exact ⟨rfl, b1.trans (n4.mono b1.size)⟩
  · have HT := Lib.hid (pkOk_twice hA0)
    have hlen : 0 < A.length := List.length_pos_iff.2 hA0
    have hlI : (0 : Int) < (A.length : Int) := by omega
    have hlZ : ((A.length : Int) == 0) = false := by rw [beq_eq_false_iff_ne]; omega
    have KD : Hid (∀ V u, PkAt V V.heap.size u (A ++ A) → Calls Try.prog 43 #[u] V fun e w' => e = .returned (.bool false) ∧ Below V.heap.size V w') := Lib.hid fun V u g => by
      have := implPicksOk_any u (A ++ A) V (by simp; omega) g
      rwa [HT.out] at this
    obtain ⟨gb, gcap, hgv, hg0, hg1, hgc, hgz⟩ := own_cells HOWN.out hlen
    simp only [Value.slice.injEq] at hgv
    obtain ⟨rfl, _, rfl⟩ := hgv
    have HZ := Lib.hid (show ∀ V, Below w1.heap.size w1 V → ∀ j z, (pcs A)[j]? = some z → V.cell? ((⟨gb, 0, none⟩ : Addr).add j) = some z from fun V hV j z hz => by
      have hadd : (⟨gb, 0, none⟩ : Addr).add j = ⟨gb, j, none⟩ := by unfold Addr.add; split <;> simp_all
      rw [hadd]
      exact (hV.cell (p := ⟨gb, j, none⟩) hg1).trans (hgz j z hz))
    have hpl := pcs_len A
    have HPL := Lib.hid hpl
    clear hgz hpl HOWN hA0
    cases ok
    all_goals
      go_wp2_with fail
      refine (KI.out _ H.out).mono ?_
      rintro e w2 ⟨rfl, hb⟩
      have n2 := hb
      clear hb
      go_wp2_with fail
      refine (KS.out _ (H.out.stepAt n2)).mono ?_
      rintro e w3 ⟨rfl, hb⟩
      have n3 := n2.trans (hb.mono n2.size)
      clear hb
      go_wp2_with fail
      refine (KN.out _).mono ?_
      rintro e w4 ⟨rfl, hb⟩
      have n4 := n3.trans (hb.mono n3.size)
      clear hb n2 n3
      have z4 := n4.size
      have hbW : Below w4.heap.size w4 (w4.alloc (.cells #[] 106)) := (Below.refl _ _).alloc (Nat.le_refl _) _
      have nW := n4.trans (hbW.mono n4.size)
      have HO := Lib.hid (show (w4.alloc (.cells #[] 106)).ownsRow w4.heap.size 106 5 (.slice (some ⟨w4.heap.size, 0, none⟩) 0 0) 0 [] from POwn.made (w := w4) (V := w4.alloc (.cells #[] 106)) rfl (Nat.le_refl _))
      go_wp2_with (at_builtin; refine BigFrame.wpList_want (by rfl) (fun K hK => wp_append_lies _ _ _ 60 (by rfl) w4.heap.size 106 i0 (.agg #[.int .i64 0, .int .i64 0, .int .i64 0, .int .i64 0, .int .i64 0]) 5 40 Try.underlying60 hi hz0 hz1 hz2 rfl (by decide) _ _ [] (by rfl) HO.out ⟨gb, 0, none⟩ A.length vc (pcs A) (by rfl) HPL.out (HZ.out _ nW) (pcs_one A) hlen (by unfold maxLen; omega) (by omega) (by simp) _ rfl ?_))
      intro g5 cap5 w5 hown5 hgrow5 hat5 hlt5
      refine hK _ _ ?_
      clear hK
      have HN5 := Lib.hid (show w5.ownsRow w4.heap.size 106 5 (.slice (some ⟨g5, 0, none⟩) A.length cap5) A.length (pcs A) by simpa using hown5)
      have n5 : Below w1.heap.size w1 w5 := nW.grown hgrow5 nW.size (fun k e => by have e' : some w4.heap.size = some k := e; injection e' with e'; omega)
      have k5 := (World.ownsRow.lt HN5.out g5 rfl).1
      have z5 : w4.heap.size ≤ w5.heap.size := by omega
      clear hown5 hgrow5 hat5
      go_wp2_with (at_builtin; refine BigFrame.wpList_want (by rfl) (fun K hK => wp_append_lies _ _ _ 60 (by rfl) w4.heap.size 106 i0 (.agg #[.int .i64 0, .int .i64 0, .int .i64 0, .int .i64 0, .int .i64 0]) 5 40 Try.underlying60 hi hz0 hz1 hz2 rfl (by decide) _ _ (pcs A) (by rfl) HN5.out ⟨gb, 0, none⟩ A.length vc (pcs A) (by rfl) HPL.out (HZ.out _ n5) (pcs_one A) hlen (by unfold maxLen; omega) (by omega) z5 _ rfl ?_))
      intro g6 cap6 w6 hown6 hgrow6 hat6 hlt6
      refine hK _ _ ?_
      clear hK
      have n6 : Below w1.heap.size w1 w6 := n5.grown hgrow6 n5.size (fun k e => by have e' : some g5 = some k := e; injection e' with e'; omega)
      have HA := Lib.hid (show PkAt w6 w6.heap.size (.slice (some ⟨g6, 0, none⟩) (A.length + A.length) cap6) (A ++ A) by
        have : POwn w6 w4.heap.size (.slice (some ⟨g6, 0, none⟩) (A.length + A.length) cap6) (A ++ A) := by
          unfold POwn
          rw [pcs_append, List.length_append]
          exact hown6
        exact this.at)
      clear hown6 hgrow6 hat6
      go_wp2_with fail
      refine (KD.out _ _ HA.out).mono ?_
      rintro e w7 ⟨rfl, hb⟩
      have n7 := n6.trans (hb.mono n6.size)
      clear hb
      go_wp2_with fail
      go_ret
      exact ⟨rfl, b1.trans (n7.mono b1.size)⟩

set_option maxRecDepth 100000 in
set_option maxHeartbeats 1000000 in
theorem picksOkP_long (a : Option Addr) (len cap : Nat) (w : World) (hl : 1048576 < len) :
    Calls Try.prog 13 #[.slice a len cap] w fun e w' => e = .returned (.bool true) ∧ Below w.heap.size w w' := by
  go_enter Try.func13, Try.ntmps13
  go_wp2
  go_ret
  exact ⟨rfl, Below.refl _ _⟩

theorem picksOkP_walk (a : Option Addr) (len cap : Nat) (w : World) (h : CodeIn w a len cap) :
    Calls Try.prog 13 #[.slice a len cap] w fun e w' => e = .returned (.bool true) ∧ Below w.heap.size w w' := by
  by_cases hl : len ≤ 1048576
  · exact picksOkP_short a len cap w h hl
  · exact picksOkP_long a len cap w (by omega)
end Ppk

set_option maxRecDepth 100000 in
theorem picksOkP_holds : Rows.FnPicksOkSaid :=
  OpenClaim.holds_of_wide 13 Try.f13 rfl rfl rfl rfl rfl rfl rfl ⟨rfl, rfl, rfl, rfl, rfl⟩ rfl rfl rfl rfl rfl (by kernel_rfl) Try.func13 (by kernel_rfl)
    (of_decide_eq_true (by kernel_rfl)) (by unfold Func.isWrapper; rw [if_neg (by decide +kernel)]; exact ⟨rfl, rfl⟩)
    (fun os started H enc _ => law_lifted (s := Rows.fnPicksOkSpec) (tb := 4) own started laid (by kernel_rfl) Try.func13 rfl (by kernel_rfl) Try.underlying4 (by kernel_rfl)
      (fun ds h => by rw [Try.params13] at h; match ds, h with | [_], _ => rfl)
      (ChangeSpec.witness6 (enc := enc) (C := Try.checked) false ⟨#[], #[.slice none 0 0], []⟩ 8 (by kernel_rfl) (by kernel_rfl) (by kernel_rfl) (by kernel_rfl))
      (law_code Try.params13 Ppk.picksOkP_walk))
#print axioms picksOkP_holds

end Go.Proofs.Ytdjnfmekbjmdhaa
