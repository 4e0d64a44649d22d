/- At every code the law FnClashOk returns true: the program and the model agree on whether drawn terms are a clash; no terms are, and terms that stand twice are not. No condition. -/
import Derived.BigFrame
import Derived.Test.YtokafkbefllfjaaDclash
import Derived.Test.YtokafkbefllfjaaTmok
import Derived.Test.YtokafkbefllfjaaGe
namespace Go.Proofs.Ytokafkbefllfjaa
open Go.ChangeShapes Go.WideShapes Go.ChangeAt Go.RowKit Go.Joins Go.Sort

namespace Tmo
theorem tmFrom_low : ∀ {M : List Tm} {lo : Int}, tmFrom lo M = true → ∀ q ∈ M, lo ≤ q.1
  | [], _, _, q, hq => by simp at hq
  | x :: t, lo, h, q, hq => by
    simp only [tmFrom, Bool.and_eq_true, decide_eq_true_eq] at h
    rcases List.mem_cons.1 hq with rfl | hq
    · exact h.1.1
    · have := tmFrom_low h.2.2 q hq
      omega
theorem tmOk_twice {M : List Tm} (h : M ≠ []) : tmOk (M ++ M) = false := by
  rw [← Bool.not_eq_true]
  intro hk
  rcases M with _ | ⟨x, t⟩
  · exact h rfl
  · simp only [tmOk, List.cons_append, tmFrom, Bool.and_eq_true, decide_eq_true_eq] at hk
    have := tmFrom_low hk.2.2 x (by simp)
    omega

/-- The cells of a row of terms, for an append of all of it. -/
theorem row_news {W : World} {B b o : Nat} {M : List Tm} {x : Option Nat} (hB : B ≤ W.heap.size) (hc : ∀ i (h : i < M.length), TmC W B b (o + i * 3) M[i]) (hx : ∀ c, x = some c → B ≤ c) :
    (rowCellsT W b o (M.length * 3)).length = M.length * 3 ∧ (∀ j u, (rowCellsT W b o (M.length * 3))[j]? = some u → W.cell? ((⟨b, o, none⟩ : Addr).add j) = some u) ∧ (∀ u ∈ rowCellsT W b o (M.length * 3), u.oneCell' = true) ∧
    (∀ i (h : i < M.length), (rowCellsT W b o (M.length * 3))[i * 3]? = some (.int .i64 M[i].1) ∧ (rowCellsT W b o (M.length * 3))[i * 3 + 2]? = some (.bool M[i].2.2) ∧ ∃ a cap, (rowCellsT W b o (M.length * 3))[i * 3 + 1]? = some (.slice a M[i].2.1.length cap) ∧ SpX W 0 x (.slice a M[i].2.1.length cap) M[i].2.1) := by
  have hlen : (rowCellsT W b o (M.length * 3)).length = M.length * 3 := by simp [rowCellsT]
  have each : ∀ j, j < M.length * 3 → ∃ u, W.cell? ⟨b, o + j, none⟩ = some u ∧ u.oneCell' = true := fun j hj => by
    have hi : j / 3 < M.length := by omega
    obtain ⟨c0, a, cap, c1, _, c2⟩ := hc (j / 3) hi
    have hm : j % 3 = 0 ∨ j % 3 = 1 ∨ j % 3 = 2 := by omega
    rcases hm with hm | hm | hm
    · exact ⟨_, by rw [show o + j = o + j / 3 * 3 by omega]; exact c0, rfl⟩
    · exact ⟨_, by rw [show o + j = o + j / 3 * 3 + 1 by omega]; exact c1, rfl⟩
    · exact ⟨_, by rw [show o + j = o + j / 3 * 3 + 2 by omega]; exact c2, rfl⟩
  refine ⟨hlen, fun j u hu => ?_, fun u hu => ?_, fun i hi => ?_⟩
  · have hj : j < M.length * 3 := by have := (List.getElem?_eq_some_iff.1 hu).1; omega
    have hadd : (⟨b, o, none⟩ : Addr).add j = ⟨b, o + j, none⟩ := by unfold Addr.add; split <;> simp_all
    obtain ⟨z, hz, _⟩ := each j hj
    rw [rowCellsT_at hj, hz] at hu
    rw [hadd, hz]
    exact hu
  · obtain ⟨j, hj, rfl⟩ := List.getElem_of_mem hu
    have hj' : j < M.length * 3 := by omega
    obtain ⟨z, hz, h1⟩ := each j hj'
    have := rowCellsT_at (w := W) (b := b) (o := o) hj'
    rw [List.getElem?_eq_getElem hj, hz] at this
    rw [Option.some.inj this]
    exact h1
  · obtain ⟨c0, a, cap, c1, hs, c2⟩ := hc i hi
    refine ⟨?_, ?_, a, cap, ?_, SpX.of hs hB hx⟩
    · rw [rowCellsT_at (by omega), c0]; rfl
    · rw [rowCellsT_at (by omega), show o + (i * 3 + 2) = o + i * 3 + 2 by omega, c2]; rfl
    · rw [rowCellsT_at (by omega), show o + (i * 3 + 1) = o + i * 3 + 1 by omega, c1]; rfl

theorem DrawClashOk_any (a : Option Addr) (len cap : Nat) (w : World) (h : CodeIn w a len cap) : Calls Try.prog 5 #[.slice a len cap] w (AnyClash w) := by
  go_enter Try.func5, Try.ntmps5
  go_wp2_with fail
  refine (open_any a len cap _ h).mono ?_
  rintro e w1 ⟨rfl, hr1, hb1⟩
  have z1 := hb1.size
  go_wp2_with fail
  refine (l20Clash_any _ 0 2 w1 hr1 (by omega) (by omega) (by omega)).mono ?_
  rintro e w2 ⟨M, v, rfl, hown, hm, hq, hd⟩
  have b2 := drawn_below hd hb1 (Nat.le_refl _)
  obtain ⟨va, vc, rfl, hx⟩ := id hown.at
  have HO := Lib.hid (hown.mono z1 z1)
  clear hx hown hd hr1
  go_wp2_with fail
  go_ret
  exact ⟨M, _, rfl, HO.out, hm, hq, b2⟩

set_option maxRecDepth 100000 in
set_option maxHeartbeats 8000000 in
theorem clashOkP_short (a : Option Addr) (len cap : Nat) (w : World) (h : CodeIn w a len cap) (hl : len ≤ 1048576) :
    Calls Try.prog 3 #[.slice a len cap] w fun e w' => e = .returned (.bool true) ∧ Below w.heap.size w w' := by
  obtain ⟨i0, hi, hz0, hz1, hz2⟩ := info_parts infoTerm
  go_enter Try.func3, Try.ntmps3
  go_wp2_with fail
  refine (DrawClashOk_any a len cap w h).mono ?_
  rintro e w1 ⟨M, v, rfl, hown, hm, hq41, b1⟩
  have hM : M.length ≤ 1048576 := by omega
  have hq : ∀ q ∈ M, q.2.1.length ≤ 1048576 := fun q hq => by have := hq41 q hq; omega
  have hat1 := hown.at
  obtain ⟨va, vc, rfl, hx⟩ := id hat1
  clear hx hown h hq41
  have KI : Hid (∀ V, TmAt V V.heap.size (.slice va M.length vc) M → Calls Try.prog 6 #[.slice va M.length vc] V fun e w' => e = .returned (.bool (tmOk M)) ∧ Below V.heap.size V w') := Lib.hid fun V g => implClashOk_any _ M V hM hq g
  have KS : Hid (∀ V, TmAt V V.heap.size (.slice va M.length vc) M → Calls Try.prog 7 #[.slice va M.length vc] V fun e w' => e = .returned (.bool (tmOk M)) ∧ Below V.heap.size V w') := Lib.hid fun V g => specClashOk_any _ M V hM hq g
  have KN : Hid (∀ V, Calls Try.prog 6 #[.slice none 0 0] V fun e w' => e = .returned (.bool true) ∧ Below V.heap.size V w') := Lib.hid fun V => implClashOk_any (.slice none 0 0) [] V (by simp) (by simp) ⟨_, _, rfl, .inl rfl⟩
  have H := Lib.hid hat1
  generalize tmOk M = ok at KI KS
  clear hat1
  rcases M with _ | ⟨x0, M0⟩
  · cases ok
    all_goals
      go_wp2_with fail
      refine (KI.out _ H.out).mono ?_
      rintro e w2 ⟨rfl, hb⟩
      have n2 := hb
      clear hb
      go_wp2_with fail
      refine (KS.out _ (H.out.stepAt n2)).mono ?_
      rintro e w3 ⟨rfl, hb⟩
      have n3 := n2.trans (hb.mono n2.size)
      clear hb
      go_wp2_with fail
      refine (KN.out _).mono ?_
      rintro e w4 ⟨rfl, hb⟩
      have n4 := n3.trans (hb.mono n3.size)
      clear hb
      go_wp2_with fail
      go_ret
      exact ⟨rfl, b1.trans (n4.mono b1.size)⟩
  · have HT := Lib.hid (tmOk_twice (M := x0 :: M0) (by simp))
    have hlen : 0 < (x0 :: M0).length := by simp
    obtain ⟨M, hMe⟩ : ∃ N : List Tm, x0 :: M0 = N := ⟨_, rfl⟩
    rw [hMe] at KI KS HT hlen hM hq hm H ⊢
    clear hMe
    have hlI : (0 : Int) < (M.length : Int) := by omega
    have hlZ : ((M.length : Int) == 0) = false := by rw [beq_eq_false_iff_ne]; omega
    have KD : Hid (∀ V u, TmAt V V.heap.size u (M ++ M) → Calls Try.prog 6 #[u] V fun e w' => e = .returned (.bool false) ∧ Below V.heap.size V w') := Lib.hid fun V u g => by
      have := implClashOk_any u (M ++ M) V (by simp; omega) (fun q hh => by rcases List.mem_append.1 hh with hh | hh <;> exact hq q hh) g
      rwa [HT.out] at this
    obtain ⟨b, o, hva, hB, hc⟩ : ∃ b o, va = some ⟨b, o, none⟩ ∧ b < w1.heap.size ∧ ∀ i (h : i < M.length), TmC w1 w1.heap.size b (o + i * 3) M[i] := by
      obtain ⟨a', c', e, hh⟩ := H.out
      simp only [Value.slice.injEq] at e
      obtain ⟨rfl, _, _⟩ := e
      rcases hh with rfl | ⟨b, o, e, hB, hc⟩
      · simp at hlen
      · exact ⟨b, o, e, hB, hc⟩
    subst hva
    have HC := Lib.hid hc
    clear hc
    cases ok
    all_goals
      go_wp2_with fail
      refine (KI.out _ H.out).mono ?_
      rintro e w2 ⟨rfl, hb⟩
      have n2 := hb
      clear hb
      go_wp2_with fail
      refine (KS.out _ (H.out.stepAt n2)).mono ?_
      rintro e w3 ⟨rfl, hb⟩
      have n3 := n2.trans (hb.mono n2.size)
      clear hb
      go_wp2_with fail
      refine (KN.out _).mono ?_
      rintro e w4 ⟨rfl, hb⟩
      have n4 := n3.trans (hb.mono n3.size)
      clear hb n2 n3
      have z4 := n4.size
      have hbW : Below w4.heap.size w4 (w4.alloc (.cells #[] 40)) := (Below.refl _ _).alloc (Nat.le_refl _) _
      have nW := n4.trans (hbW.mono n4.size)
      obtain ⟨r1, r2, r3, r4⟩ := row_news (W := w4.alloc (.cells #[] 40)) (B := w1.heap.size) (x := some w4.heap.size) nW.size (fun i hi => (HC.out i hi).below nW hB) (fun c e => by injection e with e; omega)
      have ho : (w4.alloc (.cells #[] 40)).ownsRow w4.heap.size 40 3 (.slice (some ⟨w4.heap.size, 0, none⟩) 0 0) 0 [] := ⟨rfl, .inr ⟨w4.heap.size, 0, #[], rfl, Nat.le_refl _, heap_alloc_new w4 _, Nat.le_refl _, by unfold maxLen; omega, rfl, rfl⟩⟩
      have R4 := Lib.hid r4
      clear r4
      go_wp2_with (at_builtin; refine BigFrame.wpList_want (by rfl) (fun K hK => wp_append_lies _ _ _ 23 (by rfl) w4.heap.size 40 i0 (.agg #[.int .i64 0, .slice none 0 0, .bool false]) 3 40 Try.underlying23 hi hz0 hz1 hz2 rfl (by decide) _ _ [] (by rfl) ho ⟨b, o, none⟩ M.length vc (rowCellsT (w4.alloc (.cells #[] 40)) b o (M.length * 3)) (by rfl) r1 r2 r3 hlen (by unfold maxLen; omega) (by omega) (by simp) _ rfl ?_))
      intro g5 cap5 w5 hown5 hgrow5 hat5 hlt5
      refine hK _ _ ?_
      clear hK
      have HN5 : TOwn w5 w4.heap.size 0 (.slice (some ⟨g5, 0, none⟩) M.length cap5) M := by
        have := TOwn.grow (M := []) (P := M) (lo := 0) (g := g5) (cap := cap5) (w' := w5) ho (fun i hi => absurd hi (by simp)) R4.out (by simpa using hown5) hgrow5 (by simpa using hat5)
        simpa using this
      have k5 := (HN5.lt g5 rfl).1
      have n5 : Below w1.heap.size w1 w5 := nW.grown hgrow5 nW.size (fun k e => by have e' : some w4.heap.size = some k := e; injection e' with e'; omega)
      obtain ⟨s1, s2, s3, s4⟩ := row_news (W := w5) (B := w1.heap.size) (x := some g5) n5.size (fun i hi => (HC.out i hi).below n5 hB) (fun c e => by injection e with e; omega)
      obtain ⟨cs5, ho5, hc5⟩ := HN5
      have z5 : w4.heap.size ≤ w5.heap.size := by omega
      have S4 := Lib.hid s4
      have C5 := Lib.hid hc5
      clear s4 hc5 hown5 hgrow5 hat5 r1 r2 r3 R4 ho
      go_wp2_with (at_builtin; refine BigFrame.wpList_want (by rfl) (fun K hK => wp_append_lies _ _ _ 23 (by rfl) w4.heap.size 40 i0 (.agg #[.int .i64 0, .slice none 0 0, .bool false]) 3 40 Try.underlying23 hi hz0 hz1 hz2 rfl (by decide) _ _ cs5 (by rfl) ho5 ⟨b, o, none⟩ M.length vc (rowCellsT w5 b o (M.length * 3)) (by rfl) s1 s2 s3 hlen (by unfold maxLen; omega) (by omega) z5 _ rfl ?_))
      intro g6 cap6 w6 hown6 hgrow6 hat6 hlt6
      refine hK _ _ ?_
      clear hK
      have HN6 := TOwn.grow (g := g6) (cap := cap6) (w' := w6) ho5 C5.out S4.out hown6 hgrow6 (by simpa using hat6)
      have n6 : Below w1.heap.size w1 w6 := n5.grown hgrow6 n5.size (fun k e => by have e' : some g5 = some k := e; injection e' with e'; omega)
      have HA := Lib.hid HN6.at
      clear hown6 hgrow6 hat6 HN6 s1 s2 s3 S4 C5 ho5
      go_wp2_with fail
      refine (KD.out _ _ HA.out).mono ?_
      rintro e w7 ⟨rfl, hb⟩
      have n7 := n6.trans (hb.mono n6.size)
      clear hb
      go_wp2_with fail
      go_ret
      exact ⟨rfl, b1.trans (n7.mono b1.size)⟩

set_option maxRecDepth 100000 in
set_option maxHeartbeats 1000000 in
theorem clashOkP_long (a : Option Addr) (len cap : Nat) (w : World) (hl : 1048576 < len) :
    Calls Try.prog 3 #[.slice a len cap] w fun e w' => e = .returned (.bool true) ∧ Below w.heap.size w w' := by
  go_enter Try.func3, Try.ntmps3
  go_wp2
  go_ret
  exact ⟨rfl, Below.refl _ _⟩

theorem clashOkP_walk (a : Option Addr) (len cap : Nat) (w : World) (h : CodeIn w a len cap) :
    Calls Try.prog 3 #[.slice a len cap] w fun e w' => e = .returned (.bool true) ∧ Below w.heap.size w w' := by
  by_cases hl : len ≤ 1048576
  · exact clashOkP_short a len cap w h hl
  · exact clashOkP_long a len cap w (by omega)

end Tmo

set_option maxRecDepth 100000 in
theorem clashOkP_holds : Rows.FnClashOkSaid :=
  OpenClaim.holds_of_wide 3 Try.f3 rfl rfl rfl rfl rfl rfl rfl ⟨rfl, rfl, rfl, rfl, rfl⟩ rfl rfl rfl rfl rfl (by kernel_rfl) Try.func3 (by kernel_rfl)
    (of_decide_eq_true (by kernel_rfl)) (by unfold Func.isWrapper; rw [if_neg (by decide +kernel)]; exact ⟨rfl, rfl⟩)
    (fun os started H enc _ => law_lifted (s := Rows.fnClashOkSpec) (tb := 4) own started laid (by kernel_rfl) Try.func3 rfl (by kernel_rfl) Try.underlying4 (by kernel_rfl)
      (fun ds h => by rw [Try.params3] at h; match ds, h with | [_], _ => rfl)
      (ChangeSpec.witness6 (enc := enc) (C := Try.checked) false ⟨#[], #[.slice none 0 0], []⟩ 8 (by kernel_rfl) (by kernel_rfl) (by kernel_rfl) (by kernel_rfl))
      (law_code Try.params3 Tmo.clashOkP_walk))
#print axioms clashOkP_holds

end Go.Proofs.Ytokafkbefllfjaa
