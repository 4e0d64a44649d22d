/- At every code the law FnLockChanges returns true: the program and the model count the same changes; nothing of a lock changes in itself, nor of names that are all set free. No condition. -/
import Derived.Test.YtmhamoeibkpnpaaDfreed
import Derived.Test.YtmhamoeibkpnpaaInto
import Derived.Test.YtmhamoeibkpnpaaLkc
import Derived.Test.YtmhamoeibkpnpaaGe
namespace Go.Proofs.Ytmhamoeibkpnpaa
open Go.ChangeShapes Go.WideShapes Go.ChangeAt Go.RowKit Go.Joins Go.Sort

namespace Plc
open Foot Dsh Dpk Dfr Lkc
def AnyChange (w : World) (e : Ending) (w' : World) : Prop := ∃ A N C va vn vc, e = .returned (.tuple #[va, vn, vc]) ∧ PkAt w' w'.heap.size va A ∧ InAt w' w'.heap.size vn N ∧ PkAt w' w'.heap.size vc C ∧ A.length ≤ 7 ∧ N.length ≤ 3 ∧ C.length ≤ 7 ∧ Below w.heap.size w w'

set_option maxRecDepth 100000 in
set_option maxHeartbeats 2000000 in
theorem DrawLockChanges_any (a : Option Addr) (len cap : Nat) (w : World) (h : CodeIn w a len cap) : Calls Try.prog 8 #[.slice a len cap] w (AnyChange w) := by
  go_enter Try.func8, Try.ntmps8
  go_wp2_with fail
  refine (open_any a len cap _ h).mono ?_
  rintro e w1 ⟨rfl, hr1, hb1⟩
  have hz := rdAt_lt hr1
  have z1 := hb1.size
  go_wp2_with fail
  refine (l20Shelf_any _ 0 4 0 w1 (by omega) hr1 (by omega) (by omega) (by omega)).mono ?_
  rintro e w2 ⟨S, v, fs, rfl, hg, hl, hsz, hd⟩
  have b2 := drawn_below hd hb1 (Nat.le_refl _)
  obtain ⟨sa, caps, rfl, hform, hcap⟩ := hg.form
  obtain ⟨q, hq0, hq1, hr2, hg2⟩ := hd
  have HG := Lib.hid hg
  have z2 := b2.size
  have z12 := hg2.size
  clear hg hr1 hg2 hb1
  go_wp2_with fail
  refine (l20Picks_any _ q w1.heap.size 12 sa caps S fs w2 hr2 (by omega) (by omega) (by omega) HG.out (by omega) hl).mono ?_
  rintro e w3 ⟨A, va, rfl, ho, hl3, hd⟩
  have b3 := drawn_below hd b2 (Nat.le_refl _)
  obtain ⟨q3, hq30, hq31, hr3, hg3⟩ := hd
  have HG3 := Lib.hid (HG.out.drawn hg3 (by omega))
  have HO := Lib.hid ho
  have z23 := hg3.size
  clear ho hr2 b2 hg3
  go_wp2_with fail
  refine (l20Freed_any _ q3 w3 hr3 (by omega)).mono ?_
  rintro e w4 ⟨N, vn, rfl, hn, hl4, hd⟩
  have b4 := drawn_below hd b3 (Nat.le_refl _)
  obtain ⟨q4, hq40, hq41, hr4, hg4⟩ := hd
  have HG4 := Lib.hid (HG3.out.drawn hg4 (by omega))
  have HO4 := Lib.hid (HO.out.drawn hg4 (by omega))
  have HN := Lib.hid hn
  have z34 := hg4.size
  clear hn hr3 b3 hg4
  go_wp2_with fail
  refine (l20Picks_any _ q4 w1.heap.size 12 sa caps S fs w4 hr4 (by omega) (by omega) (by omega) HG4.out (by omega) hl).mono ?_
  rintro e w5 ⟨C, vc, rfl, hc, hl5, hd⟩
  have b5 := drawn_below hd b4 (Nat.le_refl _)
  obtain ⟨q5, hq50, hq51, hr5, hg5⟩ := hd
  have HO5 := Lib.hid (HO4.out.drawn hg5 (by omega)).at
  have HN5 := Lib.hid (IOwn.ib (io_drawn HN.out hg5 (by omega))).at
  have HC5 := Lib.hid hc.at
  clear hc hr4 hr5 b4 hg5
  go_wp2_with fail
  exact bodyPost_ret (v := .tuple #[va, vn, vc]) (by simp [results, Try.results8, go_sem]) rfl ⟨A, N, C, va, vn, vc, rfl, HO5.out, HN5.out, HC5.out, hl3, hl4, hl5, b5⟩

theorem change_self {A : List Pk} (N : List Int) (h : pkOk A = true) : changesL A N A = 0 := by
  unfold changesL
  rw [h]
  simp only [Bool.and_self, if_true]
  have : lostL (keptL A N) A [] = 0 := by
    unfold lostL keptL
    rw [List.length_eq_zero_iff, List.filter_eq_nil_iff]
    intro x hx
    simp [(List.mem_filter.1 hx).1]
  rw [this]
  rfl
theorem pk_names : ∀ {M : List Pk} {lo : Int}, 0 ≤ lo → pkFrom lo M = true → ∀ q ∈ M, 0 ≤ q.1 ∧ q.1 ≤ 7
  | [], _, _, _, q, hq => by simp at hq
  | x :: t, lo, h0, h, q, hq => by
    simp only [pkFrom, Bool.and_eq_true, decide_eq_true_eq] at h
    rcases List.mem_cons.1 hq with rfl | hq
    · exact ⟨by omega, h.1.2⟩
    · exact pk_names (by omega) h.2.2 q hq
theorem change_free {A C : List Pk} (h : pkOk A = true) (hc : pkOk C = true) : changesL A [0, 1, 2, 3, 4, 5, 6, 7] C = 0 := by
  unfold changesL
  rw [h, hc]
  simp only [Bool.and_self, if_true]
  have : lostL (keptL A [0, 1, 2, 3, 4, 5, 6, 7]) C [] = 0 := by
    have e : keptL A [0, 1, 2, 3, 4, 5, 6, 7] = [] := by
      unfold keptL
      rw [List.filter_eq_nil_iff]
      intro x hx
      have := pk_names (Int.le_refl 0) h x hx
      have : x.1 = 0 ∨ x.1 = 1 ∨ x.1 = 2 ∨ x.1 = 3 ∨ x.1 = 4 ∨ x.1 = 5 ∨ x.1 = 6 ∨ x.1 = 7 := by omega
      rcases this with e | e | e | e | e | e | e | e <;> rw [e] <;> decide
    rw [e]
    rfl
  rw [this]
  rfl
theorem change_less (A : List Pk) (N : List Int) (C : List Pk) : changesL A N C ≤ changesL A [] C := by
  unfold changesL
  split
  · have : lostL (keptL A N) C [] ≤ lostL (keptL A []) C [] := by
      unfold lostL keptL
      have h1 : (A.filter fun x => !decide (x.1 ∈ ([] : List Int))) = A := by
        rw [List.filter_eq_self]
        intro x _
        simp
      rw [h1]
      exact (List.Sublist.filter _ List.filter_sublist).length_le
    omega
  · exact Int.le_refl _

abbrev eight : Array Value := #[.int .i64 0, .int .i64 1, .int .i64 2, .int .i64 3, .int .i64 4, .int .i64 5, .int .i64 6, .int .i64 7]
theorem eight_at (W : World) : InAt (W.alloc (.cells eight 3)) (W.alloc (.cells eight 3)).heap.size (.slice (some ⟨W.heap.size, 0, none⟩) 8 8) [0, 1, 2, 3, 4, 5, 6, 7] := by
  refine ⟨_, _, rfl, .inr ⟨W.heap.size, 0, rfl, by simp, fun i hi => ?_⟩⟩
  have h := heap_alloc_new W (.cells eight 3)
  rw [Nat.zero_add, cell_of_row _ _ i _ _ (0, 0) h]
  have : i = 0 ∨ i = 1 ∨ i = 2 ∨ i = 3 ∨ i = 4 ∨ i = 5 ∨ i = 6 ∨ i = 7 := by simp at hi; omega
  rcases this with rfl | rfl | rfl | rfl | rfl | rfl | rfl | rfl <;> rfl

set_option maxRecDepth 100000 in
set_option maxHeartbeats 4000000 in
theorem short (a : Option Addr) (len cap : Nat) (w : World) (h : CodeIn w a len cap) (hl : len ≤ 1048576) :
    Calls Try.prog 3 #[.slice a len cap] w fun e w' => e = .returned (.bool true) ∧ Below w.heap.size w w' := by
  go_enter Try.func3, Try.ntmps3
  go_wp2_with fail
  refine (DrawLockChanges_any a len cap w h).mono ?_
  rintro e w1 ⟨A, N, C, va, vn, vc, rfl, hA, hN, hC, lA, lN, lC, b1⟩
  have z1 := b1.size
  have mA : A.length ≤ 1048576 := by omega
  have mN : N.length ≤ 1048576 := by omega
  have mC : C.length ≤ 1048576 := by omega
  have HA := Lib.hid hA
  have HN := Lib.hid hN
  have HC := Lib.hid hC
  clear hA hN hC h
  have KI : Hid (∀ V, Below w1.heap.size w1 V → Calls Try.prog 9 #[va, vn, vc] V fun e w' => e = .returned (.int .i64 (changesL A N C)) ∧ Below V.heap.size V w') := Lib.hid fun V g => implChanges_any _ _ _ A N C V mA mN mC (HA.out.stepAt g) (HN.out.stepAt g) (HC.out.stepAt g)
  have KS : Hid (∀ V, Below w1.heap.size w1 V → Calls Try.prog 10 #[va, vn, vc] V fun e w' => e = .returned (.int .i64 (changesL A N C)) ∧ Below V.heap.size V w') := Lib.hid fun V g => specChanges_any _ _ _ A N C V mA mN mC (HA.out.stepAt g) (HN.out.stepAt g) (HC.out.stepAt g)
  have KA : Hid (∀ V, Below w1.heap.size w1 V → Calls Try.prog 11 #[va] V fun e w' => e = .returned (.bool (pkOk A)) ∧ Below V.heap.size V w') := Lib.hid fun V g => implPicksOk_any _ A V mA (HA.out.stepAt g)
  have KC : Hid (∀ V, Below w1.heap.size w1 V → Calls Try.prog 11 #[vc] V fun e w' => e = .returned (.bool (pkOk C)) ∧ Below V.heap.size V w') := Lib.hid fun V g => implPicksOk_any _ C V mC (HC.out.stepAt g)
  rcases hk : pkOk A
  · have e1 : changesL A N C = -1 := by unfold changesL; rw [hk]; rfl
    rw [e1] at KI KS
    rw [hk] at KA
    clear e1 hk KC
    go_wp2_with fail
    refine (KI.out _ (Below.refl _ _)).mono ?_
    rintro e w2 ⟨rfl, hb⟩
    have n2 := hb
    clear hb
    go_wp2_with fail
    refine (KS.out _ n2).mono ?_
    rintro e w3 ⟨rfl, hb⟩
    have n3 := n2.trans (hb.mono n2.size)
    clear hb n2
    go_wp2_with fail
    refine (KA.out _ n3).mono ?_
    rintro e w4 ⟨rfl, hb⟩
    have n4 := n3.trans (hb.mono n3.size)
    clear hb n3
    go_wp2_with fail
    refine (alive_any _).mono ?_
    rintro e w5 ⟨rfl, hb⟩
    have n5 := n4.trans (hb.mono n4.size)
    clear hb n4
    go_wp2_with fail
    go_ret
    exact ⟨rfl, b1.trans (n5.mono z1)⟩
  rcases hc : pkOk C
  · have e1 : changesL A N C = -1 := by unfold changesL; rw [hk, hc]; rfl
    rw [e1] at KI KS
    rw [hk] at KA
    rw [hc] at KC
    clear e1 hk hc
    go_wp2_with fail
    refine (KI.out _ (Below.refl _ _)).mono ?_
    rintro e w2 ⟨rfl, hb⟩
    have n2 := hb
    clear hb
    go_wp2_with fail
    refine (KS.out _ n2).mono ?_
    rintro e w3 ⟨rfl, hb⟩
    have n3 := n2.trans (hb.mono n2.size)
    clear hb n2
    go_wp2_with fail
    refine (KA.out _ n3).mono ?_
    rintro e w4 ⟨rfl, hb⟩
    have n4 := n3.trans (hb.mono n3.size)
    clear hb n3
    go_wp2_with fail
    refine (KC.out _ n4).mono ?_
    rintro e w5 ⟨rfl, hb⟩
    have n5 := n4.trans (hb.mono n4.size)
    clear hb n4
    go_wp2_with fail
    refine (alive_any _).mono ?_
    rintro e w6 ⟨rfl, hb⟩
    have n6 := n5.trans (hb.mono n5.size)
    clear hb n5
    go_wp2_with fail
    go_ret
    exact ⟨rfl, b1.trans (n6.mono z1)⟩
  have KM : Hid (∀ V, Below w1.heap.size w1 V → Calls Try.prog 9 #[va, vn, va] V fun e w' => e = .returned (.int .i64 0) ∧ Below V.heap.size V w') := Lib.hid fun V g => by
    have := implChanges_any _ _ _ A N A V mA mN mA (HA.out.stepAt g) (HN.out.stepAt g) (HA.out.stepAt g)
    rwa [change_self N hk] at this
  have K8 : Hid (∀ V u, Below w1.heap.size w1 V → InAt V V.heap.size u [0, 1, 2, 3, 4, 5, 6, 7] → Calls Try.prog 9 #[va, u, vc] V fun e w' => e = .returned (.int .i64 0) ∧ Below V.heap.size V w') := Lib.hid fun V u g gu => by
    have := implChanges_any _ _ _ A [0, 1, 2, 3, 4, 5, 6, 7] C V mA (by simp) mC (HA.out.stepAt g) gu (HC.out.stepAt g)
    rwa [change_free hk hc] at this
  have KZ : Hid (∀ V, Below w1.heap.size w1 V → Calls Try.prog 9 #[va, .slice none 0 0, vc] V fun e w' => e = .returned (.int .i64 (changesL A [] C)) ∧ Below V.heap.size V w') := Lib.hid fun V g => implChanges_any _ _ _ A [] C V mA (by simp) mC (HA.out.stepAt g) ⟨_, _, rfl, .inl rfl⟩ (HC.out.stepAt g)
  have hle := change_less A N C
  rw [hk] at KA
  rw [hc] at KC
  have hneg : ¬ changesL A N C = -1 := by
    unfold changesL
    rw [hk, hc]
    simp only [Bool.and_self, if_true]
    omega
  generalize changesL A N C = x at *
  generalize changesL A [] C = y at *
  have hle2 : decide (x ≤ y) = true := decide_eq_true hle
  have hxx : (x != x) = false := by simp
  clear hk hc hneg
  go_wp2_with fail
  refine (KI.out _ (Below.refl _ _)).mono ?_
  rintro e w2 ⟨rfl, hb⟩
  have n2 := hb
  clear hb
  go_wp2_with fail
  refine (KS.out _ n2).mono ?_
  rintro e w3 ⟨rfl, hb⟩
  have n3 := n2.trans (hb.mono n2.size)
  clear hb n2
  go_wp2_with fail
  refine (KA.out _ n3).mono ?_
  rintro e w4 ⟨rfl, hb⟩
  have n4 := n3.trans (hb.mono n3.size)
  clear hb n3
  go_wp2_with fail
  refine (KC.out _ n4).mono ?_
  rintro e w5 ⟨rfl, hb⟩
  have n5 := n4.trans (hb.mono n4.size)
  clear hb n4
  go_wp2_with fail
  refine (KM.out _ n5).mono ?_
  rintro e w6 ⟨rfl, hb⟩
  have n6 := n5.trans (hb.mono n5.size)
  clear hb n5
  have q8 := eight_at w6
  have HQ8 := Lib.hid q8
  have n7 := n6.alloc n6.size (.cells eight 3)
  clear q8
  go_wp2_with fail
  refine (K8.out _ _ n7 HQ8.out).mono ?_
  rintro e w8 ⟨rfl, hb⟩
  have n8 := n7.trans (hb.mono n7.size)
  clear hb n7 n6
  go_wp2_with fail
  refine (KZ.out _ n8).mono ?_
  rintro e w9 ⟨rfl, hb⟩
  have n9 := n8.trans (hb.mono n8.size)
  clear hb n8
  go_wp2_with fail
  refine (alive_any _).mono ?_
  rintro e w10 ⟨rfl, hb⟩
  have n10 := n9.trans (hb.mono n9.size)
  clear hb n9
  go_wp2_with fail
  go_ret
  exact ⟨rfl, b1.trans (n10.mono z1)⟩

set_option maxRecDepth 100000 in
set_option maxHeartbeats 1000000 in
theorem long (a : Option Addr) (len cap : Nat) (w : World) (hl : 1048576 < len) :
    Calls Try.prog 3 #[.slice a len cap] w fun e w' => e = .returned (.bool true) ∧ Below w.heap.size w w' := by
  go_enter Try.func3, Try.ntmps3
  go_wp2
  go_ret
  exact ⟨rfl, Below.refl _ _⟩
theorem walk (a : Option Addr) (len cap : Nat) (w : World) (h : CodeIn w a len cap) :
    Calls Try.prog 3 #[.slice a len cap] w fun e w' => e = .returned (.bool true) ∧ Below w.heap.size w w' := by
  by_cases hl : len ≤ 1048576
  · exact short a len cap w h hl
  · exact long a len cap w (by omega)
end Plc

set_option maxRecDepth 100000 in
theorem lockChanges_holds : Rows.FnLockChangesSaid :=
  OpenClaim.holds_of_wide 3 Try.f3 rfl rfl rfl rfl rfl rfl rfl ⟨rfl, rfl, rfl, rfl, rfl⟩ rfl rfl rfl rfl rfl (by kernel_rfl) Try.func3 (by kernel_rfl)
    (of_decide_eq_true (by kernel_rfl)) (by unfold Func.isWrapper; rw [if_neg (by decide +kernel)]; exact ⟨rfl, rfl⟩)
    (fun os started H enc _ => law_lifted (s := Rows.fnLockChangesSpec) (tb := 4) own started laid (by kernel_rfl) Try.func3 rfl (by kernel_rfl) Try.underlying4 (by kernel_rfl)
      (fun ds h => by rw [Try.params3] at h; match ds, h with | [_], _ => rfl)
      (ChangeSpec.witness6 (enc := enc) (C := Try.checked) false ⟨#[], #[.slice none 0 0], []⟩ 8 (by kernel_rfl) (by kernel_rfl) (by kernel_rfl) (by kernel_rfl))
      (law_code Try.params3 Plc.walk))
#print axioms lockChanges_holds
end Go.Proofs.Ytmhamoeibkpnpaa
