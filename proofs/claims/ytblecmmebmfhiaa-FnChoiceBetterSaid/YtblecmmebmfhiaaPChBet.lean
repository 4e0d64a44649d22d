/- At every code the law FnChoiceBetter returns true: the program and the model agree on which of two drawn choices is better; of two fine ones one is better or they are one, and never both. No condition. -/
import Derived.BigFrame
import Derived.Test.YtblecmmebmfhiaaDpicks
import Derived.Test.YtblecmmebmfhiaaPkfact
import Derived.Test.YtblecmmebmfhiaaSamep
import Derived.Test.YtblecmmebmfhiaaGe
namespace Go.Proofs.Ytblecmmebmfhiaa
open Go.ChangeShapes Go.WideShapes Go.ChangeAt Go.RowKit Go.Joins Go.Sort

namespace Pcb
open Foot Dsh Dpk
theorem POwn.low {w : World} {B B' : Nat} {v : Value} {A : List Pk} (h : POwn w B v A) (hB : B' ≤ B) : POwn w B' v A := ⟨h.1, by rcases h.2 with h | ⟨g, c, cur, hv, hb, rest⟩; exact .inl h; exact .inr ⟨g, c, cur, hv, Nat.le_trans hB hb, rest⟩⟩
def AnyTwo (w : World) (e : Ending) (w' : World) : Prop := ∃ A B va ca vb cb, e = .returned (.tuple #[.slice va A.length ca, .slice vb B.length cb]) ∧ PkAt w' w'.heap.size (.slice va A.length ca) A ∧ PkAt w' w'.heap.size (.slice vb B.length cb) B ∧ A.length ≤ 7 ∧ B.length ≤ 7 ∧ Below w.heap.size w w'

set_option maxRecDepth 100000 in
set_option maxHeartbeats 2000000 in
theorem DrawChoiceBetter_any (a : Option Addr) (len cap : Nat) (w : World) (h : CodeIn w a len cap) : Calls Try.prog 24 #[.slice a len cap] w (AnyTwo w) := by
  go_enter Try.func24, Try.ntmps24
  go_wp2_with fail
  refine (open_any a len cap _ h).mono ?_
  rintro e w1 ⟨rfl, hr1, hb1⟩
  have hz := rdAt_lt hr1
  have z1 := hb1.size
  go_wp2_with fail
  refine (l20Shelf_any _ 0 4 0 w1 (by omega) hr1 (by omega) (by omega) (by omega)).mono ?_
  rintro e w2 ⟨S, v, fs, rfl, hg, hl, hsz, hd⟩
  have b2 := drawn_below hd hb1 (Nat.le_refl _)
  obtain ⟨sa, caps, rfl, hform, hcap⟩ := hg.form
  obtain ⟨q, hq0, hq1, hr2, hg2⟩ := hd
  have HG := Lib.hid hg
  have z2 := b2.size
  have z12 := hg2.size
  clear hg hr1 hg2 hb1
  go_wp2_with fail
  refine (l20Picks_any _ q w1.heap.size 15 sa caps S fs w2 hr2 (by omega) (by omega) (by omega) HG.out (by omega) hl).mono ?_
  rintro e w3 ⟨A, v, rfl, ho, hA, hd⟩
  have b3 := drawn_below hd b2 (Nat.le_refl _)
  obtain ⟨q3, hq30, hq31, hr3, hg3⟩ := hd
  obtain ⟨va, ca, rfl⟩ := ho.form
  have HO := Lib.hid ho
  have HG3 := Lib.hid (HG.out.drawn hg3 (by omega))
  have z23 := hg3.size
  clear ho hr2 b2 hg3
  go_wp2_with fail
  refine (pick_any _ q3 6 _ hr3 (by omega)).mono ?_
  rintro e w4 ⟨k6, rfl, a0, a1, y1, hr4, hg4⟩
  have b4 := b3.grown hg4 b3.size (fun k hk => by injection hk with hk; omega)
  have HO4 := Lib.hid (HO.out.drawn hg4 (by omega))
  have HG4 := Lib.hid (HG3.out.drawn hg4 (by omega))
  have z34 := hg4.size
  clear y1 a0 a1 hr3 hg4 b3
  by_cases e6 : k6 = 0
  · subst e6
    have HAT := Lib.hid HO4.out.at
    go_wp2_with fail
    exact bodyPost_ret (v := .tuple #[.slice va A.length ca, .slice va A.length ca]) (by simp [results, Try.results24, go_sem]) rfl
      ⟨A, A, va, ca, va, ca, rfl, HAT.out, HAT.out, hA, hA, b4⟩
  · have e6z : (k6 == 0) = false := by rw [beq_eq_false_iff_ne]; exact e6
    go_wp2_with fail
    refine (l20Picks_any _ (q3 + 1) w1.heap.size 15 sa caps S fs w4 hr4 (by omega) (by omega) (by omega) HG4.out (by omega) hl).mono ?_
    rintro e w5 ⟨B, v, rfl, ho, hB, hd⟩
    have b5 := drawn_below hd b4 (Nat.le_refl _)
    obtain ⟨_, _, _, _, hg5⟩ := hd
    obtain ⟨vb, cb, rfl⟩ := ho.form
    have HAT := Lib.hid (HO4.out.drawn hg5 (by omega)).at
    have HBT := Lib.hid ho.at
    clear ho hr4 hg5
    go_wp2_with fail
    exact bodyPost_ret (v := .tuple #[.slice va A.length ca, .slice vb B.length cb]) (by simp [results, Try.results24, go_sem]) rfl
      ⟨A, B, va, ca, vb, cb, rfl, HAT.out, HBT.out, hA, hB, b5⟩

set_option maxRecDepth 100000 in
set_option maxHeartbeats 8000000 in
theorem betterP_short (a : Option Addr) (len cap : Nat) (w : World) (h : CodeIn w a len cap) (hl : len ≤ 1048576) :
    Calls Try.prog 6 #[.slice a len cap] w fun e w' => e = .returned (.bool true) ∧ Below w.heap.size w w' := by
  go_enter Try.func6, Try.ntmps6
  go_wp2_with fail
  refine (DrawChoiceBetter_any a len cap w h).mono ?_
  rintro e w1 ⟨A, B, va, ca, vb, cb, rfl, hatA, hatB, hA7, hB7, b1⟩
  have hA : A.length ≤ 1048576 := by omega
  have hB : B.length ≤ 1048576 := by omega
  have KI : Hid (∀ V, PkAt V V.heap.size (.slice va A.length ca) A → PkAt V V.heap.size (.slice vb B.length cb) B → Calls Try.prog 25 #[.slice va A.length ca, .slice vb B.length cb] V fun e w' => e = .returned (.bool (pkBetter A B)) ∧ Below V.heap.size V w') := Lib.hid fun V g g' => implBetter_any _ _ A B V hA hB g g'
  have KS : Hid (∀ V, PkAt V V.heap.size (.slice va A.length ca) A → PkAt V V.heap.size (.slice vb B.length cb) B → Calls Try.prog 26 #[.slice va A.length ca, .slice vb B.length cb] V fun e w' => e = .returned (.bool (pkBetter A B)) ∧ Below V.heap.size V w') := Lib.hid fun V g g' => specBetter_any _ _ A B V hA hB g g'
  have KJ : Hid (∀ V, PkAt V V.heap.size (.slice va A.length ca) A → PkAt V V.heap.size (.slice vb B.length cb) B → Calls Try.prog 25 #[.slice vb B.length cb, .slice va A.length ca] V fun e w' => e = .returned (.bool (pkBetter B A)) ∧ Below V.heap.size V w') := Lib.hid fun V g g' => implBetter_any _ _ B A V hB hA g' g
  have KA : Hid (∀ V, PkAt V V.heap.size (.slice va A.length ca) A → Calls Try.prog 23 #[.slice va A.length ca] V fun e w' => e = .returned (.bool (pkOk A)) ∧ Below V.heap.size V w') := Lib.hid fun V g => implPicksOk_any _ A V hA g
  have KB : Hid (∀ V, PkAt V V.heap.size (.slice vb B.length cb) B → Calls Try.prog 23 #[.slice vb B.length cb] V fun e w' => e = .returned (.bool (pkOk B)) ∧ Below V.heap.size V w') := Lib.hid fun V g => implPicksOk_any _ B V hB g
  have KE : Hid (∀ V, PkAt V V.heap.size (.slice va A.length ca) A → PkAt V V.heap.size (.slice vb B.length cb) B → Calls Try.prog 27 #[.slice va A.length ca, .slice vb B.length cb] V fun e w' => e = .returned (.bool (decide (A = B))) ∧ Below V.heap.size V w') := Lib.hid fun V g g' => Smp.samePicks_any _ _ A B V hA hB g g'
  have HA := Lib.hid hatA
  have HB := Lib.hid hatB
  clear hatA hatB h
  rcases hoA : pkOk A
  · have hx : pkBetter A B = false := by unfold pkBetter; rw [hoA]; rfl
    rw [hx] at KI KS
    rw [hoA] at KA
    clear hx hoA KJ KE
    go_wp2_with fail
    refine (KI.out _ HA.out HB.out).mono ?_
    rintro e w2 ⟨rfl, hb⟩
    have n2 := hb
    clear hb
    go_wp2_with fail
    refine (KS.out _ (HA.out.stepAt n2) (HB.out.stepAt n2)).mono ?_
    rintro e w3 ⟨rfl, hb⟩
    have n3 := n2.trans (hb.mono n2.size)
    clear hb
    go_wp2_with fail
    refine (KA.out _ (HA.out.stepAt n3)).mono ?_
    rintro e w4 ⟨rfl, hb⟩
    have n4 := n3.trans (hb.mono n3.size)
    clear hb
    go_wp2_with fail
    refine (alive_any _).mono ?_
    rintro e w5 ⟨rfl, hb⟩
    have n5 := n4.trans (hb.mono n4.size)
    clear hb
    go_wp2_with fail
    go_ret
    exact ⟨rfl, b1.trans (n5.mono b1.size)⟩
  rcases hoB : pkOk B
  · have hx : pkBetter A B = false := by unfold pkBetter; rw [hoA, hoB]; rfl
    rw [hx] at KI KS
    rw [hoA] at KA
    rw [hoB] at KB
    clear hx hoA hoB KJ KE
    go_wp2_with fail
    refine (KI.out _ HA.out HB.out).mono ?_
    rintro e w2 ⟨rfl, hb⟩
    have n2 := hb
    clear hb
    go_wp2_with fail
    refine (KS.out _ (HA.out.stepAt n2) (HB.out.stepAt n2)).mono ?_
    rintro e w3 ⟨rfl, hb⟩
    have n3 := n2.trans (hb.mono n2.size)
    clear hb
    go_wp2_with fail
    refine (KA.out _ (HA.out.stepAt n3)).mono ?_
    rintro e w4 ⟨rfl, hb⟩
    have n4 := n3.trans (hb.mono n3.size)
    clear hb
    go_wp2_with fail
    refine (KB.out _ (HB.out.stepAt n4)).mono ?_
    rintro e w5 ⟨rfl, hb⟩
    have n5 := n4.trans (hb.mono n4.size)
    clear hb
    go_wp2_with fail
    refine (alive_any _).mono ?_
    rintro e w6 ⟨rfl, hb⟩
    have n6 := n5.trans (hb.mono n5.size)
    clear hb
    go_wp2_with fail
    go_ret
    exact ⟨rfl, b1.trans (n6.mono b1.size)⟩
  obtain ⟨law1, law2⟩ := Pkf.better_law hoA hoB
  rw [hoA] at KA
  rw [hoB] at KB
  clear hoA hoB
  rcases hx : pkBetter A B
  · rcases hy : pkBetter B A
    · rw [hx, hy] at law1
      rw [law1] at KE
      rw [hx] at KI KS
      rw [hy] at KJ
      clear law1 law2 hx hy
      go_wp2_with fail
      refine (KI.out _ HA.out HB.out).mono ?_
      rintro e w2 ⟨rfl, hb⟩
      have n2 := hb
      clear hb
      go_wp2_with fail
      refine (KS.out _ (HA.out.stepAt n2) (HB.out.stepAt n2)).mono ?_
      rintro e w3 ⟨rfl, hb⟩
      have n3 := n2.trans (hb.mono n2.size)
      clear hb
      go_wp2_with fail
      refine (KA.out _ (HA.out.stepAt n3)).mono ?_
      rintro e w4 ⟨rfl, hb⟩
      have n4 := n3.trans (hb.mono n3.size)
      clear hb
      go_wp2_with fail
      refine (KB.out _ (HB.out.stepAt n4)).mono ?_
      rintro e w5 ⟨rfl, hb⟩
      have n5 := n4.trans (hb.mono n4.size)
      clear hb
      go_wp2_with fail
      refine (KE.out _ (HA.out.stepAt n5) (HB.out.stepAt n5)).mono ?_
      rintro e w6 ⟨rfl, hb⟩
      have n6 := n5.trans (hb.mono n5.size)
      clear hb
      go_wp2_with fail
      refine (KJ.out _ (HA.out.stepAt n6) (HB.out.stepAt n6)).mono ?_
      rintro e w7 ⟨rfl, hb⟩
      have n7 := n6.trans (hb.mono n6.size)
      clear hb
      go_wp2_with fail
      refine (alive_any _).mono ?_
      rintro e w8 ⟨rfl, hb⟩
      have n8 := n7.trans (hb.mono n7.size)
      clear hb
      go_wp2_with fail
      go_ret
      exact ⟨rfl, b1.trans (n8.mono b1.size)⟩
    · rw [hx, hy] at law1
      rw [law1] at KE
      rw [hx] at KI KS
      rw [hy] at KJ
      clear law1 law2 hx hy
      go_wp2_with fail
      refine (KI.out _ HA.out HB.out).mono ?_
      rintro e w2 ⟨rfl, hb⟩
      have n2 := hb
      clear hb
      go_wp2_with fail
      refine (KS.out _ (HA.out.stepAt n2) (HB.out.stepAt n2)).mono ?_
      rintro e w3 ⟨rfl, hb⟩
      have n3 := n2.trans (hb.mono n2.size)
      clear hb
      go_wp2_with fail
      refine (KA.out _ (HA.out.stepAt n3)).mono ?_
      rintro e w4 ⟨rfl, hb⟩
      have n4 := n3.trans (hb.mono n3.size)
      clear hb
      go_wp2_with fail
      refine (KB.out _ (HB.out.stepAt n4)).mono ?_
      rintro e w5 ⟨rfl, hb⟩
      have n5 := n4.trans (hb.mono n4.size)
      clear hb
      go_wp2_with fail
      refine (KE.out _ (HA.out.stepAt n5) (HB.out.stepAt n5)).mono ?_
      rintro e w6 ⟨rfl, hb⟩
      have n6 := n5.trans (hb.mono n5.size)
      clear hb
      go_wp2_with fail
      refine (KJ.out _ (HA.out.stepAt n6) (HB.out.stepAt n6)).mono ?_
      rintro e w7 ⟨rfl, hb⟩
      have n7 := n6.trans (hb.mono n6.size)
      clear hb
      go_wp2_with fail
      refine (alive_any _).mono ?_
      rintro e w8 ⟨rfl, hb⟩
      have n8 := n7.trans (hb.mono n7.size)
      clear hb
      go_wp2_with fail
      go_ret
      exact ⟨rfl, b1.trans (n8.mono b1.size)⟩
  · rcases hy : pkBetter B A
    · rw [hx, hy] at law1
      rw [law1] at KE
      rw [hx] at KI KS
      rw [hy] at KJ
      clear law1 law2 hx hy
      go_wp2_with fail
      refine (KI.out _ HA.out HB.out).mono ?_
      rintro e w2 ⟨rfl, hb⟩
      have n2 := hb
      clear hb
      go_wp2_with fail
      refine (KS.out _ (HA.out.stepAt n2) (HB.out.stepAt n2)).mono ?_
      rintro e w3 ⟨rfl, hb⟩
      have n3 := n2.trans (hb.mono n2.size)
      clear hb
      go_wp2_with fail
      refine (KA.out _ (HA.out.stepAt n3)).mono ?_
      rintro e w4 ⟨rfl, hb⟩
      have n4 := n3.trans (hb.mono n3.size)
      clear hb
      go_wp2_with fail
      refine (KB.out _ (HB.out.stepAt n4)).mono ?_
      rintro e w5 ⟨rfl, hb⟩
      have n5 := n4.trans (hb.mono n4.size)
      clear hb
      go_wp2_with fail
      refine (KE.out _ (HA.out.stepAt n5) (HB.out.stepAt n5)).mono ?_
      rintro e w6 ⟨rfl, hb⟩
      have n6 := n5.trans (hb.mono n5.size)
      clear hb
      go_wp2_with fail
      refine (KJ.out _ (HA.out.stepAt n6) (HB.out.stepAt n6)).mono ?_
      rintro e w7 ⟨rfl, hb⟩
      have n7 := n6.trans (hb.mono n6.size)
      clear hb
      go_wp2_with fail
      refine (alive_any _).mono ?_
      rintro e w8 ⟨rfl, hb⟩
      have n8 := n7.trans (hb.mono n7.size)
      clear hb
      go_wp2_with fail
      go_ret
      exact ⟨rfl, b1.trans (n8.mono b1.size)⟩
    · rw [hx, hy] at law2
      cases law2

set_option maxRecDepth 100000 in
set_option maxHeartbeats 1000000 in
theorem betterP_long (a : Option Addr) (len cap : Nat) (w : World) (hl : 1048576 < len) :
    Calls Try.prog 6 #[.slice a len cap] w fun e w' => e = .returned (.bool true) ∧ Below w.heap.size w w' := by
  go_enter Try.func6, Try.ntmps6
  go_wp2
  go_ret
  exact ⟨rfl, Below.refl _ _⟩

theorem betterP_walk (a : Option Addr) (len cap : Nat) (w : World) (h : CodeIn w a len cap) :
    Calls Try.prog 6 #[.slice a len cap] w fun e w' => e = .returned (.bool true) ∧ Below w.heap.size w w' := by
  by_cases hl : len ≤ 1048576
  · exact betterP_short a len cap w h hl
  · exact betterP_long a len cap w (by omega)
end Pcb

set_option maxRecDepth 100000 in
theorem choiceBetterP_holds : Rows.FnChoiceBetterSaid :=
  OpenClaim.holds_of_wide 6 Try.f6 rfl rfl rfl rfl rfl rfl rfl ⟨rfl, rfl, rfl, rfl, rfl⟩ rfl rfl rfl rfl rfl (by kernel_rfl) Try.func6 (by kernel_rfl)
    (of_decide_eq_true (by kernel_rfl)) (by unfold Func.isWrapper; rw [if_neg (by decide +kernel)]; exact ⟨rfl, rfl⟩)
    (fun os started H enc _ => law_lifted (s := Rows.fnChoiceBetterSpec) (tb := 4) own started laid (by kernel_rfl) Try.func6 rfl (by kernel_rfl) Try.underlying4 (by kernel_rfl)
      (fun ds h => by rw [Try.params6] at h; match ds, h with | [_], _ => rfl)
      (ChangeSpec.witness6 (enc := enc) (C := Try.checked) false ⟨#[], #[.slice none 0 0], []⟩ 8 (by kernel_rfl) (by kernel_rfl) (by kernel_rfl) (by kernel_rfl))
      (law_code Try.params6 Pcb.betterP_walk))
#print axioms choiceBetterP_holds

end Go.Proofs.Ytblecmmebmfhiaa
