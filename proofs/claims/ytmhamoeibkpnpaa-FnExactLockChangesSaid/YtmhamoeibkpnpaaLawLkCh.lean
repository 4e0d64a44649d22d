/- At every argument the law FnExactLockChanges returns true: LockChanges of the program answers as LockChanges of the model, and leaves its arguments. No condition. -/
import Derived.Test.YtmhamoeibkpnpaaGg
import Derived.Test.YtmhamoeibkpnpaaPkmk
import Derived.Test.YtmhamoeibkpnpaaInto
import Derived.Test.YtmhamoeibkpnpaaLkc
import Derived.Deep.RegionHeld3
namespace Go.Proofs.Ytmhamoeibkpnpaa
open Go.ChangeShapes Go.WideShapes Go.ChangeAt Go.RowKit Go.Joins Go.Sort

namespace Llc
open Cpu
theorem eqIntS_same {v v' : Value} {N : List Int} {w : World} (hl : N.length ≤ 1048576) (h : InAt w w.heap.size v N) (h' : InAt w w.heap.size v' N) :
    Calls Try.prog 24 #[v, v'] w fun e w' => e = .returned (.bool true) ∧ Below w.heap.size w w' := by
  have := eqIntS_any v v' N N w hl hl h h'
  rwa [decide_eq_true rfl] at this
set_option maxRecDepth 100000 in
set_option maxHeartbeats 4000000 in
theorem long_F (v0 v1 v2 : Value) (D : List Pk) (F : List Int) (C : List Pk) (w : World) (h0 : PkAt w w.heap.size v0 D) (h1 : InAt w w.heap.size v1 F) (h2 : PkAt w w.heap.size v2 C) (hl : 1048576 < F.length) :
    Calls Try.prog 6 #[v0, v1, v2] w fun e w' => e = .returned (.bool true) ∧ Below w.heap.size w w' := by
  obtain ⟨a0, c0, rfl, x0⟩ := id h0
  obtain ⟨a1, c1, rfl, x1⟩ := id h1
  obtain ⟨a2, c2, rfl, x2⟩ := id h2
  clear x0 x1 x2 h0 h1 h2
  have hI : (1048576 : Int) < ((F.length : Nat) : Int) := by omega
  go_enter Try.func6, Try.ntmps6
  go_wp2_with fail
  go_ret
  exact ⟨rfl, Below.refl _ _⟩
set_option maxRecDepth 100000 in
set_option maxHeartbeats 4000000 in
theorem long (v0 v1 v2 : Value) (D : List Pk) (F : List Int) (C : List Pk) (w : World) (hmD : D.length ≤ maxLen) (hmC : C.length ≤ maxLen) (hlF : F.length ≤ 1048576) (h0 : PkAt w w.heap.size v0 D) (h1 : InAt w w.heap.size v1 F) (h2 : PkAt w w.heap.size v2 C) (hl : 1048576 < D.length + C.length) :
    Calls Try.prog 6 #[v0, v1, v2] w fun e w' => e = .returned (.bool true) ∧ Below w.heap.size w w' := by
  obtain ⟨a0, c0, rfl, x0⟩ := id h0
  obtain ⟨a1, c1, rfl, x1⟩ := id h1
  obtain ⟨a2, c2, rfl, x2⟩ := id h2
  clear x0 x1 x2
  have H0 := Lib.hid h0
  have H1 := Lib.hid h1
  have H2 := Lib.hid h2
  clear h0 h1 h2
  have hI1 : ¬ (1048576 : Int) < ((F.length : Nat) : Int) := by omega
  by_cases g0 : 1048576 < ((D.length : Nat) : Int)
  · have K0 : Hid (∀ V, PkAt V V.heap.size (.slice a0 D.length c0) D → Calls Try.prog 20 #[.slice a0 D.length c0, .int .i64 1048576] V fun e w' => e = .returned (.int .i64 (-1)) ∧ Below V.heap.size V w') := Lib.hid fun V g => by
      have := szPickS_any _ D 1048576 V (by omega) (by omega) hmD g
      rwa [show pleft 1048576 D.length = -1 by unfold pleft; rw [if_pos (by omega)]] at this
    clear hl 
    go_enter Try.func6, Try.ntmps6
    go_wp2_with fail
    refine (K0.out _ (H0.out.stepAt (by go_grown))).mono ?_
    rintro e w1 ⟨rfl, hb⟩
    have b1 := hb
    clear hb
    go_wp2_with fail
    go_ret
    exact ⟨rfl, b1⟩
  obtain ⟨y1, f1, e1, n1⟩ : ∃ y : Int, pleft 1048576 D.length = y ∧ y = 1048576 - ((D.length : Nat) : Int) ∧ ¬ y < 0 := ⟨_, rfl, by unfold pleft; rw [if_neg (by omega)], by unfold pleft; rw [if_neg (by omega)]; omega⟩
  have K0 : Hid (∀ V, PkAt V V.heap.size (.slice a0 D.length c0) D → Calls Try.prog 20 #[.slice a0 D.length c0, .int .i64 1048576] V fun e w' => e = .returned (.int .i64 y1) ∧ Below V.heap.size V w') := Lib.hid fun V g => by
    have := szPickS_any _ D 1048576 V (by omega) (by omega) hmD g
    rwa [f1] at this
  clear f1
  have K2 : Hid (∀ V, PkAt V V.heap.size (.slice a2 C.length c2) C → Calls Try.prog 20 #[.slice a2 C.length c2, .int .i64 y1] V fun e w' => e = .returned (.int .i64 (-1)) ∧ Below V.heap.size V w') := Lib.hid fun V g => by
    have := szPickS_any _ C y1 V (by omega) (by omega) hmC g
    rwa [show pleft y1 C.length = -1 by unfold pleft; rw [if_pos (by omega)]] at this
  clear hl e1
  go_enter Try.func6, Try.ntmps6
  go_wp2_with fail
  refine (K0.out _ (H0.out.stepAt (by go_grown))).mono ?_
  rintro e w1 ⟨rfl, hb⟩
  have b1 := hb
  clear hb
  go_wp2_with fail
  refine (K2.out _ (H2.out.stepAt b1)).mono ?_
  rintro e w3 ⟨rfl, hb⟩
  have b3 := b1.trans (hb.mono b1.size)
  clear hb
  go_wp2_with fail
  go_ret
  exact ⟨rfl, b3⟩

set_option maxRecDepth 100000 in
set_option maxHeartbeats 16000000 in
theorem short (v0 v1 v2 : Value) (D : List Pk) (F : List Int) (C : List Pk) (w : World) (hlF : F.length ≤ 1048576) (h0 : PkAt w w.heap.size v0 D) (h1 : InAt w w.heap.size v1 F) (h2 : PkAt w w.heap.size v2 C) (hl : D.length + C.length ≤ 1048576) :
    Calls Try.prog 6 #[v0, v1, v2] w fun e w' => e = .returned (.bool true) ∧ Below w.heap.size w w' := by
  have hI1 : ¬ (1048576 : Int) < ((F.length : Nat) : Int) := by omega
  have hlD : D.length ≤ 1048576 := by omega
  have hmD : D.length ≤ maxLen := by unfold maxLen; omega
  have hlC : C.length ≤ 1048576 := by omega
  have hmC : C.length ≤ maxLen := by unfold maxLen; omega
  obtain ⟨a0, c0, rfl, x0⟩ := id h0
  obtain ⟨a1, c1, rfl, x1⟩ := id h1
  obtain ⟨a2, c2, rfl, x2⟩ := id h2
  clear x0 x1 x2
  have H0 := Lib.hid h0
  have H1 := Lib.hid h1
  have H2 := Lib.hid h2
  clear h0 h1 h2
  obtain ⟨y1, f1, e1, n1⟩ : ∃ y : Int, pleft 1048576 D.length = y ∧ y = 1048576 - ((D.length : Nat) : Int) ∧ ¬ y < 0 := ⟨_, rfl, by unfold pleft; rw [if_neg (by omega)], by unfold pleft; rw [if_neg (by omega)]; omega⟩
  have K0 : Hid (∀ V, PkAt V V.heap.size (.slice a0 D.length c0) D → Calls Try.prog 20 #[.slice a0 D.length c0, .int .i64 1048576] V fun e w' => e = .returned (.int .i64 y1) ∧ Below V.heap.size V w') := Lib.hid fun V g => by
    have := szPickS_any _ D 1048576 V (by omega) (by omega) hmD g
    rwa [f1] at this
  clear f1
  obtain ⟨y3, f3, e3, n3⟩ : ∃ y : Int, pleft y1 C.length = y ∧ y = y1 - ((C.length : Nat) : Int) ∧ ¬ y < 0 := ⟨_, rfl, by unfold pleft; rw [if_neg (by omega)], by unfold pleft; rw [if_neg (by omega)]; omega⟩
  have K2 : Hid (∀ V, PkAt V V.heap.size (.slice a2 C.length c2) C → Calls Try.prog 20 #[.slice a2 C.length c2, .int .i64 y1] V fun e w' => e = .returned (.int .i64 y3) ∧ Below V.heap.size V w') := Lib.hid fun V g => by
    have := szPickS_any _ C y1 V (by omega) (by omega) hmC g
    rwa [f3] at this
  clear f3
  clear e1 e3 hmD hmC
  have KS : Hid (∀ V u0 u1 u2, PkAt V V.heap.size u0 D → InAt V V.heap.size u1 F → PkAt V V.heap.size u2 C → Calls Try.prog 10 #[u0, u1, u2] V fun e w' => e = .returned (.int .i64 (Lkc.changesL D F C)) ∧ Below V.heap.size V w') := Lib.hid fun V u0 u1 u2 g0 g1 g2 => Lkc.specChanges_any u0 u1 u2 D F C V hlD hlF hlC g0 g1 g2
  have KI : Hid (∀ V u0 u1 u2, PkAt V V.heap.size u0 D → InAt V V.heap.size u1 F → PkAt V V.heap.size u2 C → Calls Try.prog 9 #[u0, u1, u2] V fun e w' => e = .returned (.int .i64 (Lkc.changesL D F C)) ∧ Below V.heap.size V w') := Lib.hid fun V u0 u1 u2 g0 g1 g2 => Lkc.implChanges_any u0 u1 u2 D F C V hlD hlF hlC g0 g1 g2
  generalize Lkc.changesL D F C = A at *
  clear hl
  have hAA : (A != A) = false := by simp
  go_enter Try.func6, Try.ntmps6
  go_wp2_with fail
  refine (K0.out _ (H0.out.stepAt (by go_grown))).mono ?_
  rintro e w1 ⟨rfl, hb⟩
  have zw1 : w.heap.size ≤ w1.heap.size := hb.size
  have bw1 := hb
  clear hb
  go_wp2_with fail
  refine (K2.out _ (H2.out.stepAt bw1)).mono ?_
  rintro e w2 ⟨rfl, hb⟩
  have zw2 : w1.heap.size ≤ w2.heap.size := hb.size
  have bw2 := bw1.trans (hb.mono bw1.size)
  clear hb bw1
  go_wp2_with fail
  refine (toPickS_any _ D _ (H0.out.stepAt bw2) hlD).mono ?_
  rintro e w3 ⟨gzw3, rfl, kzw3, hgz, hb⟩
  clear hgz
  have zw3 : w2.heap.size ≤ w3.heap.size := hb.size
  have bw3 := bw2.trans (hb.mono bw2.size)
  clear hb bw2
  go_wp2_with fail
  refine (toIntS_ib _ F _ (H1.out.stepAt bw3) hlF).mono ?_
  rintro e w4 ⟨gaw4, gcw4, rfl, kzw4, hb⟩
  have zw4 : w3.heap.size ≤ w4.heap.size := hb.size
  have bw4 := bw3.trans (hb.mono bw3.size)
  have rw4_z0 := kzw3.below hb
  clear hb bw3 kzw3
  go_wp2_with fail
  refine (toPickS_any _ C _ (H2.out.stepAt bw4) hlC).mono ?_
  rintro e w5 ⟨gzw5, rfl, kzw5, hgz, hb⟩
  clear hgz
  have zw5 : w4.heap.size ≤ w5.heap.size := hb.size
  have bw5 := bw4.trans (hb.mono bw4.size)
  have rw5_z0 := rw4_z0.below hb
  have rw5_z1 := kzw4.below hb
  clear hb bw4 rw4_z0 kzw4
  go_wp2_with fail
  refine (KS.out _ _ _ _ rw5_z0.at rw5_z1.at kzw5.at).mono ?_
  rintro e w6 ⟨rfl, hb⟩
  have zw6 : w5.heap.size ≤ w6.heap.size := hb.size
  have bw6 := bw5.trans (hb.mono bw5.size)
  have rw6_z0 := rw5_z0.below hb
  have rw6_z1 := rw5_z1.below hb
  have rw6_z2 := kzw5.below hb
  clear hb bw5 rw5_z0 rw5_z1 kzw5
  clear rw6_z0
  clear rw6_z1
  clear rw6_z2
  go_wp2_with fail
  refine (toPickS_pb _ D _ (H0.out.stepAt bw6) hlD).mono ?_
  rintro e w7 ⟨xa0, xc0, rfl, hx0, hb⟩
  have zw7 : w6.heap.size ≤ w7.heap.size := hb.size
  have bw7 := bw6.trans (hb.mono bw6.size)
  clear hb bw6
  go_wp2_with fail
  refine (toIntS_ib _ F _ (H1.out.stepAt bw7) hlF).mono ?_
  rintro e w8 ⟨xa1, xc1, rfl, hx1, hb⟩
  have zw8 : w7.heap.size ≤ w8.heap.size := hb.size
  have bw8 := bw7.trans (hb.mono bw7.size)
  have rw8_x0 := hx0.below hb
  clear hb bw7 hx0
  go_wp2_with fail
  refine (toPickS_pb _ C _ (H2.out.stepAt bw8) hlC).mono ?_
  rintro e w9 ⟨xa2, xc2, rfl, hx2, hb⟩
  have zw9 : w8.heap.size ≤ w9.heap.size := hb.size
  have bw9 := bw8.trans (hb.mono bw8.size)
  have rw9_x0 := rw8_x0.below hb
  have rw9_x1 := hx1.below hb
  clear hb bw8 rw8_x0 hx1
  go_wp2_with fail
  refine (KI.out _ _ _ _ rw9_x0.at rw9_x1.at hx2.at).mono ?_
  rintro e w10 ⟨rfl, hb⟩
  have zw10 : w9.heap.size ≤ w10.heap.size := hb.size
  have bw10 := bw9.trans (hb.mono bw9.size)
  have rw10_x0 := rw9_x0.below hb
  have rw10_x1 := rw9_x1.below hb
  have rw10_x2 := hx2.below hb
  clear hb bw9 rw9_x0 rw9_x1 hx2
  go_wp2_with fail
  refine (toPickS_any _ D _ (H0.out.stepAt bw10) hlD).mono ?_
  rintro e w11 ⟨gzw11, rfl, kzw11, hgz, hb⟩
  clear hgz
  have zw11 : w10.heap.size ≤ w11.heap.size := hb.size
  have bw11 := bw10.trans (hb.mono bw10.size)
  have rw11_x0 := rw10_x0.below hb
  have rw11_x1 := rw10_x1.below hb
  have rw11_x2 := rw10_x2.below hb
  clear hb bw10 rw10_x0 rw10_x1 rw10_x2
  go_wp2_with fail
  refine (eqPickS_same hlD rw11_x0.at kzw11.at).mono ?_
  rintro e w12 ⟨rfl, hb⟩
  have zw12 : w11.heap.size ≤ w12.heap.size := hb.size
  have bw12 := bw11.trans (hb.mono bw11.size)
  have rw12_x0 := rw11_x0.below hb
  have rw12_x1 := rw11_x1.below hb
  have rw12_x2 := rw11_x2.below hb
  have rw12_z0 := kzw11.below hb
  clear hb bw11 rw11_x0 rw11_x1 rw11_x2 kzw11
  clear rw12_z0
  go_wp2_with fail
  refine (toIntS_ib _ F _ (H1.out.stepAt bw12) hlF).mono ?_
  rintro e w13 ⟨gaw13, gcw13, rfl, kzw13, hb⟩
  have zw13 : w12.heap.size ≤ w13.heap.size := hb.size
  have bw13 := bw12.trans (hb.mono bw12.size)
  have rw13_x0 := rw12_x0.below hb
  have rw13_x1 := rw12_x1.below hb
  have rw13_x2 := rw12_x2.below hb
  clear hb bw12 rw12_x0 rw12_x1 rw12_x2
  go_wp2_with fail
  refine (eqIntS_same hlF rw13_x1.at kzw13.at).mono ?_
  rintro e w14 ⟨rfl, hb⟩
  have zw14 : w13.heap.size ≤ w14.heap.size := hb.size
  have bw14 := bw13.trans (hb.mono bw13.size)
  have rw14_x0 := rw13_x0.below hb
  have rw14_x1 := rw13_x1.below hb
  have rw14_x2 := rw13_x2.below hb
  have rw14_z1 := kzw13.below hb
  clear hb bw13 rw13_x0 rw13_x1 rw13_x2 kzw13
  clear rw14_z1
  go_wp2_with fail
  refine (toPickS_any _ C _ (H2.out.stepAt bw14) hlC).mono ?_
  rintro e w15 ⟨gzw15, rfl, kzw15, hgz, hb⟩
  clear hgz
  have zw15 : w14.heap.size ≤ w15.heap.size := hb.size
  have bw15 := bw14.trans (hb.mono bw14.size)
  have rw15_x0 := rw14_x0.below hb
  have rw15_x1 := rw14_x1.below hb
  have rw15_x2 := rw14_x2.below hb
  clear hb bw14 rw14_x0 rw14_x1 rw14_x2
  go_wp2_with fail
  refine (eqPickS_same hlC rw15_x2.at kzw15.at).mono ?_
  rintro e w16 ⟨rfl, hb⟩
  have zw16 : w15.heap.size ≤ w16.heap.size := hb.size
  have bw16 := bw15.trans (hb.mono bw15.size)
  have rw16_x0 := rw15_x0.below hb
  have rw16_x1 := rw15_x1.below hb
  have rw16_x2 := rw15_x2.below hb
  have rw16_z2 := kzw15.below hb
  clear hb bw15 rw15_x0 rw15_x1 rw15_x2 kzw15
  clear rw16_z2
  go_wp2_with fail
  go_ret
  exact ⟨rfl, bw16⟩

set_option maxRecDepth 100000 in
theorem law : LawWalk Try.prog 6 Try.f6 := by
  intro H enc W base args ds ps hval hA
  rw [Try.params6] at hA hval
  obtain ⟨v0, vs0, d0, es0, p0, q0, hargs, rfl, rfl, h0, r0⟩ := trodAll_cons hA
  obtain ⟨v1, vs1, d1, es1, p1, q1, rfl, rfl, rfl, h1, r1⟩ := trodAll_cons r0
  obtain ⟨v2, vs2, d2, es2, p2, q2, rfl, rfl, rfl, h2, r2⟩ := trodAll_cons r1
  obtain ⟨rfl, rfl, rfl⟩ := trodAll_nil r2
  obtain rfl : args = #[v0, v1, v2] := by cases args; simp_all
  obtain ⟨a0, c0, D, rfl, g0, m0⟩ := open_picks (hval 0 _ v0 rfl rfl) h0
  obtain ⟨a1, c1, F, rfl, g1, m1⟩ := open_ints (hval 1 _ v1 rfl rfl) h1
  obtain ⟨a2, c2, C, rfl, g2, m2⟩ := open_picks (hval 2 _ v2 rfl rfl) h2
  rcases Nat.lt_or_ge 1048576 F.length with hlF | hlF
  · exact long_F _ _ _ D F C W g0 g1 g2 hlF
  by_cases hl : D.length + C.length ≤ 1048576
  · exact short _ _ _ D F C W hlF g0 g1 g2 hl
  · exact long _ _ _ D F C W m0 m2 hlF g0 g1 g2 (by omega)
end Llc

set_option maxRecDepth 100000 in
theorem exactLockChanges_holds : Rows.FnExactLockChangesSaid :=
  OpenClaim.holds_of_wide 6 Try.f6 rfl rfl rfl rfl rfl rfl rfl ⟨rfl, rfl, rfl, rfl, rfl⟩ rfl rfl rfl rfl rfl (by kernel_rfl) Try.func6 (by kernel_rfl)
    (of_decide_eq_true (by kernel_rfl)) (by unfold Func.isWrapper; rw [if_neg (by decide +kernel)]; exact ⟨rfl, rfl⟩)
    (fun os started H enc _ => law_lifted (s := Rows.fnExactLockChangesSpec) (tb := 4) own started laid (by kernel_rfl) Try.func6 rfl (by kernel_rfl) Try.underlying4 (by kernel_rfl)
      (fun ds h => by rw [Try.params6] at h; match ds, h with | [_, _, _], _ => rfl)
      (ChangeSpec.witness6 (enc := enc) (C := Try.checked) false ⟨#[], #[.slice none 0 0, .slice none 0 0, .slice none 0 0], []⟩ 8 (by kernel_rfl) (by kernel_rfl) (by kernel_rfl) (by kernel_rfl))
      Llc.law)
#print axioms exactLockChanges_holds
end Go.Proofs.Ytmhamoeibkpnpaa
