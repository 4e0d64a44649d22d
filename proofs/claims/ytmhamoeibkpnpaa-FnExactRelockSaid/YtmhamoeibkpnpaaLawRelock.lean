/- At every argument the law FnExactRelock returns true: Relock of the program answers as Relock of the model, leaves its arguments, and its answer owns its memory. No condition. -/
import Derived.Test.YtmhamoeibkpnpaaGc
import Derived.Test.YtmhamoeibkpnpaaGg
import Derived.Test.YtmhamoeibkpnpaaGt
import Derived.Test.YtmhamoeibkpnpaaPkmk
import Derived.Test.YtmhamoeibkpnpaaInto
import Derived.Test.YtmhamoeibkpnpaaRlr
import Derived.Deep.RegionHeld3
namespace Go.Proofs.Ytmhamoeibkpnpaa
open Go.ChangeShapes Go.WideShapes Go.ChangeAt Go.RowKit Go.Joins Go.Sort

namespace Lrl
open Foot Copy Cpu
theorem nd_small {M : List Nd} (h : ndSz M ≤ 1048576) : ∀ q ∈ M, q.2.length ≤ 1048576 := fun q hq => by
  obtain ⟨i, hi, rfl⟩ := List.getElem_of_mem hq
  have := ndSz_mem M i _ (List.getElem?_eq_getElem hi)
  omega
theorem eqNeedS_same {v v' : Value} {M : List Nd} {w : World} (hl : M.length ≤ 1048576) (hq : ∀ q ∈ M, q.2.length ≤ 1048576) (h : NdAt w w.heap.size v M) (h' : NdAt w w.heap.size v' M) :
    Calls Try.prog 30 #[v, v'] w fun e w' => e = .returned (.bool true) ∧ Below w.heap.size w w' := by
  have := eqNeedS_any v v' M M w hl hl hq hq h h'
  rwa [decide_eq_true rfl] at this
set_option maxRecDepth 100000 in
theorem toNeedS_in (v : Value) (M : List Nd) (w : World) (h : NdAt w w.heap.size v M) (hl : M.length ≤ 1048576) (hq : ∀ q ∈ M, q.2.length ≤ 1048576) :
    Calls Try.prog 28 #[v] w fun e w' => ∃ a c, e = .returned (.slice a M.length c) ∧ NIn M w.heap.size w'.heap.size (.slice a M.length c) w' ∧ Below w.heap.size w w' :=
  (toNeedS_ord v M w h hl hq).mono fun _ _ ⟨g, he, hk, hg, ho, hb⟩ => ⟨_, _, he, ⟨_, _, rfl, .inr ⟨g, _, rfl, hk, hg, ho⟩⟩, hb⟩
theorem NIn.out {M : List Nd} {lo hi lo' hi' : Nat} {v : Value} {w w' : World} (h : NIn M lo hi v w) (ho : Out lo' hi' w w') (hd : hi' ≤ lo) : NIn M lo hi v w' := h.kept fun k k1 k2 => ho.block k k2 (.inr (by omega))
theorem eqIntS_same {v v' : Value} {N : List Int} {w : World} (hl : N.length ≤ 1048576) (h : InAt w w.heap.size v N) (h' : InAt w w.heap.size v' N) :
    Calls Try.prog 24 #[v, v'] w fun e w' => e = .returned (.bool true) ∧ Below w.heap.size w w' := by
  have := eqIntS_any v v' N N w hl hl h h'
  rwa [decide_eq_true rfl] at this
set_option maxRecDepth 100000 in
set_option maxHeartbeats 4000000 in
theorem long_F (v0 v1 v2 v3 : Value) (S : List Rel) (M : List Nd) (D : List Pk) (F : List Int) (w : World) (h0 : RlAt w w.heap.size v0 S) (h1 : NdAt w w.heap.size v1 M) (h2 : PkAt w w.heap.size v2 D) (h3 : InAt w w.heap.size v3 F) (hl : 1048576 < F.length) :
    Calls Try.prog 7 #[v0, v1, v2, v3] w fun e w' => e = .returned (.bool true) ∧ Below w.heap.size w w' := by
  obtain ⟨a0, c0, rfl, x0⟩ := id h0
  obtain ⟨a1, c1, rfl, x1⟩ := id h1
  obtain ⟨a2, c2, rfl, x2⟩ := id h2
  obtain ⟨a3, c3, rfl, x3⟩ := id h3
  clear x0 x1 x2 x3 h0 h1 h2 h3
  have hI : (1048576 : Int) < ((F.length : Nat) : Int) := by omega
  go_enter Try.func7, Try.ntmps7
  go_wp2_with fail
  go_ret
  exact ⟨rfl, Below.refl _ _⟩
set_option maxRecDepth 100000 in
set_option maxHeartbeats 4000000 in
theorem long (v0 v1 v2 v3 : Value) (S : List Rel) (M : List Nd) (D : List Pk) (F : List Int) (w : World) (hmS : S.length ≤ maxLen) (hqS : ∀ q ∈ S, q.2.2.2.length ≤ maxLen ∧ ∀ p ∈ q.2.2.2, p.2.length ≤ maxLen) (hmM : M.length ≤ maxLen) (hqM : ∀ q ∈ M, q.2.length ≤ maxLen) (hmD : D.length ≤ maxLen) (hlF : F.length ≤ 1048576) (h0 : RlAt w w.heap.size v0 S) (h1 : NdAt w w.heap.size v1 M) (h2 : PkAt w w.heap.size v2 D) (h3 : InAt w w.heap.size v3 F) (hl : 1048576 < (S.length + rlSz S) + (M.length + ndSz M) + D.length) :
    Calls Try.prog 7 #[v0, v1, v2, v3] w fun e w' => e = .returned (.bool true) ∧ Below w.heap.size w w' := by
  obtain ⟨a0, c0, rfl, x0⟩ := id h0
  obtain ⟨a1, c1, rfl, x1⟩ := id h1
  obtain ⟨a2, c2, rfl, x2⟩ := id h2
  obtain ⟨a3, c3, rfl, x3⟩ := id h3
  clear x0 x1 x2 x3
  have H0 := Lib.hid h0
  have H1 := Lib.hid h1
  have H2 := Lib.hid h2
  have H3 := Lib.hid h3
  clear h0 h1 h2 h3
  have hI3 : ¬ (1048576 : Int) < ((F.length : Nat) : Int) := by omega
  by_cases g0 : 1048576 < (((S.length + rlSz S) : Nat) : Int)
  · have K0 : Hid (∀ V, RlAt V V.heap.size (.slice a0 S.length c0) S → Calls Try.prog 25 #[.slice a0 S.length c0, .int .i64 1048576] V fun e w' => e = .returned (.int .i64 (-1)) ∧ Below V.heap.size V w') := Lib.hid fun V g => by
      have := szReleaseS_any _ S 1048576 V (by omega) (by omega) hmS hqS g
      rwa [show leftOf 1048576 (S.length + rlSz S) = -1 by unfold leftOf; rw [if_pos (by omega)]] at this
    clear hl 
    go_enter Try.func7, Try.ntmps7
    go_wp2_with fail
    refine (K0.out _ (H0.out.stepAt (by go_grown))).mono ?_
    rintro e w1 ⟨rfl, hb⟩
    have b1 := hb
    clear hb
    go_wp2_with fail
    go_ret
    exact ⟨rfl, b1⟩
  obtain ⟨y1, f1, e1, n1⟩ : ∃ y : Int, leftOf 1048576 (S.length + rlSz S) = y ∧ y = 1048576 - (((S.length + rlSz S) : Nat) : Int) ∧ ¬ y < 0 := ⟨_, rfl, by unfold leftOf; rw [if_neg (by omega)], by unfold leftOf; rw [if_neg (by omega)]; omega⟩
  have K0 : Hid (∀ V, RlAt V V.heap.size (.slice a0 S.length c0) S → Calls Try.prog 25 #[.slice a0 S.length c0, .int .i64 1048576] V fun e w' => e = .returned (.int .i64 y1) ∧ Below V.heap.size V w') := Lib.hid fun V g => by
    have := szReleaseS_any _ S 1048576 V (by omega) (by omega) hmS hqS g
    rwa [f1] at this
  clear f1
  by_cases g1 : y1 < (((M.length + ndSz M) : Nat) : Int)
  · have K1 : Hid (∀ V, NdAt V V.heap.size (.slice a1 M.length c1) M → Calls Try.prog 26 #[.slice a1 M.length c1, .int .i64 y1] V fun e w' => e = .returned (.int .i64 (-1)) ∧ Below V.heap.size V w') := Lib.hid fun V g => by
      have := szNeedS_any _ M y1 V (by omega) (by omega) hmM hqM g
      rwa [show leftOf y1 (M.length + ndSz M) = -1 by unfold leftOf; rw [if_pos (by omega)]] at this
    clear hl e1
    go_enter Try.func7, Try.ntmps7
    go_wp2_with fail
    refine (K0.out _ (H0.out.stepAt (by go_grown))).mono ?_
    rintro e w1 ⟨rfl, hb⟩
    have b1 := hb
    clear hb
    go_wp2_with fail
    refine (K1.out _ (H1.out.stepAt b1)).mono ?_
    rintro e w2 ⟨rfl, hb⟩
    have b2 := b1.trans (hb.mono b1.size)
    clear hb
    go_wp2_with fail
    go_ret
    exact ⟨rfl, b2⟩
  obtain ⟨y2, f2, e2, n2⟩ : ∃ y : Int, leftOf y1 (M.length + ndSz M) = y ∧ y = y1 - (((M.length + ndSz M) : Nat) : Int) ∧ ¬ y < 0 := ⟨_, rfl, by unfold leftOf; rw [if_neg (by omega)], by unfold leftOf; rw [if_neg (by omega)]; omega⟩
  have K1 : Hid (∀ V, NdAt V V.heap.size (.slice a1 M.length c1) M → Calls Try.prog 26 #[.slice a1 M.length c1, .int .i64 y1] V fun e w' => e = .returned (.int .i64 y2) ∧ Below V.heap.size V w') := Lib.hid fun V g => by
    have := szNeedS_any _ M y1 V (by omega) (by omega) hmM hqM g
    rwa [f2] at this
  clear f2
  have K2 : Hid (∀ V, PkAt V V.heap.size (.slice a2 D.length c2) D → Calls Try.prog 20 #[.slice a2 D.length c2, .int .i64 y2] V fun e w' => e = .returned (.int .i64 (-1)) ∧ Below V.heap.size V w') := Lib.hid fun V g => by
    have := szPickS_any _ D y2 V (by omega) (by omega) hmD g
    rwa [show pleft y2 D.length = -1 by unfold pleft; rw [if_pos (by omega)]] at this
  clear hl e1 e2
  go_enter Try.func7, Try.ntmps7
  go_wp2_with fail
  refine (K0.out _ (H0.out.stepAt (by go_grown))).mono ?_
  rintro e w1 ⟨rfl, hb⟩
  have b1 := hb
  clear hb
  go_wp2_with fail
  refine (K1.out _ (H1.out.stepAt b1)).mono ?_
  rintro e w2 ⟨rfl, hb⟩
  have b2 := b1.trans (hb.mono b1.size)
  clear hb
  go_wp2_with fail
  refine (K2.out _ (H2.out.stepAt b2)).mono ?_
  rintro e w3 ⟨rfl, hb⟩
  have b3 := b2.trans (hb.mono b2.size)
  clear hb
  go_wp2_with fail
  go_ret
  exact ⟨rfl, b3⟩

set_option maxRecDepth 100000 in
set_option maxHeartbeats 16000000 in
theorem short (v0 v1 v2 v3 : Value) (S : List Rel) (M : List Nd) (D : List Pk) (F : List Int) (w : World) (hlF : F.length ≤ 1048576) (h0 : RlAt w w.heap.size v0 S) (h1 : NdAt w w.heap.size v1 M) (h2 : PkAt w w.heap.size v2 D) (h3 : InAt w w.heap.size v3 F) (hl : (S.length + rlSz S) + (M.length + ndSz M) + D.length ≤ 1048576) :
    Calls Try.prog 7 #[v0, v1, v2, v3] w fun e w' => e = .returned (.bool true) ∧ Below w.heap.size w w' := by
  have hI3 : ¬ (1048576 : Int) < ((F.length : Nat) : Int) := by omega
  have hlS : S.length ≤ 1048576 := by omega
  have hmS : S.length ≤ maxLen := by unfold maxLen; omega
  have hzS : rlSz S ≤ 1048576 := by omega
  have hrS := rl_each (M := S) hzS
  have hqS : ∀ q ∈ S, q.2.2.2.length ≤ maxLen ∧ ∀ p ∈ q.2.2.2, p.2.length ≤ maxLen := fun q h => ⟨by have := (hrS q h).1; unfold maxLen; omega, fun p hp => by have := (hrS q h).2 p hp; unfold maxLen; omega⟩
  have hlM : M.length ≤ 1048576 := by omega
  have hmM : M.length ≤ maxLen := by unfold maxLen; omega
  have hzM : ndSz M ≤ 1048576 := by omega
  have hrM := nd_small (M := M) hzM
  have hqM : ∀ q ∈ M, q.2.length ≤ maxLen := fun q h => by have := hrM q h; unfold maxLen; omega
  have hlD : D.length ≤ 1048576 := by omega
  have hmD : D.length ≤ maxLen := by unfold maxLen; omega
  obtain ⟨a0, c0, rfl, x0⟩ := id h0
  obtain ⟨a1, c1, rfl, x1⟩ := id h1
  obtain ⟨a2, c2, rfl, x2⟩ := id h2
  obtain ⟨a3, c3, rfl, x3⟩ := id h3
  clear x0 x1 x2 x3
  have H0 := Lib.hid h0
  have H1 := Lib.hid h1
  have H2 := Lib.hid h2
  have H3 := Lib.hid h3
  clear h0 h1 h2 h3
  obtain ⟨y1, f1, e1, n1⟩ : ∃ y : Int, leftOf 1048576 (S.length + rlSz S) = y ∧ y = 1048576 - (((S.length + rlSz S) : Nat) : Int) ∧ ¬ y < 0 := ⟨_, rfl, by unfold leftOf; rw [if_neg (by omega)], by unfold leftOf; rw [if_neg (by omega)]; omega⟩
  have K0 : Hid (∀ V, RlAt V V.heap.size (.slice a0 S.length c0) S → Calls Try.prog 25 #[.slice a0 S.length c0, .int .i64 1048576] V fun e w' => e = .returned (.int .i64 y1) ∧ Below V.heap.size V w') := Lib.hid fun V g => by
    have := szReleaseS_any _ S 1048576 V (by omega) (by omega) hmS hqS g
    rwa [f1] at this
  clear f1
  obtain ⟨y2, f2, e2, n2⟩ : ∃ y : Int, leftOf y1 (M.length + ndSz M) = y ∧ y = y1 - (((M.length + ndSz M) : Nat) : Int) ∧ ¬ y < 0 := ⟨_, rfl, by unfold leftOf; rw [if_neg (by omega)], by unfold leftOf; rw [if_neg (by omega)]; omega⟩
  have K1 : Hid (∀ V, NdAt V V.heap.size (.slice a1 M.length c1) M → Calls Try.prog 26 #[.slice a1 M.length c1, .int .i64 y1] V fun e w' => e = .returned (.int .i64 y2) ∧ Below V.heap.size V w') := Lib.hid fun V g => by
    have := szNeedS_any _ M y1 V (by omega) (by omega) hmM hqM g
    rwa [f2] at this
  clear f2
  obtain ⟨y3, f3, e3, n3⟩ : ∃ y : Int, pleft y2 D.length = y ∧ y = y2 - ((D.length : Nat) : Int) ∧ ¬ y < 0 := ⟨_, rfl, by unfold pleft; rw [if_neg (by omega)], by unfold pleft; rw [if_neg (by omega)]; omega⟩
  have K2 : Hid (∀ V, PkAt V V.heap.size (.slice a2 D.length c2) D → Calls Try.prog 20 #[.slice a2 D.length c2, .int .i64 y2] V fun e w' => e = .returned (.int .i64 y3) ∧ Below V.heap.size V w') := Lib.hid fun V g => by
    have := szPickS_any _ D y2 V (by omega) (by omega) hmD g
    rwa [f3] at this
  clear f3
  clear e1 e2 e3 hmS hqS hmM hqM hmD
  have hA : ((Rlk.relockL S M D F).getD []).length ≤ 1048576 := Nat.le_trans (Rlk.relock_len S M D F) (by omega)
  have KS : Hid (∀ V u0 u1 u2 u3, RlAt V V.heap.size u0 S → NdAt V V.heap.size u1 M → PkAt V V.heap.size u2 D → InAt V V.heap.size u3 F → Calls Try.prog 15 #[u0, u1, u2, u3] V fun e w' => ∃ v, e = .returned (.tuple #[v, .bool ((Rlk.relockL S M D F).isSome)]) ∧ PB ((Rlk.relockL S M D F).getD []) V.heap.size w'.heap.size v w' ∧ Below V.heap.size V w') := Lib.hid fun V u0 u1 u2 u3 g0 g1 g2 g3 => Rlk.specRelock_any u0 u1 u2 u3 S M D F V hlS hrS hlM hrM hlD hlF g0 g1 g2 g3
  have KI : Hid (∀ V u0 u1 u2 u3, RlAt V V.heap.size u0 S → NdAt V V.heap.size u1 M → PkAt V V.heap.size u2 D → InAt V V.heap.size u3 F → Calls Try.prog 14 #[u0, u1, u2, u3] V fun e w' => ∃ v, e = .returned (.tuple #[v, .bool ((Rlk.relockL S M D F).isSome)]) ∧ PB ((Rlk.relockL S M D F).getD []) V.heap.size w'.heap.size v w' ∧ Below V.heap.size V w') := Lib.hid fun V u0 u1 u2 u3 g0 g1 g2 g3 => Rlk.implRelock_any u0 u1 u2 u3 S M D F V hlS hrS hlM hrM hlD hlF g0 g1 g2 g3
  obtain ⟨bf, hbf⟩ : ∃ bf : Bool, (Rlk.relockL S M D F).isSome = bf := ⟨_, rfl⟩
  rw [hbf] at KS KI
  clear hbf
  have hbb : (bf != bf) = false := by simp
  generalize (Rlk.relockL S M D F).getD [] = A at *
  clear hl
  obtain ⟨mm, hmm, hm0⟩ : ∃ mm : Int, 1 + 5 * (A.length : Int) = mm ∧ ¬ mm < 0 := ⟨_, rfl, by omega⟩
  have hm2 : (mm != mm) = false := by simp
  have KM : Hid (∀ V u lo hi, PB A lo hi u V → Calls Try.prog 33 #[u, .int .i64 1] V fun e w' => e = .returned (.int .i64 mm) ∧ PB (pmarks 1 A.length) lo hi u w' ∧ Out lo hi V w') := Lib.hid fun V u lo hi g => by
    have := markPB hA g 1 (by omega) (by omega)
    rwa [hmm] at this
  have KH : Hid (∀ V u lo hi, PB (pmarks 1 A.length) lo hi u V → Calls Try.prog 35 #[u, .int .i64 1] V fun e w' => e = .returned (.int .i64 mm) ∧ Below V.heap.size V w') := Lib.hid fun V u lo hi g => by
    have := heldPB hA 1 (by omega) (by omega) g
    rwa [hmm] at this
  clear hmm
  go_enter Try.func7, Try.ntmps7
  go_wp2_with fail
  refine (K0.out _ (H0.out.stepAt (by go_grown))).mono ?_
  rintro e w1 ⟨rfl, hb⟩
  have zw1 : w.heap.size ≤ w1.heap.size := hb.size
  have bw1 := hb
  clear hb
  go_wp2_with fail
  refine (K1.out _ (H1.out.stepAt bw1)).mono ?_
  rintro e w2 ⟨rfl, hb⟩
  have zw2 : w1.heap.size ≤ w2.heap.size := hb.size
  have bw2 := bw1.trans (hb.mono bw1.size)
  clear hb bw1
  go_wp2_with fail
  refine (K2.out _ (H2.out.stepAt bw2)).mono ?_
  rintro e w3 ⟨rfl, hb⟩
  have zw3 : w2.heap.size ≤ w3.heap.size := hb.size
  have bw3 := bw2.trans (hb.mono bw2.size)
  clear hb bw2
  go_wp2_with fail
  refine (toReleaseS_any _ S _ (H0.out.stepAt bw3) hlS hrS).mono ?_
  rintro e w4 ⟨gzw4, rfl, kzw4, hgz, hb⟩
  clear hgz
  have zw4 : w3.heap.size ≤ w4.heap.size := hb.size
  have bw4 := bw3.trans (hb.mono bw3.size)
  clear hb bw3
  go_wp2_with fail
  refine (toNeedS_in _ M _ (H1.out.stepAt bw4) hlM hrM).mono ?_
  rintro e w5 ⟨gaw5, gcw5, rfl, kzw5, hb⟩
  have zw5 : w4.heap.size ≤ w5.heap.size := hb.size
  have bw5 := bw4.trans (hb.mono bw4.size)
  have rw5_z0 := kzw4.below hb
  clear hb bw4 kzw4
  go_wp2_with fail
  refine (toPickS_any _ D _ (H2.out.stepAt bw5) hlD).mono ?_
  rintro e w6 ⟨gzw6, rfl, kzw6, hgz, hb⟩
  clear hgz
  have zw6 : w5.heap.size ≤ w6.heap.size := hb.size
  have bw6 := bw5.trans (hb.mono bw5.size)
  have rw6_z0 := rw5_z0.below hb
  have rw6_z1 := kzw5.below hb
  clear hb bw5 rw5_z0 kzw5
  go_wp2_with fail
  refine (toIntS_ib _ F _ (H3.out.stepAt bw6) hlF).mono ?_
  rintro e w7 ⟨gaw7, gcw7, rfl, kzw7, hb⟩
  have zw7 : w6.heap.size ≤ w7.heap.size := hb.size
  have bw7 := bw6.trans (hb.mono bw6.size)
  have rw7_z0 := rw6_z0.below hb
  have rw7_z1 := rw6_z1.below hb
  have rw7_z2 := kzw6.below hb
  clear hb bw6 rw6_z0 rw6_z1 kzw6
  go_wp2_with fail
  refine (KS.out _ _ _ _ _ rw7_z0.at rw7_z1.at rw7_z2.at kzw7.at).mono ?_
  rintro e w8 ⟨vvwa, rfl, hwa, hb⟩
  have zw8 : w7.heap.size ≤ w8.heap.size := hb.size
  have bw8 := bw7.trans (hb.mono bw7.size)
  have rw8_z0 := rw7_z0.below hb
  have rw8_z1 := rw7_z1.below hb
  have rw8_z2 := rw7_z2.below hb
  have rw8_z3 := kzw7.below hb
  clear hb bw7 rw7_z0 rw7_z1 rw7_z2 kzw7
  obtain ⟨sawa, scwa, rfl, exwa⟩ := id hwa
  clear exwa
  clear rw8_z0
  clear rw8_z1
  clear rw8_z2
  clear rw8_z3
  go_wp2_with fail
  refine (toReleaseS_ord _ S _ (H0.out.stepAt bw8) hlS hrS).mono ?_
  rintro e w9 ⟨ux0, rfl, hx0, hb⟩
  have zw9 : w8.heap.size ≤ w9.heap.size := hb.size
  have bw9 := bw8.trans (hb.mono bw8.size)
  have rw9_wa := hwa.below hb
  clear hb bw8 hwa
  obtain ⟨xa0, xc0, rfl, ee0⟩ := id hx0
  clear ee0
  go_wp2_with fail
  refine (toNeedS_in _ M _ (H1.out.stepAt bw9) hlM hrM).mono ?_
  rintro e w10 ⟨xa1, xc1, rfl, hx1, hb⟩
  have zw10 : w9.heap.size ≤ w10.heap.size := hb.size
  have bw10 := bw9.trans (hb.mono bw9.size)
  have rw10_wa := rw9_wa.below hb
  have rw10_x0 := hx0.below hb
  clear hb bw9 rw9_wa hx0
  go_wp2_with fail
  refine (toPickS_pb _ D _ (H2.out.stepAt bw10) hlD).mono ?_
  rintro e w11 ⟨xa2, xc2, rfl, hx2, hb⟩
  have zw11 : w10.heap.size ≤ w11.heap.size := hb.size
  have bw11 := bw10.trans (hb.mono bw10.size)
  have rw11_wa := rw10_wa.below hb
  have rw11_x0 := rw10_x0.below hb
  have rw11_x1 := hx1.below hb
  clear hb bw10 rw10_wa rw10_x0 hx1
  go_wp2_with fail
  refine (toIntS_ib _ F _ (H3.out.stepAt bw11) hlF).mono ?_
  rintro e w12 ⟨xa3, xc3, rfl, hx3, hb⟩
  have zw12 : w11.heap.size ≤ w12.heap.size := hb.size
  have bw12 := bw11.trans (hb.mono bw11.size)
  have rw12_wa := rw11_wa.below hb
  have rw12_x0 := rw11_x0.below hb
  have rw12_x1 := rw11_x1.below hb
  have rw12_x2 := hx2.below hb
  clear hb bw11 rw11_wa rw11_x0 rw11_x1 hx2
  go_wp2_with fail
  refine (KI.out _ _ _ _ _ rw12_x0.at rw12_x1.at rw12_x2.at hx3.at).mono ?_
  rintro e w13 ⟨vvg, rfl, hg, hb⟩
  have zw13 : w12.heap.size ≤ w13.heap.size := hb.size
  have bw13 := bw12.trans (hb.mono bw12.size)
  have rw13_wa := rw12_wa.below hb
  have rw13_x0 := rw12_x0.below hb
  have rw13_x1 := rw12_x1.below hb
  have rw13_x2 := rw12_x2.below hb
  have rw13_x3 := hx3.below hb
  clear hb bw12 rw12_wa rw12_x0 rw12_x1 rw12_x2 hx3
  obtain ⟨sag, scg, rfl, exg⟩ := id hg
  clear exg
  go_wp2_with fail
  refine (eqPickS_same hA hg.at rw13_wa.at).mono ?_
  rintro e w14 ⟨rfl, hb⟩
  have zw14 : w13.heap.size ≤ w14.heap.size := hb.size
  have bw14 := bw13.trans (hb.mono bw13.size)
  have rw14_wa := rw13_wa.below hb
  have rw14_x0 := rw13_x0.below hb
  have rw14_x1 := rw13_x1.below hb
  have rw14_x2 := rw13_x2.below hb
  have rw14_x3 := rw13_x3.below hb
  have rw14_g := hg.below hb
  clear hb bw13 rw13_wa rw13_x0 rw13_x1 rw13_x2 rw13_x3 hg
  go_wp2_with fail
  refine (toReleaseS_any _ S _ (H0.out.stepAt bw14) hlS hrS).mono ?_
  rintro e w15 ⟨gzw15, rfl, kzw15, hgz, hb⟩
  clear hgz
  have zw15 : w14.heap.size ≤ w15.heap.size := hb.size
  have bw15 := bw14.trans (hb.mono bw14.size)
  have rw15_wa := rw14_wa.below hb
  have rw15_x0 := rw14_x0.below hb
  have rw15_x1 := rw14_x1.below hb
  have rw15_x2 := rw14_x2.below hb
  have rw15_x3 := rw14_x3.below hb
  have rw15_g := rw14_g.below hb
  clear hb bw14 rw14_wa rw14_x0 rw14_x1 rw14_x2 rw14_x3 rw14_g
  go_wp2_with fail
  refine (eqReleaseS_same hlS hrS rw15_x0.at kzw15.at).mono ?_
  rintro e w16 ⟨rfl, hb⟩
  have zw16 : w15.heap.size ≤ w16.heap.size := hb.size
  have bw16 := bw15.trans (hb.mono bw15.size)
  have rw16_wa := rw15_wa.below hb
  have rw16_x0 := rw15_x0.below hb
  have rw16_x1 := rw15_x1.below hb
  have rw16_x2 := rw15_x2.below hb
  have rw16_x3 := rw15_x3.below hb
  have rw16_g := rw15_g.below hb
  have rw16_z0 := kzw15.below hb
  clear hb bw15 rw15_wa rw15_x0 rw15_x1 rw15_x2 rw15_x3 rw15_g kzw15
  clear rw16_z0
  go_wp2_with fail
  refine (toNeedS_in _ M _ (H1.out.stepAt bw16) hlM hrM).mono ?_
  rintro e w17 ⟨gaw17, gcw17, rfl, kzw17, hb⟩
  have zw17 : w16.heap.size ≤ w17.heap.size := hb.size
  have bw17 := bw16.trans (hb.mono bw16.size)
  have rw17_wa := rw16_wa.below hb
  have rw17_x0 := rw16_x0.below hb
  have rw17_x1 := rw16_x1.below hb
  have rw17_x2 := rw16_x2.below hb
  have rw17_x3 := rw16_x3.below hb
  have rw17_g := rw16_g.below hb
  clear hb bw16 rw16_wa rw16_x0 rw16_x1 rw16_x2 rw16_x3 rw16_g
  go_wp2_with fail
  refine (eqNeedS_same hlM hrM rw17_x1.at kzw17.at).mono ?_
  rintro e w18 ⟨rfl, hb⟩
  have zw18 : w17.heap.size ≤ w18.heap.size := hb.size
  have bw18 := bw17.trans (hb.mono bw17.size)
  have rw18_wa := rw17_wa.below hb
  have rw18_x0 := rw17_x0.below hb
  have rw18_x1 := rw17_x1.below hb
  have rw18_x2 := rw17_x2.below hb
  have rw18_x3 := rw17_x3.below hb
  have rw18_g := rw17_g.below hb
  have rw18_z1 := kzw17.below hb
  clear hb bw17 rw17_wa rw17_x0 rw17_x1 rw17_x2 rw17_x3 rw17_g kzw17
  clear rw18_z1
  go_wp2_with fail
  refine (toPickS_any _ D _ (H2.out.stepAt bw18) hlD).mono ?_
  rintro e w19 ⟨gzw19, rfl, kzw19, hgz, hb⟩
  clear hgz
  have zw19 : w18.heap.size ≤ w19.heap.size := hb.size
  have bw19 := bw18.trans (hb.mono bw18.size)
  have rw19_wa := rw18_wa.below hb
  have rw19_x0 := rw18_x0.below hb
  have rw19_x1 := rw18_x1.below hb
  have rw19_x2 := rw18_x2.below hb
  have rw19_x3 := rw18_x3.below hb
  have rw19_g := rw18_g.below hb
  clear hb bw18 rw18_wa rw18_x0 rw18_x1 rw18_x2 rw18_x3 rw18_g
  go_wp2_with fail
  refine (eqPickS_same hlD rw19_x2.at kzw19.at).mono ?_
  rintro e w20 ⟨rfl, hb⟩
  have zw20 : w19.heap.size ≤ w20.heap.size := hb.size
  have bw20 := bw19.trans (hb.mono bw19.size)
  have rw20_wa := rw19_wa.below hb
  have rw20_x0 := rw19_x0.below hb
  have rw20_x1 := rw19_x1.below hb
  have rw20_x2 := rw19_x2.below hb
  have rw20_x3 := rw19_x3.below hb
  have rw20_g := rw19_g.below hb
  have rw20_z2 := kzw19.below hb
  clear hb bw19 rw19_wa rw19_x0 rw19_x1 rw19_x2 rw19_x3 rw19_g kzw19
  clear rw20_z2
  go_wp2_with fail
  refine (toIntS_ib _ F _ (H3.out.stepAt bw20) hlF).mono ?_
  rintro e w21 ⟨gaw21, gcw21, rfl, kzw21, hb⟩
  have zw21 : w20.heap.size ≤ w21.heap.size := hb.size
  have bw21 := bw20.trans (hb.mono bw20.size)
  have rw21_wa := rw20_wa.below hb
  have rw21_x0 := rw20_x0.below hb
  have rw21_x1 := rw20_x1.below hb
  have rw21_x2 := rw20_x2.below hb
  have rw21_x3 := rw20_x3.below hb
  have rw21_g := rw20_g.below hb
  clear hb bw20 rw20_wa rw20_x0 rw20_x1 rw20_x2 rw20_x3 rw20_g
  go_wp2_with fail
  refine (eqIntS_same hlF rw21_x3.at kzw21.at).mono ?_
  rintro e w22 ⟨rfl, hb⟩
  have zw22 : w21.heap.size ≤ w22.heap.size := hb.size
  have bw22 := bw21.trans (hb.mono bw21.size)
  have rw22_wa := rw21_wa.below hb
  have rw22_x0 := rw21_x0.below hb
  have rw22_x1 := rw21_x1.below hb
  have rw22_x2 := rw21_x2.below hb
  have rw22_x3 := rw21_x3.below hb
  have rw22_g := rw21_g.below hb
  have rw22_z3 := kzw21.below hb
  clear hb bw21 rw21_wa rw21_x0 rw21_x1 rw21_x2 rw21_x3 rw21_g kzw21
  clear rw22_z3
  go_wp2_with fail
  refine (markReleaseS_out hlS hzS rw22_x0 1 (by omega) (by omega)).mono ?_
  rintro e w23 ⟨⟨k0, rfl, kl0, ku0⟩, ho⟩
  clear rw22_x0
  have ry0_1 := NIn.out rw22_x1 ho (by omega)
  clear rw22_x1
  have zw23 : w22.heap.size ≤ w23.heap.size := ho.size
  have bw23 := ho.below bw22 (by omega) (by omega)
  have rw23_wa := rw22_wa.out ho (by omega)
  have rw23_x2 := rw22_x2.out ho (by omega)
  have rw23_x3 := rw22_x3.out ho (by omega)
  have rw23_g := rw22_g.out ho (by omega)
  clear ho bw22 rw22_wa rw22_x2 rw22_x3 rw22_g
  go_wp2_with fail
  refine (markNIn hlM hzM ry0_1 k0 (by omega) (by omega)).mono ?_
  rintro e w24 ⟨⟨k1, rfl, kl1, ku1⟩, ho⟩
  clear ry0_1
  have zw24 : w23.heap.size ≤ w24.heap.size := ho.size
  have bw24 := ho.below bw23 (by omega) (by omega)
  have rw24_wa := rw23_wa.out ho (by omega)
  have rw24_x2 := rw23_x2.out ho (by omega)
  have rw24_x3 := rw23_x3.out ho (by omega)
  have rw24_g := rw23_g.out ho (by omega)
  clear ho bw23 rw23_wa rw23_x2 rw23_x3 rw23_g
  go_wp2_with fail
  refine (markPB hlD rw24_x2 k1 (by omega) (by omega)).mono ?_
  rintro e w25 ⟨rfl, hpx, ho⟩
  clear hpx
  clear rw24_x2
  have zw25 : w24.heap.size ≤ w25.heap.size := ho.size
  have bw25 := ho.below bw24 (by omega) (by omega)
  have rw25_wa := rw24_wa.out ho (by omega)
  have rw25_x3 := rw24_x3.out ho (by omega)
  have rw25_g := rw24_g.out ho (by omega)
  clear ho bw24 rw24_wa rw24_x3 rw24_g
  go_wp2_with fail
  refine (markIB hlF rw25_x3 (k1 + 5 * (D.length : Int)) (by omega) (by omega)).mono ?_
  rintro e w26 ⟨rfl, hpx, ho⟩
  clear hpx
  clear rw25_x3
  have zw26 : w25.heap.size ≤ w26.heap.size := ho.size
  have bw26 := ho.below bw25 (by omega) (by omega)
  have rw26_wa := rw25_wa.out ho (by omega)
  have rw26_g := rw25_g.out ho (by omega)
  clear ho bw25 rw25_wa rw25_g
  have hk2 : ¬ (((k1 + 5 * (D.length : Int)) + (F.length : Int)) < 0) := by omega
  go_wp2_with fail
  refine (eqPickS_same hA rw26_g.at rw26_wa.at).mono ?_
  rintro e w27 ⟨rfl, hb⟩
  have zw27 : w26.heap.size ≤ w27.heap.size := hb.size
  have bw27 := bw26.trans (hb.mono bw26.size)
  have rw27_wa := rw26_wa.below hb
  have rw27_g := rw26_g.below hb
  clear hb bw26 rw26_wa rw26_g
  go_wp2_with fail
  refine (KM.out _ _ _ _ rw27_g).mono ?_
  rintro e w28 ⟨rfl, hg1, ho⟩
  clear rw27_g
  have zw28 : w27.heap.size ≤ w28.heap.size := ho.size
  have bw28 := ho.below bw27 (by omega) (by omega)
  have rw28_wa := rw27_wa.out ho (by omega)
  clear ho bw27 rw27_wa
  go_wp2_with fail
  refine (KH.out _ _ _ _ hg1).mono ?_
  rintro e w29 ⟨rfl, hb⟩
  have zw29 : w28.heap.size ≤ w29.heap.size := hb.size
  have bw29 := bw28.trans (hb.mono bw28.size)
  have rw29_wa := rw28_wa.below hb
  have rw29_g := hg1.below hb
  clear hb bw28 rw28_wa hg1
  go_wp2_with fail
  refine (toReleaseS_any _ S _ (H0.out.stepAt bw29) hlS hrS).mono ?_
  rintro e w30 ⟨gzw30, rfl, kzw30, hgz, hb⟩
  clear hgz
  have zw30 : w29.heap.size ≤ w30.heap.size := hb.size
  have bw30 := bw29.trans (hb.mono bw29.size)
  have rw30_wa := rw29_wa.below hb
  have rw30_g := rw29_g.below hb
  clear hb bw29 rw29_wa rw29_g
  go_wp2_with fail
  refine (toNeedS_in _ M _ (H1.out.stepAt bw30) hlM hrM).mono ?_
  rintro e w31 ⟨gaw31, gcw31, rfl, kzw31, hb⟩
  have zw31 : w30.heap.size ≤ w31.heap.size := hb.size
  have bw31 := bw30.trans (hb.mono bw30.size)
  have rw31_wa := rw30_wa.below hb
  have rw31_g := rw30_g.below hb
  have rw31_z0 := kzw30.below hb
  clear hb bw30 rw30_wa rw30_g kzw30
  go_wp2_with fail
  refine (toPickS_any _ D _ (H2.out.stepAt bw31) hlD).mono ?_
  rintro e w32 ⟨gzw32, rfl, kzw32, hgz, hb⟩
  clear hgz
  have zw32 : w31.heap.size ≤ w32.heap.size := hb.size
  have bw32 := bw31.trans (hb.mono bw31.size)
  have rw32_wa := rw31_wa.below hb
  have rw32_g := rw31_g.below hb
  have rw32_z0 := rw31_z0.below hb
  have rw32_z1 := kzw31.below hb
  clear hb bw31 rw31_wa rw31_g rw31_z0 kzw31
  go_wp2_with fail
  refine (toIntS_ib _ F _ (H3.out.stepAt bw32) hlF).mono ?_
  rintro e w33 ⟨gaw33, gcw33, rfl, kzw33, hb⟩
  have zw33 : w32.heap.size ≤ w33.heap.size := hb.size
  have bw33 := bw32.trans (hb.mono bw32.size)
  have rw33_wa := rw32_wa.below hb
  have rw33_g := rw32_g.below hb
  have rw33_z0 := rw32_z0.below hb
  have rw33_z1 := rw32_z1.below hb
  have rw33_z2 := kzw32.below hb
  clear hb bw32 rw32_wa rw32_g rw32_z0 rw32_z1 kzw32
  go_wp2_with fail
  refine (KI.out _ _ _ _ _ rw33_z0.at rw33_z1.at rw33_z2.at kzw33.at).mono ?_
  rintro e w34 ⟨vvwb, rfl, hwb, hb⟩
  have zw34 : w33.heap.size ≤ w34.heap.size := hb.size
  have bw34 := bw33.trans (hb.mono bw33.size)
  have rw34_wa := rw33_wa.below hb
  have rw34_g := rw33_g.below hb
  have rw34_z0 := rw33_z0.below hb
  have rw34_z1 := rw33_z1.below hb
  have rw34_z2 := rw33_z2.below hb
  have rw34_z3 := kzw33.below hb
  clear hb bw33 rw33_wa rw33_g rw33_z0 rw33_z1 rw33_z2 kzw33
  obtain ⟨sawb, scwb, rfl, exwb⟩ := id hwb
  clear exwb
  clear rw34_z0
  clear rw34_z1
  clear rw34_z2
  clear rw34_z3
  go_wp2_with fail
  refine (eqPickS_same hA hwb.at rw34_wa.at).mono ?_
  rintro e w35 ⟨rfl, hb⟩
  have zw35 : w34.heap.size ≤ w35.heap.size := hb.size
  have bw35 := bw34.trans (hb.mono bw34.size)
  have rw35_wa := rw34_wa.below hb
  have rw35_g := rw34_g.below hb
  have rw35_wb := hwb.below hb
  clear hb bw34 rw34_wa rw34_g hwb
  go_wp2_with fail
  refine (KH.out _ _ _ _ rw35_g).mono ?_
  rintro e w36 ⟨rfl, hb⟩
  have zw36 : w35.heap.size ≤ w36.heap.size := hb.size
  have bw36 := bw35.trans (hb.mono bw35.size)
  have rw36_wa := rw35_wa.below hb
  have rw36_g := rw35_g.below hb
  have rw36_wb := rw35_wb.below hb
  clear hb bw35 rw35_wa rw35_g rw35_wb
  go_wp2_with fail
  go_ret
  exact ⟨rfl, bw36⟩

set_option maxRecDepth 100000 in
theorem law : LawWalk Try.prog 7 Try.f7 := by
  intro H enc W base args ds ps hval hA
  rw [Try.params7] at hA hval
  obtain ⟨v0, vs0, d0, es0, p0, q0, hargs, rfl, rfl, h0, r0⟩ := trodAll_cons hA
  obtain ⟨v1, vs1, d1, es1, p1, q1, rfl, rfl, rfl, h1, r1⟩ := trodAll_cons r0
  obtain ⟨v2, vs2, d2, es2, p2, q2, rfl, rfl, rfl, h2, r2⟩ := trodAll_cons r1
  obtain ⟨v3, vs3, d3, es3, p3, q3, rfl, rfl, rfl, h3, r3⟩ := trodAll_cons r2
  obtain ⟨rfl, rfl, rfl⟩ := trodAll_nil r3
  obtain rfl : args = #[v0, v1, v2, v3] := by cases args; simp_all
  obtain ⟨a0, c0, S, rfl, g0, m0, q0x⟩ := open_rels (hval 0 _ v0 rfl rfl) h0
  obtain ⟨a1, c1, M, rfl, g1, m1, q1x⟩ := open_needs (hval 1 _ v1 rfl rfl) h1
  obtain ⟨a2, c2, D, rfl, g2, m2⟩ := open_picks (hval 2 _ v2 rfl rfl) h2
  obtain ⟨a3, c3, F, rfl, g3, m3⟩ := open_ints (hval 3 _ v3 rfl rfl) h3
  rcases Nat.lt_or_ge 1048576 F.length with hlF | hlF
  · exact long_F _ _ _ _ S M D F W g0 g1 g2 g3 hlF
  by_cases hl : (S.length + rlSz S) + (M.length + ndSz M) + D.length ≤ 1048576
  · exact short _ _ _ _ S M D F W hlF g0 g1 g2 g3 hl
  · exact long _ _ _ _ S M D F W m0 q0x m1 q1x m2 hlF g0 g1 g2 g3 (by omega)
end Lrl

set_option maxRecDepth 100000 in
theorem exactRelock_holds : Rows.FnExactRelockSaid :=
  OpenClaim.holds_of_wide 7 Try.f7 rfl rfl rfl rfl rfl rfl rfl ⟨rfl, rfl, rfl, rfl, rfl⟩ rfl rfl rfl rfl rfl (by kernel_rfl) Try.func7 (by kernel_rfl)
    (of_decide_eq_true (by kernel_rfl)) (by unfold Func.isWrapper; rw [if_neg (by decide +kernel)]; exact ⟨rfl, rfl⟩)
    (fun os started H enc _ => law_lifted (s := Rows.fnExactRelockSpec) (tb := 4) own started laid (by kernel_rfl) Try.func7 rfl (by kernel_rfl) Try.underlying4 (by kernel_rfl)
      (fun ds h => by rw [Try.params7] at h; match ds, h with | [_, _, _, _], _ => rfl)
      (ChangeSpec.witness6 (enc := enc) (C := Try.checked) false ⟨#[], #[.slice none 0 0, .slice none 0 0, .slice none 0 0, .slice none 0 0], []⟩ 8 (by kernel_rfl) (by kernel_rfl) (by kernel_rfl) (by kernel_rfl))
      Lrl.law)
#print axioms exactRelock_holds
end Go.Proofs.Ytmhamoeibkpnpaa
