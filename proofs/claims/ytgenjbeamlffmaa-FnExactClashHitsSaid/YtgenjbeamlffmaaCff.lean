/- Contracts of the program's faultOf and ChoiceFault, over this seat's translation, as the plain function faultF tells them; nothing that was there before a call has changed. Condition: at most 1048576 of each row and of what is in it. -/
import Derived.Test.YtgenjbeamlffmaaCfi
namespace Go.Proofs.Ytgenjbeamlffmaa
open Go.RowKit Go.Sort

namespace Cfa
open Foot Copy Nup Cpu
def restF (S : List Rel) (N : List Nd) (H C : List Pk) : Int :=
  if C.all (thereP S) = true then
    (if C.all (allowP S H) = true then
      (if N.all (metP C) = true then
        (if C.all (innerP S C) = true then
          (if (cameL C (endK S N C).1).length < C.length then 6 else 0)
        else 5)
      else 4)
    else 3)
  else 2
theorem fault_rest {S : List Rel} {N : List Nd} {H C : List Pk} (h1 : shOk S = true) (h2 : ndOk N = true) (h3 : pkOk H = true) (h4 : pkOk C = true) : faultF S N H C = restF S N H C := by
  unfold faultF
  rw [h1, h2, h3, h4]
  rfl

set_option maxRecDepth 100000 in
set_option maxHeartbeats 8000000 in
theorem faultOf_any (v u y z : Value) (S : List Rel) (N : List Nd) (D C : List Pk) (w : World) (hs : shOk S = true) (hq : ∀ q ∈ S, q.2.2.2.length ≤ 1048576 ∧ ∀ p ∈ q.2.2.2, p.2.length ≤ 1048576) (hn : ndOk N = true) (hNq : ∀ q ∈ N, q.2.length ≤ 1048576) (hD : D.length ≤ 1048576) (hc : pkOk C = true) (h : RlAt w w.heap.size v S) (h' : NdAt w w.heap.size u N) (h1 : PkAt w w.heap.size y D) (h2 : PkAt w w.heap.size z C) :
    Calls Try.prog 113 #[v, u, y, z] w fun e w' => e = .returned (.int .i64 (restF S N D C)) ∧ Below w.heap.size w w' := by
  obtain ⟨sa, caps, rfl, hx⟩ := id h
  obtain ⟨na, ncap, rfl, hx'⟩ := id h'
  obtain ⟨da, dc, rfl, hx1⟩ := id h1
  obtain ⟨pa, pc, rfl, hx2⟩ := id h2
  clear hx hx' hx1 hx2
  have H := Lib.hid h
  have H' := Lib.hid h'
  have H1 := Lib.hid h1
  have H2 := Lib.hid h2
  clear h h' h1 h2
  have hS30 := sh_len hs
  have hN5 := nd_len hn
  have hC8 := pk_len hc
  have hS5 : ∀ q ∈ S, q.2.2.2.length ≤ 5 ∧ ∀ p ∈ q.2.2.2, p.2.length ≤ 1048576 := fun q h => ⟨nd_len (sh_needs hs q h), (hq q h).2⟩
  have K1 : Hid (∀ V, RlAt V V.heap.size (.slice sa S.length caps) S → PkAt V V.heap.size (.slice pa C.length pc) C → Calls Try.prog 153 #[.slice sa S.length caps, .slice pa C.length pc] V fun e w' => e = .returned (.bool (C.all (thereP S))) ∧ Below V.heap.size V w') := Lib.hid fun V g g' => picksThere_any _ _ S C V (by omega) (by omega) g g'
  have K2 : Hid (∀ V, RlAt V V.heap.size (.slice sa S.length caps) S → PkAt V V.heap.size (.slice da D.length dc) D → PkAt V V.heap.size (.slice pa C.length pc) C → Calls Try.prog 154 #[.slice sa S.length caps, .slice da D.length dc, .slice pa C.length pc] V fun e w' => e = .returned (.bool (C.all (allowP S D))) ∧ Below V.heap.size V w') := Lib.hid fun V g g1 g' => picksAllowed_any _ _ _ S D C V (by omega) hD (by omega) g g1 g'
  have K3 : Hid (∀ V, NdAt V V.heap.size (.slice na N.length ncap) N → PkAt V V.heap.size (.slice pa C.length pc) C → Calls Try.prog 155 #[.slice na N.length ncap, .slice pa C.length pc] V fun e w' => e = .returned (.bool (N.all (metP C))) ∧ Below V.heap.size V w') := Lib.hid fun V g g' => needsMet_any _ _ N C V (by omega) hNq (by omega) g g'
  have K4 : Hid (∀ V, RlAt V V.heap.size (.slice sa S.length caps) S → PkAt V V.heap.size (.slice pa C.length pc) C → Calls Try.prog 156 #[.slice sa S.length caps, .slice pa C.length pc] V fun e w' => e = .returned (.bool (C.all (innerP S C))) ∧ Below V.heap.size V w') := Lib.hid fun V g g' => innerMet_any _ _ S C V (by omega) hq (by omega) g g'
  have K5 : Hid (∀ V, RlAt V V.heap.size (.slice sa S.length caps) S → NdAt V V.heap.size (.slice na N.length ncap) N → PkAt V V.heap.size (.slice pa C.length pc) C → Calls Try.prog 157 #[.slice sa S.length caps, .slice na N.length ncap, .slice pa C.length pc] V (PbPost (cameL C (endK S N C).1) V)) := Lib.hid fun V g g' g2 => picksNeeded_any _ _ _ S N C V hS30 hS5 hN5 (by omega) g g' g2
  clear hs hn hc hS5 hq hNq
  rcases g0 : C.all (thereP S)
  · rw [g0] at K1
    have HE := Lib.hid (show restF S N D C = 2 by unfold restF; rw [g0]; rfl)
    clear g0
    go_enter Try.func113, Try.ntmps113
    go_wp2_with fail
    refine (K1.out _ (H.out.stepAt (by go_grown)) (H2.out.stepAt (by go_grown))).mono ?_
    rintro e w1 ⟨rfl, hb⟩
    have b1 := hb
    clear hb
    go_wp2_with fail
    go_ret
    exact ⟨by rw [HE.out]; rfl, b1⟩
  rw [g0] at K1
  rcases g1 : C.all (allowP S D)
  · rw [g1] at K2
    have HE := Lib.hid (show restF S N D C = 3 by unfold restF; rw [g0, g1]; rfl)
    clear g0 g1
    go_enter Try.func113, Try.ntmps113
    go_wp2_with fail
    refine (K1.out _ (H.out.stepAt (by go_grown)) (H2.out.stepAt (by go_grown))).mono ?_
    rintro e w1 ⟨rfl, hb⟩
    have b1 := hb
    clear hb
    go_wp2_with fail
    refine (K2.out _ (H.out.stepAt b1) (H1.out.stepAt b1) (H2.out.stepAt b1)).mono ?_
    rintro e w2 ⟨rfl, hb⟩
    have b2 := b1.trans (hb.mono b1.size)
    clear hb
    go_wp2_with fail
    go_ret
    exact ⟨by rw [HE.out]; rfl, b2⟩
  rw [g1] at K2
  rcases g2 : N.all (metP C)
  · rw [g2] at K3
    have HE := Lib.hid (show restF S N D C = 4 by unfold restF; rw [g0, g1, g2]; rfl)
    clear g0 g1 g2
    go_enter Try.func113, Try.ntmps113
    go_wp2_with fail
    refine (K1.out _ (H.out.stepAt (by go_grown)) (H2.out.stepAt (by go_grown))).mono ?_
    rintro e w1 ⟨rfl, hb⟩
    have b1 := hb
    clear hb
    go_wp2_with fail
    refine (K2.out _ (H.out.stepAt b1) (H1.out.stepAt b1) (H2.out.stepAt b1)).mono ?_
    rintro e w2 ⟨rfl, hb⟩
    have b2 := b1.trans (hb.mono b1.size)
    clear hb
    go_wp2_with fail
    refine (K3.out _ (H'.out.stepAt b2) (H2.out.stepAt b2)).mono ?_
    rintro e w3 ⟨rfl, hb⟩
    have b3 := b2.trans (hb.mono b2.size)
    clear hb
    go_wp2_with fail
    go_ret
    exact ⟨by rw [HE.out]; rfl, b3⟩
  rw [g2] at K3
  rcases g3 : C.all (innerP S C)
  · rw [g3] at K4
    have HE := Lib.hid (show restF S N D C = 5 by unfold restF; rw [g0, g1, g2, g3]; rfl)
    clear g0 g1 g2 g3
    go_enter Try.func113, Try.ntmps113
    go_wp2_with fail
    refine (K1.out _ (H.out.stepAt (by go_grown)) (H2.out.stepAt (by go_grown))).mono ?_
    rintro e w1 ⟨rfl, hb⟩
    have b1 := hb
    clear hb
    go_wp2_with fail
    refine (K2.out _ (H.out.stepAt b1) (H1.out.stepAt b1) (H2.out.stepAt b1)).mono ?_
    rintro e w2 ⟨rfl, hb⟩
    have b2 := b1.trans (hb.mono b1.size)
    clear hb
    go_wp2_with fail
    refine (K3.out _ (H'.out.stepAt b2) (H2.out.stepAt b2)).mono ?_
    rintro e w3 ⟨rfl, hb⟩
    have b3 := b2.trans (hb.mono b2.size)
    clear hb
    go_wp2_with fail
    refine (K4.out _ (H.out.stepAt b3) (H2.out.stepAt b3)).mono ?_
    rintro e w4 ⟨rfl, hb⟩
    have b4 := b3.trans (hb.mono b3.size)
    clear hb
    go_wp2_with fail
    go_ret
    exact ⟨by rw [HE.out]; rfl, b4⟩
  rw [g3] at K4
  have HE := Lib.hid (show restF S N D C = if (cameL C (endK S N C).1).length < C.length then 6 else 0 by unfold restF; rw [g0, g1, g2, g3]; rfl)
  clear g0 g1 g2 g3
  generalize cameL C (endK S N C).1 = T at *
  go_enter Try.func113, Try.ntmps113
  go_wp2_with fail
  refine (K1.out _ (H.out.stepAt (by go_grown)) (H2.out.stepAt (by go_grown))).mono ?_
  rintro e w1 ⟨rfl, hb⟩
  have b1 := hb
  clear hb
  go_wp2_with fail
  refine (K2.out _ (H.out.stepAt b1) (H1.out.stepAt b1) (H2.out.stepAt b1)).mono ?_
  rintro e w2 ⟨rfl, hb⟩
  have b2 := b1.trans (hb.mono b1.size)
  clear hb
  go_wp2_with fail
  refine (K3.out _ (H'.out.stepAt b2) (H2.out.stepAt b2)).mono ?_
  rintro e w3 ⟨rfl, hb⟩
  have b3 := b2.trans (hb.mono b2.size)
  clear hb
  go_wp2_with fail
  refine (K4.out _ (H.out.stepAt b3) (H2.out.stepAt b3)).mono ?_
  rintro e w4 ⟨rfl, hb⟩
  have b4 := b3.trans (hb.mono b3.size)
  clear hb
  go_wp2_with fail
  refine (K5.out _ (H.out.stepAt b4) (H'.out.stepAt b4) (H2.out.stepAt b4)).mono ?_
  rintro e w5 ⟨r, rfl, hr, hb⟩
  have b5 := b4.trans (hb.mono b4.size)
  obtain ⟨ra, rc, rfl, hrx⟩ := id hr.at
  clear hb hr hrx
  by_cases hlt : T.length < C.length
  · have hz : ((T.length : Int) < (C.length : Int)) := by omega
    have HQ := Lib.hid (HE.out.trans (if_pos hlt))
    clear hlt
    go_wp2_with fail
    go_ret
    exact ⟨by rw [HQ.out]; rfl, b5⟩
  · have hz : ¬ ((T.length : Int) < (C.length : Int)) := by omega
    have HQ := Lib.hid (HE.out.trans (if_neg hlt))
    clear hlt
    go_wp2_with fail
    go_ret
    exact ⟨by rw [HQ.out]; rfl, b5⟩

set_option maxRecDepth 100000 in
set_option maxHeartbeats 8000000 in
theorem implFault_any (v u y z : Value) (S : List Rel) (N : List Nd) (D C : List Pk) (w : World) (hl : S.length ≤ 1048576) (hq : ∀ q ∈ S, q.2.2.2.length ≤ 1048576 ∧ ∀ p ∈ q.2.2.2, p.2.length ≤ 1048576) (hN : N.length ≤ 1048576) (hNq : ∀ q ∈ N, q.2.length ≤ 1048576) (hD : D.length ≤ 1048576) (hC : C.length ≤ 1048576) (h : RlAt w w.heap.size v S) (h' : NdAt w w.heap.size u N) (h1 : PkAt w w.heap.size y D) (h2 : PkAt w w.heap.size z C) :
    Calls Try.prog 57 #[v, u, y, z] w fun e w' => e = .returned (.int .i64 (faultF S N D C)) ∧ Below w.heap.size w w' := by
  obtain ⟨sa, caps, rfl, hx⟩ := id h
  obtain ⟨na, ncap, rfl, hx'⟩ := id h'
  obtain ⟨da, dc, rfl, hx1⟩ := id h1
  obtain ⟨pa, pc, rfl, hx2⟩ := id h2
  clear hx hx' hx1 hx2
  have H := Lib.hid h
  have H' := Lib.hid h'
  have H1 := Lib.hid h1
  have H2 := Lib.hid h2
  clear h h' h1 h2
  have K1 : Hid (∀ V, RlAt V V.heap.size (.slice sa S.length caps) S → Calls Try.prog 70 #[.slice sa S.length caps] V fun e w' => e = .returned (.bool (shOk S)) ∧ Below V.heap.size V w') := Lib.hid fun V g => implShelfOk_any _ S V hl hq g
  have K2 : Hid (∀ V, NdAt V V.heap.size (.slice na N.length ncap) N → Calls Try.prog 71 #[.slice na N.length ncap] V fun e w' => e = .returned (.bool (ndOk N)) ∧ Below V.heap.size V w') := Lib.hid fun V g => implNeedsOk_any _ N V hN hNq g
  have K3 : Hid (∀ V, PkAt V V.heap.size (.slice da D.length dc) D → Calls Try.prog 72 #[.slice da D.length dc] V fun e w' => e = .returned (.bool (pkOk D)) ∧ Below V.heap.size V w') := Lib.hid fun V g => implPicksOk_any _ D V hD g
  have K4 : Hid (∀ V, PkAt V V.heap.size (.slice pa C.length pc) C → Calls Try.prog 72 #[.slice pa C.length pc] V fun e w' => e = .returned (.bool (pkOk C)) ∧ Below V.heap.size V w') := Lib.hid fun V g => implPicksOk_any _ C V hC g
  rcases g0 : shOk S
  · rw [g0] at K1
    have HE := Lib.hid (show faultF S N D C = 1 by unfold faultF; rw [g0]; rfl)
    clear g0
    go_enter Try.func57, Try.ntmps57
    go_wp2_with fail
    refine (K1.out _ (H.out.stepAt (by go_grown))).mono ?_
    rintro e w1 ⟨rfl, hb⟩
    have b1 := hb
    clear hb
    go_wp2_with fail
    go_ret
    exact ⟨by rw [HE.out]; rfl, b1⟩
  rw [g0] at K1
  rcases g1 : ndOk N
  · rw [g1] at K2
    have HE := Lib.hid (show faultF S N D C = 1 by unfold faultF; rw [g0, g1]; rfl)
    clear g0 g1
    go_enter Try.func57, Try.ntmps57
    go_wp2_with fail
    refine (K1.out _ (H.out.stepAt (by go_grown))).mono ?_
    rintro e w1 ⟨rfl, hb⟩
    have b1 := hb
    clear hb
    go_wp2_with fail
    refine (K2.out _ (H'.out.stepAt b1)).mono ?_
    rintro e w2 ⟨rfl, hb⟩
    have b2 := b1.trans (hb.mono b1.size)
    clear hb
    go_wp2_with fail
    go_ret
    exact ⟨by rw [HE.out]; rfl, b2⟩
  rw [g1] at K2
  rcases g2 : pkOk D
  · rw [g2] at K3
    have HE := Lib.hid (show faultF S N D C = 1 by unfold faultF; rw [g0, g1, g2]; rfl)
    clear g0 g1 g2
    go_enter Try.func57, Try.ntmps57
    go_wp2_with fail
    refine (K1.out _ (H.out.stepAt (by go_grown))).mono ?_
    rintro e w1 ⟨rfl, hb⟩
    have b1 := hb
    clear hb
    go_wp2_with fail
    refine (K2.out _ (H'.out.stepAt b1)).mono ?_
    rintro e w2 ⟨rfl, hb⟩
    have b2 := b1.trans (hb.mono b1.size)
    clear hb
    go_wp2_with fail
    refine (K3.out _ (H1.out.stepAt b2)).mono ?_
    rintro e w3 ⟨rfl, hb⟩
    have b3 := b2.trans (hb.mono b2.size)
    clear hb
    go_wp2_with fail
    go_ret
    exact ⟨by rw [HE.out]; rfl, b3⟩
  rw [g2] at K3
  rcases g3 : pkOk C
  · rw [g3] at K4
    have HE := Lib.hid (show faultF S N D C = 1 by unfold faultF; rw [g0, g1, g2, g3]; rfl)
    clear g0 g1 g2 g3
    go_enter Try.func57, Try.ntmps57
    go_wp2_with fail
    refine (K1.out _ (H.out.stepAt (by go_grown))).mono ?_
    rintro e w1 ⟨rfl, hb⟩
    have b1 := hb
    clear hb
    go_wp2_with fail
    refine (K2.out _ (H'.out.stepAt b1)).mono ?_
    rintro e w2 ⟨rfl, hb⟩
    have b2 := b1.trans (hb.mono b1.size)
    clear hb
    go_wp2_with fail
    refine (K3.out _ (H1.out.stepAt b2)).mono ?_
    rintro e w3 ⟨rfl, hb⟩
    have b3 := b2.trans (hb.mono b2.size)
    clear hb
    go_wp2_with fail
    refine (K4.out _ (H2.out.stepAt b3)).mono ?_
    rintro e w4 ⟨rfl, hb⟩
    have b4 := b3.trans (hb.mono b3.size)
    clear hb
    go_wp2_with fail
    go_ret
    exact ⟨by rw [HE.out]; rfl, b4⟩
  rw [g3] at K4
  have HE := Lib.hid (fault_rest g0 g1 g2 g3)
  have KF : Hid (∀ V, RlAt V V.heap.size (.slice sa S.length caps) S → NdAt V V.heap.size (.slice na N.length ncap) N → PkAt V V.heap.size (.slice da D.length dc) D → PkAt V V.heap.size (.slice pa C.length pc) C → Calls Try.prog 113 #[.slice sa S.length caps, .slice na N.length ncap, .slice da D.length dc, .slice pa C.length pc] V fun e w' => e = .returned (.int .i64 (restF S N D C)) ∧ Below V.heap.size V w') := Lib.hid fun V g g' h1 h2 => faultOf_any _ _ _ _ S N D C V g0 hq g1 hNq hD g3 g g' h1 h2
  clear g0 g1 g2 g3
  go_enter Try.func57, Try.ntmps57
  go_wp2_with fail
  refine (K1.out _ (H.out.stepAt (by go_grown))).mono ?_
  rintro e w1 ⟨rfl, hb⟩
  have b1 := hb
  clear hb
  go_wp2_with fail
  refine (K2.out _ (H'.out.stepAt b1)).mono ?_
  rintro e w2 ⟨rfl, hb⟩
  have b2 := b1.trans (hb.mono b1.size)
  clear hb
  go_wp2_with fail
  refine (K3.out _ (H1.out.stepAt b2)).mono ?_
  rintro e w3 ⟨rfl, hb⟩
  have b3 := b2.trans (hb.mono b2.size)
  clear hb
  go_wp2_with fail
  refine (K4.out _ (H2.out.stepAt b3)).mono ?_
  rintro e w4 ⟨rfl, hb⟩
  have b4 := b3.trans (hb.mono b3.size)
  clear hb
  go_wp2_with fail
  refine (KF.out _ (H.out.stepAt b4) (H'.out.stepAt b4) (H1.out.stepAt b4) (H2.out.stepAt b4)).mono ?_
  rintro e w5 ⟨rfl, hb⟩
  have b5 := b4.trans (hb.mono b4.size)
  clear hb
  go_wp2_with fail
  go_ret
  exact ⟨by rw [HE.out]; rfl, b5⟩
end Cfa
end Go.Proofs.Ytgenjbeamlffmaa
