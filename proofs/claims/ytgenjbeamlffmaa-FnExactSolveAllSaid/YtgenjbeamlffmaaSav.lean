/- Contracts of SolveAll, the program's and the model's, over this seat's translation: the first ones of all choices that are fine, the better one first, in rows of their own; nothing that was there before a call has changed. Condition: at most 1048576 of each row and of what is in it. -/
import Derived.Test.YtgenjbeamlffmaaSal
namespace Go.Proofs.Ytgenjbeamlffmaa
open Go.RowKit Go.Sort

namespace Svp
open Foot Copy Nup Cpu Cfa Rch Gof Pof
/-- What SolveAll answers. -/
def allL (S : List Rel) (N : List Nd) (mo : Int) : List (List Pk) := if (shOk S && (ndOk N && inB mo 0 50)) = true then (bestL S N [] [] (openL S [])).take mo.toNat else []
theorem allL_len (S : List Rel) (N : List Nd) (mo : Int) : (allL S N mo).length ≤ 50 := by
  unfold allL
  by_cases h : (shOk S && (ndOk N && inB mo 0 50)) = true
  · rw [if_pos h, List.length_take]
    simp only [Bool.and_eq_true] at h
    have := inB_iff.1 h.2.2
    omega
  · rw [if_neg h]; simp

set_option maxRecDepth 100000 in
set_option maxHeartbeats 2000000 in
theorem implAll_rows (v u : Value) (S : List Rel) (N : List Nd) (mo : Int) (w : World) (hl : S.length ≤ 1048576) (hq : ∀ q ∈ S, q.2.2.2.length ≤ 1048576 ∧ ∀ p ∈ q.2.2.2, p.2.length ≤ 1048576) (hN : N.length ≤ 1048576) (hNq : ∀ q ∈ N, q.2.length ≤ 1048576) (h : RlAt w w.heap.size v S) (h' : NdAt w w.heap.size u N) :
    Calls Try.prog 29 #[v, u, .int .i64 mo] w (BestPost w.heap.size (allL S N mo) w) := by
  obtain ⟨sa, caps, rfl, hx1⟩ := id h
  obtain ⟨na, ncap, rfl, hx2⟩ := id h'
  clear hx1 hx2
  have H := Lib.hid h
  have H' := Lib.hid h'
  have KS : Hid (∀ V, RlAt V V.heap.size (.slice sa S.length caps) S → Calls Try.prog 70 #[.slice sa S.length caps] V fun e w' => e = .returned (.bool (shOk S)) ∧ Below V.heap.size V w') := Lib.hid fun V g => implShelfOk_any _ S V hl hq g
  have KN : Hid (∀ V, NdAt V V.heap.size (.slice na N.length ncap) N → Calls Try.prog 71 #[.slice na N.length ncap] V fun e w' => e = .returned (.bool (ndOk N)) ∧ Below V.heap.size V w') := Lib.hid fun V g => implNeedsOk_any _ N V hN hNq g
  clear h h'
  rcases hs : shOk S
  · rw [hs] at KS
    have HE := Lib.hid (show allL S N mo = [] by unfold allL; rw [hs]; rfl)
    clear hs KN
    go_enter Try.func29, Try.ntmps29
    go_wp2_with fail
    refine (KS.out _ H.out).mono ?_
    rintro e w2 ⟨rfl, b2⟩
    go_wp2_with fail
    go_ret
    exact ⟨_, rfl, by rw [HE.out]; exact LOwn.nil _ _ _, b2⟩
  rcases hn : ndOk N
  · rw [hs] at KS
    rw [hn] at KN
    have HE := Lib.hid (show allL S N mo = [] by unfold allL; rw [hs, hn]; rfl)
    clear hs hn
    go_enter Try.func29, Try.ntmps29
    go_wp2_with fail
    refine (KS.out _ H.out).mono ?_
    rintro e w2 ⟨rfl, b2⟩
    go_wp2_with fail
    refine (KN.out _ (H'.out.stepAt b2)).mono ?_
    rintro e w3 ⟨rfl, hb⟩
    have b3 := b2.trans (hb.mono b2.size)
    clear hb
    go_wp2_with fail
    go_ret
    exact ⟨_, rfl, by rw [HE.out]; exact LOwn.nil _ _ _, b3⟩
  rcases hi : inB mo 0 50
  · have hnn : ¬ (0 ≤ mo ∧ mo ≤ 50) := fun e => by rw [inB_iff.2 e] at hi; cases hi
    rw [hs] at KS
    rw [hn] at KN
    have HE := Lib.hid (show allL S N mo = [] by unfold allL; rw [hs, hn, hi]; rfl)
    clear hs hn hi
    by_cases h0 : mo < 0
    all_goals
      have h50 : ¬ mo < 0 → 50 < mo := fun _ => by omega
      have H50 := Lib.hid h50
      clear h50 hnn
    · go_enter Try.func29, Try.ntmps29
      go_wp2_with fail
      refine (KS.out _ H.out).mono ?_
      rintro e w2 ⟨rfl, b2⟩
      go_wp2_with fail
      refine (KN.out _ (H'.out.stepAt b2)).mono ?_
      rintro e w3 ⟨rfl, hb⟩
      have b3 := b2.trans (hb.mono b2.size)
      clear hb
      go_wp2_with fail
      go_ret
      exact ⟨_, rfl, by rw [HE.out]; exact LOwn.nil _ _ _, b3⟩
    · have h5 := H50.out h0
      go_enter Try.func29, Try.ntmps29
      go_wp2_with fail
      refine (KS.out _ H.out).mono ?_
      rintro e w2 ⟨rfl, b2⟩
      go_wp2_with fail
      refine (KN.out _ (H'.out.stepAt b2)).mono ?_
      rintro e w3 ⟨rfl, hb⟩
      have b3 := b2.trans (hb.mono b2.size)
      clear hb
      go_wp2_with fail
      go_ret
      exact ⟨_, rfl, by rw [HE.out]; exact LOwn.nil _ _ _, b3⟩
  obtain ⟨m0, m1⟩ := inB_iff.1 hi
  have hlo : decide (mo < 0) = false := decide_eq_false (by omega)
  have hhi : decide (50 < mo) = false := decide_eq_false (by omega)
  have HE := Lib.hid (show allL S N mo = (bestL S N [] [] (openL S [])).take mo.toNat by unfold allL; rw [hs, hn, hi]; rfl)
  have HG := Lib.hid (good_start [] hs)
  have hol : (openL S []).length ≤ 30 := Nat.le_trans (open_len S []) (sh_len hs)
  have KB := Lib.hid (fun O C vc vo mo B W => bestChoices_any sa na caps ncap S N [] hs hn rfl (fun q h => (hq q h).2) hNq 30 O C vc vo mo B W)
  rw [hs] at KS
  rw [hn] at KN
  clear hs hn hi
  obtain ⟨O, hO⟩ : ∃ O, openL S [] = O := ⟨_, rfl⟩
  have KO : Hid (∀ V, RlAt V V.heap.size (.slice sa S.length caps) S → Calls Try.prog 74 #[.slice sa S.length caps, .slice none 0 0] V fun e w' => ∃ v, e = .returned v ∧ KOwn w' V.heap.size v O ∧ Below V.heap.size V w') := Lib.hid fun V g => by
    rw [← hO]
    exact picksOpen_any _ _ S [] V hl (by simp) g ⟨_, _, rfl, .inl rfl⟩
  rw [hO] at HE HG hol
  clear hO
  go_enter Try.func29, Try.ntmps29
  go_wp2_with fail
  refine (KS.out _ H.out).mono ?_
  rintro e w2 ⟨rfl, b2⟩
  go_wp2_with fail
  refine (KN.out _ (H'.out.stepAt b2)).mono ?_
  rintro e w3 ⟨rfl, hb⟩
  have b4 := b2.trans (hb.mono b2.size)
  clear hb
  go_wp2_with fail
  refine (KO.out _ (H.out.stepAt b4)).mono ?_
  rintro e w5 ⟨v5, rfl, ko5, hb⟩
  have b5 := b4.trans (hb.mono b4.size)
  obtain ⟨oa, oc, rfl, hxx⟩ := id (KOwn.pb ko5).at
  have hcap : O.length ≤ oc := by
    rcases ko5.2 with ⟨e, h0⟩ | ⟨g, cap, cur, e, _, _, hnc, _⟩
    · omega
    · simp only [Value.slice.injEq] at e
      obtain ⟨_, _, rfl⟩ := e
      exact hnc
  have PO := Lib.hid (KOwn.pb ko5).at
  clear hb hxx ko5
  go_wp2_with fail
  refine (KB.out O [] (.slice none 0 0) (.slice oa O.length oc) mo w.heap.size w5 (by omega) HG.out (by simpa using hol) (by omega) (by omega) b5.size (H.out.stepAt b5) (H'.out.stepAt b5) (World.ownsRow_nil _ _ _ _) PO.out ⟨_, _, rfl, hcap⟩).mono ?_
  rw [← HE.out]
  rintro e w6 ⟨v6, rfl, lo6, hb⟩
  have b6 := b5.trans (hb.mono b5.size)
  have HL := Lib.hid (lo6.mono b5.size)
  clear lo6 hb KB
  go_wp2_with fail
  go_ret
  exact ⟨_, rfl, HL.out, b6⟩

set_option maxRecDepth 100000 in
set_option maxHeartbeats 2000000 in
theorem specAll_rows (v u : Value) (S : List Rel) (N : List Nd) (mo : Int) (w : World) (hl : S.length ≤ 1048576) (hq : ∀ q ∈ S, q.2.2.2.length ≤ 1048576 ∧ ∀ p ∈ q.2.2.2, p.2.length ≤ 1048576) (hN : N.length ≤ 1048576) (hNq : ∀ q ∈ N, q.2.length ≤ 1048576) (h : RlAt w w.heap.size v S) (h' : NdAt w w.heap.size u N) :
    Calls Try.prog 28 #[v, u, .int .i64 mo] w (BestPost w.heap.size (allL S N mo) w) := by
  obtain ⟨sa, caps, rfl, hx1⟩ := id h
  obtain ⟨na, ncap, rfl, hx2⟩ := id h'
  clear hx1 hx2
  have H := Lib.hid h
  have H' := Lib.hid h'
  have KS : Hid (∀ V, RlAt V V.heap.size (.slice sa S.length caps) S → Calls Try.prog 63 #[.slice sa S.length caps] V fun e w' => e = .returned (.bool (shOk S)) ∧ Below V.heap.size V w') := Lib.hid fun V g => specShelfOk_any _ S V hl hq g
  have KN : Hid (∀ V, NdAt V V.heap.size (.slice na N.length ncap) N → Calls Try.prog 64 #[.slice na N.length ncap] V fun e w' => e = .returned (.bool (ndOk N)) ∧ Below V.heap.size V w') := Lib.hid fun V g => specNeedsOk_any _ N V hN hNq g
  have KI : Hid (∀ V, Calls Try.prog 79 #[.int .i64 mo, .int .i64 0, .int .i64 50] V fun e w' => e = .returned (.bool (inB mo 0 50)) ∧ Below V.heap.size V w') := Lib.hid fun V => l1In_same mo 0 50 V
  clear h h'
  have bm : Below w.heap.size w (w.alloc (.cells #[] 28)) := (Below.refl _ _).alloc (Nat.le_refl _) _
  have HM := Lib.hid (LOwn.made (w := w) (V := w.alloc (.cells #[] 28)) (B := w.heap.size) (base := w.heap.size) rfl (Nat.le_refl _))
  rcases hs : shOk S
  · rw [hs] at KS
    have HE := Lib.hid (show allL S N mo = [] by unfold allL; rw [hs]; rfl)
    clear hs KN KI
    go_enter Try.func28, Try.ntmps28
    go_wp2_with fail
    refine (KS.out _ (H.out.stepAt bm)).mono ?_
    rintro e w2 ⟨rfl, hb⟩
    have b2 := bm.trans (hb.mono bm.size)
    have HM2 := Lib.hid (HM.out.below hb)
    clear hb
    go_wp2_with fail
    go_ret
    exact ⟨_, rfl, by rw [HE.out]; exact HM2.out, b2⟩
  rcases hn : ndOk N
  · rw [hs] at KS
    rw [hn] at KN
    have HE := Lib.hid (show allL S N mo = [] by unfold allL; rw [hs, hn]; rfl)
    clear hs hn KI
    go_enter Try.func28, Try.ntmps28
    go_wp2_with fail
    refine (KS.out _ (H.out.stepAt bm)).mono ?_
    rintro e w2 ⟨rfl, hb⟩
    have b2 := bm.trans (hb.mono bm.size)
    have HM2 := Lib.hid (HM.out.below hb)
    clear hb
    go_wp2_with fail
    refine (KN.out _ (H'.out.stepAt b2)).mono ?_
    rintro e w3 ⟨rfl, hb⟩
    have b3 := b2.trans (hb.mono b2.size)
    have HM3 := Lib.hid (HM2.out.below hb)
    clear hb
    go_wp2_with fail
    go_ret
    exact ⟨_, rfl, by rw [HE.out]; exact HM3.out, b3⟩
  rcases hi : inB mo 0 50
  · rw [hs] at KS
    rw [hn] at KN
    rw [hi] at KI
    have HE := Lib.hid (show allL S N mo = [] by unfold allL; rw [hs, hn, hi]; rfl)
    clear hs hn hi
    go_enter Try.func28, Try.ntmps28
    go_wp2_with fail
    refine (KS.out _ (H.out.stepAt bm)).mono ?_
    rintro e w2 ⟨rfl, hb⟩
    have b2 := bm.trans (hb.mono bm.size)
    have HM2 := Lib.hid (HM.out.below hb)
    clear hb
    go_wp2_with fail
    refine (KN.out _ (H'.out.stepAt b2)).mono ?_
    rintro e w3 ⟨rfl, hb⟩
    have b3 := b2.trans (hb.mono b2.size)
    have HM3 := Lib.hid (HM2.out.below hb)
    clear hb
    go_wp2_with fail
    refine (KI.out _).mono ?_
    rintro e w4 ⟨rfl, hb⟩
    have b4 := b3.trans (hb.mono b3.size)
    have HM4 := Lib.hid (HM3.out.below hb)
    clear hb
    go_wp2_with fail
    go_ret
    exact ⟨_, rfl, by rw [HE.out]; exact HM4.out, b4⟩
  obtain ⟨m0, m1⟩ := inB_iff.1 hi
  have hp0 : partL (openL S []) ((0 : Nat) : Int) = openL S [] := part_all hs
  have HE : allL S N mo = (bestL S N [] [] (openL S [])).take mo.toNat := by unfold allL; rw [hs, hn, hi]; rfl
  have KL : Hid (∀ V g, RlAt V V.heap.size (.slice sa S.length caps) S → NdAt V V.heap.size (.slice na N.length ncap) N → Calls Try.prog 80 #[.slice sa S.length caps, .slice na N.length ncap, .slice (some ⟨g, 0, none⟩) 0 0, .int .i64 0, .int .i64 mo] V (BestPost V.heap.size (allL S N mo) V)) := Lib.hid fun V g g1 g2 => by
    have := all_any sa na caps ncap S N hs hn hq hNq 8 0 rfl [] (.slice (some ⟨g, 0, none⟩) 0 0) mo V m0 m1 (by rw [hp0]; exact good_start [] hs) g1 g2 ⟨_, _, rfl, .inl rfl⟩ ⟨g, 0, 0, rfl⟩
    rw [hp0, ← HE] at this
    exact this
  rw [hs] at KS
  rw [hn] at KN
  rw [hi] at KI
  generalize allL S N mo = A at *
  clear hs hn hi hp0 HE
  go_enter Try.func28, Try.ntmps28
  go_wp2_with fail
  refine (KS.out _ (H.out.stepAt bm)).mono ?_
  rintro e w2 ⟨rfl, hb⟩
  have b2 := bm.trans (hb.mono bm.size)
  clear hb
  go_wp2_with fail
  refine (KN.out _ (H'.out.stepAt b2)).mono ?_
  rintro e w3 ⟨rfl, hb⟩
  have b3 := b2.trans (hb.mono b2.size)
  clear hb
  go_wp2_with fail
  refine (KI.out _).mono ?_
  rintro e w4 ⟨rfl, hb⟩
  have b4 := b3.trans (hb.mono b3.size)
  clear hb
  have b5 : Below w.heap.size w (w4.alloc (.cells #[] 114)) := b4.trans (((Below.refl _ _).alloc (Nat.le_refl _) _).mono b4.size)
  go_wp2_with fail
  refine (KL.out _ _ (H.out.stepAt b5) (H'.out.stepAt b5)).mono ?_
  rintro e w6 ⟨v6, rfl, lo6, hb⟩
  have b6 := b5.trans (hb.mono b5.size)
  have HL := Lib.hid (lo6.low (B' := w.heap.size) (base' := w.heap.size) b5.size b5.size)
  clear lo6 hb
  go_wp2_with fail
  go_ret
  exact ⟨_, rfl, HL.out, b6⟩
end Svp
end Go.Proofs.Ytgenjbeamlffmaa
