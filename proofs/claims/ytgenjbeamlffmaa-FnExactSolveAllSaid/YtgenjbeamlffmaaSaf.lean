/- The contract of the program's SolveAll, over this seat's translation: the first ones of all choices that are fine, in rows of their own on different blocks; nothing that was there before a call has changed. Condition: at most 1048576 of each row and of what is in it. -/
import Derived.Test.YtgenjbeamlffmaaSae
namespace Go.Proofs.Ytgenjbeamlffmaa
open Go.RowKit Go.Sort

namespace Sae
open Foot Copy Nup Cpu Cfa Rch Gof Pof Svp
theorem allL_len8 {S : List Rel} {N : List Nd} {mo : Int} {L : List Pk} (h : L ∈ allL S N mo) : L.length ≤ 8 := by
  unfold allL at h
  by_cases hh : (shOk S && (ndOk N && inB mo 0 50)) = true
  · rw [if_pos hh] at h
    exact pk_len (Fine.of (.inr (best_fine (List.mem_of_mem_take h)))).pk
  · rw [if_neg hh] at h; simp at h
def SSPost (A : List (List Pk)) (w : World) (e : Ending) (w' : World) : Prop := ∃ v, e = .returned v ∧ PSS A w.heap.size w'.heap.size v w' ∧ Below w.heap.size w w'
theorem pss_nil (lo hi : Nat) (w : World) : PSS [] lo hi (.slice none 0 0) w := ⟨none, 0, rfl, .inl rfl⟩

set_option maxRecDepth 100000 in
set_option maxHeartbeats 2000000 in
theorem implAll_dist (v u : Value) (S : List Rel) (N : List Nd) (mo : Int) (w : World) (hl : S.length ≤ 1048576) (hq : ∀ q ∈ S, q.2.2.2.length ≤ 1048576 ∧ ∀ p ∈ q.2.2.2, p.2.length ≤ 1048576) (hN : N.length ≤ 1048576) (hNq : ∀ q ∈ N, q.2.length ≤ 1048576) (h : RlAt w w.heap.size v S) (h' : NdAt w w.heap.size u N) :
    Calls Try.prog 29 #[v, u, .int .i64 mo] w (SSPost (allL S N mo) w) := by
  obtain ⟨sa, caps, rfl, hx1⟩ := id h
  obtain ⟨na, ncap, rfl, hx2⟩ := id h'
  clear hx1 hx2
  have H := Lib.hid h
  have H' := Lib.hid h'
  have KS : Hid (∀ V, RlAt V V.heap.size (.slice sa S.length caps) S → Calls Try.prog 70 #[.slice sa S.length caps] V fun e w' => e = .returned (.bool (shOk S)) ∧ Below V.heap.size V w') := Lib.hid fun V g => implShelfOk_any _ S V hl hq g
  have KN : Hid (∀ V, NdAt V V.heap.size (.slice na N.length ncap) N → Calls Try.prog 71 #[.slice na N.length ncap] V fun e w' => e = .returned (.bool (ndOk N)) ∧ Below V.heap.size V w') := Lib.hid fun V g => implNeedsOk_any _ N V hN hNq g
  clear h h'
  rcases hs : shOk S
  · rw [hs] at KS
    have HE := Lib.hid (show allL S N mo = [] by unfold allL; rw [hs]; rfl)
    clear hs KN
    go_enter Try.func29, Try.ntmps29
    go_wp2_with fail
    refine (KS.out _ H.out).mono ?_
    rintro e w2 ⟨rfl, b2⟩
    go_wp2_with fail
    go_ret
    exact ⟨_, rfl, by rw [HE.out]; exact pss_nil _ _ _, b2⟩
  rcases hn : ndOk N
  · rw [hs] at KS
    rw [hn] at KN
    have HE := Lib.hid (show allL S N mo = [] by unfold allL; rw [hs, hn]; rfl)
    clear hs hn
    go_enter Try.func29, Try.ntmps29
    go_wp2_with fail
    refine (KS.out _ H.out).mono ?_
    rintro e w2 ⟨rfl, b2⟩
    go_wp2_with fail
    refine (KN.out _ (H'.out.stepAt b2)).mono ?_
    rintro e w3 ⟨rfl, hb⟩
    have b3 := b2.trans (hb.mono b2.size)
    clear hb
    go_wp2_with fail
    go_ret
    exact ⟨_, rfl, by rw [HE.out]; exact pss_nil _ _ _, b3⟩
  rcases hi : inB mo 0 50
  · have hnn : ¬ (0 ≤ mo ∧ mo ≤ 50) := fun e => by rw [inB_iff.2 e] at hi; cases hi
    rw [hs] at KS
    rw [hn] at KN
    have HE := Lib.hid (show allL S N mo = [] by unfold allL; rw [hs, hn, hi]; rfl)
    clear hs hn hi
    by_cases h0 : mo < 0
    all_goals
      have h50 : ¬ mo < 0 → 50 < mo := fun _ => by omega
      have H50 := Lib.hid h50
      clear h50 hnn
    · go_enter Try.func29, Try.ntmps29
      go_wp2_with fail
      refine (KS.out _ H.out).mono ?_
      rintro e w2 ⟨rfl, b2⟩
      go_wp2_with fail
      refine (KN.out _ (H'.out.stepAt b2)).mono ?_
      rintro e w3 ⟨rfl, hb⟩
      have b3 := b2.trans (hb.mono b2.size)
      clear hb
      go_wp2_with fail
      go_ret
      exact ⟨_, rfl, by rw [HE.out]; exact pss_nil _ _ _, b3⟩
    · have h5 := H50.out h0
      go_enter Try.func29, Try.ntmps29
      go_wp2_with fail
      refine (KS.out _ H.out).mono ?_
      rintro e w2 ⟨rfl, b2⟩
      go_wp2_with fail
      refine (KN.out _ (H'.out.stepAt b2)).mono ?_
      rintro e w3 ⟨rfl, hb⟩
      have b3 := b2.trans (hb.mono b2.size)
      clear hb
      go_wp2_with fail
      go_ret
      exact ⟨_, rfl, by rw [HE.out]; exact pss_nil _ _ _, b3⟩
  obtain ⟨m0, m1⟩ := inB_iff.1 hi
  have hlo : decide (mo < 0) = false := decide_eq_false (by omega)
  have hhi : decide (50 < mo) = false := decide_eq_false (by omega)
  have HE := Lib.hid (show allL S N mo = (bestL S N [] [] (openL S [])).take mo.toNat by unfold allL; rw [hs, hn, hi]; rfl)
  have HG := Lib.hid (good_start [] hs)
  have hol : (openL S []).length ≤ 30 := Nat.le_trans (open_len S []) (sh_len hs)
  have KB := Lib.hid (fun O C vc vo mo B W => destChoices_any sa na caps ncap S N [] hs hn rfl (fun q h => (hq q h).2) hNq 30 O C vc vo mo B W)
  rw [hs] at KS
  rw [hn] at KN
  clear hs hn hi
  obtain ⟨O, hO⟩ : ∃ O, openL S [] = O := ⟨_, rfl⟩
  have KO : Hid (∀ V, RlAt V V.heap.size (.slice sa S.length caps) S → Calls Try.prog 74 #[.slice sa S.length caps, .slice none 0 0] V fun e w' => ∃ v, e = .returned v ∧ KOwn w' V.heap.size v O ∧ Below V.heap.size V w') := Lib.hid fun V g => by
    rw [← hO]
    exact picksOpen_any _ _ S [] V hl (by simp) g ⟨_, _, rfl, .inl rfl⟩
  rw [hO] at HE HG hol
  clear hO
  go_enter Try.func29, Try.ntmps29
  go_wp2_with fail
  refine (KS.out _ H.out).mono ?_
  rintro e w2 ⟨rfl, b2⟩
  go_wp2_with fail
  refine (KN.out _ (H'.out.stepAt b2)).mono ?_
  rintro e w3 ⟨rfl, hb⟩
  have b4 := b2.trans (hb.mono b2.size)
  clear hb
  go_wp2_with fail
  refine (KO.out _ (H.out.stepAt b4)).mono ?_
  rintro e w5 ⟨v5, rfl, ko5, hb⟩
  have b5 := b4.trans (hb.mono b4.size)
  obtain ⟨oa, oc, rfl, hxx⟩ := id (KOwn.pb ko5).at
  have hcap : O.length ≤ oc := by
    rcases ko5.2 with ⟨e, h0⟩ | ⟨g, cap, cur, e, _, _, hnc, _⟩
    · omega
    · simp only [Value.slice.injEq] at e
      obtain ⟨_, _, rfl⟩ := e
      exact hnc
  have PO := Lib.hid (KOwn.pb ko5).at
  clear hb hxx ko5
  go_wp2_with fail
  refine (KB.out O [] (.slice none 0 0) (.slice oa O.length oc) mo w.heap.size w5 (by omega) HG.out (by simpa using hol) (by omega) (by omega) b5.size (H.out.stepAt b5) (H'.out.stepAt b5) (World.ownsRow_nil _ _ _ _) PO.out ⟨_, _, rfl, hcap⟩).mono ?_
  rw [← HE.out]
  rintro e w6 ⟨v6, rfl, lo6, hb⟩
  have b6 := b5.trans (hb.mono b5.size)
  have HL := Lib.hid (PSS.of (lo6.wide b5.size b5.size (Nat.le_refl _)))
  clear lo6 hb KB
  go_wp2_with fail
  go_ret
  exact ⟨_, rfl, HL.out, b6⟩

end Sae
end Go.Proofs.Ytgenjbeamlffmaa
