/- The contract of the program's Solve, over this seat's translation: the first one of all choices that are fine, in memory of its own, and true, or none; nothing that was there before a call has changed. Condition: at most 1048576 of each row and of what is in it. -/
import Derived.Test.YtgenjbeamlffmaaSvm
namespace Go.Proofs.Ytgenjbeamlffmaa
open Go.RowKit Go.Sort

namespace Svp
open Foot Copy Nup Cpu Cfa Rch Gof Pof
theorem key_names {p q : Rel} (hp : relOk p = true) (hq : relOk q = true) (h : key p < key q) : p.1 ≤ q.1 := by
  have h1 := rk_few (ok_ver hp)
  have h2 := rk_few (ok_ver hq)
  unfold key at h
  omega
theorem sh_mono : ∀ {S : List Rel} {p : Option Rel}, shFrom p S = true → S.Pairwise fun x y => x.1 ≤ y.1
  | [], _, _ => List.Pairwise.nil
  | q :: t, p, h => by
    have hh := h
    simp only [shFrom, Bool.and_eq_true] at h
    refine List.pairwise_cons.2 ⟨fun y hy => ?_, sh_mono h.2.2⟩
    exact key_names h.1 (sh_rel h.2.2 y hy) (after_key t q h.1 h.2.2 y hy)
theorem good_start {S : List Rel} (H : List Pk) (hS : shOk S = true) : Good S H [] (openL S H) := by
  have h := hS
  unfold shOk at h
  rw [Bool.and_eq_true] at h
  refine ⟨fun x hx => by simpa using hx, rfl, fun x hx => by simp at hx, ?_⟩
  unfold openL
  rw [List.pairwise_map]
  exact (sh_mono h.1).filter _
theorem open_len (S : List Rel) (H : List Pk) : (openL S H).length ≤ S.length := by
  unfold openL
  rw [List.length_map]
  exact List.length_filter_le _ _
/-- What Solve answers. -/
def solveL (S : List Rel) (N : List Nd) (H : List Pk) : Option (List Pk) := if (shOk S && (ndOk N && pkOk H)) = true then (bestL S N H [] (openL S H)).head? else none
def SolvePost (r : Option (List Pk)) (w : World) (e : Ending) (w' : World) : Prop := ∃ v, e = .returned (.tuple #[v, .bool r.isSome]) ∧ PB (r.getD []) w.heap.size w'.heap.size v w' ∧ Below w.heap.size w w'

set_option maxRecDepth 100000 in
set_option maxHeartbeats 2000000 in
theorem implSolve_any (v u y : Value) (S : List Rel) (N : List Nd) (D : List Pk) (w : World) (hl : S.length ≤ 1048576) (hq : ∀ q ∈ S, q.2.2.2.length ≤ 1048576 ∧ ∀ p ∈ q.2.2.2, p.2.length ≤ 1048576) (hN : N.length ≤ 1048576) (hNq : ∀ q ∈ N, q.2.length ≤ 1048576) (hD : D.length ≤ 1048576) (h : RlAt w w.heap.size v S) (h' : NdAt w w.heap.size u N) (h1 : PkAt w w.heap.size y D) :
    Calls Try.prog 20 #[v, u, y] w (SolvePost (solveL S N D) w) := by
  obtain ⟨sa, caps, rfl, hx1⟩ := id h
  obtain ⟨na, ncap, rfl, hx2⟩ := id h'
  obtain ⟨da, dc, rfl, hx3⟩ := id h1
  clear hx1 hx2 hx3
  have H := Lib.hid h
  have H' := Lib.hid h'
  have H1 := Lib.hid h1
  have KS : Hid (∀ V, RlAt V V.heap.size (.slice sa S.length caps) S → Calls Try.prog 70 #[.slice sa S.length caps] V fun e w' => e = .returned (.bool (shOk S)) ∧ Below V.heap.size V w') := Lib.hid fun V g => implShelfOk_any _ S V hl hq g
  have KN : Hid (∀ V, NdAt V V.heap.size (.slice na N.length ncap) N → Calls Try.prog 71 #[.slice na N.length ncap] V fun e w' => e = .returned (.bool (ndOk N)) ∧ Below V.heap.size V w') := Lib.hid fun V g => implNeedsOk_any _ N V hN hNq g
  have KC : Hid (∀ V, PkAt V V.heap.size (.slice da D.length dc) D → Calls Try.prog 72 #[.slice da D.length dc] V fun e w' => e = .returned (.bool (pkOk D)) ∧ Below V.heap.size V w') := Lib.hid fun V g => implPicksOk_any _ D V hD g
  clear h h' h1
  rcases hs : shOk S
  · rw [hs] at KS
    have HE := Lib.hid (show solveL S N D = none by unfold solveL; rw [hs]; rfl)
    clear hs KN KC
    go_enter Try.func20, Try.ntmps20
    go_wp2_with fail
    refine (KS.out _ H.out).mono ?_
    rintro e w2 ⟨rfl, b2⟩
    go_wp2_with fail
    exact bodyPost_ret (v := .tuple #[.slice none 0 0, .bool false]) (by simp [results, Try.results20, go_sem]) rfl ⟨_, by rw [HE.out]; rfl, by rw [HE.out]; exact pb_nil _ _ _, b2⟩
  rcases hn : ndOk N
  · rw [hs] at KS
    rw [hn] at KN
    have HE := Lib.hid (show solveL S N D = none by unfold solveL; rw [hs, hn]; rfl)
    clear hs hn KC
    go_enter Try.func20, Try.ntmps20
    go_wp2_with fail
    refine (KS.out _ H.out).mono ?_
    rintro e w2 ⟨rfl, b2⟩
    go_wp2_with fail
    refine (KN.out _ (H'.out.stepAt b2)).mono ?_
    rintro e w3 ⟨rfl, hb⟩
    have b3 := b2.trans (hb.mono b2.size)
    clear hb
    go_wp2_with fail
    exact bodyPost_ret (v := .tuple #[.slice none 0 0, .bool false]) (by simp [results, Try.results20, go_sem]) rfl ⟨_, by rw [HE.out]; rfl, by rw [HE.out]; exact pb_nil _ _ _, b3⟩
  rcases hc : pkOk D
  · rw [hs] at KS
    rw [hn] at KN
    rw [hc] at KC
    have HE := Lib.hid (show solveL S N D = none by unfold solveL; rw [hs, hn, hc]; rfl)
    clear hs hn hc
    go_enter Try.func20, Try.ntmps20
    go_wp2_with fail
    refine (KS.out _ H.out).mono ?_
    rintro e w2 ⟨rfl, b2⟩
    go_wp2_with fail
    refine (KN.out _ (H'.out.stepAt b2)).mono ?_
    rintro e w3 ⟨rfl, hb⟩
    have b3 := b2.trans (hb.mono b2.size)
    clear hb
    go_wp2_with fail
    refine (KC.out _ (H1.out.stepAt b3)).mono ?_
    rintro e w4 ⟨rfl, hb⟩
    have b4 := b3.trans (hb.mono b3.size)
    clear hb
    go_wp2_with fail
    exact bodyPost_ret (v := .tuple #[.slice none 0 0, .bool false]) (by simp [results, Try.results20, go_sem]) rfl ⟨_, by rw [HE.out]; rfl, by rw [HE.out]; exact pb_nil _ _ _, b4⟩
  have HE := Lib.hid (show solveL S N D = (bestL S N D [] (openL S D)).head? by unfold solveL; rw [hs, hn, hc]; rfl)
  have HG := Lib.hid (good_start D hs)
  have hol : (openL S D).length ≤ 30 := Nat.le_trans (open_len S D) (sh_len hs)
  have KB := Lib.hid (fun O C vc vo mo B W => bestChoices_any sa na caps ncap S N D hs hn hc (fun q h => (hq q h).2) hNq 30 O C vc vo mo B W)
  rw [hs] at KS
  rw [hn] at KN
  rw [hc] at KC
  clear hs hn hc
  obtain ⟨O, hO⟩ : ∃ O, openL S D = O := ⟨_, rfl⟩
  have KO : Hid (∀ V, RlAt V V.heap.size (.slice sa S.length caps) S → PkAt V V.heap.size (.slice da D.length dc) D → Calls Try.prog 74 #[.slice sa S.length caps, .slice da D.length dc] V fun e w' => ∃ v, e = .returned v ∧ KOwn w' V.heap.size v O ∧ Below V.heap.size V w') := Lib.hid fun V g g' => by
    rw [← hO]
    exact picksOpen_any _ _ S D V hl hD g g'
  rw [hO] at HE HG hol
  clear hO
  go_enter Try.func20, Try.ntmps20
  go_wp2_with fail
  refine (KS.out _ H.out).mono ?_
  rintro e w2 ⟨rfl, b2⟩
  go_wp2_with fail
  refine (KN.out _ (H'.out.stepAt b2)).mono ?_
  rintro e w3 ⟨rfl, hb⟩
  have b3 := b2.trans (hb.mono b2.size)
  clear hb
  go_wp2_with fail
  refine (KC.out _ (H1.out.stepAt b3)).mono ?_
  rintro e w4 ⟨rfl, hb⟩
  have b4 := b3.trans (hb.mono b3.size)
  clear hb
  go_wp2_with fail
  refine (KO.out _ (H.out.stepAt b4) (H1.out.stepAt b4)).mono ?_
  rintro e w5 ⟨v5, rfl, ko5, hb⟩
  have b5 := b4.trans (hb.mono b4.size)
  obtain ⟨oa, oc, rfl, hxx⟩ := id (KOwn.pb ko5).at
  have hcap : O.length ≤ oc := by
    rcases ko5.2 with ⟨e, h0⟩ | ⟨g, cap, cur, e, _, _, hnc, _⟩
    · omega
    · simp only [Value.slice.injEq] at e
      obtain ⟨_, _, rfl⟩ := e
      exact hnc
  have PO := Lib.hid (KOwn.pb ko5).at
  clear hb hxx ko5
  go_wp2_with fail
  refine (KB.out O [] (.slice none 0 0) (.slice oa O.length oc) 1 w.heap.size w5 (by omega) HG.out (by simpa using hol) (by omega) (by omega) b5.size (H.out.stepAt b5) (H'.out.stepAt b5) (World.ownsRow_nil _ _ _ _) PO.out ⟨_, _, rfl, hcap⟩).mono ?_
  obtain ⟨Ls, hLs⟩ : ∃ Ls, bestL S N D [] O = Ls := ⟨_, rfl⟩
  rw [hLs] at HE ⊢
  rintro e w6 ⟨v6, rfl, lo6, hb⟩
  have b6 := b5.trans (hb.mono b5.size)
  clear hLs hb KB
  rcases Ls with _ | ⟨L, t⟩
  · obtain ⟨la, lc, rfl⟩ := lo6.form
    go_wp2_with fail
    exact bodyPost_ret (v := .tuple #[.slice none 0 0, .bool false]) (by simp [results, Try.results20, go_sem]) rfl ⟨_, by rw [HE.out]; rfl, by rw [HE.out]; exact pb_nil _ _ _, b6⟩
  · obtain ⟨cs, hown, he⟩ := lo6
    obtain ⟨z, hz, hk⟩ := he 0 (by simp)
    have hk' : KOwn w6 w.heap.size z L := hk
    have HK := Lib.hid (KOwn.pb hk')
    obtain ⟨g, cap, hgv, hcell⟩ : ∃ g cap, v6 = .slice (some ⟨g, 0, none⟩) 1 cap ∧ w6.cell? ⟨g, 0, none⟩ = some z := by
      rcases hown.2 with ⟨_, h0⟩ | ⟨g, cap, cur, e, _⟩
      · simp at h0
      · refine ⟨g, cap, e, ?_⟩
        have := World.ownsRow.cells hown (g := g) (by rw [e]; rfl) 0 z hz
        simpa [Addr.add] using this
    obtain ⟨za, zc, rfl, hzz⟩ := id HK.out
    subst hgv
    clear hown he hz hk hk' hzz
    go_wp2_with fail
    exact bodyPost_ret (v := .tuple #[.slice za L.length zc, .bool true]) (by simp [results, Try.results20, go_sem]) rfl ⟨_, by rw [HE.out]; rfl, by rw [HE.out]; exact HK.out, b6⟩
end Svp
end Go.Proofs.Ytgenjbeamlffmaa
