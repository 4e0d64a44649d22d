/- The contract of the model's Solve, over this seat's translation: the first one of all choices that are fine, in memory of its own, and true, or none; nothing that was there before a call has changed. Condition: at most 1048576 of each row and of what is in it. -/
import Derived.Test.YtgenjbeamlffmaaSvt
import Derived.Test.YtgenjbeamlffmaaSvb
namespace Go.Proofs.Ytgenjbeamlffmaa
open Go.RowKit Go.Sort

namespace Svp
open Foot Copy Nup Cpu Cfa Rch Gof Pof
theorem search_any (sa na da : Option Addr) (caps ncap dc : Nat) (S : List Rel) (N : List Nd) (D : List Pk) (hS : shOk S = true) (hN : ndOk N = true) (hD : pkOk D = true) (hq : ∀ q ∈ S, q.2.2.2.length ≤ 1048576 ∧ ∀ p ∈ q.2.2.2, p.2.length ≤ 1048576) (hNq : ∀ q ∈ N, q.2.length ≤ 1048576) :
    ∀ (m nm : Nat), nm + m = 8 → ∀ (C : List Pk) (vc : Value) (w : World), Good S D C (partL (openL S D) (nm : Int)) → RlAt w w.heap.size (.slice sa S.length caps) S → NdAt w w.heap.size (.slice na N.length ncap) N → PkAt w w.heap.size (.slice da D.length dc) D → PkAt w w.heap.size vc C → (∃ b o c, vc = .slice (some ⟨b, o, none⟩) C.length c) →
      Calls Try.prog 66 #[.slice sa S.length caps, .slice na N.length ncap, .slice da D.length dc, vc, .int .i64 (nm : Int)] w (SearchPost nm ((bestL S N D C (partL (openL S D) (nm : Int))).head?) w)
  | 0, nm, he, C, vc, w, hG, h, h', h1, h2, hvc => search_walk sa na da caps ncap dc S N D hS hN hD hq hNq nm (by omega) C vc w (fun hlt => absurd hlt (by omega)) hG h h' h1 h2 hvc
  | m + 1, nm, he, C, vc, w, hG, h, h', h1, h2, hvc => search_walk sa na da caps ncap dc S N D hS hN hD hq hNq nm (by omega) C vc w (fun _ C' vc' w' g1 g2 g3 g4 g5 g6 => by
      have := search_any sa na da caps ncap dc S N D hS hN hD hq hNq m (nm + 1) (by omega) C' vc' w' (by rw [show ((nm + 1 : Nat) : Int) = (nm : Int) + 1 from rfl]; exact g1) g2 g3 g4 g5 g6
      rwa [show ((nm + 1 : Nat) : Int) = (nm : Int) + 1 from rfl] at this) hG h h' h1 h2 hvc

set_option maxRecDepth 100000 in
set_option maxHeartbeats 2000000 in
theorem specSolve_any (v u y : Value) (S : List Rel) (N : List Nd) (D : List Pk) (w : World) (hl : S.length ≤ 1048576) (hq : ∀ q ∈ S, q.2.2.2.length ≤ 1048576 ∧ ∀ p ∈ q.2.2.2, p.2.length ≤ 1048576) (hN : N.length ≤ 1048576) (hNq : ∀ q ∈ N, q.2.length ≤ 1048576) (hD : D.length ≤ 1048576) (h : RlAt w w.heap.size v S) (h' : NdAt w w.heap.size u N) (h1 : PkAt w w.heap.size y D) :
    Calls Try.prog 16 #[v, u, y] w (SolvePost (solveL S N D) w) := by
  obtain ⟨sa, caps, rfl, hx1⟩ := id h
  obtain ⟨na, ncap, rfl, hx2⟩ := id h'
  obtain ⟨da, dc, rfl, hx3⟩ := id h1
  clear hx1 hx2 hx3
  have H := Lib.hid h
  have H' := Lib.hid h'
  have H1 := Lib.hid h1
  have KS : Hid (∀ V, RlAt V V.heap.size (.slice sa S.length caps) S → Calls Try.prog 63 #[.slice sa S.length caps] V fun e w' => e = .returned (.bool (shOk S)) ∧ Below V.heap.size V w') := Lib.hid fun V g => specShelfOk_any _ S V hl hq g
  have KN : Hid (∀ V, NdAt V V.heap.size (.slice na N.length ncap) N → Calls Try.prog 64 #[.slice na N.length ncap] V fun e w' => e = .returned (.bool (ndOk N)) ∧ Below V.heap.size V w') := Lib.hid fun V g => specNeedsOk_any _ N V hN hNq g
  have KC : Hid (∀ V, PkAt V V.heap.size (.slice da D.length dc) D → Calls Try.prog 65 #[.slice da D.length dc] V fun e w' => e = .returned (.bool (pkOk D)) ∧ Below V.heap.size V w') := Lib.hid fun V g => specPicksOk_any _ D V hD g
  clear h h' h1
  have pb0 : ∀ (B Z : Nat) (W : World) (a : Option Addr), PB [] B Z (.slice a 0 0) W := fun B Z W a => ⟨a, 0, rfl, .inl rfl⟩
  have PB0 := Lib.hid pb0
  clear pb0
  rcases hs : shOk S
  · rw [hs] at KS
    have HE := Lib.hid (show solveL S N D = none by unfold solveL; rw [hs]; rfl)
    clear hs KN KC
    go_enter Try.func16, Try.ntmps16
    go_wp2_with fail
    refine (KS.out _ H.out).mono ?_
    rintro e w2 ⟨rfl, b2⟩
    go_wp2_with fail
    exact bodyPost_ret (v := .tuple #[.slice (some ⟨w2.heap.size, 0, none⟩) 0 0, .bool false]) (by simp [results, Try.results16, go_sem]) rfl ⟨_, by rw [HE.out]; rfl, by rw [HE.out]; exact PB0.out _ _ _ _, b2.trans (((Below.refl _ _).alloc (Nat.le_refl _) _).mono b2.size)⟩
  rcases hn : ndOk N
  · rw [hs] at KS
    rw [hn] at KN
    have HE := Lib.hid (show solveL S N D = none by unfold solveL; rw [hs, hn]; rfl)
    clear hs hn KC
    go_enter Try.func16, Try.ntmps16
    go_wp2_with fail
    refine (KS.out _ H.out).mono ?_
    rintro e w2 ⟨rfl, b2⟩
    go_wp2_with fail
    refine (KN.out _ (H'.out.stepAt b2)).mono ?_
    rintro e w3 ⟨rfl, hb⟩
    have b3 := b2.trans (hb.mono b2.size)
    clear hb
    go_wp2_with fail
    exact bodyPost_ret (v := .tuple #[.slice (some ⟨w3.heap.size, 0, none⟩) 0 0, .bool false]) (by simp [results, Try.results16, go_sem]) rfl ⟨_, by rw [HE.out]; rfl, by rw [HE.out]; exact PB0.out _ _ _ _, b3.trans (((Below.refl _ _).alloc (Nat.le_refl _) _).mono b3.size)⟩
  rcases hc : pkOk D
  · rw [hs] at KS
    rw [hn] at KN
    rw [hc] at KC
    have HE := Lib.hid (show solveL S N D = none by unfold solveL; rw [hs, hn, hc]; rfl)
    clear hs hn hc
    go_enter Try.func16, Try.ntmps16
    go_wp2_with fail
    refine (KS.out _ H.out).mono ?_
    rintro e w2 ⟨rfl, b2⟩
    go_wp2_with fail
    refine (KN.out _ (H'.out.stepAt b2)).mono ?_
    rintro e w3 ⟨rfl, hb⟩
    have b3 := b2.trans (hb.mono b2.size)
    clear hb
    go_wp2_with fail
    refine (KC.out _ (H1.out.stepAt b3)).mono ?_
    rintro e w4 ⟨rfl, hb⟩
    have b4 := b3.trans (hb.mono b3.size)
    clear hb
    go_wp2_with fail
    exact bodyPost_ret (v := .tuple #[.slice (some ⟨w4.heap.size, 0, none⟩) 0 0, .bool false]) (by simp [results, Try.results16, go_sem]) rfl ⟨_, by rw [HE.out]; rfl, by rw [HE.out]; exact PB0.out _ _ _ _, b4.trans (((Below.refl _ _).alloc (Nat.le_refl _) _).mono b4.size)⟩
  have hp0 : partL (openL S D) ((0 : Nat) : Int) = openL S D := part_all hs
  obtain ⟨R, hR⟩ : ∃ R, solveL S N D = R := ⟨_, rfl⟩
  have hsr : (bestL S N D [] (openL S D)).head? = R := by rw [← hR]; unfold solveL; rw [hs, hn, hc]; rfl
  have KL : Hid (∀ V g, RlAt V V.heap.size (.slice sa S.length caps) S → NdAt V V.heap.size (.slice na N.length ncap) N → PkAt V V.heap.size (.slice da D.length dc) D → Calls Try.prog 66 #[.slice sa S.length caps, .slice na N.length ncap, .slice da D.length dc, .slice (some ⟨g, 0, none⟩) 0 0, .int .i64 0] V (SearchPost 0 R V)) := Lib.hid fun V g g1 g2 g3 => by
    have := search_any sa na da caps ncap dc S N D hs hn hc hq hNq 8 0 rfl [] (.slice (some ⟨g, 0, none⟩) 0 0) V (by rw [hp0]; exact good_start D hs) g1 g2 g3 ⟨_, _, rfl, .inl rfl⟩ ⟨g, 0, 0, rfl⟩
    rw [hp0, hsr] at this
    exact this
  rw [hs] at KS
  rw [hn] at KN
  rw [hc] at KC
  rw [hR]
  clear hs hn hc hR hsr hp0
  go_enter Try.func16, Try.ntmps16
  go_wp2_with fail
  refine (KS.out _ H.out).mono ?_
  rintro e w2 ⟨rfl, b2⟩
  go_wp2_with fail
  refine (KN.out _ (H'.out.stepAt b2)).mono ?_
  rintro e w3 ⟨rfl, hb⟩
  have b3 := b2.trans (hb.mono b2.size)
  clear hb
  go_wp2_with fail
  refine (KC.out _ (H1.out.stepAt b3)).mono ?_
  rintro e w4 ⟨rfl, hb⟩
  have b4 := b3.trans (hb.mono b3.size)
  clear hb
  have b5 : Below w.heap.size w (w4.alloc (.cells #[] 114)) := b4.trans (((Below.refl _ _).alloc (Nat.le_refl _) _).mono b4.size)
  go_wp2_with fail
  refine (KL.out _ _ (H.out.stepAt b5) (H'.out.stepAt b5) (H1.out.stepAt b5)).mono ?_
  rintro e w6 ⟨v6, rfl, hs6, hn6, hb⟩
  have b6 := b5.trans (hb.mono b5.size)
  have HPB : PB (R.getD []) w.heap.size w6.heap.size v6 w6 := by
    rcases R with _ | L
    · exact (hn6 (by omega) rfl).mono b5.size
    · exact (hs6 L rfl).mono b5.size
  have HP := Lib.hid HPB
  obtain ⟨za, zc, rfl, hzz⟩ := id HPB
  clear hs6 hn6 HPB hzz hb
  go_wp2_with fail
  exact bodyPost_ret (v := .tuple #[.slice za (R.getD []).length zc, .bool R.isSome]) (by simp [results, Try.results16, go_sem]) rfl ⟨_, rfl, HP.out, b6⟩
end Svp
end Go.Proofs.Ytgenjbeamlffmaa
