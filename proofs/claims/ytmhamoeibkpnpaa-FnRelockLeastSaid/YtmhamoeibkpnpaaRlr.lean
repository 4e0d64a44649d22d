/- The contracts of Relock, the program's and the model's, over this seat's translation, as the plain function relockL tells them; nothing that was there before a call has changed. Condition: at most 1048576 of each row and of what is in it. -/
import Derived.Test.YtmhamoeibkpnpaaRli
import Derived.Test.YtmhamoeibkpnpaaRls
import Derived.BigQuiet
namespace Go.Proofs.Ytmhamoeibkpnpaa
open Go.RowKit Go.Sort

namespace Rlk
open Foot Copy Nup Cpu Cfa Rch Gof Pof Svp Lkc
def RePost (r : Option (List Pk)) (w : World) (e : Ending) (w' : World) : Prop := ∃ v, e = .returned (.tuple #[v, .bool r.isSome]) ∧ PB (r.getD []) w.heap.size w'.heap.size v w' ∧ Below w.heap.size w w'
theorem re_none {r : Option (List Pk)} {w w' : World} {a : Option Addr} {c : Nat} (h : r = none) (hb : Below w.heap.size w w') : RePost r w (.returned (.tuple #[.slice a 0 c, .bool false])) w' := by
  subst h
  exact ⟨_, rfl, ⟨a, c, rfl, .inl rfl⟩, hb⟩

theorem own_cap {w : World} {B n c : Nat} {a : Option Addr} {L : List Pk} (h : KOwn w B (.slice a n c) L) : L.length ≤ c := by
  rcases h.2 with ⟨e, h0⟩ | ⟨g, cap, cur, e, _, _, hnc, _⟩
  · omega
  · simp only [Value.slice.injEq] at e
    obtain ⟨_, _, rfl⟩ := e
    exact hnc
theorem search7_any (sa na da fa : Option Addr) (caps ncap dc fc : Nat) (S : List Rel) (N : List Nd) (D : List Pk) (F : List Int) (hS : shOk S = true) (hN : ndOk N = true) (hD : pkOk D = true) (hq : ∀ q ∈ S, q.2.2.2.length ≤ 1048576 ∧ ∀ p ∈ q.2.2.2, p.2.length ≤ 1048576) (hNq : ∀ q ∈ N, q.2.length ≤ 1048576) (hF : F.length ≤ 1048576) :
    ∀ (m nm : Nat), nm + m = 8 → ∀ (C : List Pk) (vc : Value) (fw : Nat) (mo : Int) (w : World), mo + 1 = (fw : Int) → fw ≤ 100 → Svp.Good S D C (partL (openL S D) (nm : Int)) → RlAt w w.heap.size (.slice sa S.length caps) S → NdAt w w.heap.size (.slice na N.length ncap) N → PkAt w w.heap.size (.slice da D.length dc) D → InAt w w.heap.size (.slice fa F.length fc) F → PkAt w w.heap.size vc C → (∃ b o c, vc = .slice (some ⟨b, o, none⟩) C.length c) →
      Calls Try.prog 53 #[.slice sa S.length caps, .slice na N.length ncap, .slice da D.length dc, .slice fa F.length fc, vc, .int .i64 (nm : Int), .int .i64 mo] w (S7Post fw (scan (keptL D F) ([], fw) (bestL S N D C (partL (openL S D) (nm : Int)))) w)
  | 0, nm, he, C, vc, fw, mo, w, h1, h2, hG, g1, g2, g3, g4, g5, g6 => search7_walk sa na da fa caps ncap dc fc S N D F hS hN hD hq hNq hF nm (by omega) C vc fw mo w (fun hlt => absurd hlt (by omega)) h1 h2 hG g1 g2 g3 g4 g5 g6
  | m + 1, nm, he, C, vc, fw, mo, w, h1, h2, hG, g1, g2, g3, g4, g5, g6 => search7_walk sa na da fa caps ncap dc fc S N D F hS hN hD hq hNq hF nm (by omega) C vc fw mo w (fun _ C' vc' fw' mo' w' k1 k2 k3 k4 k5 k6 k7 k8 k9 => by
      have := search7_any sa na da fa caps ncap dc fc S N D F hS hN hD hq hNq hF m (nm + 1) (by omega) C' vc' fw' mo' w' k1 k2 (by rw [show ((nm + 1 : Nat) : Int) = (nm : Int) + 1 from rfl]; exact k3) k4 k5 k6 k7 k8 k9
      rwa [show ((nm + 1 : Nat) : Int) = (nm : Int) + 1 from rfl] at this) h1 h2 hG g1 g2 g3 g4 g5 g6

set_option maxRecDepth 100000 in
set_option maxHeartbeats 2000000 in
theorem specRelock_any (v u y z : Value) (S : List Rel) (N : List Nd) (D : List Pk) (F : List Int) (w : World) (hl : S.length ≤ 1048576) (hq : ∀ q ∈ S, q.2.2.2.length ≤ 1048576 ∧ ∀ p ∈ q.2.2.2, p.2.length ≤ 1048576) (hN : N.length ≤ 1048576) (hNq : ∀ q ∈ N, q.2.length ≤ 1048576) (hD : D.length ≤ 1048576) (hF : F.length ≤ 1048576) (h : RlAt w w.heap.size v S) (h' : NdAt w w.heap.size u N) (h1 : PkAt w w.heap.size y D) (h2 : InAt w w.heap.size z F) :
    Calls Try.prog 15 #[v, u, y, z] w (RePost (relockL S N D F) w) := by
  obtain ⟨sa, caps, rfl, hx1⟩ := id h
  obtain ⟨na, ncap, rfl, hx2⟩ := id h'
  obtain ⟨da, dc, rfl, hx3⟩ := id h1
  obtain ⟨fa, fc, rfl, hx4⟩ := id h2
  clear hx1 hx2 hx3 hx4
  have H := Lib.hid h
  have H' := Lib.hid h'
  have H1 := Lib.hid h1
  have H2 := Lib.hid h2
  have KS : Hid (∀ V, RlAt V V.heap.size (.slice sa S.length caps) S → Calls Try.prog 51 #[.slice sa S.length caps] V fun e w' => e = .returned (.bool (shOk S)) ∧ Below V.heap.size V w') := Lib.hid fun V g => specShelfOk_any _ S V hl hq g
  have KN : Hid (∀ V, NdAt V V.heap.size (.slice na N.length ncap) N → Calls Try.prog 52 #[.slice na N.length ncap] V fun e w' => e = .returned (.bool (ndOk N)) ∧ Below V.heap.size V w') := Lib.hid fun V g => specNeedsOk_any _ N V hN hNq g
  have KC : Hid (∀ V, PkAt V V.heap.size (.slice da D.length dc) D → Calls Try.prog 42 #[.slice da D.length dc] V fun e w' => e = .returned (.bool (pkOk D)) ∧ Below V.heap.size V w') := Lib.hid fun V g => specPicksOk_any _ D V hD g
  clear h h' h1 h2
  rcases hs : shOk S
  · rw [hs] at KS
    have HE := Lib.hid (show relockL S N D F = none from relock_ok (by rw [hs]; simp))
    clear hs KN KC
    go_enter Try.func15, Try.ntmps15
    go_wp2_with fail
    refine (KS.out _ H.out).mono ?_
    rintro e w2 ⟨rfl, b2⟩
    go_wp2_with fail
    exact bodyPost_ret (v := .tuple #[.slice (some ⟨w2.heap.size, 0, none⟩) 0 0, .bool false]) (by simp [results, Try.results15, go_sem]) rfl (re_none HE.out (b2.trans (((Below.refl _ _).alloc (Nat.le_refl _) _).mono b2.size)))
  rcases hn : ndOk N
  · rw [hs] at KS
    rw [hn] at KN
    have HE := Lib.hid (show relockL S N D F = none from relock_ok (by rw [hs, hn]; simp))
    clear hs hn KC
    go_enter Try.func15, Try.ntmps15
    go_wp2_with fail
    refine (KS.out _ H.out).mono ?_
    rintro e w2 ⟨rfl, b2⟩
    go_wp2_with fail
    refine (KN.out _ (H'.out.stepAt b2)).mono ?_
    rintro e w3 ⟨rfl, hb⟩
    have b3 := b2.trans (hb.mono b2.size)
    clear hb
    go_wp2_with fail
    exact bodyPost_ret (v := .tuple #[.slice (some ⟨w3.heap.size, 0, none⟩) 0 0, .bool false]) (by simp [results, Try.results15, go_sem]) rfl (re_none HE.out (b3.trans (((Below.refl _ _).alloc (Nat.le_refl _) _).mono b3.size)))
  rcases hc : pkOk D
  · rw [hs] at KS
    rw [hn] at KN
    rw [hc] at KC
    have HE := Lib.hid (show relockL S N D F = none from relock_ok (by rw [hs, hn, hc]; simp))
    clear hs hn hc
    go_enter Try.func15, Try.ntmps15
    go_wp2_with fail
    refine (KS.out _ H.out).mono ?_
    rintro e w2 ⟨rfl, b2⟩
    go_wp2_with fail
    refine (KN.out _ (H'.out.stepAt b2)).mono ?_
    rintro e w3 ⟨rfl, hb⟩
    have b3 := b2.trans (hb.mono b2.size)
    clear hb
    go_wp2_with fail
    refine (KC.out _ (H1.out.stepAt b3)).mono ?_
    rintro e w4 ⟨rfl, hb⟩
    have b4 := b3.trans (hb.mono b3.size)
    clear hb
    go_wp2_with fail
    exact bodyPost_ret (v := .tuple #[.slice (some ⟨w4.heap.size, 0, none⟩) 0 0, .bool false]) (by simp [results, Try.results15, go_sem]) rfl (re_none HE.out (b4.trans (((Below.refl _ _).alloc (Nat.le_refl _) _).mono b4.size)))
  have hp0 : partL (openL S D) ((0 : Nat) : Int) = openL S D := part_all hs
  have hD8 := pk_len hc
  have hkl := kept_len D F
  obtain ⟨st, hst⟩ : ∃ st, scan (keptL D F) ([], D.length + 1) (bestL S N D [] (openL S D)) = st := ⟨_, rfl⟩
  have KL : Hid (∀ V g, RlAt V V.heap.size (.slice sa S.length caps) S → NdAt V V.heap.size (.slice na N.length ncap) N → PkAt V V.heap.size (.slice da D.length dc) D → InAt V V.heap.size (.slice fa F.length fc) F → Calls Try.prog 53 #[.slice sa S.length caps, .slice na N.length ncap, .slice da D.length dc, .slice fa F.length fc, .slice (some ⟨g, 0, none⟩) 0 0, .int .i64 0, .int .i64 (D.length : Int)] V (S7Post (D.length + 1) st V)) := Lib.hid fun V g g1 g2 g3 g4 => by
    have := search7_any sa na da fa caps ncap dc fc S N D F hs hn hc hq hNq hF 8 0 rfl [] (.slice (some ⟨g, 0, none⟩) 0 0) (D.length + 1) (D.length : Int) V (by omega) (by omega) (by rw [hp0]; exact good_start D hs) g1 g2 g3 g4 ⟨_, _, rfl, .inl rfl⟩ ⟨g, 0, 0, rfl⟩
    rw [hp0, hst] at this
    exact this
  have HR := Lib.hid (show relockL S N D F = if st.2 < D.length + 1 then some st.1 else none by
    have hf := scan_from (keptL D F) ((keptL D F).length + 1) (D.length + 1) (by omega) (by omega) (bestL S N D [] (openL S D))
    rw [hst] at hf
    unfold relockL
    rw [hs, hn, hc]
    simp only [Bool.and_self, if_true]
    by_cases hh : st.2 < D.length + 1
    · rw [if_pos hh, if_pos (hf.1.2 hh), hf.2.1]
    · rw [if_neg hh, if_neg (fun e => hh (hf.1.1 e))])
  have HZ := Lib.hid (show ¬ st.2 < D.length + 1 → st.1 = [] from fun hh => by
    have := scan_still (keptL D F) (D.length + 1) (bestL S N D [] (openL S D))
    rw [hst] at this
    rcases this with k | k
    · exact absurd k hh
    · rw [k])
  rw [hs] at KS
  rw [hn] at KN
  rw [hc] at KC
  clear hs hn hc hst hp0
  go_enter Try.func15, Try.ntmps15
  go_wp2_with fail
  refine (KS.out _ H.out).mono ?_
  rintro e w2 ⟨rfl, b2⟩
  go_wp2_with fail
  refine (KN.out _ (H'.out.stepAt b2)).mono ?_
  rintro e w3 ⟨rfl, hb⟩
  have b3 := b2.trans (hb.mono b2.size)
  clear hb
  go_wp2_with fail
  refine (KC.out _ (H1.out.stepAt b3)).mono ?_
  rintro e w4 ⟨rfl, hb⟩
  have b4 := b3.trans (hb.mono b3.size)
  clear hb
  have b5 : Below w.heap.size w (w4.alloc (.cells #[] 71)) := b4.trans (((Below.refl _ _).alloc (Nat.le_refl _) _).mono b4.size)
  go_wp2_with fail
  refine (KL.out _ _ (H.out.stepAt b5) (H'.out.stepAt b5) (H1.out.stepAt b5) (H2.out.stepAt b5)).mono ?_
  rintro e w6 ⟨v6, rfl, hp6, hb⟩
  have b6 := b5.trans (hb.mono b5.size)
  obtain ⟨za, zc, rfl⟩ := pb_form hp6
  have HP := Lib.hid (hp6.mono b5.size)
  by_cases hh : st.2 < D.length + 1
  · have HE := Lib.hid (HR.out.trans (if_pos hh))
    rw [decide_eq_true hh]
    generalize lst (D.length + 1) st = ls
    clear hp6 hb hh
    go_wp2_with fail
    exact bodyPost_ret (v := .tuple #[.slice za st.1.length zc, .bool true]) (by simp [results, Try.results15, go_sem]) rfl (by rw [HE.out]; exact ⟨_, rfl, HP.out, b6⟩)
  · have HE := Lib.hid (HR.out.trans (if_neg hh))
    have HZ1 := Lib.hid (HZ.out hh)
    rw [decide_eq_false hh]
    generalize lst (D.length + 1) st = ls
    clear hp6 hb hh
    go_wp2_with fail
    exact bodyPost_ret (v := .tuple #[.slice za st.1.length zc, .bool false]) (by simp [results, Try.results15, go_sem]) rfl (by rw [HE.out, HZ1.out]; exact re_none rfl b6)

set_option maxRecDepth 100000 in
set_option maxHeartbeats 4000000 in
theorem implRelock_any (v u y z : Value) (S : List Rel) (N : List Nd) (D : List Pk) (F : List Int) (w : World) (hl : S.length ≤ 1048576) (hq : ∀ q ∈ S, q.2.2.2.length ≤ 1048576 ∧ ∀ p ∈ q.2.2.2, p.2.length ≤ 1048576) (hN : N.length ≤ 1048576) (hNq : ∀ q ∈ N, q.2.length ≤ 1048576) (hD : D.length ≤ 1048576) (hF : F.length ≤ 1048576) (h : RlAt w w.heap.size v S) (h' : NdAt w w.heap.size u N) (h1 : PkAt w w.heap.size y D) (h2 : InAt w w.heap.size z F) :
    Calls Try.prog 14 #[v, u, y, z] w (RePost (relockL S N D F) w) := by
  obtain ⟨sa, caps, rfl, hx1⟩ := id h
  obtain ⟨na, ncap, rfl, hx2⟩ := id h'
  obtain ⟨da, dc, rfl, hx3⟩ := id h1
  clear hx1 hx2 hx3
  have H := Lib.hid h
  have H' := Lib.hid h'
  have H1 := Lib.hid h1
  have H2 := Lib.hid h2
  have KS : Hid (∀ V, RlAt V V.heap.size (.slice sa S.length caps) S → Calls Try.prog 47 #[.slice sa S.length caps] V fun e w' => e = .returned (.bool (shOk S)) ∧ Below V.heap.size V w') := Lib.hid fun V g => implShelfOk_any _ S V hl hq g
  have KN : Hid (∀ V, NdAt V V.heap.size (.slice na N.length ncap) N → Calls Try.prog 48 #[.slice na N.length ncap] V fun e w' => e = .returned (.bool (ndOk N)) ∧ Below V.heap.size V w') := Lib.hid fun V g => implNeedsOk_any _ N V hN hNq g
  have KC : Hid (∀ V, PkAt V V.heap.size (.slice da D.length dc) D → Calls Try.prog 11 #[.slice da D.length dc] V fun e w' => e = .returned (.bool (pkOk D)) ∧ Below V.heap.size V w') := Lib.hid fun V g => implPicksOk_any _ D V hD g
  clear h h' h1 h2
  rcases hs : shOk S
  · rw [hs] at KS
    have HE := Lib.hid (show relockL S N D F = none from relock_ok (by rw [hs]; simp))
    clear hs KN KC
    go_enter Try.func14, Try.ntmps14
    go_wp2_with fail
    refine (KS.out _ H.out).mono ?_
    rintro e w2 ⟨rfl, b2⟩
    go_wp2_with fail
    exact bodyPost_ret (v := .tuple #[.slice none 0 0, .bool false]) (by simp [results, Try.results14, go_sem]) rfl (re_none HE.out b2)
  rcases hn : ndOk N
  · rw [hs] at KS
    rw [hn] at KN
    have HE := Lib.hid (show relockL S N D F = none from relock_ok (by rw [hs, hn]; simp))
    clear hs hn KC
    go_enter Try.func14, Try.ntmps14
    go_wp2_with fail
    refine (KS.out _ H.out).mono ?_
    rintro e w2 ⟨rfl, b2⟩
    go_wp2_with fail
    refine (KN.out _ (H'.out.stepAt b2)).mono ?_
    rintro e w3 ⟨rfl, hb⟩
    have b3 := b2.trans (hb.mono b2.size)
    clear hb
    go_wp2_with fail
    exact bodyPost_ret (v := .tuple #[.slice none 0 0, .bool false]) (by simp [results, Try.results14, go_sem]) rfl (re_none HE.out b3)
  rcases hc : pkOk D
  · rw [hs] at KS
    rw [hn] at KN
    rw [hc] at KC
    have HE := Lib.hid (show relockL S N D F = none from relock_ok (by rw [hs, hn, hc]; simp))
    clear hs hn hc
    go_enter Try.func14, Try.ntmps14
    go_wp2_with fail
    refine (KS.out _ H.out).mono ?_
    rintro e w2 ⟨rfl, b2⟩
    go_wp2_with fail
    refine (KN.out _ (H'.out.stepAt b2)).mono ?_
    rintro e w3 ⟨rfl, hb⟩
    have b3 := b2.trans (hb.mono b2.size)
    clear hb
    go_wp2_with fail
    refine (KC.out _ (H1.out.stepAt b3)).mono ?_
    rintro e w4 ⟨rfl, hb⟩
    have b4 := b3.trans (hb.mono b3.size)
    clear hb
    go_wp2_with fail
    exact bodyPost_ret (v := .tuple #[.slice none 0 0, .bool false]) (by simp [results, Try.results14, go_sem]) rfl (re_none HE.out b4)
  have hD8 := pk_len hc
  have hkl := kept_len D F
  obtain ⟨K, hK⟩ : ∃ K, keptL D F = K := ⟨_, rfl⟩
  have HG := Lib.hid (good_start D hs)
  have hol : (openL S D).length ≤ 30 := Nat.le_trans (open_len S D) (sh_len hs)
  have HR := Lib.hid (show relockL S N D F = if (scan K ([], K.length + 1) (bestL S N D [] (openL S D))).2 < K.length + 1 then some (scan K ([], K.length + 1) (bestL S N D [] (openL S D))).1 else none by
    unfold relockL
    rw [hs, hn, hc, hK]
    simp only [Bool.and_self, if_true])
  have KK : Hid (∀ V, Below w.heap.size w V → Calls Try.prog 41 #[.slice da D.length dc, z] V fun e w' => ∃ r, e = .returned r ∧ KOwn w' V.heap.size r K ∧ Below V.heap.size V w') := Lib.hid fun V g => by
    rw [← hK]
    exact picksNotFree_any _ _ D F V hD hF (H1.out.stepAt g) (H2.out.stepAt g)
  rw [hK] at hkl
  have KB := Lib.hid (fun ka kc O C vc vo fw B W => few_any sa na ka caps ncap kc S N D K hs hn hc (fun q h => (hq q h).2) hNq (by omega) 30 O C vc vo fw B W)
  rw [hs] at KS
  rw [hn] at KN
  rw [hc] at KC
  clear hs hn hc hK
  obtain ⟨O, hO⟩ : ∃ O, openL S D = O := ⟨_, rfl⟩
  have KO : Hid (∀ V, Below w.heap.size w V → Calls Try.prog 50 #[.slice sa S.length caps, .slice da D.length dc] V fun e w' => ∃ v, e = .returned v ∧ KOwn w' V.heap.size v O ∧ Below V.heap.size V w') := Lib.hid fun V g => by
    rw [← hO]
    exact picksOpen_any _ _ S D V hl hD (H.out.stepAt g) (H1.out.stepAt g)
  rw [hO] at HR HG hol
  clear hO
  obtain ⟨st, hst⟩ : ∃ st, scan K ([], K.length + 1) (bestL S N D [] O) = st := ⟨_, rfl⟩
  have hstl := scan_le K (bestL S N D [] O) ([], K.length + 1)
  rw [hst] at HR hstl
  simp only at hstl
  have HZ := Lib.hid (show ¬ st.2 < K.length + 1 → st.1 = [] from fun hh => by
    have := scan_still K (K.length + 1) (bestL S N D [] O)
    rw [hst] at this
    rcases this with k | k
    · exact absurd k hh
    · rw [k])
  have HST := Lib.hid hst
  clear hst
  go_enter Try.func14, Try.ntmps14
  go_wp2_with fail
  refine (KS.out _ H.out).mono ?_
  rintro e w2 ⟨rfl, b2⟩
  go_wp2_with fail
  refine (KN.out _ (H'.out.stepAt b2)).mono ?_
  rintro e w3 ⟨rfl, hb⟩
  have b3 := b2.trans (hb.mono b2.size)
  clear hb
  go_wp2_with fail
  refine (KC.out _ (H1.out.stepAt b3)).mono ?_
  rintro e w4 ⟨rfl, hb⟩
  have b4 := b3.trans (hb.mono b3.size)
  clear hb
  go_wp2_with fail
  refine (KK.out _ b4).mono ?_
  rintro e w5 ⟨v5, rfl, ko5, hb⟩
  have b5 := b4.trans (hb.mono b4.size)
  obtain ⟨ka, kc, rfl⟩ := own_form ko5
  have PK := Lib.hid (KOwn.pb ko5).at
  clear hb ko5 b4
  obtain ⟨w6, hw6⟩ : ∃ V : World, V = w5.alloc (.cells #[.slice sa S.length caps, .slice na N.length ncap, .slice ka K.length kc] 79) := ⟨_, rfl⟩
  have b56 : Below w5.heap.size w5 w6 := by rw [hw6]; exact (Below.refl _ _).alloc (Nat.le_refl _) _
  have x0 : w6.cell? ⟨w5.heap.size, 0, none⟩ = some (.slice sa S.length caps) := by rw [hw6]; go_simp
  have x1 : w6.cell? ⟨w5.heap.size, 1, none⟩ = some (.slice na N.length ncap) := by rw [hw6]; go_simp
  have x2 : w6.cell? ⟨w5.heap.size, 2, none⟩ = some (.slice ka K.length kc) := by rw [hw6]; go_simp
  have z56 : w5.heap.size < w6.heap.size := by rw [hw6]; simp
  have b6 := b5.trans (b56.mono b5.size)
  have PK6 := Lib.hid (PK.out.stepAt b56)
  have HB6 := Lib.hid b6
  clear b56 b5 b6
  go_upto_region 4 with fail
  rw [← hw6]
  clear hw6
  have kw : IntKind.i64.wrap ((K.length : Int) + 1) = (K.length : Int) + 1 := IntWalk.i64_in _ (by omega)
  go_wp2_with fail
  go_cut [11, 12] from 32 to 43 (fun ov nv wx => ∃ v6, ov = v6 ∧ nv = .int .i64 (st.2 : Int) ∧ KOwn wx w.heap.size v6 st.1 ∧ wx.cell? ⟨w5.heap.size, 2, none⟩ = some (.slice ka K.length kc) ∧ Below w.heap.size w wx)
  case first =>
    go_region_held3 (fun V => V.cell? ⟨w5.heap.size, 0, none⟩ = some (.slice sa S.length caps) ∧ V.cell? ⟨w5.heap.size, 1, none⟩ = some (.slice na N.length ncap) ∧ V.cell? ⟨w5.heap.size, 2, none⟩ = some (.slice ka K.length kc)) (go_keep)
      (first
        | (go_at_call 50; refine (KO.out _ (by first | exact HB6.out | exact HB6.out.drew)).mono ?_; rintro e x7 ⟨v7, rfl, ko7, hb7⟩; have n7 : Below w6.heap.size w6 x7 := Below.step (by go_grown) hb7; obtain ⟨oa, oc, rfl⟩ := own_form ko7; have PO := Lib.hid (KOwn.pb ko7).at; have hcap := Lib.hid (own_cap ko7); have s70 := (n7.cell (p := ⟨w5.heap.size, 0, none⟩) z56).trans x0; have s71 := (n7.cell (p := ⟨w5.heap.size, 1, none⟩) z56).trans x1; have s72 := (n7.cell (p := ⟨w5.heap.size, 2, none⟩) z56).trans x2; have N7 := Lib.hid n7; clear ko7 hb7 n7)
        | (go_at_call 49; refine (KB.out ka kc O [] (.slice none 0 0) (.slice oa O.length oc) (K.length + 1) w.heap.size x7 (by omega) HG.out (by simpa using hol) (by omega) (HB6.out.trans (N7.out.mono HB6.out.size)).size (H.out.stepAt (HB6.out.trans (N7.out.mono HB6.out.size))) (H'.out.stepAt (HB6.out.trans (N7.out.mono HB6.out.size))) (PK6.out.stepAt N7.out) (World.ownsRow_nil _ _ _ _) PO.out ⟨_, _, rfl, hcap.out⟩).mono ?_; rw [HST.out]; rintro e x8 ⟨v8, rfl, ko8, hb8⟩; have n8 : Below w6.heap.size w6 x8 := N7.out.trans (hb8.mono N7.out.size); have s80 := (n8.cell (p := ⟨w5.heap.size, 0, none⟩) z56).trans x0; have s81 := (n8.cell (p := ⟨w5.heap.size, 1, none⟩) z56).trans x1; have s82 := (n8.cell (p := ⟨w5.heap.size, 2, none⟩) z56).trans x2; have KO8 := Lib.hid ko8; have N8 := Lib.hid n8; clear ko8 hb8 n8)
        | fail)
    all_goals
      have HBX := Lib.hid (HB6.out.trans (N8.out.mono HB6.out.size))
      go_wp2_with fail
      go_meet
      case rel => exact ⟨_, rfl, rfl, KO8.out, s82, HBX.out⟩
  case rest =>
  rename World => w9
  obtain ⟨v9, rfl, rfl, ko9, c9, b9⟩ := hcut
  obtain ⟨qa, qc, rfl⟩ := own_form ko9
  have HP := Lib.hid (KOwn.pb ko9)
  have HB9 := Lib.hid b9
  clear ko9 b9 x0 x1 x2
  by_cases hh : st.2 < K.length + 1
  · have HE := Lib.hid (HR.out.trans (if_pos hh))
    have hd : decide ((st.2 : Int) ≤ (K.length : Int)) = true := decide_eq_true (by omega)
    have hd2 : decide (st.2 ≤ K.length) = true := decide_eq_true (by omega)
    clear hh
    go_wp2_with fail
    go_region
    go_wp2_with fail
    exact bodyPost_ret (v := .tuple #[.slice qa st.1.length qc, .bool true]) (by simp [results, Try.results14, go_sem]) rfl (by rw [HE.out]; exact ⟨_, rfl, HP.out, HB9.out.drew⟩)
  · have HE := Lib.hid (HR.out.trans (if_neg hh))
    have HZ1 := Lib.hid (HZ.out hh)
    have hd : decide ((st.2 : Int) ≤ (K.length : Int)) = false := decide_eq_false (by omega)
    have hd2 : decide (st.2 ≤ K.length) = false := decide_eq_false (by omega)
    clear hh
    go_wp2_with fail
    go_region
    go_wp2_with fail
    exact bodyPost_ret (v := .tuple #[.slice qa st.1.length qc, .bool false]) (by simp [results, Try.results14, go_sem]) rfl (by rw [HE.out, HZ1.out]; exact re_none rfl HB9.out.drew)
end Rlk
end Go.Proofs.Ytmhamoeibkpnpaa
