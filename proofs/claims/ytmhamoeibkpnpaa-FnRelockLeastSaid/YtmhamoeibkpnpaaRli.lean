/- The contract of the program's search for the choice with the fewest changes (fewestChanges), over this seat's translation: the first one of those that are fine that has the fewest changes, fewer than so many; nothing that was there before a call has changed. Condition: a shelf, needs and held picks that are fine; at most 30 picks open or made. -/
import Derived.Test.YtmhamoeibkpnpaaRlp
import Derived.Deep.RegionHeld3
import Derived.Handy
namespace Go.Proofs.Ytmhamoeibkpnpaa
open Go.RowKit Go.Sort

namespace Rlk
open Foot Copy Nup Cpu Cfa Rch Gof Pof Svp Lkc
def FewPost (B : Nat) (st : List Pk × Nat) (w : World) (e : Ending) (w' : World) : Prop := ∃ v, e = .returned (.tuple #[v, .int .i64 (st.2 : Int)]) ∧ KOwn w' B v st.1 ∧ Below w.heap.size w w'
theorem own_form {w : World} {B : Nat} {v : Value} {L : List Pk} (h : KOwn w B v L) : ∃ a c, v = .slice a L.length c := by
  obtain ⟨a, c, e, _⟩ := (KOwn.pb h).at
  exact ⟨a, c, e⟩
theorem few_none {B fw : Nat} {w w' : World} (hb : Below w.heap.size w w') : FewPost B ([], fw) w (.returned (.tuple #[.slice none 0 0, .int .i64 (fw : Int)])) w' := ⟨_, rfl, World.ownsRow_nil _ _ _ _, hb⟩

set_option maxRecDepth 100000 in
set_option maxHeartbeats 4000000 in
theorem few_walk (sa na ka : Option Addr) (caps ncap kc : Nat) (S : List Rel) (N : List Nd) (Hd K : List Pk) (hS : shOk S = true) (hN : ndOk N = true) (hH : pkOk Hd = true) (hSq : ∀ q ∈ S, ∀ p ∈ q.2.2.2, p.2.length ≤ 1048576) (hNq : ∀ q ∈ N, q.2.length ≤ 1048576) (hK8 : K.length ≤ 8)
    (O C : List Pk) (vc vo : Value) (fw : Nat) (B : Nat) (w : World) (IH : ∀ (O' C' : List Pk) (vc' vo' : Value) (fw' : Nat) (B' : Nat) (w' : World), O'.length < O.length → Svp.Good S Hd C' O' → (C' ++ O').length ≤ 30 → fw' ≤ 100 → B' ≤ w'.heap.size → RlAt w' w'.heap.size (.slice sa S.length caps) S → NdAt w' w'.heap.size (.slice na N.length ncap) N → PkAt w' w'.heap.size (.slice ka K.length kc) K → KOwn w' B' vc' C' → PkAt w' w'.heap.size vo' O' → (∃ a c, vo' = .slice a O'.length c ∧ O'.length ≤ c) → Calls Try.prog 49 #[.agg #[.slice sa S.length caps, .slice na N.length ncap, .slice ka K.length kc], vc', vo', .int .i64 (fw' : Int)] w' (FewPost B' (scan K ([], fw') (bestL S N Hd C' O')) w'))
    (hG : Svp.Good S Hd C O) (hCO : (C ++ O).length ≤ 30) (hf : fw ≤ 100) (hB : B ≤ w.heap.size) (h : RlAt w w.heap.size (.slice sa S.length caps) S) (h' : NdAt w w.heap.size (.slice na N.length ncap) N) (hk : PkAt w w.heap.size (.slice ka K.length kc) K) (hc : KOwn w B vc C) (ho : PkAt w w.heap.size vo O) (hv : ∃ a c, vo = .slice a O.length c ∧ O.length ≤ c) :
    Calls Try.prog 49 #[.agg #[.slice sa S.length caps, .slice na N.length ncap, .slice ka K.length kc], vc, vo, .int .i64 (fw : Int)] w (FewPost B (scan K ([], fw) (bestL S N Hd C O)) w) := by
  obtain ⟨oa, oc, rfl, hoc⟩ := hv
  obtain ⟨ca, cc, rfl⟩ := own_form hc
  have hS5 : ∀ q ∈ S, q.2.2.2.length ≤ 5 ∧ ∀ p ∈ q.2.2.2, p.2.length ≤ 1048576 := fun q hq => ⟨sh_five hS q hq, hSq q hq⟩
  have hS30 := sh_len hS
  have hN5 := nd_len hN
  have hCl : C.length + O.length ≤ 30 := by rwa [List.length_append] at hCO
  have KH : Hid (∀ V, Below w.heap.size w V → Calls Try.prog 82 #[.slice sa S.length caps, .slice na N.length ncap, .slice ca C.length cc, .slice oa O.length oc] V fun e w' => e = .returned (.bool (hopeB S N C O)) ∧ Below V.heap.size V w') := Lib.hid fun V g => hopeless_any _ _ _ _ S N C O V hS30 hS5 hN5 hNq hCO (h.stepAt g) (h'.stepAt g) ((KOwn.pb hc).at.stepAt g) (ho.stepAt g)
  have KF : Hid (∀ V, Below w.heap.size w V → Calls Try.prog 83 #[.slice oa O.length oc] V fun e w' => e = .returned (.int .i64 (firstN O : Nat)) ∧ Below V.heap.size V w') := Lib.hid fun V g => firstName_any _ O V (by omega) (ho.stepAt g)
  have KL : Hid (∀ V, Below w.heap.size w V → Calls Try.prog 40 #[.slice ka K.length kc, .slice ca C.length cc, .slice oa O.length oc] V fun e w' => e = .returned (.int .i64 (lostL K C O : Int)) ∧ Below V.heap.size V w') := Lib.hid fun V g => picksLost_any _ _ _ K C O V (by omega) (by omega) (by omega) (hk.stepAt g) ((KOwn.pb hc).at.stepAt g) (ho.stepAt g)
  have hlost := lost_len K C O
  have H := Lib.hid h
  have H' := Lib.hid h'
  have HKA := Lib.hid hk
  have HC := Lib.hid (KOwn.pb hc).at
  have HK := Lib.hid hc
  have HO := Lib.hid ho
  have HIH := Lib.hid IH
  have HGG := Lib.hid hG
  have HNONE := Lib.hid (fun hh => best_none (N := N) (H := Hd) hS hN hG hCO hh)
  have HPR := Lib.hid (fun hh => scan_pruned (S := S) (N := N) (H := Hd) (c := C) (O := O) (K := K) (f := fw) hS hG hh)
  clear h h' hk hc ho IH hSq
  obtain ⟨w1, hw1⟩ : ∃ V : World, V = w.alloc (.cells #[.slice sa S.length caps, .slice na N.length ncap, .slice ka K.length kc] 79) := ⟨_, rfl⟩
  have b1 : Below w.heap.size w w1 := by rw [hw1]; exact (Below.refl _ _).alloc (Nat.le_refl _) _
  have z1 : w.heap.size < w1.heap.size := by rw [hw1]; simp
  have x0 : w1.cell? ⟨w.heap.size, 0, none⟩ = some (.slice sa S.length caps) := by rw [hw1]; go_simp
  have x1 : w1.cell? ⟨w.heap.size, 1, none⟩ = some (.slice na N.length ncap) := by rw [hw1]; go_simp
  have x2 : w1.cell? ⟨w.heap.size, 2, none⟩ = some (.slice ka K.length kc) := by rw [hw1]; go_simp
  obtain ⟨ch, hch⟩ : ∃ ch, lostL K C O = ch := ⟨_, rfl⟩
  rw [hch] at KL hlost HPR
  have HCH := Lib.hid hch
  clear hch
  by_cases hp : fw ≤ ch
  · have HE := Lib.hid (HPR.out hp)
    have hpD : decide ((fw : Int) ≤ (ch : Int)) = true := decide_eq_true (by omega)
    have hpD2 : decide (fw ≤ ch) = true := decide_eq_true hp
    clear KH KF
    go_enter Try.func49, Try.ntmps49
    go_upto_region 1 with fail
    rw [← hw1]
    clear hw1
    go_wp2_with fail
    refine (KL.out _ b1).mono ?_
    rintro e w2 ⟨rfl, hb⟩
    have b2 := b1.trans (hb.mono b1.size)
    clear hb
    go_wp2_with fail
    exact bodyPost_ret (v := .tuple #[.slice none 0 0, .int .i64 (fw : Int)]) (by simp [results, Try.results49, go_sem]) rfl (by rw [HE.out]; exact few_none b2)
  have hpD : decide ((fw : Int) ≤ (ch : Int)) = false := decide_eq_false (by omega)
  have hpD2 : decide (fw ≤ ch) = false := decide_eq_false hp
  have hpI : (ch : Int) < (fw : Int) := by omega
  rcases hb : hopeB S N C O
  all_goals
    rw [hb] at KH
    have HHB := Lib.hid hb
    clear hb
    go_enter Try.func49, Try.ntmps49
    go_upto_region 1 with fail
    rw [← hw1]
    clear hw1
    go_wp2_with fail
    refine (KL.out _ b1).mono ?_
    rintro e w2 ⟨rfl, hb⟩
    have b2 := b1.trans (hb.mono b1.size)
    have y0 := (hb.cell (p := ⟨w.heap.size, 0, none⟩) z1).trans x0
    have y1 := (hb.cell (p := ⟨w.heap.size, 1, none⟩) z1).trans x1
    have y2 := (hb.cell (p := ⟨w.heap.size, 2, none⟩) z1).trans x2
    have z2 : w.heap.size < w2.heap.size := Nat.lt_of_lt_of_le z1 hb.size
    clear hb b1 x0 x1 x2
    go_wp2_with fail
    refine (KH.out _ b2).mono ?_
    rintro e w3 ⟨rfl, hb⟩
    have b3 := b2.trans (hb.mono b2.size)
    have x0 := (hb.cell (p := ⟨w.heap.size, 0, none⟩) z2).trans y0
    have x1 := (hb.cell (p := ⟨w.heap.size, 1, none⟩) z2).trans y1
    have x2 := (hb.cell (p := ⟨w.heap.size, 2, none⟩) z2).trans y2
    have z3 : w.heap.size < w3.heap.size := Nat.lt_of_lt_of_le z2 hb.size
    clear hb b2 y0 y1 y2
  rotate_left
  · have HE := Lib.hid (show scan K ([], fw) (bestL S N Hd C O) = ([], fw) by rw [HNONE.out HHB.out]; rfl)
    go_wp2_with fail
    exact bodyPost_ret (v := .tuple #[.slice none 0 0, .int .i64 (fw : Int)]) (by simp [results, Try.results49, go_sem]) rfl (by rw [HE.out]; exact few_none b3)
  by_cases hO0 : O = []
  · subst hO0
    have HE := Lib.hid (show scan K ([], fw) (bestL S N Hd C []) = (C, ch) by
      rw [best_leaf hS hN hH HGG.out (by simpa using hCO) HHB.out, ← HCH.out]
      exact scan_one (by have := HCH.out; omega))
    have HK3 := Lib.hid (KOwn.below HK.out b3)
    go_wp2_with fail
    exact bodyPost_ret (v := .tuple #[.slice ca C.length cc, .int .i64 (ch : Int)]) (by simp [results, Try.results49, go_sem]) rfl (by rw [HE.out]; exact ⟨_, rfl, HK3.out, b3⟩)
  · have hOl : 0 < O.length := List.length_pos_iff.2 hO0
    have hOb : ((O.length : Int) == 0) = false := by rw [beq_eq_false_iff_ne]; omega
    have hfp : 0 < firstN O := by
      cases O with
      | nil => exact absurd rfl hO0
      | cons p t => exact firstN_pos p t
    have hfl := firstN_le O
    have HEND := Lib.hid (way_end (S := S) (N := N) (H := Hd) (C := C) hO0)
    have HST := Lib.hid (fun k i q (hk : k + 1 + i = firstN O) hq => way_step (S := S) (N := N) (H := Hd) (C := C) (k := k) (i := i) (q := q) hk hq)
    have HLAT := Lib.hid HGG.out.later
    have HW := Lib.hid (fun q (hq : q ∈ O.take (firstN O)) => HGG.out.with' hS hq)
    have HW0 := Lib.hid (show wayL S N Hd C O 0 = bestL S N Hd C (O.drop (firstN O)) by unfold wayL; simp)
    obtain ⟨m, hm⟩ : ∃ m, firstN O = m := ⟨_, rfl⟩
    rw [hm] at KF hfp hfl HEND HST HLAT HW HW0
    clear hm
    obtain ⟨ob, oo, rfl, hoB, hpc⟩ : ∃ b o, oa = some ⟨b, o, none⟩ ∧ b < w.heap.size ∧ ∀ i (h : i < O.length), PkC w b (o + i * 5) O[i] := by
      obtain ⟨a', c', e, hh⟩ := HO.out
      simp only [Value.slice.injEq] at e
      obtain ⟨rfl, _, _⟩ := e
      rcases hh with hh | hh
      · exact absurd hh hO0
      · exact hh
    have k0 : (0 : Int) ≤ (m : Int) := by omega
    have k1 : (m : Int) ≤ (O.length : Int) := by omega
    have k2 : (m : Int) ≤ (oc : Int) := by omega
    have HPC := Lib.hid hpc
    clear hpc
    go_wp2_with fail
    refine (KF.out _ b3).mono ?_
    rintro e w4 ⟨rfl, hb⟩
    have b4 := b3.trans (hb.mono b3.size)
    have y0 := (hb.cell (p := ⟨w.heap.size, 0, none⟩) z3).trans x0
    have y1 := (hb.cell (p := ⟨w.heap.size, 1, none⟩) z3).trans x1
    have y2 := (hb.cell (p := ⟨w.heap.size, 2, none⟩) z3).trans x2
    have z4 : w.heap.size < w4.heap.size := Nat.lt_of_lt_of_le z3 hb.size
    clear hb b3 KF KH x0 x1 x2
    have mw : IntKind.i64.wrap ((m : Int) - 1) = (m : Int) - 1 := IntWalk.i64_in _ (by omega)
    by_cases hmc : oc = m
    · have hOm : O.length - m = 0 := by omega
      obtain ⟨lv, hlv⟩ : ∃ lv, lv = Value.slice (some ⟨ob, oo, none⟩) 0 0 := ⟨_, rfl⟩
      have HLV := Lib.hid (show ∀ V, Below w.heap.size w V → PkAt V V.heap.size lv (O.drop m) from fun V _ => by
        have hd : O.drop m = [] := List.drop_eq_nil_of_le (by omega)
        rw [hlv, hd]
        exact ⟨_, _, rfl, .inl rfl⟩)
      have HFM := Lib.hid (show ∃ a c, lv = .slice a (O.drop m).length c ∧ (O.drop m).length ≤ c from ⟨_, 0, by rw [hlv, List.length_drop, hOm], by rw [List.length_drop]; omega⟩)
      obtain rfl : m = oc := hmc.symm
      clear hOm
      go_wp2_with fail
      rw [← hlv]
      clear hlv
      refine (HIH.out (O.drop m) C _ lv fw B _ (by rw [List.length_drop]; omega) HLAT.out (by rw [List.length_append, List.length_drop]; omega) hf (Nat.le_trans hB b4.size) (H.out.stepAt b4) (H'.out.stepAt b4) (HKA.out.stepAt b4) (KOwn.below HK.out b4) (HLV.out _ b4) HFM.out).mono ?_
      rw [← HW0.out]
      rintro e w5 ⟨v5, rfl, ko5, hb⟩
      have b5 := b4.trans (hb.mono b4.size)
      have x0 := (hb.cell (p := ⟨w.heap.size, 0, none⟩) z4).trans y0
      have x1 := (hb.cell (p := ⟨w.heap.size, 1, none⟩) z4).trans y1
      have x2 := (hb.cell (p := ⟨w.heap.size, 2, none⟩) z4).trans y2
      have KO5 := Lib.hid ko5
      have HX := Lib.hid (And.intro x0 (And.intro x1 x2))
      have z5 : w.heap.size < w5.heap.size := Nat.lt_of_lt_of_le z4 hb.size
      clear hb b4 ko5 y0 y1 y2 x0 x1 x2
      go_wp2_with fail
      go_loopw [13, 14, 15] (fun bv fv i wr => ∃ k : Nat, k ≤ m ∧ i = .int .i64 ((m : Int) - 1 - (k : Int)) ∧ fv = .int .i64 ((scan K ([], fw) (wayL S N Hd C O k)).2 : Int) ∧ KOwn wr B bv (scan K ([], fw) (wayL S N Hd C O k)).1 ∧ Below w5.heap.size w5 wr) (fun _ _ i _ => (intOf i + 1).toNat)
      case atStart => exact ⟨0, Nat.zero_le _, by simp, rfl, KO5.out, Below.refl _ _⟩
      case round =>
        clear KO5
        obtain ⟨k, hk, rfl, rfl, hL, hbr⟩ := hrel
        have hb := b5.trans (hbr.mono b5.size)
        obtain ⟨x0', x1', x2'⟩ := HX.out
        have y0 := (hbr.cell (p := ⟨w.heap.size, 0, none⟩) z5).trans x0'
        have y1 := (hbr.cell (p := ⟨w.heap.size, 1, none⟩) z5).trans x1'
        have y2 := (hbr.cell (p := ⟨w.heap.size, 2, none⟩) z5).trans x2'
        have zr : w.heap.size < wr.heap.size := Nat.lt_of_lt_of_le z5 hbr.size
        clear x0' x1' x2'
        obtain ⟨st, hst⟩ : ∃ st, scan K ([], fw) (wayL S N Hd C O k) = st := ⟨_, rfl⟩
        have hle := scan_le K (wayL S N Hd C O k) ([], fw)
        rw [hst] at hL hle ⊢
        simp only at hle
        obtain ⟨la, lcap, rfl⟩ := own_form hL
        have HL := Lib.hid hL
        have HSS := Lib.hid hst
        clear hL hst
        by_cases hkm : k < m
        · obtain ⟨j, hj⟩ : ∃ j : Nat, k + 1 + j = m := ⟨m - (k + 1), by omega⟩
          have ej : (m : Int) - 1 - (k : Int) = (j : Int) := by omega
          rw [ej]
          have hjO : j < O.length := by omega
          obtain ⟨x, a, b, c, d, hxy⟩ : ∃ x a b c d, O[j] = (x, a, b, c, d) := ⟨_, _, _, _, _, rfl⟩
          obtain ⟨r0', r1, r2, r3, r4⟩ := HPC.out j hjO
          rw [hxy] at r0' r1 r2 r3 r4
          simp only at r0' r1 r2 r3 r4
          have e0 := (hb.cell (p := ⟨ob, oo + j * 5, none⟩) hoB).trans r0'
          have e1 := (hb.cell (p := ⟨ob, oo + j * 5 + 1, none⟩) hoB).trans r1
          have e2 := (hb.cell (p := ⟨ob, oo + j * 5 + 2, none⟩) hoB).trans r2
          have e3 := (hb.cell (p := ⟨ob, oo + j * 5 + 3, none⟩) hoB).trans r3
          have e4 := (hb.cell (p := ⟨ob, oo + j * 5 + 4, none⟩) hoB).trans r4
          have zo : ob < wr.heap.size := Nat.lt_of_lt_of_le hoB hb.size
          have hOj : O[j]? = some (x, a, b, c, d) := by rw [List.getElem?_eq_getElem hjO, hxy]
          have HGW := Lib.hid (HW.out (x, a, b, c, d) (by
            have : (O.take m)[j]? = some (x, a, b, c, d) := by rw [List.getElem?_take, if_pos (by omega), hOj]
            exact List.mem_of_getElem? this))
          obtain ⟨Y, hY⟩ : ∃ Y, bestL S N Hd (C ++ [(x, a, b, c, d)]) (O.drop m) = Y := ⟨_, rfl⟩
          obtain ⟨su, hsu⟩ : ∃ su, scan K ([], st.2) Y = su := ⟨_, rfl⟩
          have HSK := Lib.hid (show scan K ([], fw) (wayL S N Hd C O (k + 1)) = if su.2 < st.2 then su else st by
            have := scan_more K fw (wayL S N Hd C O k) Y
            rw [← hY, ← HST.out k j (x, a, b, c, d) hj hOj, hY, HSS.out, hsu] at this
            exact this)
          have hsle := scan_le K Y ([], st.2)
          rw [hsu] at hsle
          simp only at hsle
          have KR : Hid (∀ V v5, Below w.heap.size w V → KOwn V B v5 (C ++ [(x, a, b, c, d)]) → Calls Try.prog 49 #[.agg #[.slice sa S.length caps, .slice na N.length ncap, .slice ka K.length kc], v5, lv, .int .i64 (st.2 : Int)] V (FewPost B su V)) := Lib.hid fun V v5 g gk => by
            have := HIH.out (O.drop m) (C ++ [(x, a, b, c, d)]) v5 lv st.2 B V (by rw [List.length_drop]; omega) HGW.out (by rw [List.length_append, List.length_append, List.length_drop]; simp; omega) (by omega) (Nat.le_trans hB g.size) (H.out.stepAt g) (H'.out.stepAt g) (HKA.out.stepAt g) gk (HLV.out _ g) HFM.out
            rwa [hY, hsu] at this
          have j0 : (0 : Int) ≤ (j : Int) := by omega
          have j1 : (j : Int) < (O.length : Int) := by omega
          have jw : IntKind.i64.wrap ((j : Int) - 1) = (j : Int) - 1 := IntWalk.i64_in _ (by omega)
          have HBR := Lib.hid hbr
          have HBW := Lib.hid hb
          clear hY hsu hxy hOj r0' r1 r2 r3 r4 hbr hb HIH HW HST HPC HPR HNONE HHB HLAT HW0 KL
          go_wp2_with fail
          go_cut [16, 17] from 61 to 72 (fun ov lv2 wx => ∃ v6, ov = v6 ∧ lv2 = .int .i64 (su.2 : Int) ∧ KOwn wx B v6 su.1 ∧ Below wr.heap.size wr wx)
          case first =>
            go_region_held3 (fun V => V.cell? ⟨w.heap.size, 0, none⟩ = some (.slice sa S.length caps) ∧ V.cell? ⟨w.heap.size, 1, none⟩ = some (.slice na N.length ncap) ∧ V.cell? ⟨w.heap.size, 2, none⟩ = some (.slice ka K.length kc) ∧ V.cell? ⟨ob, oo + j * 5, none⟩ = some (.int .i64 x) ∧ V.cell? ⟨ob, oo + j * 5 + 1, none⟩ = some (.int .i64 a) ∧ V.cell? ⟨ob, oo + j * 5 + 2, none⟩ = some (.int .i64 b) ∧ V.cell? ⟨ob, oo + j * 5 + 3, none⟩ = some (.int .i64 c) ∧ V.cell? ⟨ob, oo + j * 5 + 4, none⟩ = some (.int .i64 d)) (go_keep)
              (first
                | (go_at_call 84; refine (picksWith_any _ C x a b c d _ (by omega) (by first | exact HC.out.stepAt HBW.out | exact HC.out.stepAt HBW.out.drew)).mono ?_; rintro e x5 ⟨v5, rfl, ko5, hb5⟩; have n5 : Below wr.heap.size wr x5 := Below.step (by go_grown) hb5; have KO5 := Lib.hid (show KOwn x5 B v5 (C ++ [(x, a, b, c, d)]) from kown_mono ko5 (Nat.le_trans hB HBW.out.size)); have s50 := (n5.cell (p := ⟨w.heap.size, 0, none⟩) zr).trans y0; have s51 := (n5.cell (p := ⟨w.heap.size, 1, none⟩) zr).trans y1; have s52 := (n5.cell (p := ⟨w.heap.size, 2, none⟩) zr).trans y2; have s53 := (n5.cell (p := ⟨ob, oo + j * 5, none⟩) zo).trans e0; have s54 := (n5.cell (p := ⟨ob, oo + j * 5 + 1, none⟩) zo).trans e1; have s55 := (n5.cell (p := ⟨ob, oo + j * 5 + 2, none⟩) zo).trans e2; have s56 := (n5.cell (p := ⟨ob, oo + j * 5 + 3, none⟩) zo).trans e3; have s57 := (n5.cell (p := ⟨ob, oo + j * 5 + 4, none⟩) zo).trans e4; have N5 := Lib.hid n5; clear ko5 hb5 n5)
                | (go_at_call 49; refine (KR.out _ v5 (HBW.out.trans (N5.out.mono HBW.out.size)) KO5.out).mono ?_; rintro e x6 ⟨v6, rfl, ko6, hb6⟩; have n6 : Below wr.heap.size wr x6 := N5.out.trans (hb6.mono N5.out.size); have s60 := (n6.cell (p := ⟨w.heap.size, 0, none⟩) zr).trans y0; have s61 := (n6.cell (p := ⟨w.heap.size, 1, none⟩) zr).trans y1; have s62 := (n6.cell (p := ⟨w.heap.size, 2, none⟩) zr).trans y2; have s63 := (n6.cell (p := ⟨ob, oo + j * 5, none⟩) zo).trans e0; have s64 := (n6.cell (p := ⟨ob, oo + j * 5 + 1, none⟩) zo).trans e1; have s65 := (n6.cell (p := ⟨ob, oo + j * 5 + 2, none⟩) zo).trans e2; have s66 := (n6.cell (p := ⟨ob, oo + j * 5 + 3, none⟩) zo).trans e3; have s67 := (n6.cell (p := ⟨ob, oo + j * 5 + 4, none⟩) zo).trans e4; have KO6 := Lib.hid ko6; have N6 := Lib.hid n6; clear ko6 hb6 n6)
                | fail)
            all_goals
              go_wp2_with fail
              go_meet
              case rel => exact ⟨_, rfl, rfl, KO6.out, N6.out⟩
          case rest =>
          rename World => w7
          obtain ⟨v6, rfl, rfl, ko6, n6⟩ := hcut
          obtain ⟨qa, qc, rfl⟩ := own_form ko6
          have B7 := Lib.hid (HBR.out.trans (n6.mono HBR.out.size))
          by_cases hlt : su.2 < st.2
          · have hltI : (su.2 : Int) < (st.2 : Int) := by omega
            have HQ := Lib.hid (HSK.out.trans (if_pos hlt))
            have KQ := Lib.hid ko6
            clear ko6 n6
            go_wp2_with fail
            go_roundw
            case rel => exact ⟨k + 1, by omega, by congr 1; omega, by rw [HQ.out], by rw [HQ.out]; exact KQ.out, B7.out⟩
            case measure => first | (simp [intOf]; done) | (simp [intOf]; omega)
          · have hltI : ¬ (su.2 : Int) < (st.2 : Int) := by omega
            have HQ := Lib.hid (HSK.out.trans (if_neg hlt))
            have KQ := Lib.hid (KOwn.below HL.out n6)
            clear ko6 n6
            go_wp2_with fail
            go_roundw
            case rel => exact ⟨k + 1, by omega, by congr 1; omega, by rw [HQ.out], by rw [HQ.out]; exact KQ.out, B7.out⟩
            case measure => first | (simp [intOf]; done) | (simp [intOf]; omega)
        · obtain rfl : k = m := by omega
          have ej : (k : Int) - 1 - (k : Int) = -1 := by omega
          rw [ej]
          have HE := Lib.hid (show scan K ([], fw) (bestL S N Hd C O) = st by rw [← HSS.out, HEND.out])
          clear y0 y1 y2
          go_wp2_with fail
          exact bodyPost_ret (v := .tuple #[.slice la st.1.length lcap, .int .i64 (st.2 : Int)]) (by simp [results, Try.results49, go_sem]) rfl (by rw [HE.out]; exact ⟨_, rfl, HL.out, hb⟩)
    · obtain ⟨lv, hlv⟩ : ∃ lv, lv = Value.slice (some ⟨ob, oo + m * 5, none⟩) (O.length - m) (oc - m) := ⟨_, rfl⟩
      have HLV := Lib.hid (show ∀ V, Below w.heap.size w V → PkAt V V.heap.size lv (O.drop m) from fun V hV => by
        rw [hlv]
        exact pk_drop (HO.out.stepAt hV) hfl)
      have HFM := Lib.hid (show ∃ a c, lv = .slice a (O.drop m).length c ∧ (O.drop m).length ≤ c from ⟨_, _, by rw [hlv, List.length_drop], by rw [List.length_drop]; omega⟩)
      go_wp2_with fail
      rw [← hlv]
      clear hlv
      refine (HIH.out (O.drop m) C _ lv fw B _ (by rw [List.length_drop]; omega) HLAT.out (by rw [List.length_append, List.length_drop]; omega) hf (Nat.le_trans hB b4.size) (H.out.stepAt b4) (H'.out.stepAt b4) (HKA.out.stepAt b4) (KOwn.below HK.out b4) (HLV.out _ b4) HFM.out).mono ?_
      rw [← HW0.out]
      rintro e w5 ⟨v5, rfl, ko5, hb⟩
      have b5 := b4.trans (hb.mono b4.size)
      have x0 := (hb.cell (p := ⟨w.heap.size, 0, none⟩) z4).trans y0
      have x1 := (hb.cell (p := ⟨w.heap.size, 1, none⟩) z4).trans y1
      have x2 := (hb.cell (p := ⟨w.heap.size, 2, none⟩) z4).trans y2
      have KO5 := Lib.hid ko5
      have HX := Lib.hid (And.intro x0 (And.intro x1 x2))
      have z5 : w.heap.size < w5.heap.size := Nat.lt_of_lt_of_le z4 hb.size
      clear hb b4 ko5 y0 y1 y2 x0 x1 x2
      go_wp2_with fail
      go_loopw [13, 14, 15] (fun bv fv i wr => ∃ k : Nat, k ≤ m ∧ i = .int .i64 ((m : Int) - 1 - (k : Int)) ∧ fv = .int .i64 ((scan K ([], fw) (wayL S N Hd C O k)).2 : Int) ∧ KOwn wr B bv (scan K ([], fw) (wayL S N Hd C O k)).1 ∧ Below w5.heap.size w5 wr) (fun _ _ i _ => (intOf i + 1).toNat)
      case atStart => exact ⟨0, Nat.zero_le _, by simp, rfl, KO5.out, Below.refl _ _⟩
      case round =>
        clear KO5
        obtain ⟨k, hk, rfl, rfl, hL, hbr⟩ := hrel
        have hb := b5.trans (hbr.mono b5.size)
        obtain ⟨x0', x1', x2'⟩ := HX.out
        have y0 := (hbr.cell (p := ⟨w.heap.size, 0, none⟩) z5).trans x0'
        have y1 := (hbr.cell (p := ⟨w.heap.size, 1, none⟩) z5).trans x1'
        have y2 := (hbr.cell (p := ⟨w.heap.size, 2, none⟩) z5).trans x2'
        have zr : w.heap.size < wr.heap.size := Nat.lt_of_lt_of_le z5 hbr.size
        clear x0' x1' x2'
        obtain ⟨st, hst⟩ : ∃ st, scan K ([], fw) (wayL S N Hd C O k) = st := ⟨_, rfl⟩
        have hle := scan_le K (wayL S N Hd C O k) ([], fw)
        rw [hst] at hL hle ⊢
        simp only at hle
        obtain ⟨la, lcap, rfl⟩ := own_form hL
        have HL := Lib.hid hL
        have HSS := Lib.hid hst
        clear hL hst
        by_cases hkm : k < m
        · obtain ⟨j, hj⟩ : ∃ j : Nat, k + 1 + j = m := ⟨m - (k + 1), by omega⟩
          have ej : (m : Int) - 1 - (k : Int) = (j : Int) := by omega
          rw [ej]
          have hjO : j < O.length := by omega
          obtain ⟨x, a, b, c, d, hxy⟩ : ∃ x a b c d, O[j] = (x, a, b, c, d) := ⟨_, _, _, _, _, rfl⟩
          obtain ⟨r0', r1, r2, r3, r4⟩ := HPC.out j hjO
          rw [hxy] at r0' r1 r2 r3 r4
          simp only at r0' r1 r2 r3 r4
          have e0 := (hb.cell (p := ⟨ob, oo + j * 5, none⟩) hoB).trans r0'
          have e1 := (hb.cell (p := ⟨ob, oo + j * 5 + 1, none⟩) hoB).trans r1
          have e2 := (hb.cell (p := ⟨ob, oo + j * 5 + 2, none⟩) hoB).trans r2
          have e3 := (hb.cell (p := ⟨ob, oo + j * 5 + 3, none⟩) hoB).trans r3
          have e4 := (hb.cell (p := ⟨ob, oo + j * 5 + 4, none⟩) hoB).trans r4
          have zo : ob < wr.heap.size := Nat.lt_of_lt_of_le hoB hb.size
          have hOj : O[j]? = some (x, a, b, c, d) := by rw [List.getElem?_eq_getElem hjO, hxy]
          have HGW := Lib.hid (HW.out (x, a, b, c, d) (by
            have : (O.take m)[j]? = some (x, a, b, c, d) := by rw [List.getElem?_take, if_pos (by omega), hOj]
            exact List.mem_of_getElem? this))
          obtain ⟨Y, hY⟩ : ∃ Y, bestL S N Hd (C ++ [(x, a, b, c, d)]) (O.drop m) = Y := ⟨_, rfl⟩
          obtain ⟨su, hsu⟩ : ∃ su, scan K ([], st.2) Y = su := ⟨_, rfl⟩
          have HSK := Lib.hid (show scan K ([], fw) (wayL S N Hd C O (k + 1)) = if su.2 < st.2 then su else st by
            have := scan_more K fw (wayL S N Hd C O k) Y
            rw [← hY, ← HST.out k j (x, a, b, c, d) hj hOj, hY, HSS.out, hsu] at this
            exact this)
          have hsle := scan_le K Y ([], st.2)
          rw [hsu] at hsle
          simp only at hsle
          have KR : Hid (∀ V v5, Below w.heap.size w V → KOwn V B v5 (C ++ [(x, a, b, c, d)]) → Calls Try.prog 49 #[.agg #[.slice sa S.length caps, .slice na N.length ncap, .slice ka K.length kc], v5, lv, .int .i64 (st.2 : Int)] V (FewPost B su V)) := Lib.hid fun V v5 g gk => by
            have := HIH.out (O.drop m) (C ++ [(x, a, b, c, d)]) v5 lv st.2 B V (by rw [List.length_drop]; omega) HGW.out (by rw [List.length_append, List.length_append, List.length_drop]; simp; omega) (by omega) (Nat.le_trans hB g.size) (H.out.stepAt g) (H'.out.stepAt g) (HKA.out.stepAt g) gk (HLV.out _ g) HFM.out
            rwa [hY, hsu] at this
          have j0 : (0 : Int) ≤ (j : Int) := by omega
          have j1 : (j : Int) < (O.length : Int) := by omega
          have jw : IntKind.i64.wrap ((j : Int) - 1) = (j : Int) - 1 := IntWalk.i64_in _ (by omega)
          have HBR := Lib.hid hbr
          have HBW := Lib.hid hb
          clear hY hsu hxy hOj r0' r1 r2 r3 r4 hbr hb HIH HW HST HPC HPR HNONE HHB HLAT HW0 KL
          go_wp2_with fail
          go_cut [16, 17] from 61 to 72 (fun ov lv2 wx => ∃ v6, ov = v6 ∧ lv2 = .int .i64 (su.2 : Int) ∧ KOwn wx B v6 su.1 ∧ Below wr.heap.size wr wx)
          case first =>
            go_region_held3 (fun V => V.cell? ⟨w.heap.size, 0, none⟩ = some (.slice sa S.length caps) ∧ V.cell? ⟨w.heap.size, 1, none⟩ = some (.slice na N.length ncap) ∧ V.cell? ⟨w.heap.size, 2, none⟩ = some (.slice ka K.length kc) ∧ V.cell? ⟨ob, oo + j * 5, none⟩ = some (.int .i64 x) ∧ V.cell? ⟨ob, oo + j * 5 + 1, none⟩ = some (.int .i64 a) ∧ V.cell? ⟨ob, oo + j * 5 + 2, none⟩ = some (.int .i64 b) ∧ V.cell? ⟨ob, oo + j * 5 + 3, none⟩ = some (.int .i64 c) ∧ V.cell? ⟨ob, oo + j * 5 + 4, none⟩ = some (.int .i64 d)) (go_keep)
              (first
                | (go_at_call 84; refine (picksWith_any _ C x a b c d _ (by omega) (by first | exact HC.out.stepAt HBW.out | exact HC.out.stepAt HBW.out.drew)).mono ?_; rintro e x5 ⟨v5, rfl, ko5, hb5⟩; have n5 : Below wr.heap.size wr x5 := Below.step (by go_grown) hb5; have KO5 := Lib.hid (show KOwn x5 B v5 (C ++ [(x, a, b, c, d)]) from kown_mono ko5 (Nat.le_trans hB HBW.out.size)); have s50 := (n5.cell (p := ⟨w.heap.size, 0, none⟩) zr).trans y0; have s51 := (n5.cell (p := ⟨w.heap.size, 1, none⟩) zr).trans y1; have s52 := (n5.cell (p := ⟨w.heap.size, 2, none⟩) zr).trans y2; have s53 := (n5.cell (p := ⟨ob, oo + j * 5, none⟩) zo).trans e0; have s54 := (n5.cell (p := ⟨ob, oo + j * 5 + 1, none⟩) zo).trans e1; have s55 := (n5.cell (p := ⟨ob, oo + j * 5 + 2, none⟩) zo).trans e2; have s56 := (n5.cell (p := ⟨ob, oo + j * 5 + 3, none⟩) zo).trans e3; have s57 := (n5.cell (p := ⟨ob, oo + j * 5 + 4, none⟩) zo).trans e4; have N5 := Lib.hid n5; clear ko5 hb5 n5)
                | (go_at_call 49; refine (KR.out _ v5 (HBW.out.trans (N5.out.mono HBW.out.size)) KO5.out).mono ?_; rintro e x6 ⟨v6, rfl, ko6, hb6⟩; have n6 : Below wr.heap.size wr x6 := N5.out.trans (hb6.mono N5.out.size); have s60 := (n6.cell (p := ⟨w.heap.size, 0, none⟩) zr).trans y0; have s61 := (n6.cell (p := ⟨w.heap.size, 1, none⟩) zr).trans y1; have s62 := (n6.cell (p := ⟨w.heap.size, 2, none⟩) zr).trans y2; have s63 := (n6.cell (p := ⟨ob, oo + j * 5, none⟩) zo).trans e0; have s64 := (n6.cell (p := ⟨ob, oo + j * 5 + 1, none⟩) zo).trans e1; have s65 := (n6.cell (p := ⟨ob, oo + j * 5 + 2, none⟩) zo).trans e2; have s66 := (n6.cell (p := ⟨ob, oo + j * 5 + 3, none⟩) zo).trans e3; have s67 := (n6.cell (p := ⟨ob, oo + j * 5 + 4, none⟩) zo).trans e4; have KO6 := Lib.hid ko6; have N6 := Lib.hid n6; clear ko6 hb6 n6)
                | fail)
            all_goals
              go_wp2_with fail
              go_meet
              case rel => exact ⟨_, rfl, rfl, KO6.out, N6.out⟩
          case rest =>
          rename World => w7
          obtain ⟨v6, rfl, rfl, ko6, n6⟩ := hcut
          obtain ⟨qa, qc, rfl⟩ := own_form ko6
          have B7 := Lib.hid (HBR.out.trans (n6.mono HBR.out.size))
          by_cases hlt : su.2 < st.2
          · have hltI : (su.2 : Int) < (st.2 : Int) := by omega
            have HQ := Lib.hid (HSK.out.trans (if_pos hlt))
            have KQ := Lib.hid ko6
            clear ko6 n6
            go_wp2_with fail
            go_roundw
            case rel => exact ⟨k + 1, by omega, by congr 1; omega, by rw [HQ.out], by rw [HQ.out]; exact KQ.out, B7.out⟩
            case measure => first | (simp [intOf]; done) | (simp [intOf]; omega)
          · have hltI : ¬ (su.2 : Int) < (st.2 : Int) := by omega
            have HQ := Lib.hid (HSK.out.trans (if_neg hlt))
            have KQ := Lib.hid (KOwn.below HL.out n6)
            clear ko6 n6
            go_wp2_with fail
            go_roundw
            case rel => exact ⟨k + 1, by omega, by congr 1; omega, by rw [HQ.out], by rw [HQ.out]; exact KQ.out, B7.out⟩
            case measure => first | (simp [intOf]; done) | (simp [intOf]; omega)
        · obtain rfl : k = m := by omega
          have ej : (k : Int) - 1 - (k : Int) = -1 := by omega
          rw [ej]
          have HE := Lib.hid (show scan K ([], fw) (bestL S N Hd C O) = st by rw [← HSS.out, HEND.out])
          clear y0 y1 y2
          go_wp2_with fail
          exact bodyPost_ret (v := .tuple #[.slice la st.1.length lcap, .int .i64 (st.2 : Int)]) (by simp [results, Try.results49, go_sem]) rfl (by rw [HE.out]; exact ⟨_, rfl, HL.out, hb⟩)

theorem few_any (sa na ka : Option Addr) (caps ncap kc : Nat) (S : List Rel) (N : List Nd) (Hd K : List Pk) (hS : shOk S = true) (hN : ndOk N = true) (hH : pkOk Hd = true) (hSq : ∀ q ∈ S, ∀ p ∈ q.2.2.2, p.2.length ≤ 1048576) (hNq : ∀ q ∈ N, q.2.length ≤ 1048576) (hK8 : K.length ≤ 8) :
    ∀ (n : Nat) (O C : List Pk) (vc vo : Value) (fw : Nat) (B : Nat) (w : World), O.length ≤ n → Svp.Good S Hd C O → (C ++ O).length ≤ 30 → fw ≤ 100 → B ≤ w.heap.size → RlAt w w.heap.size (.slice sa S.length caps) S → NdAt w w.heap.size (.slice na N.length ncap) N → PkAt w w.heap.size (.slice ka K.length kc) K → KOwn w B vc C → PkAt w w.heap.size vo O → (∃ a c, vo = .slice a O.length c ∧ O.length ≤ c) →
    Calls Try.prog 49 #[.agg #[.slice sa S.length caps, .slice na N.length ncap, .slice ka K.length kc], vc, vo, .int .i64 (fw : Int)] w (FewPost B (scan K ([], fw) (bestL S N Hd C O)) w) := by
  intro n
  induction n with
  | zero =>
    intro O C vc vo fw B w h0 hG hCO hf hB h h' hk hc ho hv
    exact few_walk sa na ka caps ncap kc S N Hd K hS hN hH hSq hNq hK8 O C vc vo fw B w (fun O' C' vc' vo' fw' B' w' hl => by omega) hG hCO hf hB h h' hk hc ho hv
  | succ n ih =>
    intro O C vc vo fw B w h0 hG hCO hf hB h h' hk hc ho hv
    exact few_walk sa na ka caps ncap kc S N Hd K hS hN hH hSq hNq hK8 O C vc vo fw B w (fun O' C' vc' vo' fw' B' w' hl => ih O' C' vc' vo' fw' B' w' (by omega)) hG hCO hf hB h h' hk hc ho hv
end Rlk
end Go.Proofs.Ytmhamoeibkpnpaa
