/- The contract of the program's search for choices (bestChoices), over this seat's translation: the first ones of those that are fine, the better one first, in rows of their own; nothing that was there before a call has changed. Condition: a shelf, needs and held picks that are fine; at most 30 picks open or made. -/
import Derived.Test.YtgenjbeamlffmaaSvl
namespace Go.Proofs.Ytgenjbeamlffmaa
open Go.RowKit Go.Sort

namespace Svp
open Foot Copy Nup Cpu Cfa Rch
/-- What is found behind some of the ways to decide a name. -/
def wayL (S : List Rel) (N : List Nd) (H C O : List Pk) (k : Nat) : List (List Pk) := bestL S N H C (O.drop (firstN O)) ++ (((O.take (firstN O)).reverse).take k).flatMap fun q => bestL S N H (C ++ [q]) (O.drop (firstN O))
theorem way_step {S : List Rel} {N : List Nd} {H C O : List Pk} {k i : Nat} {q : Pk} (hk : k + 1 + i = firstN O) (hq : O[i]? = some q) : wayL S N H C O (k + 1) = wayL S N H C O k ++ bestL S N H (C ++ [q]) (O.drop (firstN O)) := by
  have hle := firstN_le O
  have hr : ((O.take (firstN O)).reverse)[k]? = some q := by
    rw [List.getElem?_reverse (by rw [List.length_take]; omega), List.length_take, Nat.min_eq_left hle, show firstN O - 1 - k = i by omega, List.getElem?_take, if_pos (by omega), hq]
  unfold wayL
  rw [List.take_add_one, hr, List.flatMap_append, List.append_assoc]
  simp
theorem way_end {S : List Rel} {N : List Nd} {H C O : List Pk} (hO : O ≠ []) : wayL S N H C O (firstN O) = bestL S N H C O := by
  rcases O with _ | ⟨p, t⟩
  · exact absurd rfl hO
  · rw [best_step]
    unfold wayL
    rw [List.take_of_length_le (by rw [List.length_reverse, List.length_take]; omega)]
def BestPost (B : Nat) (L : List (List Pk)) (w : World) (e : Ending) (w' : World) : Prop := ∃ v, e = .returned v ∧ LOwn w' B w.heap.size v L ∧ Below w.heap.size w w'

set_option maxRecDepth 100000 in
set_option maxHeartbeats 1000000 in
theorem best_walk (sa na : Option Addr) (caps ncap : Nat) (S : List Rel) (N : List Nd) (Hd : List Pk) (hS : shOk S = true) (hN : ndOk N = true) (hH : pkOk Hd = true) (hSq : ∀ q ∈ S, ∀ p ∈ q.2.2.2, p.2.length ≤ 1048576) (hNq : ∀ q ∈ N, q.2.length ≤ 1048576)
    (O C : List Pk) (vc vo : Value) (mo : Int) (B : Nat) (w : World) (IH : ∀ (O' C' : List Pk) (vc' vo' : Value) (mo' : Int) (B' : Nat) (w' : World), O'.length < O.length → Good S Hd C' O' → (C' ++ O').length ≤ 30 → -100 ≤ mo' → mo' ≤ 100 → B' ≤ w'.heap.size → RlAt w' w'.heap.size (.slice sa S.length caps) S → NdAt w' w'.heap.size (.slice na N.length ncap) N → KOwn w' B' vc' C' → PkAt w' w'.heap.size vo' O' → (∃ a c, vo' = .slice a O'.length c ∧ O'.length ≤ c) → Calls Try.prog 73 #[.slice sa S.length caps, .slice na N.length ncap, vc', vo', .int .i64 mo'] w' (BestPost B' ((bestL S N Hd C' O').take (mo').toNat) w'))
    (hG : Good S Hd C O) (hCO : (C ++ O).length ≤ 30) (hm0 : -100 ≤ mo) (hm1 : mo ≤ 100) (hB : B ≤ w.heap.size) (h : RlAt w w.heap.size (.slice sa S.length caps) S) (h' : NdAt w w.heap.size (.slice na N.length ncap) N) (hc : KOwn w B vc C) (ho : PkAt w w.heap.size vo O) (hv : ∃ a c, vo = .slice a O.length c ∧ O.length ≤ c) :
    Calls Try.prog 73 #[.slice sa S.length caps, .slice na N.length ncap, vc, vo, .int .i64 mo] w (BestPost B ((bestL S N Hd C O).take (mo).toNat) w) := by
  obtain ⟨r0, hr, hz0, hz1, hz2⟩ := info_parts infoRow
  obtain ⟨oa, oc, rfl, hoc⟩ := hv
  obtain ⟨ca, cc, rfl, hxx⟩ := id (KOwn.pb hc).at
  clear hxx
  have hS5 : ∀ q ∈ S, q.2.2.2.length ≤ 5 ∧ ∀ p ∈ q.2.2.2, p.2.length ≤ 1048576 := fun q hq => ⟨sh_five hS q hq, hSq q hq⟩
  have hS30 := sh_len hS
  have hN5 := nd_len hN
  have hCl : C.length + O.length ≤ 30 := by rwa [List.length_append] at hCO
  have KH : Hid (∀ V, RlAt V V.heap.size (.slice sa S.length caps) S → NdAt V V.heap.size (.slice na N.length ncap) N → PkAt V V.heap.size (.slice ca C.length cc) C → PkAt V V.heap.size (.slice oa O.length oc) O → Calls Try.prog 126 #[.slice sa S.length caps, .slice na N.length ncap, .slice ca C.length cc, .slice oa O.length oc] V fun e w' => e = .returned (.bool (hopeB S N C O)) ∧ Below V.heap.size V w') := Lib.hid fun V g g' g2 g3 => hopeless_any _ _ _ _ S N C O V hS30 hS5 hN5 hNq hCO g g' g2 g3
  have KF : Hid (∀ V, PkAt V V.heap.size (.slice oa O.length oc) O → Calls Try.prog 127 #[.slice oa O.length oc] V fun e w' => e = .returned (.int .i64 (firstN O : Nat)) ∧ Below V.heap.size V w') := Lib.hid fun V g => firstName_any _ O V (by omega) g
  have H := Lib.hid h
  have H' := Lib.hid h'
  have HC := Lib.hid (KOwn.pb hc).at
  have HK := Lib.hid hc
  have HO := Lib.hid ho
  have HIH := Lib.hid IH
  have HGG := Lib.hid hG
  have HNONE := Lib.hid (fun hh => best_none (N := N) (H := Hd) hS hN hG hCO hh)
  clear h h' hc ho IH hSq
  by_cases hmo : mo < 1
  · have HE := Lib.hid (show (bestL S N Hd C O).take mo.toNat = [] by rw [show mo.toNat = 0 by omega]; rfl)
    have hmD : decide (mo < 1) = true := decide_eq_true hmo
    clear KH KF
    go_enter Try.func73, Try.ntmps73
    go_wp2_with fail
    go_ret
    exact ⟨_, rfl, by rw [HE.out]; exact LOwn.nil _ _ _, Below.refl _ _⟩
  have hmD : decide (mo < 1) = false := decide_eq_false hmo
  rcases hb : hopeB S N C O
  all_goals
    rw [hb] at KH
    have HHB := Lib.hid hb
    clear hb
    go_enter Try.func73, Try.ntmps73
    go_wp2_with fail
    refine (KH.out _ H.out H'.out HC.out HO.out).mono ?_
    rintro e w2 ⟨rfl, b2⟩
  rotate_left
  · have HE := Lib.hid (show (bestL S N Hd C O).take mo.toNat = [] by rw [HNONE.out HHB.out]; simp)
    go_wp2_with fail
    go_ret
    exact ⟨_, rfl, by rw [HE.out]; exact LOwn.nil _ _ _, b2⟩
  by_cases hO0 : O = []
  · subst hO0
    have HE := Lib.hid (show (bestL S N Hd C []).take mo.toNat = [C] by
      rw [best_leaf hS hN hH HGG.out (by simpa using hCO) HHB.out]
      exact List.take_of_length_le (by simp; omega))
    have HK2 := Lib.hid (KOwn.below HK.out b2)
    go_wp2_with fail
    go_ret
    exact ⟨_, rfl, by rw [HE.out]; exact (LOwn.one HK2.out rfl ((Below.refl _ _).alloc (Nat.le_refl _) _)).mono b2.size, b2.alloc b2.size _⟩
  · have hOl : 0 < O.length := List.length_pos_iff.2 hO0
    have hOb : ((O.length : Int) == 0) = false := by rw [beq_eq_false_iff_ne]; omega
    have hfp : 0 < firstN O := by
      cases O with
      | nil => exact absurd rfl hO0
      | cons p t => exact firstN_pos p t
    have hfl := firstN_le O
    have HEND := Lib.hid (way_end (S := S) (N := N) (H := Hd) (C := C) hO0)
    have HST := Lib.hid (fun k i q (hk : k + 1 + i = firstN O) hq => way_step (S := S) (N := N) (H := Hd) (C := C) (k := k) (i := i) (q := q) hk hq)
    have HLAT := Lib.hid HGG.out.later
    have HW := Lib.hid (fun q (hq : q ∈ O.take (firstN O)) => HGG.out.with' hS hq)
    have HW0 := Lib.hid (show wayL S N Hd C O 0 = bestL S N Hd C (O.drop (firstN O)) by unfold wayL; simp)
    obtain ⟨m, hm⟩ : ∃ m, firstN O = m := ⟨_, rfl⟩
    rw [hm] at KF hfp hfl HEND HST HLAT HW HW0
    clear hm
    obtain ⟨ob, oo, rfl, hoB, hpc⟩ : ∃ b o, oa = some ⟨b, o, none⟩ ∧ b < w.heap.size ∧ ∀ i (h : i < O.length), PkC w b (o + i * 5) O[i] := by
      obtain ⟨a', c', e, hh⟩ := HO.out
      simp only [Value.slice.injEq] at e
      obtain ⟨rfl, _, _⟩ := e
      rcases hh with hh | hh
      · exact absurd hh hO0
      · exact hh
    have k0 : (0 : Int) ≤ (m : Int) := by omega
    have k1 : (m : Int) ≤ (O.length : Int) := by omega
    have k2 : (m : Int) ≤ (oc : Int) := by omega
    go_wp2_with fail
    refine (KF.out _ (HO.out.stepAt b2)).mono ?_
    rintro e w3 ⟨rfl, hb3⟩
    have n3 := b2.trans (hb3.mono b2.size)
    clear hb3 b2 KF KH
    by_cases hmc : oc = m
    · have hOm : O.length - m = 0 := by omega
      obtain ⟨lv, hlv⟩ : ∃ lv, lv = Value.slice (some ⟨ob, oo, none⟩) 0 0 := ⟨_, rfl⟩
      have HLV := Lib.hid (show ∀ V, Below w.heap.size w V → PkAt V V.heap.size lv (O.drop m) from fun V _ => by
        have hd : O.drop m = [] := List.drop_eq_nil_of_le (by omega)
        rw [hlv, hd]
        exact ⟨_, _, rfl, .inl rfl⟩)
      have HFM := Lib.hid (show ∃ a c, lv = .slice a (O.drop m).length c ∧ (O.drop m).length ≤ c from ⟨_, 0, by rw [hlv, List.length_drop, hOm], by rw [List.length_drop]; omega⟩)
      obtain rfl : m = oc := hmc.symm
      clear hOm
      go_wp2_with fail
      rw [← hlv]
      clear hlv
      refine (HIH.out (O.drop m) C _ lv mo B _ (by rw [List.length_drop]; omega) HLAT.out (by rw [List.length_append, List.length_drop]; omega) hm0 hm1 (Nat.le_trans hB n3.size) (H.out.stepAt n3) (H'.out.stepAt n3) (KOwn.below HK.out n3) (HLV.out _ n3) HFM.out).mono ?_
      rw [← HW0.out]
      rintro e w4 ⟨v4, rfl, lo4, hb4⟩
      have n4 := n3.trans (hb4.mono n3.size)
      have LO4 := Lib.hid (lo4.mono n3.size)
      clear lo4 hb4 n3
      have mw : IntKind.i64.wrap ((m : Int) - 1) = (m : Int) - 1 := IntWalk.i64_in _ (by omega)
      go_wp2_with fail
      go_loopw [13, 14] (fun s13 i wr => ∃ k : Nat, k ≤ m ∧ i = .int .i64 ((m : Int) - 1 - (k : Int)) ∧ LOwn wr B w.heap.size s13 ((wayL S N Hd C O k).take mo.toNat) ∧ Below w.heap.size w wr) (fun _ i _ => (intOf i + 1).toNat)
      case atStart => exact ⟨0, Nat.zero_le _, by simp, LO4.out, n4⟩
      case round =>
        clear LO4
        obtain ⟨k, hk, rfl, hL, hb⟩ := hrel
        by_cases hkm : k < m
        · obtain ⟨j, hj⟩ : ∃ j : Nat, k + 1 + j = m := ⟨m - (k + 1), by omega⟩
          have ej : (m : Int) - 1 - (k : Int) = (j : Int) := by omega
          rw [ej]
          have hjO : j < O.length := by omega
          obtain ⟨x, a, b, c, d, hxy⟩ : ∃ x a b c d, O[j] = (x, a, b, c, d) := ⟨_, _, _, _, _, rfl⟩
          obtain ⟨r0', r1, r2, r3, r4⟩ := hpc j hjO
          rw [hxy] at r0' r1 r2 r3 r4
          simp only at r0' r1 r2 r3 r4
          have e0 := (hb.cell (p := ⟨ob, oo + j * 5, none⟩) hoB).trans r0'
          have e1 := (hb.cell (p := ⟨ob, oo + j * 5 + 1, none⟩) hoB).trans r1
          have e2 := (hb.cell (p := ⟨ob, oo + j * 5 + 2, none⟩) hoB).trans r2
          have e3 := (hb.cell (p := ⟨ob, oo + j * 5 + 3, none⟩) hoB).trans r3
          have e4 := (hb.cell (p := ⟨ob, oo + j * 5 + 4, none⟩) hoB).trans r4
          have hOj : O[j]? = some (x, a, b, c, d) := by rw [List.getElem?_eq_getElem hjO, hxy]
          have HGW := Lib.hid (HW.out (x, a, b, c, d) (by
            have : (O.take m)[j]? = some (x, a, b, c, d) := by rw [List.getElem?_take, if_pos (by omega), hOj]
            exact List.mem_of_getElem? this))
          have HSK := Lib.hid (HST.out k j (x, a, b, c, d) hj hOj)
          obtain ⟨X, hX⟩ : ∃ X, (wayL S N Hd C O k).take mo.toNat = X := ⟨_, rfl⟩
          have hXl : X.length ≤ mo.toNat := by rw [← hX, List.length_take]; omega
          have HXX := Lib.hid hX
          rw [hX] at hL
          obtain ⟨la, lcap, hlf⟩ := hL.form
          subst hlf
          have HL := Lib.hid hL
          have j0 : (0 : Int) ≤ (j : Int) := by omega
          have j1 : (j : Int) < (O.length : Int) := by omega
          have mw2 : IntKind.i64.wrap (mo - (X.length : Int)) = mo - (X.length : Int) := IntWalk.i64_in _ (by omega)
          clear hX hL hxy hOj r0' r1 r2 r3 r4
          go_wp2_with fail
          refine (picksWith_any _ C x a b c d _ (by omega) (HC.out.stepAt hb)).mono ?_
          rintro e w5 ⟨v5, rfl, ko5, hb5⟩
          have m5 := hb.trans (hb5.mono hb.size)
          have KO5 := Lib.hid (kown_mono ko5 (Nat.le_trans hB hb.size))
          have HL5 := Lib.hid (HL.out.below hb5)
          have z5 := m5.size
          clear ko5 hb5 e0 e1 e2 e3 e4 HL
          go_wp2_with fail
          refine (HIH.out (O.drop m) (C ++ [(x, a, b, c, d)]) v5 lv (mo - (X.length : Int)) B _ (by rw [List.length_drop]; omega) HGW.out (by rw [List.length_append, List.length_append, List.length_drop]; simp; omega) (by omega) (by omega) (Nat.le_trans hB z5) (H.out.stepAt m5) (H'.out.stepAt m5) KO5.out (HLV.out _ m5) HFM.out).mono ?_
          rintro e w6 ⟨v6, rfl, lo6, hb6⟩
          have m6 := m5.trans (hb6.mono m5.size)
          obtain ⟨Y, hY⟩ : ∃ Y, (bestL S N Hd (C ++ [(x, a, b, c, d)]) (O.drop m)).take (mo - (X.length : Int)).toNat = Y := ⟨_, rfl⟩
          have hYl : Y.length ≤ (mo - (X.length : Int)).toNat := by rw [← hY, List.length_take]; omega
          have HXY := Lib.hid (show X ++ Y = (wayL S N Hd C O (k + 1)).take mo.toNat by
            rw [HSK.out, ← take_two, HXX.out, ← hY, show mo.toNat - X.length = (mo - (X.length : Int)).toNat by omega])
          rw [hY] at lo6
          obtain ⟨ya, yc, hyf⟩ := lo6.form
          subst hyf
          obtain ⟨cs, hown, he⟩ := HL5.out.below hb6
          obtain ⟨ds, hown', he'⟩ := lo6
          obtain ⟨l2, l3⟩ := row_news hown'
          have HOW := Lib.hid hown
          have HE1 := Lib.hid he
          have HE2 := Lib.hid he'
          have L3 := Lib.hid l3
          have hdl : ds.length = Y.length * 1 := hown'.1
          have L4 := Lib.hid (rels_ones he' (by omega))
          have HB6 := Lib.hid m6
          have z6 := m6.size
          clear hY hown he hown' he' l3 hb6 m6 HL5
          go_wp2_with (at_builtin; refine Ap2.wpList_append _ rfl (.tmp 61) (.tmp 62) 43 rfl w.heap.size 28 r0 (.slice none 0 0) 1 24 Try.underlying43 hr hz0 hz1 hz2 rfl (by decide) _ X.length cs rfl HOW.out ya Y.length yc ds (by rfl) hdl l2 L3.out L4.out (by unfold maxLen; omega) (by omega) (by omega) ?_)
          intro a7 c7 w7 hown7 hgrow7 hat7
          have n7 : Below w.heap.size w w7 := HB6.out.grown hgrow7 HB6.out.size (fun k e => (World.ownsRow.lt HOW.out k e).1)
          have HJ := Lib.hid (show LOwn w7 B w.heap.size (.slice a7 (X.length + Y.length) c7) ((wayL S N Hd C O (k + 1)).take mo.toNat) by rw [← HXY.out]; exact LOwn.join HOW.out HE1.out HE2.out (by rw [List.length_append]) hown7 hgrow7)
          have jw : IntKind.i64.wrap ((j : Int) - 1) = (j : Int) - 1 := IntWalk.i64_in _ (by omega)
          clear hown7 hgrow7 hat7
          go_wp2_with fail
          go_roundw
          case rel => exact ⟨k + 1, by omega, by congr 1; omega, HJ.out, n7⟩
          case measure => first | (simp [intOf]; done) | (simp [intOf]; omega)
        · obtain rfl : k = m := by omega
          have ej : (k : Int) - 1 - (k : Int) = -1 := by omega
          rw [ej]
          rw [HEND.out] at hL
          have HQ := Lib.hid hL
          clear hL
          go_wp2_with fail
          go_ret
          exact ⟨_, rfl, HQ.out, hb⟩
    · obtain ⟨lv, hlv⟩ : ∃ lv, lv = Value.slice (some ⟨ob, oo + m * 5, none⟩) (O.length - m) (oc - m) := ⟨_, rfl⟩
      have HLV := Lib.hid (show ∀ V, Below w.heap.size w V → PkAt V V.heap.size lv (O.drop m) from fun V hV => by
        rw [hlv]
        exact pk_drop (HO.out.stepAt hV) hfl)
      have HFM := Lib.hid (show ∃ a c, lv = .slice a (O.drop m).length c ∧ (O.drop m).length ≤ c from ⟨_, _, by rw [hlv, List.length_drop], by rw [List.length_drop]; omega⟩)
      go_wp2_with fail
      rw [← hlv]
      clear hlv
      refine (HIH.out (O.drop m) C _ lv mo B _ (by rw [List.length_drop]; omega) HLAT.out (by rw [List.length_append, List.length_drop]; omega) hm0 hm1 (Nat.le_trans hB n3.size) (H.out.stepAt n3) (H'.out.stepAt n3) (KOwn.below HK.out n3) (HLV.out _ n3) HFM.out).mono ?_
      rw [← HW0.out]
      rintro e w4 ⟨v4, rfl, lo4, hb4⟩
      have n4 := n3.trans (hb4.mono n3.size)
      have LO4 := Lib.hid (lo4.mono n3.size)
      clear lo4 hb4 n3
      have mw : IntKind.i64.wrap ((m : Int) - 1) = (m : Int) - 1 := IntWalk.i64_in _ (by omega)
      go_wp2_with fail
      go_loopw [13, 14] (fun s13 i wr => ∃ k : Nat, k ≤ m ∧ i = .int .i64 ((m : Int) - 1 - (k : Int)) ∧ LOwn wr B w.heap.size s13 ((wayL S N Hd C O k).take mo.toNat) ∧ Below w.heap.size w wr) (fun _ i _ => (intOf i + 1).toNat)
      case atStart => exact ⟨0, Nat.zero_le _, by simp, LO4.out, n4⟩
      case round =>
        clear LO4
        obtain ⟨k, hk, rfl, hL, hb⟩ := hrel
        by_cases hkm : k < m
        · obtain ⟨j, hj⟩ : ∃ j : Nat, k + 1 + j = m := ⟨m - (k + 1), by omega⟩
          have ej : (m : Int) - 1 - (k : Int) = (j : Int) := by omega
          rw [ej]
          have hjO : j < O.length := by omega
          obtain ⟨x, a, b, c, d, hxy⟩ : ∃ x a b c d, O[j] = (x, a, b, c, d) := ⟨_, _, _, _, _, rfl⟩
          obtain ⟨r0', r1, r2, r3, r4⟩ := hpc j hjO
          rw [hxy] at r0' r1 r2 r3 r4
          simp only at r0' r1 r2 r3 r4
          have e0 := (hb.cell (p := ⟨ob, oo + j * 5, none⟩) hoB).trans r0'
          have e1 := (hb.cell (p := ⟨ob, oo + j * 5 + 1, none⟩) hoB).trans r1
          have e2 := (hb.cell (p := ⟨ob, oo + j * 5 + 2, none⟩) hoB).trans r2
          have e3 := (hb.cell (p := ⟨ob, oo + j * 5 + 3, none⟩) hoB).trans r3
          have e4 := (hb.cell (p := ⟨ob, oo + j * 5 + 4, none⟩) hoB).trans r4
          have hOj : O[j]? = some (x, a, b, c, d) := by rw [List.getElem?_eq_getElem hjO, hxy]
          have HGW := Lib.hid (HW.out (x, a, b, c, d) (by
            have : (O.take m)[j]? = some (x, a, b, c, d) := by rw [List.getElem?_take, if_pos (by omega), hOj]
            exact List.mem_of_getElem? this))
          have HSK := Lib.hid (HST.out k j (x, a, b, c, d) hj hOj)
          obtain ⟨X, hX⟩ : ∃ X, (wayL S N Hd C O k).take mo.toNat = X := ⟨_, rfl⟩
          have hXl : X.length ≤ mo.toNat := by rw [← hX, List.length_take]; omega
          have HXX := Lib.hid hX
          rw [hX] at hL
          obtain ⟨la, lcap, hlf⟩ := hL.form
          subst hlf
          have HL := Lib.hid hL
          have j0 : (0 : Int) ≤ (j : Int) := by omega
          have j1 : (j : Int) < (O.length : Int) := by omega
          have mw2 : IntKind.i64.wrap (mo - (X.length : Int)) = mo - (X.length : Int) := IntWalk.i64_in _ (by omega)
          clear hX hL hxy hOj r0' r1 r2 r3 r4
          go_wp2_with fail
          refine (picksWith_any _ C x a b c d _ (by omega) (HC.out.stepAt hb)).mono ?_
          rintro e w5 ⟨v5, rfl, ko5, hb5⟩
          have m5 := hb.trans (hb5.mono hb.size)
          have KO5 := Lib.hid (kown_mono ko5 (Nat.le_trans hB hb.size))
          have HL5 := Lib.hid (HL.out.below hb5)
          have z5 := m5.size
          clear ko5 hb5 e0 e1 e2 e3 e4 HL
          go_wp2_with fail
          refine (HIH.out (O.drop m) (C ++ [(x, a, b, c, d)]) v5 lv (mo - (X.length : Int)) B _ (by rw [List.length_drop]; omega) HGW.out (by rw [List.length_append, List.length_append, List.length_drop]; simp; omega) (by omega) (by omega) (Nat.le_trans hB z5) (H.out.stepAt m5) (H'.out.stepAt m5) KO5.out (HLV.out _ m5) HFM.out).mono ?_
          rintro e w6 ⟨v6, rfl, lo6, hb6⟩
          have m6 := m5.trans (hb6.mono m5.size)
          obtain ⟨Y, hY⟩ : ∃ Y, (bestL S N Hd (C ++ [(x, a, b, c, d)]) (O.drop m)).take (mo - (X.length : Int)).toNat = Y := ⟨_, rfl⟩
          have hYl : Y.length ≤ (mo - (X.length : Int)).toNat := by rw [← hY, List.length_take]; omega
          have HXY := Lib.hid (show X ++ Y = (wayL S N Hd C O (k + 1)).take mo.toNat by
            rw [HSK.out, ← take_two, HXX.out, ← hY, show mo.toNat - X.length = (mo - (X.length : Int)).toNat by omega])
          rw [hY] at lo6
          obtain ⟨ya, yc, hyf⟩ := lo6.form
          subst hyf
          obtain ⟨cs, hown, he⟩ := HL5.out.below hb6
          obtain ⟨ds, hown', he'⟩ := lo6
          obtain ⟨l2, l3⟩ := row_news hown'
          have HOW := Lib.hid hown
          have HE1 := Lib.hid he
          have HE2 := Lib.hid he'
          have L3 := Lib.hid l3
          have hdl : ds.length = Y.length * 1 := hown'.1
          have L4 := Lib.hid (rels_ones he' (by omega))
          have HB6 := Lib.hid m6
          have z6 := m6.size
          clear hY hown he hown' he' l3 hb6 m6 HL5
          go_wp2_with (at_builtin; refine Ap2.wpList_append _ rfl (.tmp 61) (.tmp 62) 43 rfl w.heap.size 28 r0 (.slice none 0 0) 1 24 Try.underlying43 hr hz0 hz1 hz2 rfl (by decide) _ X.length cs rfl HOW.out ya Y.length yc ds (by rfl) hdl l2 L3.out L4.out (by unfold maxLen; omega) (by omega) (by omega) ?_)
          intro a7 c7 w7 hown7 hgrow7 hat7
          have n7 : Below w.heap.size w w7 := HB6.out.grown hgrow7 HB6.out.size (fun k e => (World.ownsRow.lt HOW.out k e).1)
          have HJ := Lib.hid (show LOwn w7 B w.heap.size (.slice a7 (X.length + Y.length) c7) ((wayL S N Hd C O (k + 1)).take mo.toNat) by rw [← HXY.out]; exact LOwn.join HOW.out HE1.out HE2.out (by rw [List.length_append]) hown7 hgrow7)
          have jw : IntKind.i64.wrap ((j : Int) - 1) = (j : Int) - 1 := IntWalk.i64_in _ (by omega)
          clear hown7 hgrow7 hat7
          go_wp2_with fail
          go_roundw
          case rel => exact ⟨k + 1, by omega, by congr 1; omega, HJ.out, n7⟩
          case measure => first | (simp [intOf]; done) | (simp [intOf]; omega)
        · obtain rfl : k = m := by omega
          have ej : (k : Int) - 1 - (k : Int) = -1 := by omega
          rw [ej]
          rw [HEND.out] at hL
          have HQ := Lib.hid hL
          clear hL
          go_wp2_with fail
          go_ret
          exact ⟨_, rfl, HQ.out, hb⟩

set_option maxRecDepth 100000 in
set_option maxHeartbeats 8000000 in
theorem bestChoices_any (sa na : Option Addr) (caps ncap : Nat) (S : List Rel) (N : List Nd) (Hd : List Pk) (hS : shOk S = true) (hN : ndOk N = true) (hH : pkOk Hd = true) (hSq : ∀ q ∈ S, ∀ p ∈ q.2.2.2, p.2.length ≤ 1048576) (hNq : ∀ q ∈ N, q.2.length ≤ 1048576) :
    ∀ (n : Nat) (O C : List Pk) (vc vo : Value) (mo : Int) (B : Nat) (w : World), O.length ≤ n → Good S Hd C O → (C ++ O).length ≤ 30 → -100 ≤ mo → mo ≤ 100 → B ≤ w.heap.size → RlAt w w.heap.size (.slice sa S.length caps) S → NdAt w w.heap.size (.slice na N.length ncap) N → KOwn w B vc C → PkAt w w.heap.size vo O → (∃ a c, vo = .slice a O.length c ∧ O.length ≤ c) →
    Calls Try.prog 73 #[.slice sa S.length caps, .slice na N.length ncap, vc, vo, .int .i64 mo] w (BestPost B ((bestL S N Hd C O).take mo.toNat) w) := by
  intro n
  induction n with
  | zero =>
    intro O C vc vo mo B w h0 hG hCO hm0 hm1 hB h h' hc ho hv
    exact best_walk sa na caps ncap S N Hd hS hN hH hSq hNq O C vc vo mo B w (fun O' C' vc' vo' mo' B' w' hl => by omega) hG hCO hm0 hm1 hB h h' hc ho hv
  | succ n ih =>
    intro O C vc vo mo B w h0 hG hCO hm0 hm1 hB h h' hc ho hv
    exact best_walk sa na caps ncap S N Hd hS hN hH hSq hNq O C vc vo mo B w (fun O' C' vc' vo' mo' B' w' hl => ih O' C' vc' vo' mo' B' w' (by omega)) hG hCO hm0 hm1 hB h h' hc ho hv
end Svp
end Go.Proofs.Ytgenjbeamlffmaa
