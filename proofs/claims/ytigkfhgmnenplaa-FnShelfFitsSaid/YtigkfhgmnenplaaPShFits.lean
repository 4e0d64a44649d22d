/- At every code the law FnShelfFits returns true: the program and the model find the same places of the drawn shelf for the drawn need; each place of the name that is not withdrawn fits the need or the need turned, never both. No condition. -/
import Derived.BigFrame
import Derived.Deep.RegionHeld3
import Derived.Test.YtigkfhgmnenplaaDfits
import Derived.Test.YtigkfhgmnenplaaInts
import Derived.Test.YtigkfhgmnenplaaFitfact
import Derived.Test.YtigkfhgmnenplaaRfit
import Derived.Test.YtigkfhgmnenplaaImset
import Derived.Test.YtigkfhgmnenplaaImone
import Derived.Test.YtigkfhgmnenplaaGe
namespace Go.Proofs.Ytigkfhgmnenplaa
open Go.ChangeShapes Go.WideShapes Go.ChangeAt Go.RowKit Go.Joins Go.Sort

namespace Psf
open Foot Dsh Dfi
theorem sp_step {L : Sps} {u : Value} {w V : World} (h : SpAt w w.heap.size u L) (hb : Below w.heap.size w V) : SpAt V V.heap.size u L := (h.below hb).mono hb.size

set_option maxRecDepth 100000 in
set_option maxHeartbeats 8000000 in
theorem fitsP_short (a : Option Addr) (len cap : Nat) (w : World) (h : CodeIn w a len cap) (hl : len ≤ 1048576) :
    Calls Try.prog 9 #[.slice a len cap] w fun e w' => e = .returned (.bool true) ∧ Below w.heap.size w w' := by
  go_enter Try.func9, Try.ntmps9
  go_wp2_with fail
  refine (DrawShelfFits_any a len cap w h).mono ?_
  rintro e w1 ⟨S, sa, caps, n, L, la, lc, rfl, hat1, hsp1, hl31, hsz, hL3, b1⟩
  have hl' : S.length ≤ 1048576 := by omega
  have hq := hsz.big
  have KF : Hid (∀ V, RlAt V V.heap.size (.slice sa S.length caps) S → ∀ u L', L'.length ≤ 1048576 → SpAt V V.heap.size u L' → Calls Try.prog 50 #[.slice sa S.length caps, need n u] V (IPost (shFits S n L') V)) := Lib.hid fun V g u L' hL g' => implShelfFits_any _ u S n L' V hl' hq hL g g'
  have KG : Hid (∀ V, RlAt V V.heap.size (.slice sa S.length caps) S → ∀ u L', L'.length ≤ 1048576 → SpAt V V.heap.size u L' → Calls Try.prog 52 #[.slice sa S.length caps, need n u] V (IPost (shFits S n L') V)) := Lib.hid fun V g u L' hL g' => specShelfFits_any _ u S n L' V hl' hq hL g g'
  have KO : Hid (∀ V, RlAt V V.heap.size (.slice sa S.length caps) S → Calls Try.prog 54 #[.slice sa S.length caps] V fun e w' => e = .returned (.bool (shOk S)) ∧ Below V.heap.size V w') := Lib.hid fun V g => implShelfOk_any _ S V hl' hq g
  have KM : Hid (∀ V u, NdAt V V.heap.size u [(n, L)] → Calls Try.prog 55 #[u] V fun e w' => e = .returned (.bool (ndOk [(n, L)])) ∧ Below V.heap.size V w') := Lib.hid fun V u g => implNeedsOk_any u [(n, L)] V (by simp) (fun q hq => by simp at hq; rw [hq]; show L.length ≤ 1048576; omega) g
  have KR : Hid (∀ V, SpAt V V.heap.size (.slice la L.length lc) L → Calls Try.prog 53 #[.agg #[.slice la L.length lc]] V (TPost (notOk L) (notR L) V)) := Lib.hid fun V g => implNot_any _ L V (by omega) g
  have H := Lib.hid hat1
  have HS := Lib.hid hsp1
  have hLn : L.length ≤ 1048576 := by omega
  have HRL := Lib.hid (show (notR L).length ≤ 1048576 from notR_len L)
  have HFS := Lib.hid (Fif.fits_law (S := S) (n := n) (L := L))
  have HFN := Lib.hid (Fif.fits_none (S := S) (n := n) (L := L) hL3)
  have HNL := Lib.hid (show (shFits S n L).length ≤ 1048576 from Nat.le_trans (shFits_len S n L) hl')
  have HML := Lib.hid (show (shFits S n (notR L)).length ≤ 1048576 from Nat.le_trans (shFits_len S n (notR L)) hl')
  have HAL := Lib.hid (show (shFits S n [(0, 9999999)]).length ≤ 1048576 from Nat.le_trans (shFits_len S n _) hl')
  have KF1 : Hid (∀ V, RlAt V V.heap.size (.slice sa S.length caps) S → SpAt V V.heap.size (.slice la L.length lc) L → Calls Try.prog 50 #[.slice sa S.length caps, need n (.slice la L.length lc)] V (IPost (shFits S n L) V)) := Lib.hid fun V g g' => KF.out V g _ L hLn g'
  have KG1 : Hid (∀ V, RlAt V V.heap.size (.slice sa S.length caps) S → SpAt V V.heap.size (.slice la L.length lc) L → Calls Try.prog 52 #[.slice sa S.length caps, need n (.slice la L.length lc)] V (IPost (shFits S n L) V)) := Lib.hid fun V g g' => KG.out V g _ L hLn g'
  have KF2 : Hid (∀ V, RlAt V V.heap.size (.slice sa S.length caps) S → ∀ u, SpAt V V.heap.size u (notR L) → Calls Try.prog 50 #[.slice sa S.length caps, need n u] V (IPost (shFits S n (notR L)) V)) := Lib.hid fun V g u g' => KF.out V g u _ HRL.out g'
  have KF3 : Hid (∀ V, RlAt V V.heap.size (.slice sa S.length caps) S → ∀ u, SpAt V V.heap.size u [(0, 9999999)] → Calls Try.prog 50 #[.slice sa S.length caps, need n u] V (IPost (shFits S n [(0, 9999999)]) V)) := Lib.hid fun V g u g' => KF.out V g u _ (by simp) g'
  clear KF KG HRL
  clear hat1 hsp1 h hsz
  obtain ⟨w2, hw2⟩ : ∃ V : World, V = w1.alloc (.cells #[.int .i64 n, .slice la L.length lc] 72) := ⟨_, rfl⟩
  have n2 : Below w1.heap.size w1 w2 := by rw [hw2]; exact (Below.refl _ _).alloc (Nat.le_refl _) _
  have z12 : w1.heap.size < w2.heap.size := by rw [hw2]; simp
  have c0 : w2.cell? ⟨w1.heap.size, 0, none⟩ = some (.int .i64 n) := by rw [hw2]; go_simp
  have c1 : w2.cell? ⟨w1.heap.size, 1, none⟩ = some (.slice la L.length lc) := by rw [hw2]; go_simp
  go_upto_region 4 with fail
  rw [← hw2]
  clear hw2
  obtain ⟨NL, hNL⟩ : ∃ X, notR L = X := ⟨_, rfl⟩
  rw [hNL] at KF2 HFS HML KR
  clear hNL
  obtain ⟨N, hN⟩ : ∃ X, shFits S n L = X := ⟨_, rfl⟩
  rw [hN] at KF1 KG1 HFS HFN HNL
  clear hN
  obtain ⟨M, hM⟩ : ∃ X, shFits S n NL = X := ⟨_, rfl⟩
  rw [hM] at KF2 HFS HML
  clear hM
  obtain ⟨Al, hAl⟩ : ∃ X, shFits S n [(0, 9999999)] = X := ⟨_, rfl⟩
  rw [hAl] at KF3 HFS HAL
  clear hAl
  go_wp2_with fail
  refine (KF1.out _ (H.out.stepAt n2) (sp_step HS.out n2)).mono ?_
  rintro e w3 ⟨v3, rfl, ib3, hb⟩
  have n3 := n2.trans (hb.mono n2.size)
  have z13 : w1.heap.size < w3.heap.size := by have := hb.size; omega
  have c0_3 := (hb.cell (p := ⟨w1.heap.size, 0, none⟩) (by show w1.heap.size < w2.heap.size; omega)).trans c0
  have c1_3 := (hb.cell (p := ⟨w1.heap.size, 1, none⟩) (by show w1.heap.size < w2.heap.size; omega)).trans c1
  obtain ⟨ia, ic, rfl, hx⟩ := id ib3
  have IN3 := Lib.hid ib3.at
  clear hx ib3 hb c0 c1
  go_wp2_with fail
  refine (KG1.out _ (H.out.stepAt n3) (sp_step HS.out n3)).mono ?_
  rintro e w4 ⟨v4, rfl, ib4, hb⟩
  have n4 := n3.trans (hb.mono n3.size)
  have z14 : w1.heap.size < w4.heap.size := by have := hb.size; omega
  have c0_4 := (hb.cell (p := ⟨w1.heap.size, 0, none⟩) (by show w1.heap.size < w3.heap.size; omega)).trans c0_3
  have c1_4 := (hb.cell (p := ⟨w1.heap.size, 1, none⟩) (by show w1.heap.size < w3.heap.size; omega)).trans c1_3
  obtain ⟨ja, jc, rfl, hx⟩ := id ib4
  have IN4 := Lib.hid (Its.stepAt IN3.out hb)
  have JN4 := Lib.hid ib4.at
  clear hx ib4 hb c0_3 c1_3 IN3
  go_wp2_with fail
  refine (Its.sameInts_eq _ _ N _ HNL.out IN4.out JN4.out).mono ?_
  rintro e w5 ⟨rfl, hb⟩
  have n5 := n4.trans (hb.mono n4.size)
  have z15 : w1.heap.size < w5.heap.size := by have := hb.size; omega
  have c0_5 := (hb.cell (p := ⟨w1.heap.size, 0, none⟩) (by show w1.heap.size < w4.heap.size; omega)).trans c0_4
  have c1_5 := (hb.cell (p := ⟨w1.heap.size, 1, none⟩) (by show w1.heap.size < w4.heap.size; omega)).trans c1_4
  have IN5 := Lib.hid (Its.stepAt IN4.out hb)
  clear hb c0_4 c1_4 IN4 JN4
  go_wp2_with fail
  refine (KR.out _ (sp_step HS.out n5)).mono ?_
  rintro e w6 ⟨u6, rfl, sr6, hb⟩
  have n6 := n5.trans (hb.mono n5.size)
  have z16 : w1.heap.size < w6.heap.size := by have := hb.size; omega
  have c0_6 := (hb.cell (p := ⟨w1.heap.size, 0, none⟩) (by show w1.heap.size < w5.heap.size; omega)).trans c0_5
  have c1_6 := (hb.cell (p := ⟨w1.heap.size, 1, none⟩) (by show w1.heap.size < w5.heap.size; omega)).trans c1_5
  have IN6 := Lib.hid (Its.stepAt IN5.out hb)
  obtain ⟨ka, kc, rfl, hx⟩ := id sr6
  have SN6 := Lib.hid sr6.at
  clear hx sr6 hb c0_5 c1_5 IN5
  obtain ⟨w7, hw7⟩ : ∃ V : World, V = w6.alloc (.cells #[.slice ka NL.length kc] 70) := ⟨_, rfl⟩
  have hb : Below w6.heap.size w6 w7 := by rw [hw7]; exact (Below.refl _ _).alloc (Nat.le_refl _) _
  have n7 := n6.trans (hb.mono n6.size)
  have z17 : w1.heap.size < w7.heap.size := by have := hb.size; omega
  have c0_7 := (hb.cell (p := ⟨w1.heap.size, 0, none⟩) (by show w1.heap.size < w6.heap.size; omega)).trans c0_6
  have c1_7 := (hb.cell (p := ⟨w1.heap.size, 1, none⟩) (by show w1.heap.size < w6.heap.size; omega)).trans c1_6
  have z67 : w6.heap.size + 1 ≤ w7.heap.size := by rw [hw7]; simp
  have d0 : w7.cell? ⟨w6.heap.size, 0, none⟩ = some (.slice ka NL.length kc) := by rw [hw7]; go_simp
  have IN7 := Lib.hid (Its.stepAt IN6.out hb)
  have SN7 := Lib.hid (sp_step SN6.out hb)
  go_upto_region 8 with fail
  rw [← hw7]
  clear hw7 hb c0_6 c1_6 IN6 SN6
  rcases ho1 : notOk L
  · have hN0 := HFN.out ho1
    clear HFS HFN KF2 KF3 KO KM
    subst hN0
    go_wp2_with fail
    refine (alive_any _).mono ?_
    rintro e w8 ⟨rfl, hb⟩
    have n8 := n7.trans (hb.mono n7.size)
    clear hb
    go_wp2_with fail
    go_ret
    exact ⟨rfl, b1.trans (n8.mono b1.size)⟩
  rcases ho2 : shOk S
  · rw [ho2] at KO
    clear HFS HFN ho1 ho2 KF2 KF3 KM
    go_wp2_with fail
    refine (KO.out _ (H.out.stepAt n7)).mono ?_
    rintro e w8 ⟨rfl, hb⟩
    have n8 := n7.trans (hb.mono n7.size)
    have z18 : w1.heap.size < w8.heap.size := by have := hb.size; omega
    have c0_8 := (hb.cell (p := ⟨w1.heap.size, 0, none⟩) (by show w1.heap.size < w7.heap.size; omega)).trans c0_7
    have c1_8 := (hb.cell (p := ⟨w1.heap.size, 1, none⟩) (by show w1.heap.size < w7.heap.size; omega)).trans c1_7
    have d0_8 := (hb.cell (p := ⟨w6.heap.size, 0, none⟩) (by show w6.heap.size < w7.heap.size; omega)).trans d0
    have IN8 := Lib.hid (Its.stepAt IN7.out hb)
    have SN8 := Lib.hid (sp_step SN7.out hb)
    have z68 : w6.heap.size < w8.heap.size := by have := hb.size; omega
    clear hb c0_7 c1_7 d0 IN7 SN7
    go_wp2_with fail
    refine (alive_any _).mono ?_
    rintro e w9 ⟨rfl, hb⟩
    have n9 := n8.trans (hb.mono n8.size)
    clear hb
    go_wp2_with fail
    go_ret
    exact ⟨rfl, b1.trans (n9.mono b1.size)⟩
  rcases ho3 : ndOk [(n, L)]
  · rw [ho2] at KO
    rw [ho3] at KM
    clear HFS HFN ho1 ho2 ho3 KF2 KF3
    go_wp2_with fail
    refine (KO.out _ (H.out.stepAt n7)).mono ?_
    rintro e w8 ⟨rfl, hb⟩
    have n8 := n7.trans (hb.mono n7.size)
    have z18 : w1.heap.size < w8.heap.size := by have := hb.size; omega
    have c0_8 := (hb.cell (p := ⟨w1.heap.size, 0, none⟩) (by show w1.heap.size < w7.heap.size; omega)).trans c0_7
    have c1_8 := (hb.cell (p := ⟨w1.heap.size, 1, none⟩) (by show w1.heap.size < w7.heap.size; omega)).trans c1_7
    have d0_8 := (hb.cell (p := ⟨w6.heap.size, 0, none⟩) (by show w6.heap.size < w7.heap.size; omega)).trans d0
    have IN8 := Lib.hid (Its.stepAt IN7.out hb)
    have SN8 := Lib.hid (sp_step SN7.out hb)
    have z68 : w6.heap.size < w8.heap.size := by have := hb.size; omega
    clear hb c0_7 c1_7 d0 IN7 SN7
    obtain ⟨w9, hw9⟩ : ∃ V : World, V = w8.alloc (.cells #[.int .i64 n, .slice la L.length lc] 72) := ⟨_, rfl⟩
    have hb9 : Below w8.heap.size w8 w9 := by rw [hw9]; exact (Below.refl _ _).alloc (Nat.le_refl _) _
    have n9 := n8.trans (hb9.mono n8.size)
    have HN9 := Lib.hid (one_need (w := w8) (V := w9) (n := n) (na := la) (ncap := lc) (L := L) (by rw [hw9]) (sp_step HS.out n9))
    go_wp2_with fail
    rw [← hw9]
    clear hw9
    refine (KM.out _ _ HN9.out).mono ?_
    rintro e w10 ⟨rfl, hb⟩
    have hb8 := hb9.trans (hb.mono hb9.size)
    have n10 := n8.trans (hb8.mono n8.size)
    have z110 : w1.heap.size < w10.heap.size := by have := hb8.size; omega
    have c0_10 := (hb8.cell (p := ⟨w1.heap.size, 0, none⟩) (by show w1.heap.size < w8.heap.size; omega)).trans c0_8
    have c1_10 := (hb8.cell (p := ⟨w1.heap.size, 1, none⟩) (by show w1.heap.size < w8.heap.size; omega)).trans c1_8
    have d0_10 := (hb8.cell (p := ⟨w6.heap.size, 0, none⟩) (by show w6.heap.size < w8.heap.size; omega)).trans d0_8
    have IN10 := Lib.hid (Its.stepAt IN8.out hb8)
    have SN10 := Lib.hid (sp_step SN8.out hb8)
    clear hb hb9 hb8 c0_8 c1_8 d0_8 IN8 SN8 HN9
    go_wp2_with fail
    refine (alive_any _).mono ?_
    rintro e w11 ⟨rfl, hb⟩
    have n11 := n10.trans (hb.mono n10.size)
    clear hb
    go_wp2_with fail
    go_ret
    exact ⟨rfl, b1.trans (n11.mono b1.size)⟩
  have HF1 := Lib.hid (HFS.out ho1 ho2 ho3).1
  have HF2 := Lib.hid (HFS.out ho1 ho2 ho3).2
  rw [ho2] at KO
  rw [ho3] at KM
  clear HFS HFN ho1 ho2 ho3
  go_wp2_with fail
  refine (KO.out _ (H.out.stepAt n7)).mono ?_
  rintro e w8 ⟨rfl, hb⟩
  have n8 := n7.trans (hb.mono n7.size)
  have z18 : w1.heap.size < w8.heap.size := by have := hb.size; omega
  have c0_8 := (hb.cell (p := ⟨w1.heap.size, 0, none⟩) (by show w1.heap.size < w7.heap.size; omega)).trans c0_7
  have c1_8 := (hb.cell (p := ⟨w1.heap.size, 1, none⟩) (by show w1.heap.size < w7.heap.size; omega)).trans c1_7
  have d0_8 := (hb.cell (p := ⟨w6.heap.size, 0, none⟩) (by show w6.heap.size < w7.heap.size; omega)).trans d0
  have IN8 := Lib.hid (Its.stepAt IN7.out hb)
  have SN8 := Lib.hid (sp_step SN7.out hb)
  have z68 : w6.heap.size < w8.heap.size := by have := hb.size; omega
  clear hb c0_7 c1_7 d0 IN7 SN7
  obtain ⟨w9, hw9⟩ : ∃ V : World, V = w8.alloc (.cells #[.int .i64 n, .slice la L.length lc] 72) := ⟨_, rfl⟩
  have hb9 : Below w8.heap.size w8 w9 := by rw [hw9]; exact (Below.refl _ _).alloc (Nat.le_refl _) _
  have n9 := n8.trans (hb9.mono n8.size)
  have HN9 := Lib.hid (one_need (w := w8) (V := w9) (n := n) (na := la) (ncap := lc) (L := L) (by rw [hw9]) (sp_step HS.out n9))
  go_wp2_with fail
  rw [← hw9]
  clear hw9
  refine (KM.out _ _ HN9.out).mono ?_
  rintro e w10 ⟨rfl, hb⟩
  have hb8 := hb9.trans (hb.mono hb9.size)
  have n10 := n8.trans (hb8.mono n8.size)
  have z110 : w1.heap.size < w10.heap.size := by have := hb8.size; omega
  have c0_10 := (hb8.cell (p := ⟨w1.heap.size, 0, none⟩) (by show w1.heap.size < w8.heap.size; omega)).trans c0_8
  have c1_10 := (hb8.cell (p := ⟨w1.heap.size, 1, none⟩) (by show w1.heap.size < w8.heap.size; omega)).trans c1_8
  have d0_10 := (hb8.cell (p := ⟨w6.heap.size, 0, none⟩) (by show w6.heap.size < w8.heap.size; omega)).trans d0_8
  have IN10 := Lib.hid (Its.stepAt IN8.out hb8)
  have SN10 := Lib.hid (sp_step SN8.out hb8)
  clear hb hb9 hb8 c0_8 c1_8 d0_8 IN8 SN8 HN9
  go_wp2_with fail
  refine (KF2.out _ (H.out.stepAt n10) _ SN10.out).mono ?_
  rintro e w11 ⟨v11, rfl, ib11, hb⟩
  have n11 := n10.trans (hb.mono n10.size)
  have z111 : w1.heap.size < w11.heap.size := by have := hb.size; omega
  have c0_11 := (hb.cell (p := ⟨w1.heap.size, 0, none⟩) (by show w1.heap.size < w10.heap.size; omega)).trans c0_10
  have c1_11 := (hb.cell (p := ⟨w1.heap.size, 1, none⟩) (by show w1.heap.size < w10.heap.size; omega)).trans c1_10
  obtain ⟨ma, mc, rfl, hx⟩ := id ib11
  have MN11 := Lib.hid ib11.at
  have IN11 := Lib.hid (Its.stepAt IN10.out hb)
  clear hx ib11 hb c0_10 c1_10 d0_10 IN10 SN10
  go_upto_region 11 with fail
  go_cut [9] from 11 (fun p wx => ∃ aa ac, p = .slice aa Al.length ac ∧ InAt wx wx.heap.size (.slice aa Al.length ac) Al ∧ Below w11.heap.size w11 wx)
  case first =>
    go_region_held3 (fun V => V.cell? ⟨w1.heap.size, 0, none⟩ = some (.int .i64 n)) (go_keep)
      (first
        | (go_at_call 57; refine (implAll_any _).mono ?_; rintro e wx ⟨ux, rfl, srx, hbx⟩; have hby : Below w11.heap.size w11 wx := ⟨hbx.os, hbx.tape, hbx.output, hbx.size, hbx.block⟩; have nx := n11.trans (hby.mono n11.size); have spx := srx.at; have r0 : wx.cell? ⟨w1.heap.size, 0, none⟩ = some (.int .i64 n) := (hby.cell (p := ⟨w1.heap.size, 0, none⟩) (by show w1.heap.size < w11.heap.size; omega)).trans c0_11)
        | (go_at_call 50; refine (KF3.out _ (H.out.stepAt nx) _ spx).mono ?_; rintro e wy ⟨vy, rfl, iby, hbz⟩; have hbw := hby.trans (hbz.mono hby.size); have s0 : wy.cell? ⟨w1.heap.size, 0, none⟩ = some (.int .i64 n) := (hbw.cell (p := ⟨w1.heap.size, 0, none⟩) (by show w1.heap.size < w11.heap.size; omega)).trans c0_11)
        | fail)
    all_goals
      obtain ⟨aa, ac, rfl, hx⟩ := id iby
      go_wp2_with fail
      go_meet
      case rel => exact ⟨aa, ac, rfl, iby.at, hbw⟩
  case rest =>
    rename World => w12
    obtain ⟨aa, ac, rfl, ia12, hb⟩ := hcut
    have n12 := n11.trans (hb.mono n11.size)
    have AL12 := Lib.hid ia12
    have MN12 := Lib.hid (Its.stepAt MN11.out hb)
    have IN12 := Lib.hid (Its.stepAt IN11.out hb)
    clear hb ia12 MN11 IN11 c0_11 c1_11
    go_wp2_with fail
    go_loopw [10] (fun i wr => ∃ k : Nat, k ≤ Al.length ∧ i = .int .i64 (k : Int) ∧ Below w12.heap.size w12 wr) (fun i _ => Al.length - (intOf i).toNat)
    case atStart => exact ⟨0, Nat.zero_le _, rfl, Below.refl _ _⟩
    case round =>
      obtain ⟨k, hk, rfl, hb⟩ := hrel
      have hAl : Al.length ≤ 2097152 := by have := HF1.out; have := HNL.out; have := HML.out; omega
      by_cases hlt : k < Al.length
      · obtain ⟨gb, go', haa, hB, hc⟩ : ∃ b o, aa = some ⟨b, o, none⟩ ∧ b < w12.heap.size ∧ ∀ i (h : i < Al.length), w12.cell? ⟨b, o + i, none⟩ = some (.int .i64 Al[i]) := by
          obtain ⟨a', c', e, hh⟩ := AL12.out
          simp only [Value.slice.injEq] at e
          obtain ⟨rfl, _, _⟩ := e
          rcases hh with rfl | hh
          · simp at hlt
          · exact hh
        subst haa
        obtain ⟨x, hx⟩ : ∃ x, Al[k] = x := ⟨_, rfl⟩
        have l0 := (hb.cell (p := ⟨gb, go' + k, none⟩) hB).trans (hc k hlt)
        rw [hx] at l0
        have hmem := HF2.out x (by rw [← hx]; exact List.getElem_mem hlt)
        have KL : Hid (∀ V, InAt V V.heap.size (.slice ia N.length ic) N → Calls Try.prog 58 #[.slice ia N.length ic, .int .i64 x] V fun e w' => e = .returned (.bool (decide (x ∈ N))) ∧ Below V.heap.size V w') := Lib.hid fun V g => Its.hasInt_any _ N x V HNL.out g
        have KQ : Hid (∀ V, InAt V V.heap.size (.slice ma M.length mc) M → Calls Try.prog 58 #[.slice ma M.length mc, .int .i64 x] V fun e w' => e = .returned (.bool (decide (x ∈ M))) ∧ Below V.heap.size V w') := Lib.hid fun V g => Its.hasInt_any _ M x V HML.out g
        rw [hmem] at KL
        clear hx hc hmem
        generalize decide (x ∈ M) = bm at KL KQ
        have IW := Lib.hid (Its.stepAt IN12.out hb)
        have MW := Lib.hid (Its.stepAt MN12.out hb)
        have j0 : (0 : Int) ≤ (k : Int) := by omega
        have j1 : (k : Int) < (Al.length : Int) := by omega
        have t0 := cell_regrown l0
        clear l0
        cases bm
        all_goals
          go_wp2_with fail
          refine wp_region_quiet_below (by kernel_rfl) (by kernel_rfl) ?_
          repeat (any_goals (first | go_big_quiet_step ((first | (go_at_call 58; (with_reducible refine Calls.regrown_of (KL.out _ ?_)); exact Its.stepAt IW.out (below_regrown _ _ _)) | (go_at_call 58; (with_reducible refine Calls.regrown_of (KQ.out _ ?_)); exact Its.stepAt MW.out (below_regrown _ _ _)))) | quiet_step ((first | (go_at_call 58; (with_reducible refine Calls.regrown_of (KL.out _ ?_)); exact Its.stepAt IW.out (below_regrown _ _ _)) | (go_at_call 58; (with_reducible refine Calls.regrown_of (KQ.out _ ?_)); exact Its.stepAt MW.out (below_regrown _ _ _))))))
          refine wpQuiet_nil ?_
          intro W2 hw2
          have nn := quiet_end hw2
          clear hw2 t0
          have HBB := Lib.hid (hb.trans (nn.mono hb.size))
          go_wp2_with fail
          go_roundw
          case rel => exact ⟨k + 1, by omega, by go_num, HBB.out⟩
          case measure => simp [intOf]; omega
      · obtain rfl : k = Al.length := by omega
        have hle : ((Al.length : Int) == ((N.length : Int) + (M.length : Int))) = true := by rw [beq_iff_eq]; have := HF1.out; omega
        have hNb : (N.length : Int) ≤ 1048576 := by have := HNL.out; omega
        have hMb : (M.length : Int) ≤ 1048576 := by have := HML.out; omega
        go_wp2_with fail
        refine (alive_any _).mono ?_
        rintro e w13 ⟨rfl, hb13⟩
        have n13 := n12.trans ((hb.trans (hb13.mono hb.size)).mono n12.size)
        clear hb13
        go_wp2_with fail
        go_ret
        exact ⟨rfl, b1.trans (n13.mono b1.size)⟩

set_option maxRecDepth 100000 in
set_option maxHeartbeats 1000000 in
theorem fitsP_long (a : Option Addr) (len cap : Nat) (w : World) (hl : 1048576 < len) :
    Calls Try.prog 9 #[.slice a len cap] w fun e w' => e = .returned (.bool true) ∧ Below w.heap.size w w' := by
  go_enter Try.func9, Try.ntmps9
  go_wp2
  go_ret
  exact ⟨rfl, Below.refl _ _⟩

theorem fitsP_walk (a : Option Addr) (len cap : Nat) (w : World) (h : CodeIn w a len cap) :
    Calls Try.prog 9 #[.slice a len cap] w fun e w' => e = .returned (.bool true) ∧ Below w.heap.size w w' := by
  by_cases hl : len ≤ 1048576
  · exact fitsP_short a len cap w h hl
  · exact fitsP_long a len cap w (by omega)
end Psf

set_option maxRecDepth 100000 in
theorem shelfFitsP_holds : Rows.FnShelfFitsSaid :=
  OpenClaim.holds_of_wide 9 Try.f9 rfl rfl rfl rfl rfl rfl rfl ⟨rfl, rfl, rfl, rfl, rfl⟩ rfl rfl rfl rfl rfl (by kernel_rfl) Try.func9 (by kernel_rfl)
    (of_decide_eq_true (by kernel_rfl)) (by unfold Func.isWrapper; rw [if_neg (by decide +kernel)]; exact ⟨rfl, rfl⟩)
    (fun os started H enc _ => law_lifted (s := Rows.fnShelfFitsSpec) (tb := 4) own started laid (by kernel_rfl) Try.func9 rfl (by kernel_rfl) Try.underlying4 (by kernel_rfl)
      (fun ds h => by rw [Try.params9] at h; match ds, h with | [_], _ => rfl)
      (ChangeSpec.witness6 (enc := enc) (C := Try.checked) false ⟨#[], #[.slice none 0 0], []⟩ 8 (by kernel_rfl) (by kernel_rfl) (by kernel_rfl) (by kernel_rfl))
      (law_code Try.params9 Psf.fitsP_walk))
#print axioms shelfFitsP_holds

end Go.Proofs.Ytigkfhgmnenplaa
