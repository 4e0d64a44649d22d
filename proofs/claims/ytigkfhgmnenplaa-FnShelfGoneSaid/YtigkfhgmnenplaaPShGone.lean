/- At every code the law FnShelfGone returns true: the program and the model withdraw the same release of the drawn shelf; the shelf is as fine as before, the place is found as before, and the withdrawn version fits nothing. No condition. -/
import Derived.BigFrame
import Derived.Deep.RegionHeld3
import Derived.Test.YtigkfhgmnenplaaDshat
import Derived.Test.YtigkfhgmnenplaaShs
import Derived.Test.YtigkfhgmnenplaaGof
import Derived.Test.YtigkfhgmnenplaaImone
import Derived.Test.YtigkfhgmnenplaaGe
namespace Go.Proofs.Ytigkfhgmnenplaa
open Go.ChangeShapes Go.WideShapes Go.ChangeAt Go.RowKit Go.Joins Go.Sort

namespace Psg
open Foot Dsh Dkn Copy Gof
set_option maxRecDepth 100000 in
set_option maxHeartbeats 8000000 in
theorem goneP_short (a : Option Addr) (len cap : Nat) (w : World) (h : CodeIn w a len cap) (hl : len ≤ 1048576) :
    Calls Try.prog 11 #[.slice a len cap] w fun e w' => e = .returned (.bool true) ∧ Below w.heap.size w w' := by
  go_enter Try.func11, Try.ntmps11
  go_wp2_with fail
  refine (Dsg.DrawShelfGone_any a len cap w h).mono ?_
  rintro e w1 ⟨S, sa, caps, n, va, vb, vc, vd, rfl, hat1, hl31, hsz, b1⟩
  have hl' : S.length ≤ 1048576 := by omega
  have hq := hsz.big
  have H := Lib.hid hat1
  obtain ⟨w2, hw2⟩ : ∃ V : World, V = w1.alloc (.cells #[.int .i64 va, .int .i64 vb, .int .i64 vc, .int .i64 vd] 34) := ⟨_, rfl⟩
  have b2 : Below w1.heap.size w1 w2 := by rw [hw2]; exact (Below.refl _ _).alloc (Nat.le_refl _) _
  have z12 : w1.heap.size + 1 ≤ w2.heap.size := by rw [hw2]; simp
  have c0_2 : w2.cell? ⟨w1.heap.size, 0, none⟩ = some (.int .i64 va) := by rw [hw2]; go_simp
  have c1_2 : w2.cell? ⟨w1.heap.size, 1, none⟩ = some (.int .i64 vb) := by rw [hw2]; go_simp
  have c2_2 : w2.cell? ⟨w1.heap.size, 2, none⟩ = some (.int .i64 vc) := by rw [hw2]; go_simp
  have c3_2 : w2.cell? ⟨w1.heap.size, 3, none⟩ = some (.int .i64 vd) := by rw [hw2]; go_simp
  clear hat1 h hsz
  go_upto_region 4 with fail
  rw [← hw2]
  clear hw2
  rcases shAt_range S n (va, vb, vc, vd) with hat | ⟨j, hat, hj⟩
  · have KI : Hid (∀ V, RlAt V V.heap.size (.slice sa S.length caps) S → Calls Try.prog 28 #[.slice sa S.length caps, .int .i64 n, ver va vb vc vd] V fun e w' => ∃ v fs, e = .returned (.tuple #[v, .bool false]) ∧ RGrow w' V.heap.size v ([]) fs ∧ Below V.heap.size V w') := Lib.hid fun V g => (implShelfGone_any _ S n va vb vc vd V hl' hq g).mono fun e w' ⟨v, fs, he, hg, hb⟩ => ⟨v, fs, by rw [he, hat]; rfl, by rw [hat] at hg; rwa [if_neg (by decide)] at hg, hb⟩
    have KS : Hid (∀ V, RlAt V V.heap.size (.slice sa S.length caps) S → Calls Try.prog 26 #[.slice sa S.length caps, .int .i64 n, ver va vb vc vd] V fun e w' => ∃ v fs, e = .returned (.tuple #[v, .bool false]) ∧ RGrow w' V.heap.size v ([]) fs ∧ Below V.heap.size V w') := Lib.hid fun V g => (specShelfGone_any _ S n va vb vc vd V hl' hq g).mono fun e w' ⟨v, fs, he, hg, hb⟩ => ⟨v, fs, by rw [he, hat]; rfl, by rw [hat] at hg; rwa [if_neg (by decide)] at hg, hb⟩
    have KE : Hid (∀ V u u', RlAt V V.heap.size u [] → RlAt V V.heap.size u' [] → Calls Try.prog 60 #[u, u'] V fun e w' => e = .returned (.bool true) ∧ Below V.heap.size V w') := Lib.hid fun V u u' g g' => Shs.sameShelf_same u u' [] V (by simp) (by simp) g g'
    clear hat hq
    go_wp2_with fail
    refine (KI.out _ (H.out.stepAt b2)).mono ?_
    rintro e w3 ⟨v3, fs3, rfl, hg3, hb⟩
    have n3 := b2.trans (hb.mono b2.size)
    have z13 : w1.heap.size < w3.heap.size := by have := hb.size; omega
    have c0_3 := (hb.cell (p := ⟨w1.heap.size, 0, none⟩) (by show w1.heap.size < w2.heap.size; omega)).trans c0_2
    have c1_3 := (hb.cell (p := ⟨w1.heap.size, 1, none⟩) (by show w1.heap.size < w2.heap.size; omega)).trans c1_2
    have c2_3 := (hb.cell (p := ⟨w1.heap.size, 2, none⟩) (by show w1.heap.size < w2.heap.size; omega)).trans c2_2
    have c3_3 := (hb.cell (p := ⟨w1.heap.size, 3, none⟩) (by show w1.heap.size < w2.heap.size; omega)).trans c3_2
    obtain ⟨ga, gc, rfl, hform3, hcap3⟩ := hg3.form
    have G3 := Lib.hid hg3.at
    clear hg3 hform3 hcap3 hb c0_2 c1_2 c2_2 c3_2 KI
    go_wp2_with fail
    refine (KS.out _ (H.out.stepAt n3)).mono ?_
    rintro e w4 ⟨v4, fs4, rfl, hg4, hb⟩
    have n4 := n3.trans (hb.mono n3.size)
    have z14 : w1.heap.size < w4.heap.size := by have := hb.size; omega
    have c0_4 := (hb.cell (p := ⟨w1.heap.size, 0, none⟩) (by show w1.heap.size < w3.heap.size; omega)).trans c0_3
    have c1_4 := (hb.cell (p := ⟨w1.heap.size, 1, none⟩) (by show w1.heap.size < w3.heap.size; omega)).trans c1_3
    have c2_4 := (hb.cell (p := ⟨w1.heap.size, 2, none⟩) (by show w1.heap.size < w3.heap.size; omega)).trans c2_3
    have c3_4 := (hb.cell (p := ⟨w1.heap.size, 3, none⟩) (by show w1.heap.size < w3.heap.size; omega)).trans c3_3
    obtain ⟨ta, tc, rfl, hform4, hcap4⟩ := hg4.form
    have G4 := Lib.hid (G3.out.stepAt hb)
    have T4 := Lib.hid hg4.at
    clear hg4 hform4 hcap4 hb c0_3 c1_3 c2_3 c3_3 KS G3
    go_wp2_with fail
    refine (KE.out _ _ _ G4.out T4.out).mono ?_
    rintro e w5 ⟨rfl, hb⟩
    have n5 := n4.trans (hb.mono n4.size)
    have z15 : w1.heap.size < w5.heap.size := by have := hb.size; omega
    have c0_5 := (hb.cell (p := ⟨w1.heap.size, 0, none⟩) (by show w1.heap.size < w4.heap.size; omega)).trans c0_4
    have c1_5 := (hb.cell (p := ⟨w1.heap.size, 1, none⟩) (by show w1.heap.size < w4.heap.size; omega)).trans c1_4
    have c2_5 := (hb.cell (p := ⟨w1.heap.size, 2, none⟩) (by show w1.heap.size < w4.heap.size; omega)).trans c2_4
    have c3_5 := (hb.cell (p := ⟨w1.heap.size, 3, none⟩) (by show w1.heap.size < w4.heap.size; omega)).trans c3_4
    have G5 := Lib.hid (G4.out.stepAt hb)
    clear hb c0_4 c1_4 c2_4 c3_4 KE G4 T4
    go_wp2_with fail
    refine (alive_any _).mono ?_
    rintro e w6 ⟨rfl, hb⟩
    have n6 := n5.trans (hb.mono n5.size)
    clear hb
    go_wp2_with fail
    go_ret
    exact ⟨rfl, b1.trans (n6.mono b1.size)⟩
  · have KI : Hid (∀ V, RlAt V V.heap.size (.slice sa S.length caps) S → Calls Try.prog 28 #[.slice sa S.length caps, .int .i64 n, ver va vb vc vd] V fun e w' => ∃ v fs, e = .returned (.tuple #[v, .bool true]) ∧ RGrow w' V.heap.size v (goneL S j) fs ∧ Below V.heap.size V w') := Lib.hid fun V g => (implShelfGone_any _ S n va vb vc vd V hl' hq g).mono fun e w' ⟨v, fs, he, hg, hb⟩ => ⟨v, fs, by rw [he, hat]; rw [decide_eq_true (by omega)], by rw [hat] at hg; rwa [if_pos (by omega), Int.toNat_natCast] at hg, hb⟩
    have KS : Hid (∀ V, RlAt V V.heap.size (.slice sa S.length caps) S → Calls Try.prog 26 #[.slice sa S.length caps, .int .i64 n, ver va vb vc vd] V fun e w' => ∃ v fs, e = .returned (.tuple #[v, .bool true]) ∧ RGrow w' V.heap.size v (goneL S j) fs ∧ Below V.heap.size V w') := Lib.hid fun V g => (specShelfGone_any _ S n va vb vc vd V hl' hq g).mono fun e w' ⟨v, fs, he, hg, hb⟩ => ⟨v, fs, by rw [he, hat]; rw [decide_eq_true (by omega)], by rw [hat] at hg; rwa [if_pos (by omega), Int.toNat_natCast] at hg, hb⟩
    obtain ⟨hg1, hg2, hg3⟩ := gone_law hj hat
    have hqG : ∀ q ∈ goneL S j, q.2.2.2.length ≤ 1048576 ∧ ∀ p ∈ q.2.2.2, p.2.length ≤ 1048576 := fun q hq' => by
      have h1 : er q ∈ (goneL S j).map er := List.mem_map_of_mem hq'
      rw [gone_er hj] at h1
      obtain ⟨q', hq1, hq2⟩ := List.mem_map.1 h1
      have e : q'.2.2.2 = q.2.2.2 := congrArg (fun z => z.2.2) hq2
      rw [← e]
      exact hq q' hq1
    have hlG : (goneL S j).length ≤ 1048576 := by
      have := congrArg List.length (gone_er hj)
      simp only [List.length_map] at this
      omega
    have KAS : Hid (∀ V, RlAt V V.heap.size (.slice sa S.length caps) S → Calls Try.prog 61 #[.slice sa S.length caps, .int .i64 n, ver va vb vc vd] V fun e w' => e = .returned (.int .i64 (j : Int)) ∧ Below V.heap.size V w') := Lib.hid fun V g => by
      have := implShelfAt_any _ S n va vb vc vd V hl' hq g
      rwa [hat] at this
    obtain ⟨G, hG⟩ : ∃ X, goneL S j = X := ⟨_, rfl⟩
    rw [hG] at KI KS hqG hlG hg1 hg2 hg3
    have KE : Hid (∀ V u u', RlAt V V.heap.size u G → RlAt V V.heap.size u' G → Calls Try.prog 60 #[u, u'] V fun e w' => e = .returned (.bool true) ∧ Below V.heap.size V w') := Lib.hid fun V u u' g g' => Shs.sameShelf_same u u' G V hlG hqG g g'
    have KO' : Hid (∀ V u, RlAt V V.heap.size u G → Calls Try.prog 54 #[u] V fun e w' => e = .returned (.bool true) ∧ Below V.heap.size V w') := Lib.hid fun V u g => by
      have := implShelfOk_any u G V hlG hqG g
      rwa [hg1] at this
    have KAG' : Hid (∀ V u, RlAt V V.heap.size u G → Calls Try.prog 61 #[u, .int .i64 n, ver va vb vc vd] V fun e w' => e = .returned (.int .i64 (j : Int)) ∧ Below V.heap.size V w') := Lib.hid fun V u g => by
      have := implShelfAt_any u G n va vb vc vd V hlG hqG g
      rwa [hg2] at this
    have KF' : Hid (∀ V y, RlAt V V.heap.size y G → ∀ u, SpAt V V.heap.size u (oneL va vb vc vd) → Calls Try.prog 50 #[y, need n u] V (IPost [] V)) := Lib.hid fun V y g u g' => by
      have := implShelfFits_any y u G n (oneL va vb vc vd) V hlG hqG (by unfold oneL; split <;> simp) g g'
      rwa [hg3] at this
    have hjj : ((j : Int) == (j : Int)) = true := by simp
    clear hat hq hqG hg1 hg2 hg3 hG
    go_wp2_with fail
    refine (KI.out _ (H.out.stepAt b2)).mono ?_
    rintro e w3 ⟨v3, fs3, rfl, hg3, hb⟩
    have n3 := b2.trans (hb.mono b2.size)
    have z13 : w1.heap.size < w3.heap.size := by have := hb.size; omega
    have c0_3 := (hb.cell (p := ⟨w1.heap.size, 0, none⟩) (by show w1.heap.size < w2.heap.size; omega)).trans c0_2
    have c1_3 := (hb.cell (p := ⟨w1.heap.size, 1, none⟩) (by show w1.heap.size < w2.heap.size; omega)).trans c1_2
    have c2_3 := (hb.cell (p := ⟨w1.heap.size, 2, none⟩) (by show w1.heap.size < w2.heap.size; omega)).trans c2_2
    have c3_3 := (hb.cell (p := ⟨w1.heap.size, 3, none⟩) (by show w1.heap.size < w2.heap.size; omega)).trans c3_2
    obtain ⟨ga, gc, rfl, hform3, hcap3⟩ := hg3.form
    have G3 := Lib.hid hg3.at
    clear hg3 hform3 hcap3 hb c0_2 c1_2 c2_2 c3_2 KI
    go_wp2_with fail
    refine (KS.out _ (H.out.stepAt n3)).mono ?_
    rintro e w4 ⟨v4, fs4, rfl, hg4, hb⟩
    have n4 := n3.trans (hb.mono n3.size)
    have z14 : w1.heap.size < w4.heap.size := by have := hb.size; omega
    have c0_4 := (hb.cell (p := ⟨w1.heap.size, 0, none⟩) (by show w1.heap.size < w3.heap.size; omega)).trans c0_3
    have c1_4 := (hb.cell (p := ⟨w1.heap.size, 1, none⟩) (by show w1.heap.size < w3.heap.size; omega)).trans c1_3
    have c2_4 := (hb.cell (p := ⟨w1.heap.size, 2, none⟩) (by show w1.heap.size < w3.heap.size; omega)).trans c2_3
    have c3_4 := (hb.cell (p := ⟨w1.heap.size, 3, none⟩) (by show w1.heap.size < w3.heap.size; omega)).trans c3_3
    obtain ⟨ta, tc, rfl, hform4, hcap4⟩ := hg4.form
    have G4 := Lib.hid (G3.out.stepAt hb)
    have T4 := Lib.hid hg4.at
    clear hg4 hform4 hcap4 hb c0_3 c1_3 c2_3 c3_3 KS G3
    go_wp2_with fail
    refine (KE.out _ _ _ G4.out T4.out).mono ?_
    rintro e w5 ⟨rfl, hb⟩
    have n5 := n4.trans (hb.mono n4.size)
    have z15 : w1.heap.size < w5.heap.size := by have := hb.size; omega
    have c0_5 := (hb.cell (p := ⟨w1.heap.size, 0, none⟩) (by show w1.heap.size < w4.heap.size; omega)).trans c0_4
    have c1_5 := (hb.cell (p := ⟨w1.heap.size, 1, none⟩) (by show w1.heap.size < w4.heap.size; omega)).trans c1_4
    have c2_5 := (hb.cell (p := ⟨w1.heap.size, 2, none⟩) (by show w1.heap.size < w4.heap.size; omega)).trans c2_4
    have c3_5 := (hb.cell (p := ⟨w1.heap.size, 3, none⟩) (by show w1.heap.size < w4.heap.size; omega)).trans c3_4
    have G5 := Lib.hid (G4.out.stepAt hb)
    clear hb c0_4 c1_4 c2_4 c3_4 KE G4 T4
    have KO : Hid (∀ V, RlAt V V.heap.size (.slice ga G.length gc) G → Calls Try.prog 54 #[.slice ga G.length gc] V fun e w' => e = .returned (.bool true) ∧ Below V.heap.size V w') := Lib.hid fun V g => KO'.out V _ g
    have KAG : Hid (∀ V, RlAt V V.heap.size (.slice ga G.length gc) G → Calls Try.prog 61 #[.slice ga G.length gc, .int .i64 n, ver va vb vc vd] V fun e w' => e = .returned (.int .i64 (j : Int)) ∧ Below V.heap.size V w') := Lib.hid fun V g => KAG'.out V _ g
    have KF : Hid (∀ V, RlAt V V.heap.size (.slice ga G.length gc) G → ∀ u, SpAt V V.heap.size u (oneL va vb vc vd) → Calls Try.prog 50 #[.slice ga G.length gc, need n u] V (IPost [] V)) := Lib.hid fun V g u g' => KF'.out V _ g u g'
    clear KO' KAG' KF'
    go_wp2_with fail
    go_region_held3 (fun V => V.cell? ⟨w1.heap.size, 0, none⟩ = some (.int .i64 va) ∧ V.cell? ⟨w1.heap.size, 1, none⟩ = some (.int .i64 vb) ∧ V.cell? ⟨w1.heap.size, 2, none⟩ = some (.int .i64 vc) ∧ V.cell? ⟨w1.heap.size, 3, none⟩ = some (.int .i64 vd)) (go_keep)
      (first
        | (go_at_call 54; refine (KO.out _ (G5.out.stepAt (by go_grown))).mono ?_; rintro e x1 ⟨rfl, h1⟩; have m1 : Below w5.heap.size w5 x1 := Below.step (by go_grown) h1; have r0x1 : x1.cell? ⟨w1.heap.size, 0, none⟩ = some (.int .i64 va) := (m1.cell (p := ⟨w1.heap.size, 0, none⟩) (by show w1.heap.size < w5.heap.size; omega)).trans c0_5; have r1x1 : x1.cell? ⟨w1.heap.size, 1, none⟩ = some (.int .i64 vb) := (m1.cell (p := ⟨w1.heap.size, 1, none⟩) (by show w1.heap.size < w5.heap.size; omega)).trans c1_5; have r2x1 : x1.cell? ⟨w1.heap.size, 2, none⟩ = some (.int .i64 vc) := (m1.cell (p := ⟨w1.heap.size, 2, none⟩) (by show w1.heap.size < w5.heap.size; omega)).trans c2_5; have r3x1 : x1.cell? ⟨w1.heap.size, 3, none⟩ = some (.int .i64 vd) := (m1.cell (p := ⟨w1.heap.size, 3, none⟩) (by show w1.heap.size < w5.heap.size; omega)).trans c3_5)
        | (go_at_call 61; (with_reducible refine Calls.mono (KAG.out _ ?_) ?_); exact G5.out.stepAt m1; rintro e x2 ⟨rfl, h2⟩; have m2 := m1.trans (h2.mono m1.size); have r0x2 : x2.cell? ⟨w1.heap.size, 0, none⟩ = some (.int .i64 va) := (m2.cell (p := ⟨w1.heap.size, 0, none⟩) (by show w1.heap.size < w5.heap.size; omega)).trans c0_5; have r1x2 : x2.cell? ⟨w1.heap.size, 1, none⟩ = some (.int .i64 vb) := (m2.cell (p := ⟨w1.heap.size, 1, none⟩) (by show w1.heap.size < w5.heap.size; omega)).trans c1_5; have r2x2 : x2.cell? ⟨w1.heap.size, 2, none⟩ = some (.int .i64 vc) := (m2.cell (p := ⟨w1.heap.size, 2, none⟩) (by show w1.heap.size < w5.heap.size; omega)).trans c2_5; have r3x2 : x2.cell? ⟨w1.heap.size, 3, none⟩ = some (.int .i64 vd) := (m2.cell (p := ⟨w1.heap.size, 3, none⟩) (by show w1.heap.size < w5.heap.size; omega)).trans c3_5)
        | (go_at_call 61; (with_reducible refine Calls.mono (KAS.out _ ?_) ?_); exact H.out.stepAt (n5.trans (m2.mono n5.size)); rintro e x3 ⟨rfl, h3⟩; have m3 := m2.trans (h3.mono m2.size); have r0x3 : x3.cell? ⟨w1.heap.size, 0, none⟩ = some (.int .i64 va) := (m3.cell (p := ⟨w1.heap.size, 0, none⟩) (by show w1.heap.size < w5.heap.size; omega)).trans c0_5; have r1x3 : x3.cell? ⟨w1.heap.size, 1, none⟩ = some (.int .i64 vb) := (m3.cell (p := ⟨w1.heap.size, 1, none⟩) (by show w1.heap.size < w5.heap.size; omega)).trans c1_5; have r2x3 : x3.cell? ⟨w1.heap.size, 2, none⟩ = some (.int .i64 vc) := (m3.cell (p := ⟨w1.heap.size, 2, none⟩) (by show w1.heap.size < w5.heap.size; omega)).trans c2_5; have r3x3 : x3.cell? ⟨w1.heap.size, 3, none⟩ = some (.int .i64 vd) := (m3.cell (p := ⟨w1.heap.size, 3, none⟩) (by show w1.heap.size < w5.heap.size; omega)).trans c3_5)
        | (go_at_call 63; refine (implOne_any _ _ _ _ _).mono ?_; rintro e x4 ⟨u4, rfl, sr4, h4⟩; have m4 := m3.trans (h4.mono m3.size); have sp4 := sr4.at; have r0x4 : x4.cell? ⟨w1.heap.size, 0, none⟩ = some (.int .i64 va) := (m4.cell (p := ⟨w1.heap.size, 0, none⟩) (by show w1.heap.size < w5.heap.size; omega)).trans c0_5; have r1x4 : x4.cell? ⟨w1.heap.size, 1, none⟩ = some (.int .i64 vb) := (m4.cell (p := ⟨w1.heap.size, 1, none⟩) (by show w1.heap.size < w5.heap.size; omega)).trans c1_5; have r2x4 : x4.cell? ⟨w1.heap.size, 2, none⟩ = some (.int .i64 vc) := (m4.cell (p := ⟨w1.heap.size, 2, none⟩) (by show w1.heap.size < w5.heap.size; omega)).trans c2_5; have r3x4 : x4.cell? ⟨w1.heap.size, 3, none⟩ = some (.int .i64 vd) := (m4.cell (p := ⟨w1.heap.size, 3, none⟩) (by show w1.heap.size < w5.heap.size; omega)).trans c3_5)
        | (go_at_call 50; refine (KF.out _ (G5.out.stepAt m4) _ sp4).mono ?_; rintro e x5 ⟨v5, rfl, ib5, h5⟩; obtain ⟨ia, ic, rfl, hx⟩ := id ib5; have m5 := m4.trans (h5.mono m4.size); have r0x5 : x5.cell? ⟨w1.heap.size, 0, none⟩ = some (.int .i64 va) := (m5.cell (p := ⟨w1.heap.size, 0, none⟩) (by show w1.heap.size < w5.heap.size; omega)).trans c0_5; have r1x5 : x5.cell? ⟨w1.heap.size, 1, none⟩ = some (.int .i64 vb) := (m5.cell (p := ⟨w1.heap.size, 1, none⟩) (by show w1.heap.size < w5.heap.size; omega)).trans c1_5; have r2x5 : x5.cell? ⟨w1.heap.size, 2, none⟩ = some (.int .i64 vc) := (m5.cell (p := ⟨w1.heap.size, 2, none⟩) (by show w1.heap.size < w5.heap.size; omega)).trans c2_5; have r3x5 : x5.cell? ⟨w1.heap.size, 3, none⟩ = some (.int .i64 vd) := (m5.cell (p := ⟨w1.heap.size, 3, none⟩) (by show w1.heap.size < w5.heap.size; omega)).trans c3_5)
        | fail)
    all_goals
      have n6 := n5.trans (m5.mono n5.size)
      clear hx ib5
      go_wp2_with fail
      go_ret
      exact ⟨rfl, b1.trans (n6.mono b1.size)⟩

set_option maxRecDepth 100000 in
set_option maxHeartbeats 1000000 in
theorem goneP_long (a : Option Addr) (len cap : Nat) (w : World) (hl : 1048576 < len) :
    Calls Try.prog 11 #[.slice a len cap] w fun e w' => e = .returned (.bool true) ∧ Below w.heap.size w w' := by
  go_enter Try.func11, Try.ntmps11
  go_wp2
  go_ret
  exact ⟨rfl, Below.refl _ _⟩

theorem goneP_walk (a : Option Addr) (len cap : Nat) (w : World) (h : CodeIn w a len cap) :
    Calls Try.prog 11 #[.slice a len cap] w fun e w' => e = .returned (.bool true) ∧ Below w.heap.size w w' := by
  by_cases hl : len ≤ 1048576
  · exact goneP_short a len cap w h hl
  · exact goneP_long a len cap w (by omega)
end Psg

set_option maxRecDepth 100000 in
theorem shelfGoneP_holds : Rows.FnShelfGoneSaid :=
  OpenClaim.holds_of_wide 11 Try.f11 rfl rfl rfl rfl rfl rfl rfl ⟨rfl, rfl, rfl, rfl, rfl⟩ rfl rfl rfl rfl rfl (by kernel_rfl) Try.func11 (by kernel_rfl)
    (of_decide_eq_true (by kernel_rfl)) (by unfold Func.isWrapper; rw [if_neg (by decide +kernel)]; exact ⟨rfl, rfl⟩)
    (fun os started H enc _ => law_lifted (s := Rows.fnShelfGoneSpec) (tb := 4) own started laid (by kernel_rfl) Try.func11 rfl (by kernel_rfl) Try.underlying4 (by kernel_rfl)
      (fun ds h => by rw [Try.params11] at h; match ds, h with | [_], _ => rfl)
      (ChangeSpec.witness6 (enc := enc) (C := Try.checked) false ⟨#[], #[.slice none 0 0], []⟩ 8 (by kernel_rfl) (by kernel_rfl) (by kernel_rfl) (by kernel_rfl))
      (law_code Try.params11 Psg.goneP_walk))
#print axioms shelfGoneP_holds

end Go.Proofs.Ytigkfhgmnenplaa
