/- Contracts of ClashHits, the program's and the model's, over this seat's translation: both answer as the plain function hitsP of terms and picks; nothing that was there before the call has changed. Condition: at most 1048576 terms, spans of each, and picks. -/
import Derived.Test.YtgjmgclgokgobaaTmok
import Derived.Test.YtgjmgclgokgobaaCfs
namespace Go.Proofs.Ytgjmgclgokgobaa
open Go.RowKit Go.Sort

namespace Tmh
open Cfa Cpu
/-- Whether picks have a term: the version of its name is in its range, or there is none, and it is Off. -/
def hitP (C : List Pk) (x : Tm) : Bool := match pkGet x.1 C with
  | some (a, b, c, d) => hasL x.2.1 a b c d
  | none => x.2.2
def hitsP (T : List Tm) (C : List Pk) : Bool := tmOk T && (pkOk C && T.all (hitP C))

set_option maxRecDepth 100000 in
set_option maxHeartbeats 4000000 in
theorem termHolds_any (z : Value) (C : List Pk) (nm : Int) (f : Bool) (la : Option Addr) (lc : Nat) (L : Sps) (w : World) (hC : C.length ≤ 1048576) (hL : L.length ≤ 1048576) (h2 : PkAt w w.heap.size z C) (h : SpAt w w.heap.size (.slice la L.length lc) L) :
    Calls Try.prog 70 #[term nm (.slice la L.length lc) f, z] w fun e w' => e = .returned (.bool (hitP C (nm, L, f))) ∧ Below w.heap.size w w' := by
  obtain ⟨pa, pc, rfl, hx⟩ := id h2
  clear hx
  have H := Lib.hid h2
  have HS := Lib.hid h
  have K : Hid (∀ V, PkAt V V.heap.size (.slice pa C.length pc) C → Calls Try.prog 104 #[.slice pa C.length pc, .int .i64 nm] V fun e w' => e = .returned (got (pkGet nm C)) ∧ Below V.heap.size V w') := Lib.hid fun V g => versionPicked_any _ C nm V hC g
  clear h h2
  obtain ⟨w1, hw1⟩ : ∃ V : World, V = w.alloc (.cells #[.int .i64 nm, .slice la L.length lc, .bool f] 85) := ⟨_, rfl⟩
  have b1 : Below w.heap.size w w1 := by rw [hw1]; exact (Below.refl _ _).alloc (Nat.le_refl _) _
  have z1 : w.heap.size + 1 ≤ w1.heap.size := by rw [hw1]; simp
  have y0 : w1.cell? ⟨w.heap.size, 0, none⟩ = some (.int .i64 nm) := by rw [hw1]; go_simp
  have y1 : w1.cell? ⟨w.heap.size, 1, none⟩ = some (.slice la L.length lc) := by rw [hw1]; go_simp
  have y2 : w1.cell? ⟨w.heap.size, 2, none⟩ = some (.bool f) := by rw [hw1]; go_simp
  go_enter Try.func70, Try.ntmps70
  go_upto_region 1 with fail
  rw [← hw1]
  clear hw1
  rcases hg : pkGet nm C with _ | ⟨va, vb, vc, vd⟩
  · rw [hg] at K
    simp only [got] at K
    have HT := Lib.hid (show hitP C (nm, L, f) = f by unfold hitP; simp only; rw [hg])
    clear hg
    go_wp2_with fail
    refine (K.out _ (H.out.stepAt b1)).mono ?_
    rintro e w2 ⟨rfl, hb⟩
    have b2 := b1.trans (hb.mono b1.size)
    have u2 := (hb.cell (p := ⟨w.heap.size, 2, none⟩) (by show w.heap.size < w1.heap.size; omega)).trans y2
    have z2 : w.heap.size < w2.heap.size := by have := hb.size; omega
    clear hb y0 y1 y2
    go_wp2_with fail
    go_ret
    exact ⟨by rw [HT.out]; rfl, b2.alloc b2.size _⟩
  · rw [hg] at K
    simp only [got] at K
    have HT := Lib.hid (show hitP C (nm, L, f) = hasL L va vb vc vd by unfold hitP; simp only; rw [hg])
    have KH : Hid (∀ V, SpAt V V.heap.size (.slice la L.length lc) L → Calls Try.prog 105 #[.agg #[.slice la L.length lc], ver va vb vc vd] V fun e w' => e = .returned (.bool (hasL L va vb vc vd)) ∧ Below V.heap.size V w') := Lib.hid fun V g => implHas_any _ L va vb vc vd V hL g
    clear hg
    go_wp2_with fail
    refine (K.out _ (H.out.stepAt b1)).mono ?_
    rintro e w2 ⟨rfl, hb⟩
    have b2 := b1.trans (hb.mono b1.size)
    have z2 := hb.size
    obtain ⟨w5, hw5⟩ : ∃ V : World, V = w2.alloc (.cells #[.int .i64 va, .int .i64 vb, .int .i64 vc, .int .i64 vd] 86) := ⟨_, rfl⟩
    have b5 : Below w2.heap.size w2 w5 := by rw [hw5]; exact (Below.refl _ _).alloc (Nat.le_refl _) _
    have n5 := b2.trans (b5.mono b2.size)
    have u1 := (b5.cell (p := ⟨w.heap.size, 1, none⟩) (by show w.heap.size < w2.heap.size; omega)).trans ((hb.cell (p := ⟨w.heap.size, 1, none⟩) (by show w.heap.size < w1.heap.size; omega)).trans y1)
    have x0 : w5.cell? ⟨w2.heap.size, 0, none⟩ = some (.int .i64 va) := by rw [hw5]; go_simp
    have x1 : w5.cell? ⟨w2.heap.size, 1, none⟩ = some (.int .i64 vb) := by rw [hw5]; go_simp
    have x2 : w5.cell? ⟨w2.heap.size, 2, none⟩ = some (.int .i64 vc) := by rw [hw5]; go_simp
    have x3 : w5.cell? ⟨w2.heap.size, 3, none⟩ = some (.int .i64 vd) := by rw [hw5]; go_simp
    clear y0 y1 y2 hb
    go_upto_region 2 with fail
    rw [← hw5]
    clear hw5
    rcases hh : hasL L va vb vc vd
    all_goals
      rw [hh] at KH HT
      clear hh
      go_wp2_with fail
      refine (KH.out _ (HS.out.stepAt (show Below w.heap.size w _ from n5))).mono ?_
      rintro e w6 ⟨rfl, hb6⟩
      go_wp2_with fail
      go_ret
      exact ⟨by rw [HT.out]; rfl, n5.trans (hb6.mono n5.size)⟩

set_option maxRecDepth 100000 in
set_option maxHeartbeats 4000000 in
theorem implHits_any (u z : Value) (T : List Tm) (C : List Pk) (w : World) (hT : T.length ≤ 1048576) (hq : ∀ q ∈ T, q.2.1.length ≤ 1048576) (hC : C.length ≤ 1048576) (h : TmAt w w.heap.size u T) (h2 : PkAt w w.heap.size z C) :
    Calls Try.prog 30 #[u, z] w fun e w' => e = .returned (.bool (hitsP T C)) ∧ Below w.heap.size w w' := by
  obtain ⟨na, ncap, rfl, h0⟩ := id h
  obtain ⟨pa, pc, rfl, hx⟩ := id h2
  clear hx
  have H := Lib.hid h2
  have HN := Lib.hid h
  have KT : Hid (∀ V, TmAt V V.heap.size (.slice na T.length ncap) T → Calls Try.prog 29 #[.slice na T.length ncap] V fun e w' => e = .returned (.bool (tmOk T)) ∧ Below V.heap.size V w') := Lib.hid fun V g => implClashOk_any _ T V hT hq g
  have KC : Hid (∀ V, PkAt V V.heap.size (.slice pa C.length pc) C → Calls Try.prog 66 #[.slice pa C.length pc] V fun e w' => e = .returned (.bool (pkOk C)) ∧ Below V.heap.size V w') := Lib.hid fun V g => implPicksOk_any _ C V hC g
  clear h h2
  rcases ht : tmOk T
  · have HF := Lib.hid (show hitsP T C = false by unfold hitsP; rw [ht]; rfl)
    rw [ht] at KT
    clear ht KC
    go_enter Try.func30, Try.ntmps30
    go_wp2_with fail
    refine (KT.out _ HN.out).mono ?_
    rintro e w2 ⟨rfl, b2⟩
    go_wp2_with fail
    go_ret
    exact ⟨by rw [HF.out]; rfl, b2⟩
  rcases hc : pkOk C
  · have HF := Lib.hid (show hitsP T C = false by unfold hitsP; rw [ht, hc]; rfl)
    rw [ht] at KT
    rw [hc] at KC
    clear ht hc
    go_enter Try.func30, Try.ntmps30
    go_wp2_with fail
    refine (KT.out _ HN.out).mono ?_
    rintro e w2 ⟨rfl, b2⟩
    go_wp2_with fail
    refine (KC.out _ (H.out.stepAt b2)).mono ?_
    rintro e w3 ⟨rfl, hb⟩
    have b3 := b2.trans (hb.mono b2.size)
    go_wp2_with fail
    go_ret
    exact ⟨by rw [HF.out]; rfl, b3⟩
  have HF := Lib.hid (show hitsP T C = T.all (hitP C) by unfold hitsP; rw [ht, hc]; rfl)
  rw [ht] at KT
  rw [hc] at KC
  clear ht hc
  go_enter Try.func30, Try.ntmps30
  go_wp2_with fail
  refine (KT.out _ HN.out).mono ?_
  rintro e w2 ⟨rfl, b2⟩
  go_wp2_with fail
  refine (KC.out _ (H.out.stepAt b2)).mono ?_
  rintro e w3 ⟨rfl, hb⟩
  have b3 := b2.trans (hb.mono b2.size)
  clear hb b2 KT KC
  go_wp2_with fail
  go_loopw [17] (fun i wr => ∃ k : Nat, k ≤ T.length ∧ i = .int .i64 (k : Int) ∧ T.all (hitP C) = (T.drop k).all (hitP C) ∧ Below w.heap.size w wr) (fun i _ => T.length - (intOf i).toNat)
  case atStart => exact ⟨0, Nat.zero_le _, rfl, rfl, b3⟩
  case round =>
    obtain ⟨k, hk, rfl, he, hb⟩ := hrel
    have HE := Lib.hid he
    clear he
    by_cases hlt : k < T.length
    · rcases h0 with h0 | ⟨b, o, rfl, hB, hc⟩
      · subst h0
        exact absurd hlt (by simp)
      obtain ⟨nm, L, f, hxy⟩ : ∃ nm L f, T[k] = (nm, L, f) := ⟨_, _, _, rfl⟩
      obtain ⟨r0, la, lc, r1, hs, r2⟩ := (hc k hlt).below hb hB
      rw [hxy] at r0 r1 hs r2
      simp only at r0 r1 hs r2
      have hL : L.length ≤ 1048576 := by have := hq _ (List.getElem_mem hlt); rwa [hxy] at this
      have HXY := Lib.hid (show T[k]? = some (nm, L, f) by rw [List.getElem?_eq_getElem hlt, hxy])
      have HS := Lib.hid (hs.mono hb.size)
      have bB : b < wr.heap.size := Nat.lt_of_lt_of_le hB hb.size
      have i0 : (0 : Int) ≤ (k : Int) := by omega
      have i1 : (k : Int) < (T.length : Int) := by omega
      have HST := Lib.hid (all_step (hitP C) HXY.out)
      have KH : Hid (∀ V, PkAt V V.heap.size (.slice pa C.length pc) C → SpAt V V.heap.size (.slice la L.length lc) L → Calls Try.prog 70 #[term nm (.slice la L.length lc) f, .slice pa C.length pc] V fun e w' => e = .returned (.bool (hitP C (nm, L, f))) ∧ Below V.heap.size V w') := Lib.hid fun V g g' => termHolds_any _ C nm f la lc L V hC hL g g'
      have bb := hb.alloc hb.size (.cells #[.int .i64 nm, .slice la L.length lc, .bool f] 85)
      have bn : Below wr.heap.size wr (wr.alloc (.cells #[.int .i64 nm, .slice la L.length lc, .bool f] 85)) := (Below.refl _ _).alloc (Nat.le_refl _) _
      have HA := Lib.hid (H.out.stepAt bb)
      have HB := Lib.hid (HS.out.stepAt bn)
      clear hxy hc hs bn
      rcases hh : hitP C (nm, L, f)
      · rw [hh] at KH
        have HZ := Lib.hid (show T.all (hitP C) = false by rw [HE.out, HST.out, hh]; rfl)
        clear hh
        go_wp2_with fail
        refine (KH.out _ HA.out HB.out).mono ?_
        rintro e w4 ⟨rfl, hb4⟩
        go_wp2_with fail
        go_ret
        exact ⟨by rw [HF.out, HZ.out]; rfl, bb.trans (hb4.mono bb.size)⟩
      · rw [hh] at KH
        have HZ := Lib.hid (show T.all (hitP C) = (T.drop (k + 1)).all (hitP C) by rw [HE.out, HST.out, hh]; rfl)
        clear hh
        go_wp2_with fail
        refine (KH.out _ HA.out HB.out).mono ?_
        rintro e w4 ⟨rfl, hb4⟩
        have HR := Lib.hid (show ∃ k' : Nat, k' ≤ T.length ∧ Value.int .i64 ((k : Int) + 1) = .int .i64 (k' : Int) ∧ T.all (hitP C) = (T.drop k').all (hitP C) ∧ Below w.heap.size w w4 from ⟨k + 1, by omega, by go_num, HZ.out, bb.trans (hb4.mono bb.size)⟩)
        clear hb4
        go_wp2_with fail
        go_roundw
        case rel => exact HR.out
        case measure => simp [intOf]; omega
    · obtain rfl : k = T.length := by omega
      have HQ := Lib.hid (show T.all (hitP C) = true by rw [HE.out, List.drop_length]; rfl)
      go_wp2_with fail
      go_ret
      exact ⟨by rw [HF.out, HQ.out]; rfl, hb⟩

end Tmh
end Go.Proofs.Ytgjmgclgokgobaa
