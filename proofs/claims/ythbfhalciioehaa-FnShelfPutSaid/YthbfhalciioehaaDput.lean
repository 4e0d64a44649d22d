/- The contract of the model's draw of a shelf and a release to put, over this seat's translation: whatever is drawn, at most 31 releases, nine needs of at most 41 spans; nothing that was there has changed. Condition: the code is readable. -/
import Derived.BigFrame
import Derived.Deep.RegionHeld3
import Derived.Test.YthbfhalciioehaaDknown
import Derived.Test.YthbfhalciioehaaBxn
import Derived.Test.YthbfhalciioehaaGe
namespace Go.Proofs.Ythbfhalciioehaa
open Go.RowKit Go.Sort

namespace Dpt
open Foot Dsh Dkn Bxn
def AnyPut (w : World) (e : Ending) (w' : World) : Prop := ∃ S sa caps, ∃ n a b c d : Int, ∃ f : Bool, ∃ M na ncap, e = .returned (.tuple #[.slice sa S.length caps, rels n a b c d f (.slice na M.length ncap)]) ∧ RlAt w' w'.heap.size (.slice sa S.length caps) S ∧ ((sa = none ∧ caps = 0 ∧ S = []) ∨ ∃ b o, sa = some ⟨b, o, none⟩) ∧ S.length ≤ caps ∧ NdAt w' w'.heap.size (.slice na M.length ncap) M ∧ S.length ≤ 31 ∧ SzOk S ∧ M.length ≤ 9 ∧ (∀ q ∈ M, q.2.length ≤ 41) ∧ Below w.heap.size w w'

set_option maxRecDepth 100000 in
set_option maxHeartbeats 4000000 in
theorem DrawShelfPut_any (a : Option Addr) (len cap : Nat) (w : World) (h : CodeIn w a len cap) : Calls Try.prog 35 #[.slice a len cap] w (AnyPut w) := by
  have v1 : Bx 7 (w.alloc (.cells #[.int .i64 0, .int .i64 0, .int .i64 0, .int .i64 0, .int .i64 0, .bool false, .slice none 0 0] 54)) w.heap.size := Bx.new w _ _ (by simp)
  have s1 : w.heap.size < (w.alloc (.cells #[.int .i64 0, .int .i64 0, .int .i64 0, .int .i64 0, .int .i64 0, .bool false, .slice none 0 0] 54)).heap.size := by simp
  obtain ⟨w1, hw1⟩ : ∃ V : World, V = w.alloc (.cells #[.int .i64 0, .int .i64 0, .int .i64 0, .int .i64 0, .int .i64 0, .bool false, .slice none 0 0] 54) := ⟨_, rfl⟩
  have b1 : Below w.heap.size w w1 := by rw [hw1]; exact (Below.refl _ _).alloc (Nat.le_refl _) _
  have h1 : CodeIn w1 a len cap := codeIn_below h b1
  rw [← hw1] at v1 s1
  go_enter Try.func35, Try.ntmps35
  go_upto_region 1 with fail
  rw [← hw1]
  clear hw1 h
  go_wp2_with fail
  refine (open_any a len cap _ h1).mono ?_
  rintro e w2 ⟨rfl, hr2, hb2⟩
  have v2 := v1.below hb2 s1
  have s2 : w.heap.size < w2.heap.size := Nat.lt_of_lt_of_le s1 hb2.size
  have b2 := b1.trans (hb2.mono b1.size)
  have hz2 := rdAt_lt hr2
  clear v1 h1
  go_wp2_with fail
  refine (l20Shelf_any _ 0 4 15 w2 (by omega) hr2 (by omega) (by omega) (by omega)).mono ?_
  rintro e w3 ⟨S, v, fs, rfl, hg, hl, hsz, hd⟩
  have b3 := drawn_below hd b2 (by omega)
  obtain ⟨sa, caps, rfl, hform, hcap⟩ := hg.form
  obtain ⟨q, hq0, hq1, hr3, hg3⟩ := hd
  have v3 := v2.drawn hg3 s2 (by omega)
  have s3 : w.heap.size < w3.heap.size := Nat.lt_of_lt_of_le s2 hg3.size
  have z23 := hg3.size
  have HG := Lib.hid hg
  clear hg hr2 hg3 hb2 v2
  go_wp2_with fail
  refine (l20Known_any _ q w2.heap.size sa caps S fs w3 hr3 (by omega) HG.out (by omega) hl).mono ?_
  rintro e w4 ⟨n, va, vb, vc, vd, rfl, hd⟩
  have b4 := drawn_below hd b3 (by omega)
  obtain ⟨q4, hq40, hq41, hr4, hg4⟩ := hd
  have v4 := v3.drawn hg4 s3 (by omega)
  have s4 : w.heap.size < w4.heap.size := Nat.lt_of_lt_of_le s3 hg4.size
  have z34 := hg4.size
  have HG4 := Lib.hid (HG.out.drawn hg4 (by omega))
  clear hg4 hr3 v3 HG
  obtain ⟨w5, hw5⟩ : ∃ V : World, V = w4.alloc (.cells #[.int .i64 va, .int .i64 vb, .int .i64 vc, .int .i64 vd] 52) := ⟨_, rfl⟩
  have n5 : Below w4.heap.size w4 w5 := by rw [hw5]; exact (Below.refl _ _).alloc (Nat.le_refl _) _
  have b5 := b4.trans (n5.mono b4.size)
  have z45 : w4.heap.size + 1 ≤ w5.heap.size := by rw [hw5]; simp
  have v5 := v4.below n5 s4
  have p5 : Bx 4 w5 w4.heap.size := by rw [hw5]; exact Bx.new w4 _ _ (by simp)
  have HG5 := Lib.hid (HG4.out.below n5)
  have hr5 := rdAt_below hr4 n5 (by omega)
  have c0 : w5.cell? ⟨w4.heap.size, 0, none⟩ = some (.int .i64 va) := by rw [hw5]; go_simp
  have c1 : w5.cell? ⟨w4.heap.size, 1, none⟩ = some (.int .i64 vb) := by rw [hw5]; go_simp
  have c2 : w5.cell? ⟨w4.heap.size, 2, none⟩ = some (.int .i64 vc) := by rw [hw5]; go_simp
  have c3 : w5.cell? ⟨w4.heap.size, 3, none⟩ = some (.int .i64 vd) := by rw [hw5]; go_simp
  go_upto_region 4 with fail
  rw [← hw5]
  have HK5 := Lib.hid (show ∀ j, w2.heap.size ≤ j → j < w4.heap.size → w5.heap[j]? = w4.heap[j]? from fun j _ hj => n5.block j hj)
  clear hw5 n5 b4 v4 hr4
  go_wp2_with fail
  refine (pick_any _ q4 2 _ hr5 (by omega)).mono ?_
  rintro e w6 ⟨k6, rfl, a0, a1, y1, hr6, hg6⟩
  have b6 := b5.grown hg6 b5.size (fun k hk => by injection hk with hk; omega)
  have v6 := v5.drawn hg6 (by omega) (by omega)
  have p6 := p5.drawn hg6 (by omega) (by omega)
  have z56 := hg6.size
  have HG6 := Lib.hid (HG5.out.drawn hg6 (by omega))
  have d0 := (grownCell (o := 0) hg6 (b := w4.heap.size) (by omega) (by omega)).trans c0
  have d1 := (grownCell (o := 1) hg6 (b := w4.heap.size) (by omega) (by omega)).trans c1
  have d2 := (grownCell (o := 2) hg6 (b := w4.heap.size) (by omega) (by omega)).trans c2
  have d3 := (grownCell (o := 3) hg6 (b := w4.heap.size) (by omega) (by omega)).trans c3
  have HK6 := Lib.hid (show ∀ j, w2.heap.size ≤ j → j < w4.heap.size → w6.heap[j]? = w4.heap[j]? from fun j h1 hj => (hg6.block j (by omega) (fun e => by injection e with e; omega)).trans (HK5.out j h1 hj))
  clear hg6 hr5 b5 v5 p5 HG5 c0 c1 c2 c3 a0 a1 y1
  by_cases hk6 : k6 = 0
  · subst hk6
    go_wp2_with fail
    refine (version_any _ (q4 + 1) 9 _ hr6 (by omega) (by omega) (by omega)).mono ?_
    rintro e w7 ⟨ea, eb, ec, ed, rfl, hx, hd⟩
    have b7 := drawn_below hd b6 (by omega)
    obtain ⟨q7, hq70, hq71, hr7, hg7⟩ := hd
    have v7 := v6.drawn hg7 (by omega) (by omega)
    have p7 := p6.drawn hg7 (by omega) (by omega)
    have z67 := hg7.size
    have HK7 := Lib.hid (show ∀ j, w2.heap.size ≤ j → j < w4.heap.size → w7.heap[j]? = w4.heap[j]? from fun j h1 hj => (hg7.block j (by omega) (fun e => by injection e with e; omega)).trans (HK6.out j h1 hj))
    clear hx hg7 hr6 b6 v6 p6 HG6 d0 d1 d2 d3
    obtain ⟨w8, hw8⟩ : ∃ V : World, V = sets w7 w4.heap.size 0 [.int .i64 ea, .int .i64 eb, .int .i64 ec, .int .i64 ed] := ⟨_, rfl⟩
    have z78 : w8.heap.size = w7.heap.size := by rw [hw8]; exact sets_size ..
    have hr8 : RdAt w8 w1.heap.size q7 := by rw [hw8]; exact rdAt_kept hr7 fun k hk => sets_block _ _ (by omega) ..
    have v8 : Bx 7 w8 w.heap.size := by rw [hw8]; exact v7.kept (sets_block _ _ (by omega) ..)
    have HG8 := Lib.hid (show RGrow w8 w2.heap.size (.slice sa S.length caps) S fs by rw [hw8]; exact rg_kept HG4.out (fun j h1 hj => (sets_block _ j (by omega) _ _ _).trans (HK7.out j h1 hj)) (by rw [sets_size]; omega))
    have b8 : Below w.heap.size w w8 := by rw [hw8]; exact sets_below (by omega) _ _ _ b7
    have U := sets_at (n := 4) (p := w4.heap.size) [.int .i64 ea, .int .i64 eb, .int .i64 ec, .int .i64 ed] w7 0 (by simp) (fun j hj => (p7 j hj).1)
    have d0 : w8.cell? ⟨w4.heap.size, 0, none⟩ = some (.int .i64 ea) := by rw [hw8]; exact U 0 (by simp)
    have d1 : w8.cell? ⟨w4.heap.size, 1, none⟩ = some (.int .i64 eb) := by rw [hw8]; exact U 1 (by simp)
    have d2 : w8.cell? ⟨w4.heap.size, 2, none⟩ = some (.int .i64 ec) := by rw [hw8]; exact U 2 (by simp)
    have d3 : w8.cell? ⟨w4.heap.size, 3, none⟩ = some (.int .i64 ed) := by rw [hw8]; exact U 3 (by simp)
    simp only [sets, Nat.zero_add, Nat.reduceAdd] at hw8
    obtain ⟨⟨j0, t0⟩, fz0⟩ := p7 0 (by decide)
    obtain ⟨⟨j1, t1⟩, fz1⟩ := p7 1 (by decide)
    obtain ⟨⟨j2, t2⟩, fz2⟩ := p7 2 (by decide)
    obtain ⟨⟨j3, t3⟩, fz3⟩ := p7 3 (by decide)
    go_upto_region 6 with fail
    rw [← hw8]
    clear hw8 U p7 v7 hr7 b7 t0 t1 t2 t3 fz0 fz1 fz2 fz3
    have HR := Lib.hid hr8
    have HBX := Lib.hid v8
    have HGX := Lib.hid HG8.out
    have HBL := Lib.hid b8
    have zR : w1.heap.size < w8.heap.size := by omega
    go_wp2_with fail
    go_region_held3 (fun V => V.cell? ⟨w4.heap.size, 0, none⟩ = some (.int .i64 ea) ∧ V.cell? ⟨w4.heap.size, 1, none⟩ = some (.int .i64 eb) ∧ V.cell? ⟨w4.heap.size, 2, none⟩ = some (.int .i64 ec) ∧ V.cell? ⟨w4.heap.size, 3, none⟩ = some (.int .i64 ed)) (go_keep)
      (first
        | (go_at_call 84; refine (pick_any w1.heap.size (q7) 5 _ (by first | exact HR.out | exact rdAt_kept HR.out fun k _ => rfl) (by omega)).mono ?_; rintro e x1 ⟨k5, rfl, a50, a51, y51, hr51, hg51⟩; have hgy : World.grownBy w8 x1 (some w1.heap.size) := ⟨hg51.os, hg51.tape, hg51.output, hg51.size, hg51.block⟩; have zx : w8.heap.size ≤ x1.heap.size := hgy.size; have e0 := (grownCell (o := 0) hgy (b := w4.heap.size) (by omega) (by omega)).trans d0; have e1 := (grownCell (o := 1) hgy (b := w4.heap.size) (by omega) (by omega)).trans d1; have e2 := (grownCell (o := 2) hgy (b := w4.heap.size) (by omega) (by omega)).trans d2; have e3 := (grownCell (o := 3) hgy (b := w4.heap.size) (by omega) (by omega)).trans d3)
        | (go_at_call 86; refine (l20NeedsM_any w1.heap.size (q7 + 1) 5 n 15 _ (by omega) hr51 (by omega) (by omega) (by omega)).mono ?_; rintro e x2 ⟨M, vM, rfl, hown, hm, hm2, hd⟩; obtain ⟨q7, _, _, _, hg7⟩ := hd; obtain ⟨na, ncap, rfl, hxx⟩ := id hown.at; have zy : x1.heap.size ≤ x2.heap.size := hg7.size; have g0 := (grownCell (o := 0) hg7 (b := w4.heap.size) (by omega) (by omega)).trans e0; have g1 := (grownCell (o := 1) hg7 (b := w4.heap.size) (by omega) (by omega)).trans e1; have g2 := (grownCell (o := 2) hg7 (b := w4.heap.size) (by omega) (by omega)).trans e2; have g3 := (grownCell (o := 3) hg7 (b := w4.heap.size) (by omega) (by omega)).trans e3; have HVV := Lib.hid ((HBX.out.drawn hgy (by omega) (by omega)).drawn hg7 (by omega) (by omega)); obtain ⟨⟨j0, t0⟩, fz0⟩ := HVV.out 0 (by decide); obtain ⟨⟨j1, t1⟩, fz1⟩ := HVV.out 1 (by decide); obtain ⟨⟨j2, t2⟩, fz2⟩ := HVV.out 2 (by decide); obtain ⟨⟨j3, t3⟩, fz3⟩ := HVV.out 3 (by decide); obtain ⟨⟨j4, t4⟩, fz4⟩ := HVV.out 4 (by decide); obtain ⟨⟨j5, t5⟩, fz5⟩ := HVV.out 5 (by decide); obtain ⟨⟨j6, t6⟩, fz6⟩ := HVV.out 6 (by decide); have ne1 : w4.heap.size ≠ w.heap.size := (by omega); have ne2 : w.heap.size ≠ w4.heap.size := (by omega))
        | fail)
    all_goals
      have U := sets_at (n := 7) (p := w.heap.size) [.int .i64 n, .int .i64 ea, .int .i64 eb, .int .i64 ec, .int .i64 ed, .bool (k5 == 0), .slice na M.length ncap] x2 0 (by simp) (fun j hj => (HVV.out j hj).1)
      have u0 := U 0 (by simp)
      have u1 := U 1 (by simp)
      have u2 := U 2 (by simp)
      have u3 := U 3 (by simp)
      have u4 := U 4 (by simp)
      have u5 := U 5 (by simp)
      have u6 := U 6 (by simp)
      have HAE := Lib.hid (sets_rows ((HGX.out.drawn hgy (by omega)).drawn hg7 (by omega)) (p := w.heap.size) (by omega) 0 [.int .i64 n, .int .i64 ea, .int .i64 eb, .int .i64 ec, .int .i64 ed, .bool (k5 == 0), .slice na M.length ncap]).at
      have HNE := Lib.hid ((hown.drawn (sets_grown w.heap.size [.int .i64 n, .int .i64 ea, .int .i64 eb, .int .i64 ec, .int .i64 ed, .bool (k5 == 0), .slice na M.length ncap] x2 0) (by omega) (by omega)).at)
      have HBE := Lib.hid (sets_below (Nat.le_refl w.heap.size) [.int .i64 n, .int .i64 ea, .int .i64 eb, .int .i64 ec, .int .i64 ed, .bool (k5 == 0), .slice na M.length ncap] x2 0 ((HBL.out.grown hgy HBL.out.size (fun k hk => by injection hk with hk; omega)).grown hg7 (Nat.le_trans HBL.out.size hgy.size) (fun k hk => by injection hk with hk; omega)))
      simp only [sets, Nat.zero_add, Nat.reduceAdd, List.getElem_cons_zero, List.getElem_cons_succ] at u0 u1 u2 u3 u4 u5 u6
      clear hown hgy hg7 hg51 U
      go_wp2_with fail
      exact bodyPost_ret (v := .tuple #[.slice sa S.length caps, rels n ea eb ec ed (k5 == 0) (.slice na M.length ncap)]) (by simp [results, Try.results35, go_sem, u0, u1, u2, u3, u4, u5, u6]) rfl ⟨S, sa, caps, n, ea, eb, ec, ed, (k5 == 0), M, na, ncap, rfl, HAE.out, hform, hcap, HNE.out, hl, hsz, hm, hm2, HBE.out⟩
  · have hkb : (k6 == 0) = false := by rw [beq_eq_false_iff_ne]; exact hk6
    have HR := Lib.hid hr6
    have HBX := Lib.hid v6
    have HGX := Lib.hid HG6.out
    have HBL := Lib.hid b6
    have zR : w1.heap.size < w6.heap.size := by omega
    go_wp2_with fail
    go_region_held3 (fun V => V.cell? ⟨w4.heap.size, 0, none⟩ = some (.int .i64 va) ∧ V.cell? ⟨w4.heap.size, 1, none⟩ = some (.int .i64 vb) ∧ V.cell? ⟨w4.heap.size, 2, none⟩ = some (.int .i64 vc) ∧ V.cell? ⟨w4.heap.size, 3, none⟩ = some (.int .i64 vd)) (go_keep)
      (first
        | (go_at_call 84; refine (pick_any w1.heap.size (q4 + 1) 5 _ (by first | exact HR.out | exact rdAt_kept HR.out fun k _ => rfl) (by omega)).mono ?_; rintro e x1 ⟨k5, rfl, a50, a51, y51, hr51, hg51⟩; have hgy : World.grownBy w6 x1 (some w1.heap.size) := ⟨hg51.os, hg51.tape, hg51.output, hg51.size, hg51.block⟩; have zx : w6.heap.size ≤ x1.heap.size := hgy.size; have e0 := (grownCell (o := 0) hgy (b := w4.heap.size) (by omega) (by omega)).trans d0; have e1 := (grownCell (o := 1) hgy (b := w4.heap.size) (by omega) (by omega)).trans d1; have e2 := (grownCell (o := 2) hgy (b := w4.heap.size) (by omega) (by omega)).trans d2; have e3 := (grownCell (o := 3) hgy (b := w4.heap.size) (by omega) (by omega)).trans d3)
        | (go_at_call 86; refine (l20NeedsM_any w1.heap.size (q4 + 1 + 1) 5 n 15 _ (by omega) hr51 (by omega) (by omega) (by omega)).mono ?_; rintro e x2 ⟨M, vM, rfl, hown, hm, hm2, hd⟩; obtain ⟨q7, _, _, _, hg7⟩ := hd; obtain ⟨na, ncap, rfl, hxx⟩ := id hown.at; have zy : x1.heap.size ≤ x2.heap.size := hg7.size; have g0 := (grownCell (o := 0) hg7 (b := w4.heap.size) (by omega) (by omega)).trans e0; have g1 := (grownCell (o := 1) hg7 (b := w4.heap.size) (by omega) (by omega)).trans e1; have g2 := (grownCell (o := 2) hg7 (b := w4.heap.size) (by omega) (by omega)).trans e2; have g3 := (grownCell (o := 3) hg7 (b := w4.heap.size) (by omega) (by omega)).trans e3; have HVV := Lib.hid ((HBX.out.drawn hgy (by omega) (by omega)).drawn hg7 (by omega) (by omega)); obtain ⟨⟨j0, t0⟩, fz0⟩ := HVV.out 0 (by decide); obtain ⟨⟨j1, t1⟩, fz1⟩ := HVV.out 1 (by decide); obtain ⟨⟨j2, t2⟩, fz2⟩ := HVV.out 2 (by decide); obtain ⟨⟨j3, t3⟩, fz3⟩ := HVV.out 3 (by decide); obtain ⟨⟨j4, t4⟩, fz4⟩ := HVV.out 4 (by decide); obtain ⟨⟨j5, t5⟩, fz5⟩ := HVV.out 5 (by decide); obtain ⟨⟨j6, t6⟩, fz6⟩ := HVV.out 6 (by decide); have ne1 : w4.heap.size ≠ w.heap.size := (by omega); have ne2 : w.heap.size ≠ w4.heap.size := (by omega))
        | fail)
    all_goals
      have U := sets_at (n := 7) (p := w.heap.size) [.int .i64 n, .int .i64 va, .int .i64 vb, .int .i64 vc, .int .i64 vd, .bool (k5 == 0), .slice na M.length ncap] x2 0 (by simp) (fun j hj => (HVV.out j hj).1)
      have u0 := U 0 (by simp)
      have u1 := U 1 (by simp)
      have u2 := U 2 (by simp)
      have u3 := U 3 (by simp)
      have u4 := U 4 (by simp)
      have u5 := U 5 (by simp)
      have u6 := U 6 (by simp)
      have HAE := Lib.hid (sets_rows ((HGX.out.drawn hgy (by omega)).drawn hg7 (by omega)) (p := w.heap.size) (by omega) 0 [.int .i64 n, .int .i64 va, .int .i64 vb, .int .i64 vc, .int .i64 vd, .bool (k5 == 0), .slice na M.length ncap]).at
      have HNE := Lib.hid ((hown.drawn (sets_grown w.heap.size [.int .i64 n, .int .i64 va, .int .i64 vb, .int .i64 vc, .int .i64 vd, .bool (k5 == 0), .slice na M.length ncap] x2 0) (by omega) (by omega)).at)
      have HBE := Lib.hid (sets_below (Nat.le_refl w.heap.size) [.int .i64 n, .int .i64 va, .int .i64 vb, .int .i64 vc, .int .i64 vd, .bool (k5 == 0), .slice na M.length ncap] x2 0 ((HBL.out.grown hgy HBL.out.size (fun k hk => by injection hk with hk; omega)).grown hg7 (Nat.le_trans HBL.out.size hgy.size) (fun k hk => by injection hk with hk; omega)))
      simp only [sets, Nat.zero_add, Nat.reduceAdd, List.getElem_cons_zero, List.getElem_cons_succ] at u0 u1 u2 u3 u4 u5 u6
      clear hown hgy hg7 hg51 U
      go_wp2_with fail
      exact bodyPost_ret (v := .tuple #[.slice sa S.length caps, rels n va vb vc vd (k5 == 0) (.slice na M.length ncap)]) (by simp [results, Try.results35, go_sem, u0, u1, u2, u3, u4, u5, u6]) rfl ⟨S, sa, caps, n, va, vb, vc, vd, (k5 == 0), M, na, ncap, rfl, HAE.out, hform, hcap, HNE.out, hl, hsz, hm, hm2, HBE.out⟩
end Dpt
end Go.Proofs.Ythbfhalciioehaa
