/- The contract of the program's clashOfRelease where the release and its need are there, over this seat's translation. Nothing that was there before a call has changed. Condition: at most 1048576 releases, needs of each and spans of these. -/
import Derived.Test.YtdhbjjolgmodjaaCue
import Derived.Deep.RegionHeld3
namespace Go.Proofs.Ytdhbjjolgmodjaa
open Go.RowKit Go.Sort

namespace Tmc
open Foot
def BxT (V : World) (g : Nat) : Prop := (V.cell? ⟨g, 0, none⟩ = some (.int .i64 0) ∧ V.cell? ⟨g, 1, none⟩ = some (.slice none 0 0) ∧ V.cell? ⟨g, 2, none⟩ = some (.bool false)) ∧ V.frozen? ⟨g, 0, none⟩ = false ∧ V.frozen? ⟨g, 1, none⟩ = false ∧ V.frozen? ⟨g, 2, none⟩ = false
theorem BxT.new (V : World) : BxT (V.alloc (.cells #[.int .i64 0, .slice none 0 0, .bool false] 83)) V.heap.size := ⟨⟨by go_simp, by go_simp, by go_simp⟩, by go_simp, by go_simp, by go_simp⟩
theorem BxT.kept {V W : World} {g : Nat} (h : BxT V g) (hb : Below V.heap.size V W) (hg : g < V.heap.size) : BxT W g :=
  ⟨⟨(hb.cell (p := ⟨g, 0, none⟩) hg).trans h.1.1, (hb.cell (p := ⟨g, 1, none⟩) hg).trans h.1.2.1, (hb.cell (p := ⟨g, 2, none⟩) hg).trans h.1.2.2⟩, (hb.frozen (p := ⟨g, 0, none⟩) hg).trans h.2.1, (hb.frozen (p := ⟨g, 1, none⟩) hg).trans h.2.2.1, (hb.frozen (p := ⟨g, 2, none⟩) hg).trans h.2.2.2⟩
/-- A box that holds a term, made behind a world, its spans elsewhere. -/
def Box (w2 : World) (x : Int) (R : Sps) (f : Bool) (p : Value) (wx : World) : Prop :=
  ∃ gt oa oc F, p = .pointer (some ⟨gt, 0, none⟩) ∧ w2.heap.size ≤ gt ∧ gt < wx.heap.size ∧ wx.cell? ⟨gt, 0, none⟩ = some (.int .i64 x) ∧ wx.cell? ⟨gt, 1, none⟩ = some (.slice oa R.length oc) ∧ wx.cell? ⟨gt, 2, none⟩ = some (.bool f) ∧
    SpF wx (.slice oa R.length oc) R F ∧ ∀ b ∈ F, w2.heap.size ≤ b
theorem Box.last {w2 w5 : World} {x : Int} {R : Sps} {f : Bool} {oa : Option Addr} {oc base : Nat} (h : SRes R base (.slice oa R.length oc) w5) (hb : w2.heap.size ≤ base) (hw : w2.heap.size ≤ w5.heap.size) :
    Box w2 x R f (.pointer (some ⟨w5.heap.size, 0, none⟩)) (w5.alloc (.cells #[.int .i64 x, .slice oa R.length oc, .bool f] 83)) := by
  obtain ⟨F, hF, hlo⟩ := SpF.of h
  exact ⟨w5.heap.size, oa, oc, F, rfl, hw, by simp, by go_simp, by go_simp, by go_simp, hF.kept fun b hb => ((Below.refl w5.heap.size w5).alloc (Nat.le_refl _) _).block b (hF.lt b hb), fun b k => Nat.le_trans hb (hlo b k)⟩
theorem Box.first {w2 w5 : World} {x : Int} {R : Sps} {f : Bool} {oa : Option Addr} {oc base : Nat} (h : SRes R base (.slice oa R.length oc) w5) (hT : BxT w5 w2.heap.size) (hb : w2.heap.size + 1 ≤ base) (hw : w2.heap.size < w5.heap.size) :
    Box w2 x R f (.pointer (some ⟨w2.heap.size, 0, none⟩)) (((w5.setCell ⟨w2.heap.size, 0, none⟩ (.int .i64 x)).setCell ⟨w2.heap.size, 1, none⟩ (.slice oa R.length oc)).setCell ⟨w2.heap.size, 2, none⟩ (.bool f)) := by
  obtain ⟨F, hF, hlo⟩ := SpF.of h
  obtain ⟨⟨t0, t1, t2⟩, f0, f1, f2⟩ := hT
  refine ⟨w2.heap.size, oa, oc, F, rfl, Nat.le_refl _, by simpa [World.setCell] using hw, by go_simp, by go_simp, by go_simp, hF.kept fun b k => ?_, fun b k => by have := hlo b k; omega⟩
  have := hlo b k
  rw [Below.heap_setCell _ _ _ _ (by show b ≠ w2.heap.size; omega), Below.heap_setCell _ _ _ _ (by show b ≠ w2.heap.size; omega), Below.heap_setCell _ _ _ _ (by show b ≠ w2.heap.size; omega)]

set_option maxRecDepth 100000 in
set_option maxHeartbeats 4000000 in
theorem clashOfRelease_yes (u : Value) (S : List Rel) (K : Int) (k j : Nat) (x va vb vc vd : Int) (g : Bool) (Q : List Nd) (y : Int) (L : Sps) (w : World) (hS : S.length ≤ 1048576) (hQ : Q.length ≤ 1048576) (hL : L.length ≤ 1048576)
    (hxy : S[k]? = some (x, (va, vb, vc, vd), g, Q)) (hyz : Q[j]? = some (y, L)) (h : RlAt w w.heap.size u S) :
    Calls Try.prog 109 #[u, stepV K (k : Int) (j : Int) 0] w (TbPost ((unm (y, L)).map fun t => twoL (x, oneL va vb vc vd, false) t) w) := by
  obtain ⟨sa, sc, rfl, h0⟩ := h
  have hk : k < S.length := (List.getElem?_eq_some_iff.1 hxy).1
  have hxy' := (List.getElem?_eq_some_iff.1 hxy).2
  have hj : j < Q.length := (List.getElem?_eq_some_iff.1 hyz).1
  have hyz' := (List.getElem?_eq_some_iff.1 hyz).2
  rcases h0 with h0 | ⟨b, o, rfl, hB, hc⟩
  · subst h0
    exact absurd hk (by simp)
  obtain ⟨⟨a2, a3, a4, a5, a6, _⟩, ad, cp, a7, hN⟩ := hc k hk
  rw [hxy'] at a2 a3 a4 a5 a6 a7 hN
  simp only at a2 a3 a4 a5 a6 a7 hN
  obtain ⟨ad', cp', e1, hN⟩ := hN
  simp only [Value.slice.injEq] at e1
  obtain ⟨rfl, _, rfl⟩ := e1
  rcases hN with hN | ⟨nb, no, rfl, hnB, hnc⟩
  · subst hN
    exact absurd hj (by simp)
  obtain ⟨a8, la, lc, a9, hs⟩ := hnc j hj
  rw [hyz'] at a8 a9 hs
  simp only at a8 a9 hs
  have HS := Lib.hid hs
  have b1 := (Below.refl w.heap.size w).alloc (Nat.le_refl _) (.cells #[.int .i64 K, .int .i64 (k : Int), .int .i64 (j : Int), .int .i64 0] 48)
  obtain ⟨w1, hw1⟩ : ∃ V : World, V = w.alloc (.cells #[.int .i64 K, .int .i64 (k : Int), .int .i64 (j : Int), .int .i64 0] 48) := ⟨_, rfl⟩
  rw [← hw1] at b1
  have z1 : w.heap.size < w1.heap.size := by rw [hw1]; simp
  have p0 : w1.cell? ⟨w.heap.size, 1, none⟩ = some (.int .i64 (k : Int)) := by rw [hw1]; go_simp
  have p1 : w1.cell? ⟨w.heap.size, 2, none⟩ = some (.int .i64 (j : Int)) := by rw [hw1]; go_simp
  have p3 : w1.cell? ⟨w.heap.size, 3, none⟩ = some (.int .i64 0) := by rw [hw1]; go_simp
  have p7 := (b1.cell (p := ⟨b, o + k * 7 + 6, none⟩) hB).trans a7
  have v1 := cell_regrown p0
  have v2 := cell_regrown p1
  have v3 := cell_regrown p3
  have v6 := cell_regrown p7
  have h1b : decide ((k : Int) < 0) = false := decide_eq_false (by omega)
  have h2b : decide ((S.length : Int) ≤ (k : Int)) = false := decide_eq_false (by omega)
  have h3b : decide ((j : Int) < 0) = false := decide_eq_false (by omega)
  have h4b : decide ((Q.length : Int) ≤ (j : Int)) = false := decide_eq_false (by omega)
  have i0 : (0 : Int) ≤ (k : Int) := by omega
  have i1 : (k : Int) < (S.length : Int) := by omega
  have i2 : (0 : Int) ≤ (j : Int) := by omega
  have i3 : (j : Int) < (Q.length : Int) := by omega
  clear hxy hyz hxy' hyz' hc hnc hs
  go_enter Try.func109, Try.ntmps109
  go_upto_region 1 with fail
  rw [← hw1]
  clear hw1
  refine wp_region_quiet_below (by kernel_rfl) (by kernel_rfl) ?_
  repeat (any_goals (first | go_big_quiet_step (fail) | quiet_step (fail)))
  refine wpQuiet_nil ?_
  intro w2 hw2
  have nn := quiet_end hw2
  clear hw2 v1 v2 v3 v6
  have z2 : w1.heap.size ≤ w2.heap.size := nn.size
  have bb := b1.trans (nn.mono b1.size)
  have zz : w.heap.size < w2.heap.size := by omega
  have zb : b < w2.heap.size := by omega
  have zn : nb < w2.heap.size := by omega
  have zza := Nat.ne_of_lt zz
  have zzb := (Nat.ne_of_lt zz).symm
  have zba := Nat.ne_of_lt zb
  have zbb := (Nat.ne_of_lt zb).symm
  have zna := Nat.ne_of_lt zn
  have znb := (Nat.ne_of_lt zn).symm
  have d0 := (nn.cell (p := ⟨w.heap.size, 1, none⟩) z1).trans p0
  have d1 := (nn.cell (p := ⟨w.heap.size, 2, none⟩) z1).trans p1
  have d2 := (bb.cell (p := ⟨b, o + k * 7, none⟩) hB).trans a2
  have d3 := (bb.cell (p := ⟨b, o + k * 7 + 1, none⟩) hB).trans a3
  have d4 := (bb.cell (p := ⟨b, o + k * 7 + 2, none⟩) hB).trans a4
  have d5 := (bb.cell (p := ⟨b, o + k * 7 + 3, none⟩) hB).trans a5
  have d6 := (bb.cell (p := ⟨b, o + k * 7 + 4, none⟩) hB).trans a6
  have d7 := (bb.cell (p := ⟨b, o + k * 7 + 6, none⟩) hB).trans a7
  have d8 := (bb.cell (p := ⟨nb, no + j * 2, none⟩) hnB).trans a8
  have d9 := (bb.cell (p := ⟨nb, no + j * 2 + 1, none⟩) hnB).trans a9
  clear p0 p1 p3 p7 a2 a3 a4 a5 a6 a7 a8 a9 b1 nn
  have HB := Lib.hid bb
  have HS2 := Lib.hid ((HS.out.below bb).mono bb.size)
  clear bb
  go_upto_region 3 with fail
  go_cut [6] from 9 (fun p wx => Box w2 x (oneL va vb vc vd) false p wx ∧ Below w2.heap.size w2 wx)
  case first =>
    go_region_held3 (fun V => V.cell? ⟨w.heap.size, 1, none⟩ = some (.int .i64 (k : Int)) ∧ V.cell? ⟨w.heap.size, 2, none⟩ = some (.int .i64 (j : Int)) ∧ V.cell? ⟨b, o + k * 7, none⟩ = some (.int .i64 x) ∧ V.cell? ⟨b, o + k * 7 + 1, none⟩ = some (.int .i64 va) ∧ V.cell? ⟨b, o + k * 7 + 2, none⟩ = some (.int .i64 vb) ∧ V.cell? ⟨b, o + k * 7 + 3, none⟩ = some (.int .i64 vc) ∧ V.cell? ⟨b, o + k * 7 + 4, none⟩ = some (.int .i64 vd)) (go_keep)
      (first
        | (go_at_call 136; refine (implOne_any va vb vc vd _).mono ?_; rintro e w5 ⟨v5, rfl, q5, hb5⟩; obtain ⟨oa, oc, rfl, _⟩ := id q5; have n5 : Below w2.heap.size w2 w5 := Below.step (by go_grown) hb5; have z5 := n5.size; have z5b := hb5.size; (try simp at z5b); have y0 := (n5.cell (p := ⟨w.heap.size, 1, none⟩) zz).trans d0; have y1 := (n5.cell (p := ⟨w.heap.size, 2, none⟩) zz).trans d1; have y2 := (n5.cell (p := ⟨b, o + k * 7, none⟩) zb).trans d2; have y3 := (n5.cell (p := ⟨b, o + k * 7 + 1, none⟩) zb).trans d3; have y4 := (n5.cell (p := ⟨b, o + k * 7 + 2, none⟩) zb).trans d4; have y5 := (n5.cell (p := ⟨b, o + k * 7 + 3, none⟩) zb).trans d5; have y6 := (n5.cell (p := ⟨b, o + k * 7 + 4, none⟩) zb).trans d6; (try (have T5 : BxT w5 w2.heap.size := BxT.kept (by first | exact BxT.new w2 | exact BxT.new w2.drew) hb5 (by first | (simp; done) | (simp; omega)))); (try (obtain ⟨⟨t0, t1, t2⟩, f0, f1, f2⟩ := id T5)); have HQ5 := Lib.hid q5; have HN5 := Lib.hid n5; clear q5 hb5 n5))
    all_goals
      have hn5 := HN5.out
      go_wp2_with fail
      go_meet
      case rel =>
        first
          | exact ⟨Box.first HQ5.out T5 (by first | omega | (simp; done) | (simp; omega)) (by omega), by go_grown⟩
          | exact ⟨Box.last HQ5.out (by first | omega | (simp; done) | (simp; omega)) (by omega), by go_grown⟩
  case rest =>
    rename World => w6
    obtain ⟨⟨gt, oa, oc, F, rfl, g1, g2, g3, g4, g5, hF, hlo⟩, n6⟩ := hcut
    have s6 := n6.size
    have yz : w.heap.size < w6.heap.size := by omega
    have yb : b < w6.heap.size := by omega
    have yn : nb < w6.heap.size := by omega
    have yza := Nat.ne_of_lt yz
    have yzb := (Nat.ne_of_lt yz).symm
    have yba := Nat.ne_of_lt yb
    have ybb := (Nat.ne_of_lt yb).symm
    have yna := Nat.ne_of_lt yn
    have ynb := (Nat.ne_of_lt yn).symm
    have g2a := Nat.ne_of_lt g2
    have g2b := (Nat.ne_of_lt g2).symm
    have e0 := (n6.cell (p := ⟨w.heap.size, 1, none⟩) zz).trans d0
    have e1 := (n6.cell (p := ⟨w.heap.size, 2, none⟩) zz).trans d1
    have e7 := (n6.cell (p := ⟨b, o + k * 7 + 6, none⟩) zb).trans d7
    have e8 := (n6.cell (p := ⟨nb, no + j * 2, none⟩) zn).trans d8
    have e9 := (n6.cell (p := ⟨nb, no + j * 2 + 1, none⟩) zn).trans d9
    have HB6 := Lib.hid (HB.out.trans (n6.mono HB.out.size))
    have HS6 := Lib.hid ((HS2.out.below n6).mono n6.size)
    clear n6 d0 d1 d2 d3 d4 d5 d6 d7 d8 d9 zza zzb zba zbb zna znb
    go_upto_region 4 with fail
    rcases hok : notOk L
    · have HU := Lib.hid (show ((unm (y, L)).map fun t => twoL (x, oneL va vb vc vd, false) t) = none by unfold unm; simp only; rw [hok]; rfl)
      have KU : Hid (∀ V, SpAt V V.heap.size (.slice la L.length lc) L → Calls Try.prog 135 #[.agg #[.int .i64 y, .slice la L.length lc]] V fun e w' => e = .returned (.tuple #[term 0 (.slice none 0 0) false, .bool false]) ∧ Below V.heap.size V w') := Lib.hid fun V g => unmet_no y _ L V hL hok g
      clear hok
      go_region_held3 (fun V => V.cell? ⟨w.heap.size, 1, none⟩ = some (.int .i64 (k : Int)) ∧ V.cell? ⟨w.heap.size, 2, none⟩ = some (.int .i64 (j : Int)) ∧ V.cell? ⟨b, o + k * 7 + 6, none⟩ = some (.slice (some ⟨nb, no, none⟩) Q.length cp) ∧ V.cell? ⟨nb, no + j * 2, none⟩ = some (.int .i64 y) ∧ V.cell? ⟨nb, no + j * 2 + 1, none⟩ = some (.slice la L.length lc)) (go_keep)
        (first
          | (go_at_call 135; refine (KU.out _ (((HS6.out.below (by go_grown)).mono (by go_grown)))).mono ?_; rintro e w7 ⟨rfl, hb7⟩; have n7 : Below w6.heap.size w6 w7 := Below.step (by go_grown) hb7; have z7 := n7.size; have z7b := hb7.size; (try simp at z7b); have k0 := (n7.cell (p := ⟨w.heap.size, 1, none⟩) yz).trans e0; have k1 := (n7.cell (p := ⟨w.heap.size, 2, none⟩) yz).trans e1; have k7 := (n7.cell (p := ⟨b, o + k * 7 + 6, none⟩) yb).trans e7; have k8 := (n7.cell (p := ⟨nb, no + j * 2, none⟩) yn).trans e8; have k9 := (n7.cell (p := ⟨nb, no + j * 2 + 1, none⟩) yn).trans e9; (try (have T7 : BxT w7 w6.heap.size := BxT.kept (by first | exact BxT.new w6 | exact BxT.new w6.drew) hb7 (by first | (simp; done) | (simp; omega)))); (try (obtain ⟨⟨t0, t1, t2⟩, f0, f1, f2⟩ := id T7)); have HN7 := Lib.hid n7; clear hb7 n7))
      all_goals
        have hn7 := HN7.out
        have hb6 := HB6.out
        have hbz := hb6.trans (hn7.mono hb6.size)
        have z8 : w.heap.size ≤ w7.heap.size := hbz.size
        clear hn7 hb6
        go_wp2_with fail
        exact bodyPost_ret (v := .tuple #[.slice none 0 0, .bool false]) (by simp [results, Try.results109, go_sem]) rfl ⟨_, by rw [HU.out]; rfl, by rw [HU.out]; exact TmB.nil _ _ _ _ _, by go_grown⟩
    · have HU := Lib.hid (show ((unm (y, L)).map fun t => twoL (x, oneL va vb vc vd, false) t) = some (twoL (x, oneL va vb vc vd, false) (y, notR L, true)) by unfold unm; simp only; rw [hok]; rfl)
      have KU : Hid (∀ V, SpAt V V.heap.size (.slice la L.length lc) L → Calls Try.prog 135 #[.agg #[.int .i64 y, .slice la L.length lc]] V fun e w' => ∃ v, e = .returned (.tuple #[term y v true, .bool true]) ∧ SRes (notR L) V.heap.size v w' ∧ Below V.heap.size V w') := Lib.hid fun V g => unmet_yes y _ L V hL hok g
      clear hok
      go_cut [7, 8] from 9 (fun p q wx => q = .bool true ∧ Box w6 y (notR L) true p wx ∧ Below w6.heap.size w6 wx)
      case first =>
        go_region_held3 (fun V => V.cell? ⟨w.heap.size, 1, none⟩ = some (.int .i64 (k : Int)) ∧ V.cell? ⟨w.heap.size, 2, none⟩ = some (.int .i64 (j : Int)) ∧ V.cell? ⟨b, o + k * 7 + 6, none⟩ = some (.slice (some ⟨nb, no, none⟩) Q.length cp) ∧ V.cell? ⟨nb, no + j * 2, none⟩ = some (.int .i64 y) ∧ V.cell? ⟨nb, no + j * 2 + 1, none⟩ = some (.slice la L.length lc)) (go_keep)
          (first
            | (go_at_call 135; refine (KU.out _ (((HS6.out.below (by go_grown)).mono (by go_grown)))).mono ?_; rintro e w7 ⟨v7, rfl, q7, hb7⟩; obtain ⟨pa, pc, rfl, _⟩ := id q7; have n7 : Below w6.heap.size w6 w7 := Below.step (by go_grown) hb7; have z7 := n7.size; have z7b := hb7.size; (try simp at z7b); have k0 := (n7.cell (p := ⟨w.heap.size, 1, none⟩) yz).trans e0; have k1 := (n7.cell (p := ⟨w.heap.size, 2, none⟩) yz).trans e1; have k7 := (n7.cell (p := ⟨b, o + k * 7 + 6, none⟩) yb).trans e7; have k8 := (n7.cell (p := ⟨nb, no + j * 2, none⟩) yn).trans e8; have k9 := (n7.cell (p := ⟨nb, no + j * 2 + 1, none⟩) yn).trans e9; (try (have T7 : BxT w7 w6.heap.size := BxT.kept (by first | exact BxT.new w6 | exact BxT.new w6.drew) hb7 (by first | (simp; done) | (simp; omega)))); (try (obtain ⟨⟨t0, t1, t2⟩, f0, f1, f2⟩ := id T7)); have HQ7 := Lib.hid q7; have HN7 := Lib.hid n7; clear q7 hb7 n7))
        all_goals
          have hn7 := HN7.out
          go_wp2_with fail
          go_meet
          case rel =>
            first
              | exact ⟨rfl, Box.first HQ7.out T7 (by first | omega | (simp; done) | (simp; omega)) (by omega), by go_grown⟩
              | exact ⟨rfl, Box.last HQ7.out (by first | omega | (simp; done) | (simp; omega)) (by omega), by go_grown⟩
      case rest =>
        rename World => w8
        obtain ⟨rfl, ⟨gt2, oa2, oc2, F2, rfl, r1, r2, r3, r4, r5, hF2, hlo2⟩, n8⟩ := hcut
        have s8 := n8.size
        have hFl := Lib.hid hF.lt
        have hF8 := hF.kept fun q hq => n8.block q (hF.lt q hq)
        have c3 := (n8.cell (p := ⟨gt, 0, none⟩) g2).trans g3
        have c4 := (n8.cell (p := ⟨gt, 1, none⟩) g2).trans g4
        have c5 := (n8.cell (p := ⟨gt, 2, none⟩) g2).trans g5
        have HB8 := Lib.hid (HB6.out.trans (n8.mono HB6.out.size))
        have yg : gt < w8.heap.size := by omega
        clear n8 g3 g4 g5 hF e0 e1 e7 e8 e9
        by_cases hyx : y < x
        · have HT := Lib.hid (made_two (x := y) (y := x) (f := true) (g := false) (cap := 2) (B := w.heap.size) hF2 hF8 (fun q hq => by have := hlo2 q hq; omega) (fun q hq => by have := hlo q hq; omega) (fun q h1 h2 => by have := hlo2 q h1; have := hFl.out q h2; omega) (by omega))
          have hsz : ∀ ob : Obj, (w8.alloc ob).heap.size = w8.heap.size + 1 := fun ob => by simp
          have hbz := HB8.out
          have z8 : w.heap.size ≤ w8.heap.size := hbz.size
          clear hF8 hF2 hlo hlo2
          go_wp2_with fail
          exact bodyPost_ret (v := .tuple #[.slice (some ⟨w8.heap.size, 0, none⟩) 2 2, .bool true]) (by simp [results, Try.results109, go_sem]) rfl ⟨_, by rw [HU.out]; rfl, by
            rw [HU.out, hsz]
            unfold twoL
            rw [if_pos hyx]
            exact HT.out, by go_grown⟩
        · have HT := Lib.hid (made_two (x := x) (y := y) (f := false) (g := true) (cap := 2) (B := w.heap.size) hF8 hF2 (fun q hq => by have := hlo q hq; omega) (fun q hq => by have := hlo2 q hq; omega) (fun q h1 h2 => by have := hlo2 q h2; have := hFl.out q h1; omega) (by omega))
          have hsz : ∀ ob : Obj, (w8.alloc ob).heap.size = w8.heap.size + 1 := fun ob => by simp
          have hbz := HB8.out
          have z8 : w.heap.size ≤ w8.heap.size := hbz.size
          clear hF8 hF2 hlo hlo2
          go_wp2_with fail
          exact bodyPost_ret (v := .tuple #[.slice (some ⟨w8.heap.size, 0, none⟩) 2 2, .bool true]) (by simp [results, Try.results109, go_sem]) rfl ⟨_, by rw [HU.out]; rfl, by
            rw [HU.out, hsz]
            unfold twoL
            rw [if_neg (by simpa using (by omega : ¬ y < x))]
            exact HT.out, by go_grown⟩
end Tmc
end Go.Proofs.Ytdhbjjolgmodjaa
