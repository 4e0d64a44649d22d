/- The contract of the model's draw of a shelf and a need, over this seat's translation: whatever is drawn, at most 31 releases, and a need of at most three spans; nothing that was there has changed. Condition: the code is readable. -/
import Derived.Deep.RegionHeld3
import Derived.Test.YtjnmkkcdcacakaaDshelf
import Derived.Test.YtjnmkkcdcacakaaGe
namespace Go.Proofs.Ytjnmkkcdcacakaa
open Go.RowKit Go.Sort

namespace Dfi
open Foot Dsh
/-- A block with two cells that can be written. -/
def BX (W : World) (p : Nat) : Prop := ∃ x0 x1, W.cell? ⟨p, 0, none⟩ = some x0 ∧ W.cell? ⟨p, 1, none⟩ = some x1 ∧ W.frozen? ⟨p, 0, none⟩ = false ∧ W.frozen? ⟨p, 1, none⟩ = false
theorem BX.below {W V : World} {B p : Nat} (h : BX W p) (hb : Below B W V) (hp : p < B) : BX V p := by
  obtain ⟨x0, x1, h0, h1, f0, f1⟩ := h
  exact ⟨x0, x1, (hb.cell (p := ⟨p, 0, none⟩) hp).trans h0, (hb.cell (p := ⟨p, 1, none⟩) hp).trans h1, (hb.frozen (p := ⟨p, 0, none⟩) hp).trans f0, (hb.frozen (p := ⟨p, 1, none⟩) hp).trans f1⟩
theorem BX.drawn {W V : World} {p R : Nat} (h : BX W p) (hg : W.grownBy V (some R)) (hp : p < W.heap.size) (hne : p ≠ R) : BX V p := by
  obtain ⟨x0, x1, h0, h1, f0, f1⟩ := h
  have hb := hg.block p hp (fun e => by injection e with e; exact hne e)
  exact ⟨x0, x1, (World.cell?_of_block hb).trans h0, (World.cell?_of_block hb).trans h1, (World.frozen?_of_block hb).trans f0, (World.frozen?_of_block hb).trans f1⟩
theorem BX.new (w : World) (a b : Value) : BX (w.alloc (.cells #[a, b] 37)) w.heap.size := by
  have h := heap_alloc_new w (.cells #[a, b] 37)
  exact ⟨a, b, (cell_of_row _ _ 0 _ _ (0, 0) h).trans rfl, (cell_of_row _ _ 1 _ _ (0, 0) h).trans rfl, by simp only [World.frozen?, h]; rfl, by simp only [World.frozen?, h]; rfl⟩
theorem BX.other {W : World} {p b o : Nat} (h : BX W p) (hne : p ≠ b) (x : Value) : BX (W.setCell ⟨b, o, none⟩ x) p := by
  obtain ⟨x0, x1, h0, h1, f0, f1⟩ := h
  have hb := Below.heap_setCell W ⟨b, o, none⟩ x p hne
  exact ⟨x0, x1, (World.cell?_of_block hb).trans h0, (World.cell?_of_block hb).trans h1, (World.frozen?_of_block hb).trans f0, (World.frozen?_of_block hb).trans f1⟩
theorem BX.stored {W : World} {p : Nat} (h : BX W p) (a b : Value) : ((W.setCell ⟨p, 0, none⟩ a).setCell ⟨p, 1, none⟩ b).cell? ⟨p, 0, none⟩ = some a ∧ ((W.setCell ⟨p, 0, none⟩ a).setCell ⟨p, 1, none⟩ b).cell? ⟨p, 1, none⟩ = some b := by
  obtain ⟨x0, x1, h0, h1, _⟩ := h
  have o : ∀ (V : World) (i j : Nat) (x : Value), i ≠ j → (V.setCell ⟨p, i, none⟩ x).cell? ⟨p, j, none⟩ = V.cell? ⟨p, j, none⟩ := fun V i j x h => World.cell?_setCell_other (h := fun e => h (Addr.mk.inj e).2.1) ..
  have s : ∀ (V : World) (i : Nat) (x u : Value), V.cell? ⟨p, i, none⟩ = some u → (V.setCell ⟨p, i, none⟩ x).cell? ⟨p, i, none⟩ = some x := fun V i x u h => World.cell?_setCell_same (h := h) ..
  refine ⟨?_, ?_⟩
  · rw [o _ 1 0 _ (by decide)]
    exact s _ _ _ _ h0
  · exact s _ _ _ _ ((o _ 0 1 _ (by decide)).trans h1)
theorem two_block {W : World} {p j : Nat} (a b : Value) (h : j ≠ p) : ((W.setCell ⟨p, 0, none⟩ a).setCell ⟨p, 1, none⟩ b).heap[j]? = W.heap[j]? := (Below.heap_setCell _ ⟨p, 1, none⟩ b j h).trans (Below.heap_setCell _ ⟨p, 0, none⟩ a j h)
theorem two_size {W : World} {p : Nat} (a b : Value) : ((W.setCell ⟨p, 0, none⟩ a).setCell ⟨p, 1, none⟩ b).heap.size = W.heap.size := by simp [World.setCell]
theorem RGrow_two {V : World} {B p : Nat} {v : Value} {S : List Rel} {fs : List (List Nat)} (h : RGrow V B v S fs) (hp : p < B) (a b : Value) : RGrow ((V.setCell ⟨p, 0, none⟩ a).setCell ⟨p, 1, none⟩ b) B v S fs := by
  obtain ⟨cs, ho, he, hn, hi⟩ := h
  exact ⟨cs, Copy.own_kept ho (fun k e' => two_block a b (by have := (World.ownsRow.lt ho k e').1; omega)), he.kept fun j k => two_block a b (by have := (hi j k).1; omega), hn, fun j k => ⟨(hi j k).1, by rw [two_size]; exact (hi j k).2.1, (hi j k).2.2⟩⟩
theorem SRes_two {V : World} {B p : Nat} {v : Value} {L : Sps} (h : SRes L B v V) (hp : p < B) (a b : Value) : SRes L B v ((V.setCell ⟨p, 0, none⟩ a).setCell ⟨p, 1, none⟩ b) := h.kept fun g hg _ => two_block a b (by omega)
theorem SRes_drawn {W V : World} {B R : Nat} {v : Value} {L : Sps} (h : SRes L B v W) (hg : W.grownBy V (some R)) (hR : R < B) : SRes L B v V := h.kept fun g hb hl => hg.block g hl (fun e => by injection e with e; omega)
def AnyFits (w : World) (e : Ending) (w' : World) : Prop := ∃ S sa caps, ∃ n : Int, ∃ L la lc, e = .returned (.tuple #[.slice sa S.length caps, .agg #[.int .i64 n, .slice la L.length lc]]) ∧ RlAt w' w'.heap.size (.slice sa S.length caps) S ∧ SpAt w' w'.heap.size (.slice la L.length lc) L ∧ S.length ≤ 31 ∧ SzOk S ∧ L.length ≤ 3 ∧ Below w.heap.size w w'
/-- The same, all of it in blocks behind the first one that the call makes. -/
def AnyFitsG (w : World) (e : Ending) (w' : World) : Prop := ∃ S sa caps, ∃ n : Int, ∃ L la lc fs, e = .returned (.tuple #[.slice sa S.length caps, .agg #[.int .i64 n, .slice la L.length lc]]) ∧ RGrow w' (w.heap.size + 1) (.slice sa S.length caps) S fs ∧ SRes L (w.heap.size + 1) (.slice la L.length lc) w' ∧ S.length ≤ 31 ∧ SzOk S ∧ L.length ≤ 3 ∧ Below w.heap.size w w'
theorem rgrow_down {w : World} {B B' : Nat} {v : Value} {S : List Rel} {fs : List (List Nat)} (h : RGrow w B v S fs) (hB : B' ≤ B) : RGrow w B' v S fs := by
  obtain ⟨cs, ⟨hl, ho⟩, he, hn, hi⟩ := h
  refine ⟨cs, ⟨hl, ?_⟩, he, hn, fun b k => ⟨by have := (hi b k).1; omega, (hi b k).2⟩⟩
  rcases ho with h | ⟨g, c, cur, hv, hb, rest⟩
  · exact .inl h
  · exact .inr ⟨g, c, cur, hv, by omega, rest⟩
/-- The two odd needs of the model's table. -/
theorem tab_fit {W : World} {g k : Nat} (h : k < 2) (hs : SRes [(-1, 0)] g (.slice (some ⟨g, 0, none⟩) 1 1) W) :
    ∃ (y : Int) (a : Option Addr) (c : Nat) (L : Sps), (#[.int .i64 (-1), .slice none 0 0, .int .i64 1, .slice (some ⟨g, 0, none⟩) 1 1] : Array Value)[k * 2]? = some (.int .i64 y) ∧ (#[.int .i64 (-1), .slice none 0 0, .int .i64 1, .slice (some ⟨g, 0, none⟩) 1 1] : Array Value)[k * 2 + 1]? = some (.slice a L.length c) ∧ SRes L g (.slice a L.length c) W ∧ L.length ≤ 3 := by
  have : k = 0 ∨ k = 1 := by omega
  rcases this with rfl | rfl
  · exact ⟨-1, none, 0, [], rfl, rfl, ⟨none, 0, rfl, .inl rfl⟩, by simp⟩
  · exact ⟨1, _, _, [(-1, 0)], rfl, rfl, hs, by simp⟩

set_option maxRecDepth 100000 in
set_option maxHeartbeats 4000000 in
theorem DrawShelfFits_grow (a : Option Addr) (len cap : Nat) (w : World) (h : CodeIn w a len cap) : Calls Try.prog 76 #[.slice a len cap] w (AnyFitsG w) := by
  have v1 : BX (w.alloc (.cells #[.int .i64 0, .slice none 0 0] 37)) w.heap.size := BX.new w _ _
  have s1 : w.heap.size < (w.alloc (.cells #[.int .i64 0, .slice none 0 0] 37)).heap.size := by simp
  obtain ⟨w1, hw1⟩ : ∃ V : World, V = w.alloc (.cells #[.int .i64 0, .slice none 0 0] 37) := ⟨_, rfl⟩
  have b1 : Below w.heap.size w w1 := by rw [hw1]; exact (Below.refl _ _).alloc (Nat.le_refl _) _
  have h1 : CodeIn w1 a len cap := codeIn_below h b1
  rw [← hw1] at v1 s1
  go_enter Try.func76, Try.ntmps76
  go_upto_region 1 with fail
  rw [← hw1]
  clear hw1 h
  go_wp2_with fail
  refine (open_any a len cap _ h1).mono ?_
  rintro e w2 ⟨rfl, hr2, hb2⟩
  have v2 := v1.below hb2 s1
  have s2 : w.heap.size < w2.heap.size := Nat.lt_of_lt_of_le s1 hb2.size
  have b2 := b1.trans (hb2.mono b1.size)
  have hz2 := rdAt_lt hr2
  clear v1 h1 hb2
  go_wp2_with fail
  refine (pick_any _ 0 5 _ hr2 (by omega)).mono ?_
  rintro e w3 ⟨k5, rfl, a0, a1, y1, hr3, hg3⟩
  have v3 := v2.drawn hg3 s2 (by omega)
  have b3 := b2.grown hg3 b2.size (fun k hk => by injection hk with hk; omega)
  have z23 := hg3.size
  clear y1 hr2 hg3 b2 v2 a0 a1
  go_wp2_with fail
  refine (l20Near_any _ (0 + 1) _ hr3 (by omega)).mono ?_
  rintro e w4 ⟨L0, u0, rfl, hsr, hL0, hd⟩
  have b4 := drawn_below hd b3 (by omega)
  obtain ⟨q4, hq40, hq41, hr4, hg4⟩ := hd
  have v4 := v3.drawn hg4 (by omega) (by omega)
  have z34 := hg4.size
  have hs4 := hsr.mono z23
  obtain ⟨la0, lc0, rfl, hx⟩ := id hsr
  clear hx hsr hr3 hg4 b3 v3
  obtain ⟨w5, hw5⟩ : ∃ V : World, V = w4.alloc (.cells #[.int .i64 k5, .slice la0 L0.length lc0] 37) := ⟨_, rfl⟩
  have n5 : Below w4.heap.size w4 w5 := by rw [hw5]; exact (Below.refl _ _).alloc (Nat.le_refl _) _
  have b5 := b4.trans (n5.mono b4.size)
  have z45 : w4.heap.size + 1 ≤ w5.heap.size := by rw [hw5]; simp
  have v5 := v4.below n5 (by omega)
  have p5 : BX w5 w4.heap.size := by rw [hw5]; exact BX.new w4 _ _
  have d0 : w5.cell? ⟨w4.heap.size, 0, none⟩ = some (.int .i64 k5) := by rw [hw5]; go_simp
  have d1 : w5.cell? ⟨w4.heap.size, 1, none⟩ = some (.slice la0 L0.length lc0) := by rw [hw5]; go_simp
  have hs5 := hs4.below n5
  have hr5 := rdAt_below hr4 n5 (by omega)
  go_upto_region 3 with fail
  rw [← hw5]
  clear hw5 n5 b4 v4 hs4 hr4
  go_wp2_with fail
  refine (odd_any _ q4 12 _ hr5 (by omega) (by omega) (by omega)).mono ?_
  rintro e w6 ⟨o, rfl, hx, hd⟩
  have b6 := drawn_below hd b5 (by omega)
  obtain ⟨q6, hq60, hq61, hr6, hg6⟩ := hd
  have v6 := v5.drawn hg6 (by omega) (by omega)
  have p6 := p5.drawn hg6 (by omega) (by omega)
  have hs6 := SRes_drawn hs5 hg6 (by omega)
  have e0 := (grownCell hg6 (b := w4.heap.size) (by omega) (by omega)).trans d0
  have e1 := (grownCell hg6 (b := w4.heap.size) (by omega) (by omega)).trans d1
  have z56 := hg6.size
  clear hx hr5 hg6 b5 v5 p5 hs5 d0 d1
  cases o
  · clear p6
    have HR := Lib.hid hr6
    have HBX := Lib.hid v6
    have HSX := Lib.hid hs6
    have HBL := Lib.hid b6
    go_upto_region 5 with fail
    go_region_held3 (fun V => V.cell? ⟨w4.heap.size, 0, none⟩ = some (.int .i64 k5) ∧ V.cell? ⟨w4.heap.size, 1, none⟩ = some (.slice la0 L0.length lc0)) (go_keep)
      (first
        | (go_at_call 80; refine (l20Shelf_any w1.heap.size q6 4 15 _ (by omega) (by first | exact HR.out | exact rdAt_kept HR.out fun k _ => rfl) (by omega) (by omega) (by omega)).mono ?_; rintro e wx ⟨S, v, fs, rfl, hg, hl, hsz, hd⟩; obtain ⟨qx, _, _, _, hgx⟩ := hd; obtain ⟨sa, caps, rfl, hform, hcap⟩ := hg.form; have zx : w6.heap.size ≤ wx.heap.size := hgx.size; have r0 : wx.cell? ⟨w4.heap.size, 0, none⟩ = some (.int .i64 k5) := (grownCell hgx (b := w4.heap.size) (show w4.heap.size < w6.heap.size by omega) (by omega)).trans e0; have r1 : wx.cell? ⟨w4.heap.size, 1, none⟩ = some (.slice la0 L0.length lc0) := (grownCell hgx (b := w4.heap.size) (show w4.heap.size < w6.heap.size by omega) (by omega)).trans e1; have hgy : w6.grownBy wx (some w1.heap.size) := ⟨hgx.os, hgx.tape, hgx.output, hgx.size, hgx.block⟩; have HVV := Lib.hid (HBX.out.drawn hgy (by omega) (by omega)); obtain ⟨x0, x1, y0, y1, f0, f1⟩ := HVV.out; have ne1 : w4.heap.size ≠ w.heap.size := (by omega); have ne2 : w.heap.size ≠ w4.heap.size := (by omega))
        | fail)
    all_goals
      have HG := Lib.hid hg
      obtain ⟨u0, u1⟩ := HVV.out.stored (.int .i64 k5) (.slice la0 L0.length lc0)
      have HAE := Lib.hid (rgrow_down (B' := w.heap.size + 1) (RGrow_two HG.out (p := w.heap.size) (show w.heap.size < w6.heap.size by omega) (.int .i64 k5) (.slice la0 L0.length lc0)) (show w.heap.size + 1 ≤ w6.heap.size by omega))
      have HSE := Lib.hid ((SRes_two (SRes_drawn HSX.out hgy (by omega)) (p := w.heap.size) (by omega) (.int .i64 k5) (.slice la0 L0.length lc0)).mono (base' := w.heap.size + 1) (by omega))
      have HBE := Lib.hid (((HBL.out.grown hgy HBL.out.size (fun k hk => by injection hk with hk; omega)).setCell (p := ⟨w.heap.size, 0, none⟩) (Nat.le_refl _) (.int .i64 k5)).setCell (p := ⟨w.heap.size, 1, none⟩) (Nat.le_refl _) (.slice la0 L0.length lc0))
      clear hg hgx
      go_wp2_with fail
      exact bodyPost_ret (v := .tuple #[.slice sa S.length caps, .agg #[.int .i64 k5, .slice la0 L0.length lc0]]) (by simp [results, Try.results76, go_sem, u0, u1]) rfl
        ⟨S, sa, caps, k5, L0, la0, lc0, _, rfl, HAE.out, HSE.out, hl, hsz, hL0, HBE.out⟩
  · obtain ⟨w7, hw7⟩ : ∃ V : World, V = (w6.alloc (.cells #[.int .i64 (-1), .int .i64 0] 74)).alloc (.cells #[.int .i64 (-1), .slice none 0 0, .int .i64 1, .slice (some ⟨w6.heap.size, 0, none⟩) 1 1] 37) := ⟨_, rfl⟩
    have n7 : Below w6.heap.size w6 w7 := by rw [hw7]; exact ((Below.refl _ _).alloc (Nat.le_refl _) _).alloc (by simp) _
    have z67 : w6.heap.size + 2 ≤ w7.heap.size := by rw [hw7]; simp
    have kb : SpBlk w7 w6.heap.size 1 [(-1, 0)] := by
      rw [hw7]
      exact (one_span w6 (-1) 0).kept (Below.heap_alloc _ _ _ (by simp))
    have tb : w7.heap[w6.heap.size + 1]? = some (.cells #[.int .i64 (-1), .slice none 0 0, .int .i64 1, .slice (some ⟨w6.heap.size, 0, none⟩) 1 1] 37 (0, 0)) := by
      rw [hw7]
      have := heap_alloc_new (w6.alloc (.cells #[.int .i64 (-1), .int .i64 0] 74)) (.cells #[.int .i64 (-1), .slice none 0 0, .int .i64 1, .slice (some ⟨w6.heap.size, 0, none⟩) 1 1] 37)
      simpa using this
    have b7 := b6.trans (n7.mono b6.size)
    have v7 := v6.below n7 (by omega)
    have p7 := p6.below n7 (by omega)
    have hr7 := rdAt_below hr6 n7 (by omega)
    clear n7 b6 v6 p6 hr6 hs6 e0 e1
    go_wp2_with fail
    rw [← hw7]
    clear hw7
    refine (pick_any _ q6 2 _ hr7 (by omega)).mono ?_
    rintro e w8 ⟨k', rfl, a0, a1, y1, hr8, hg8⟩
    have hk2 : k' < 2 := a1 (by omega)
    obtain ⟨kn, rfl⟩ := Int.eq_ofNat_of_zero_le a0
    have hkn : kn < 2 := by omega
    have b8 := b7.grown hg8 b7.size (fun k hk => by injection hk with hk; omega)
    have v8 := v7.drawn hg8 (by omega) (by omega)
    have p8 := p7.drawn hg8 (by omega) (by omega)
    have tb8 := (hg8.block (w6.heap.size + 1) (by omega) (fun e => by injection e with e; omega)).trans tb
    have kb8 := kb.kept (hg8.block w6.heap.size (by omega) (fun e => by injection e with e; omega))
    obtain ⟨y, ta, tc, L, t0, t1, hs, hL⟩ := tab_fit (W := w8) hkn ⟨some ⟨w6.heap.size, 0, none⟩, 1, rfl, .inr ⟨w6.heap.size, 1, rfl, kb8, Nat.le_refl _⟩⟩
    have d0 := (cell_of_row w8 (w6.heap.size + 1) (kn * 2) _ _ (0, 0) tb8).trans t0
    have d1 := (cell_of_row w8 (w6.heap.size + 1) (kn * 2 + 1) _ _ (0, 0) tb8).trans t1
    have z78 := hg8.size
    obtain ⟨w9, hw9⟩ : ∃ V : World, V = (w8.setCell ⟨w4.heap.size, 0, none⟩ (.int .i64 y)).setCell ⟨w4.heap.size, 1, none⟩ (.slice ta L.length tc) := ⟨_, rfl⟩
    obtain ⟨c0, c1⟩ := p8.stored (.int .i64 y) (.slice ta L.length tc)
    have z89 : w9.heap.size = w8.heap.size := by rw [hw9]; exact two_size _ _
    have hr9 : RdAt w9 w1.heap.size (q6 + 1) := by rw [hw9]; exact rdAt_kept hr8 fun k hk => two_block _ _ (by omega)
    have v9 : BX w9 w.heap.size := by rw [hw9]; exact (v8.other (by omega) _).other (by omega) _
    have hs9 : SRes L w2.heap.size (.slice ta L.length tc) w9 := by rw [hw9]; exact (SRes_two hs (by omega) _ _).mono (by omega)
    have b9 : Below w.heap.size w w9 := by rw [hw9]; exact (b8.setCell (p := ⟨w4.heap.size, 0, none⟩) (by show w.heap.size ≤ w4.heap.size; omega) _).setCell (p := ⟨w4.heap.size, 1, none⟩) (by show w.heap.size ≤ w4.heap.size; omega) _
    obtain ⟨x0, x1, g0, g1, gf0, gf1⟩ := p8
    clear tb8 kb8 t0 t1 tb kb hg8 hr7 y1 a0 a1 b7 v7 p7 hs b8 v8 hr8
    have kI0 : (0 : Int) ≤ (kn : Int) := by omega
    have kI1 : (kn : Int) < 2 := by omega
    go_upto_region 5 with fail
    rw [← hw9]
    rw [← hw9] at c0 c1
    clear hw9 d0 d1 g0 g1 gf0 gf1
    have HR := Lib.hid hr9
    have HBX := Lib.hid v9
    have HSX := Lib.hid hs9
    have HBL := Lib.hid b9
    go_region_held3 (fun V => V.cell? ⟨w4.heap.size, 0, none⟩ = some (.int .i64 y) ∧ V.cell? ⟨w4.heap.size, 1, none⟩ = some (.slice ta L.length tc)) (go_keep)
      (first
        | (go_at_call 80; refine (l20Shelf_any w1.heap.size (q6 + 1) 4 15 _ (by omega) (by first | exact HR.out | exact rdAt_kept HR.out fun k _ => rfl) (by omega) (by omega) (by omega)).mono ?_; rintro e wx ⟨S, v, fs, rfl, hg, hl, hsz, hd⟩; obtain ⟨qx, _, _, _, hgx⟩ := hd; obtain ⟨sa, caps, rfl, hform, hcap⟩ := hg.form; have zx : w9.heap.size ≤ wx.heap.size := hgx.size; have r0 : wx.cell? ⟨w4.heap.size, 0, none⟩ = some (.int .i64 y) := (grownCell hgx (b := w4.heap.size) (show w4.heap.size < w9.heap.size by omega) (by omega)).trans c0; have r1 : wx.cell? ⟨w4.heap.size, 1, none⟩ = some (.slice ta L.length tc) := (grownCell hgx (b := w4.heap.size) (show w4.heap.size < w9.heap.size by omega) (by omega)).trans c1; have hgy : w9.grownBy wx (some w1.heap.size) := ⟨hgx.os, hgx.tape, hgx.output, hgx.size, hgx.block⟩; have HVV := Lib.hid (HBX.out.drawn hgy (by omega) (by omega)); obtain ⟨x0, x1, y0, y1, f0, f1⟩ := HVV.out; have ne1 : w4.heap.size ≠ w.heap.size := (by omega); have ne2 : w.heap.size ≠ w4.heap.size := (by omega))
        | fail)
    all_goals
      have HG := Lib.hid hg
      obtain ⟨u0, u1⟩ := HVV.out.stored (.int .i64 y) (.slice ta L.length tc)
      have HAE := Lib.hid (rgrow_down (B' := w.heap.size + 1) (RGrow_two HG.out (p := w.heap.size) (show w.heap.size < w9.heap.size by omega) (.int .i64 y) (.slice ta L.length tc)) (show w.heap.size + 1 ≤ w9.heap.size by omega))
      have HSE := Lib.hid ((SRes_two (SRes_drawn HSX.out hgy (by omega)) (p := w.heap.size) (by omega) (.int .i64 y) (.slice ta L.length tc)).mono (base' := w.heap.size + 1) (by omega))
      have HBE := Lib.hid (((HBL.out.grown hgy HBL.out.size (fun k hk => by injection hk with hk; omega)).setCell (p := ⟨w.heap.size, 0, none⟩) (Nat.le_refl _) (.int .i64 y)).setCell (p := ⟨w.heap.size, 1, none⟩) (Nat.le_refl _) (.slice ta L.length tc))
      clear hg hgx
      go_wp2_with fail
      exact bodyPost_ret (v := .tuple #[.slice sa S.length caps, .agg #[.int .i64 y, .slice ta L.length tc]]) (by simp [results, Try.results76, go_sem, u0, u1]) rfl
        ⟨S, sa, caps, y, L, ta, tc, _, rfl, HAE.out, HSE.out, hl, hsz, hL, HBE.out⟩
theorem DrawShelfFits_any (a : Option Addr) (len cap : Nat) (w : World) (h : CodeIn w a len cap) : Calls Try.prog 76 #[.slice a len cap] w (AnyFits w) :=
  (DrawShelfFits_grow a len cap w h).mono fun _ _ ⟨S, sa, caps, n, L, la, lc, _, he, hg, hs, r⟩ => ⟨S, sa, caps, n, L, la, lc, he, hg.at, hs.at, r⟩
end Dfi
end Go.Proofs.Ytjnmkkcdcacakaa
