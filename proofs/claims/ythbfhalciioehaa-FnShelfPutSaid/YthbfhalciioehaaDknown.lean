/- The contract of the model's draw of a known release, over this seat's translation: whatever is drawn, a name and a version; nothing that was there has changed but the reader. Condition: the reader was not asked too often; the code is readable; the shelf stands on blocks of its own behind the reader. -/
import Derived.Test.YthbfhalciioehaaDshelf
import Derived.Test.YthbfhalciioehaaPkofs
namespace Go.Proofs.Ythbfhalciioehaa
open Go.RowKit Go.Sort

namespace Dkn
open Foot Dsh
theorem VC.drawn {W V : World} {p R : Nat} (h : VC W p) (hg : W.grownBy V (some R)) (hp : p < W.heap.size) (hne : p ≠ R) : VC V p := by
  obtain ⟨x0, x1, x2, x3, h0, h1, h2, h3, g0, g1, g2, g3⟩ := h
  have hb := hg.block p hp (fun e => by injection e with e; exact hne e)
  exact ⟨x0, x1, x2, x3, (World.cell?_of_block hb).trans h0, (World.cell?_of_block hb).trans h1, (World.cell?_of_block hb).trans h2, (World.cell?_of_block hb).trans h3, (World.frozen?_of_block hb).trans g0, (World.frozen?_of_block hb).trans g1, (World.frozen?_of_block hb).trans g2, (World.frozen?_of_block hb).trans g3⟩
theorem VC.alloc {W : World} {p : Nat} (h : VC W p) (hp : p < W.heap.size) (o : Obj) : VC (W.alloc o) p := h.below ((Below.refl W.heap.size W).alloc (Nat.le_refl _) o) hp
theorem drawn_drew {w V : World} {R p c : Nat} (h : Drawn w R p c V) : Drawn w R p c V.drew := by
  obtain ⟨q, h1, h2, h3, h4⟩ := h
  exact ⟨q, h1, h2, rdAt_kept h3 fun k _ => rfl, ⟨h4.os, h4.tape, h4.output, h4.size, h4.block⟩⟩
def KnownDraw (R p : Nat) (w : World) (e : Ending) (w' : World) : Prop :=
  ∃ n a b c d : Int, e = .returned (.tuple #[.int .i64 n, ver a b c d]) ∧ Drawn w R p 10 w'
theorem stored_drawn {w V : World} {R p q c : Nat} {b : Nat} (a1 a2 a3 a4 : Value) (hg : w.grownBy V (some R)) (hr : RdAt V R q) (hb : w.heap.size ≤ b) (hR : R < w.heap.size) (h1 : p ≤ q) (h2 : q ≤ p + c) :
    Drawn w R p c ((((V.setCell ⟨b, 0, none⟩ a1).setCell ⟨b, 1, none⟩ a2).setCell ⟨b, 2, none⟩ a3).setCell ⟨b, 3, none⟩ a4) := by
  have B := ((((Below.refl w.heap.size V).setCell (p := ⟨b, 0, none⟩) hb a1).setCell (p := ⟨b, 1, none⟩) hb a2).setCell (p := ⟨b, 2, none⟩) hb a3).setCell (p := ⟨b, 3, none⟩) hb a4
  exact ⟨q, h1, h2, rdAt_below hr B hR, grown_below hg B⟩

set_option maxRecDepth 100000 in
set_option maxHeartbeats 4000000 in
theorem l20Known_any (R p B0 : Nat) (sa : Option Addr) (caps : Nat) (S : List Rel) (fs : List (List Nat)) (w : World) (h : RdAt w R p) (hp : p ≤ 50000000)
    (hg : RGrow w B0 (.slice sa S.length caps) S fs) (hRB : R < B0) (hl : S.length ≤ 31) :
    Calls Try.prog 83 #[.pointer (some ⟨R, 0, none⟩), .slice sa S.length caps] w (KnownDraw R p w) := by
  have hR := rdAt_lt h
  have HG := Lib.hid hg
  have hr1 := rdAt_alloc h (.cells #[.int .i64 0, .int .i64 0, .int .i64 0, .int .i64 0] 52)
  have v1 := VC.new w
  have g1 : w.grownBy (w.alloc (.cells #[.int .i64 0, .int .i64 0, .int .i64 0, .int .i64 0] 52)) (some R) := grown_start w _ R
  have s1 : w.heap.size < (w.alloc (.cells #[.int .i64 0, .int .i64 0, .int .i64 0, .int .i64 0] 52)).heap.size := by simp
  obtain ⟨w1, hw1⟩ : ∃ V : World, V = w.alloc (.cells #[.int .i64 0, .int .i64 0, .int .i64 0, .int .i64 0] 52) := ⟨_, rfl⟩
  rw [← hw1] at hr1 v1 g1 s1
  clear hg
  go_enter Try.func83, Try.ntmps83
  go_upto_region 1 with fail
  rw [← hw1]
  clear hw1
  by_cases hS0 : 0 < S.length
  · have hS0I : (0 : Int) < (S.length : Int) := by omega
    go_wp2_with fail
    refine (pick_any R p 5 _ hr1 (by omega)).mono ?_
    rintro e w2 ⟨k5, rfl, a0, a1, y1, hr2, hg2⟩
    have g2 := grown_trans g1 hg2
    have v2 := VC.drawn v1 hg2 s1 (by omega)
    have s2 : w.heap.size < w2.heap.size := Nat.lt_of_lt_of_le s1 hg2.size
    clear y1 hg2 hr1 v1
    by_cases h50 : 0 < k5
    · go_wp2_with fail
      refine (pick_any R (p + 1) (S.length : Int) _ hr2 (by omega)).mono ?_
      rintro e w3 ⟨ki, rfl, c0, c1, y1, hr3, hg3⟩
      have g3 := grown_trans g2 hg3
      have v3 := VC.drawn v2 hg3 s2 (by omega)
      have s3 : w.heap.size < w3.heap.size := Nat.lt_of_lt_of_le s2 hg3.size
      clear y1 hg3 hr2 v2 g1 g2
      have c2 : ki < (S.length : Int) := c1 (by omega)
      obtain ⟨kn, rfl⟩ := Int.eq_ofNat_of_zero_le c0
      have hkn : kn < S.length := by omega
      obtain ⟨b, o, hsa, hB, hc⟩ : ∃ b o, sa = some ⟨b, o, none⟩ ∧ b < w3.heap.size ∧ ∀ i (h : i < S.length), RlC w3 w3.heap.size b (o + i * 7) S[i] := by
        obtain ⟨a', c', e, hh⟩ := (HG.out.drawn g3 hRB).at
        simp only [Value.slice.injEq] at e
        obtain ⟨rfl, _, _⟩ := e
        rcases hh with rfl | ⟨b, o, e, hB, hc⟩
        · simp at hkn
        · exact ⟨b, o, e, hB, hc⟩
      subst hsa
      obtain ⟨⟨e0, e1, e2, e3, e4, e5⟩, ad, cap1, e6, _⟩ := hc kn hkn
      obtain ⟨x, a, b1, c, d, f, M, hxy⟩ : ∃ x a b c d f M, S[kn] = (x, (a, b, c, d), f, M) := ⟨_, _, _, _, _, _, _, rfl⟩
      rw [hxy] at e0 e1 e2 e3 e4 e5 e6
      simp only at e0 e1 e2 e3 e4 e5 e6
      have j0 : (0 : Int) ≤ (kn : Int) := by omega
      clear hc hxy c0 c1
      obtain ⟨w4, hw4⟩ : ∃ V : World, V = w3.alloc (.cells #[.int .i64 x, .int .i64 a, .int .i64 b1, .int .i64 c, .int .i64 d, .bool f, .slice ad M.length cap1] 54) := ⟨_, rfl⟩
      have g4 : w.grownBy w4 (some R) := by rw [hw4]; exact grown_below g3 ((Below.refl w.heap.size w3).alloc (by omega) _)
      have hr4 : RdAt w4 R (p + 1 + 1) := by rw [hw4]; exact rdAt_alloc hr3 _
      have v4 : VC w4 w.heap.size := by rw [hw4]; exact VC.alloc v3 s3 _
      have z34 : w3.heap.size + 1 ≤ w4.heap.size := by rw [hw4]; simp
      have t0 : w4.cell? ⟨w3.heap.size, 0, none⟩ = some (.int .i64 x) := by rw [hw4]; go_simp
      have t1 : w4.cell? ⟨w3.heap.size, 1, none⟩ = some (.int .i64 a) := by rw [hw4]; go_simp
      have t2 : w4.cell? ⟨w3.heap.size, 2, none⟩ = some (.int .i64 b1) := by rw [hw4]; go_simp
      have t3 : w4.cell? ⟨w3.heap.size, 3, none⟩ = some (.int .i64 c) := by rw [hw4]; go_simp
      have t4 : w4.cell? ⟨w3.heap.size, 4, none⟩ = some (.int .i64 d) := by rw [hw4]; go_simp
      have HD := Lib.hid (stored_drawn (p := p) (c := 10) (.int .i64 a) (.int .i64 b1) (.int .i64 c) (.int .i64 d) g4 hr4 (Nat.le_refl _) hR (by omega) (by omega))
      obtain ⟨u0, u1, u2, u3⟩ := v4.stored (.int .i64 a) (.int .i64 b1) (.int .i64 c) (.int .i64 d)
      obtain ⟨z0, z1, z2, z3, y0, y1, y2, y3, f0', f1', f2', f3'⟩ := v4
      go_upto_region 3 with fail
      rw [← hw4]
      clear hw4 g4 hr4 e0 e1 e2 e3 e4 e5 e6 v3 g3 hr3
      go_region
      all_goals
        go_wp2_with fail
        exact bodyPost_ret (v := .tuple #[.int .i64 x, ver a b1 c d]) (by simp [results, Try.results83, go_sem, u0, u1, u2, u3]) rfl ⟨x, a, b1, c, d, rfl, drawn_drew HD.out⟩
    · have h50D : decide (0 < k5) = false := decide_eq_false h50
      go_wp2_with fail
      refine (pick_any R (p + 1) 9 _ hr2 (by omega)).mono ?_
      rintro e w5 ⟨k9, rfl, d0, d1, y1, hr5, hg5⟩
      have g5 := grown_trans g2 hg5
      have v5 := VC.drawn v2 hg5 s2 (by omega)
      have s5 : w.heap.size < w5.heap.size := Nat.lt_of_lt_of_le s2 hg5.size
      clear y1 hg5
      have d2 : k9 < 9 := d1 (by omega)
      go_wp2_with fail
      refine (pick_any R ((p + 1) + 1) 2 _ hr5 (by omega)).mono ?_
      rintro e w6 ⟨k2, rfl, f0, f1, y1, hr6, hg6⟩
      have g6 := grown_trans g5 hg6
      have v6 := VC.drawn v5 hg6 s5 (by omega)
      have s6 : w.heap.size < w6.heap.size := Nat.lt_of_lt_of_le s5 hg6.size
      clear y1 hg6 hr5 v5 g5
      have f2 : k2 < 2 := f1 (by omega)
      go_wp2_with fail
      refine (l20Small_any R ((p + 1) + 1 + 1) _ hr6 (by omega)).mono ?_
      rintro e w7 ⟨x1, x2, x3, x4, rfl, hr7, hg7⟩
      have g7 := grown_trans g6 hg7
      have v7 := VC.drawn v6 hg7 s6 (by omega)
      clear hg7 hr6 v6 g6
      obtain ⟨u0, u1, u2, u3⟩ := v7.stored (.int .i64 x1) (.int .i64 x2) (.int .i64 x3) (.int .i64 x4)
      have HD := Lib.hid (stored_drawn (p := p) (c := 10) (.int .i64 x1) (.int .i64 x2) (.int .i64 x3) (.int .i64 x4) g7 hr7 (Nat.le_refl _) hR (by omega) (by omega))
      obtain ⟨z0, z1, z2, z3, y0, y1, y2, y3, f0', f1', f2', f3'⟩ := v7
      clear g7 hr7
      go_wp2_with fail
      exact bodyPost_ret (v := .tuple #[.int .i64 (k9 - k2), ver x1 x2 x3 x4]) (by simp [results, Try.results83, go_sem, u0, u1, u2, u3]) rfl ⟨_, x1, x2, x3, x4, rfl, HD.out⟩
  · have hS0D : decide ((0 : Int) < (S.length : Int)) = false := decide_eq_false (by omega)
    go_wp2_with fail
    refine (pick_any R p 9 _ hr1 (by omega)).mono ?_
    rintro e w5 ⟨k9, rfl, d0, d1, y1, hr5, hg5⟩
    have g5 := grown_trans g1 hg5
    have v5 := VC.drawn v1 hg5 s1 (by omega)
    have s5 : w.heap.size < w5.heap.size := Nat.lt_of_lt_of_le s1 hg5.size
    clear y1 hg5
    have d2 : k9 < 9 := d1 (by omega)
    go_wp2_with fail
    refine (pick_any R (p + 1) 2 _ hr5 (by omega)).mono ?_
    rintro e w6 ⟨k2, rfl, f0, f1, y1, hr6, hg6⟩
    have g6 := grown_trans g5 hg6
    have v6 := VC.drawn v5 hg6 s5 (by omega)
    have s6 : w.heap.size < w6.heap.size := Nat.lt_of_lt_of_le s5 hg6.size
    clear y1 hg6 hr5 v5 g5
    have f2 : k2 < 2 := f1 (by omega)
    go_wp2_with fail
    refine (l20Small_any R (p + 1 + 1) _ hr6 (by omega)).mono ?_
    rintro e w7 ⟨x1, x2, x3, x4, rfl, hr7, hg7⟩
    have g7 := grown_trans g6 hg7
    have v7 := VC.drawn v6 hg7 s6 (by omega)
    clear hg7 hr6 v6 g6
    obtain ⟨u0, u1, u2, u3⟩ := v7.stored (.int .i64 x1) (.int .i64 x2) (.int .i64 x3) (.int .i64 x4)
    have HD := Lib.hid (stored_drawn (p := p) (c := 10) (.int .i64 x1) (.int .i64 x2) (.int .i64 x3) (.int .i64 x4) g7 hr7 (Nat.le_refl _) hR (by omega) (by omega))
    obtain ⟨z0, z1, z2, z3, y0, y1, y2, y3, f0', f1', f2', f3'⟩ := v7
    clear g7 hr7
    go_wp2_with fail
    exact bodyPost_ret (v := .tuple #[.int .i64 (k9 - k2), ver x1 x2 x3 x4]) (by simp [results, Try.results83, go_sem, u0, u1, u2, u3]) rfl ⟨_, x1, x2, x3, x4, rfl, HD.out⟩
end Dkn
end Go.Proofs.Ythbfhalciioehaa
