/- The contracts of the model's draws for least versions, over this seat's translation: a shelf and a need, a shelf and needs, picks; nothing that was there has changed. Condition: the code is readable. -/
import Derived.Test.YtjnmkkcdcacakaaDfits
import Derived.Test.YtjnmkkcdcacakaaDnames
import Derived.Test.YtjnmkkcdcacakaaDpicks
namespace Go.Proofs.Ytjnmkkcdcacakaa
open Go.RowKit Go.Sort

namespace Dls
open Foot Dsh Dfi Dnm Dpk
set_option maxRecDepth 100000 in
set_option maxHeartbeats 4000000 in
theorem DrawLeastOf_any (a : Option Addr) (len cap : Nat) (w : World) (h : CodeIn w a len cap) : Calls Try.prog 40 #[.slice a len cap] w (AnyFits w) := by
  obtain ⟨w1, hw1⟩ : ∃ V : World, V = w.alloc (.cells #[.int .i64 0, .slice none 0 0] 37) := ⟨_, rfl⟩
  have v1 : BX w1 w.heap.size := by rw [hw1]; exact BX.new w _ _
  have s1 : w.heap.size < w1.heap.size := by rw [hw1]; simp
  have b1 : Below w.heap.size w w1 := by rw [hw1]; exact (Below.refl _ _).alloc (Nat.le_refl _) _
  have h1 : CodeIn w1 a len cap := codeIn_below h b1
  go_enter Try.func40, Try.ntmps40
  go_upto_region 1 with fail
  rw [← hw1]
  clear hw1 h
  go_wp2_with fail
  refine (DrawShelfFits_grow a len cap w1 h1).mono ?_
  rintro e w2 ⟨S, sa, caps, n, L, la, lc, fs, rfl, hg, hs, hl, hsz, hL3, hb⟩
  have v2 := v1.below hb s1
  have b2 := b1.trans (hb.mono b1.size)
  obtain ⟨x0, x1, y0, y1, f0, f1⟩ := id v2
  obtain ⟨u0, u1⟩ := v2.stored (.int .i64 n) (.slice la L.length lc)
  have HAE := Lib.hid (RGrow_two hg (p := w.heap.size) (by omega) (.int .i64 n) (.slice la L.length lc)).at
  have HSE := Lib.hid (SRes_two hs (p := w.heap.size) (by omega) (.int .i64 n) (.slice la L.length lc)).at
  have HBE := Lib.hid ((b2.setCell (p := ⟨w.heap.size, 0, none⟩) (Nat.le_refl _) (.int .i64 n)).setCell (p := ⟨w.heap.size, 1, none⟩) (Nat.le_refl _) (.slice la L.length lc))
  clear hg hs hb h1 v1 v2 b1 b2
  go_wp2_with fail
  exact bodyPost_ret (v := .tuple #[.slice sa S.length caps, .agg #[.int .i64 n, .slice la L.length lc]]) (by simp [results, Try.results40, go_sem, u0, u1]) rfl
    ⟨S, sa, caps, n, L, la, lc, rfl, HAE.out, HSE.out, hl, hsz, hL3, HBE.out⟩
set_option maxRecDepth 100000 in
set_option maxHeartbeats 4000000 in
theorem DrawLeastVisit_any (a : Option Addr) (len cap : Nat) (w : World) (h : CodeIn w a len cap) : Calls Try.prog 43 #[.slice a len cap] w (AnyNames w) := by
  go_enter Try.func43, Try.ntmps43
  go_wp2_with fail
  refine (open_any a len cap _ h).mono ?_
  rintro e w2 ⟨rfl, hr2, hb2⟩
  have hz2 := rdAt_lt hr2
  go_wp2_with fail
  refine (l20Shelf_any _ 0 4 15 w2 (by omega) hr2 (by omega) (by omega) (by omega)).mono ?_
  rintro e w3 ⟨S, v, fs, rfl, hg, hl, hsz, hd⟩
  have b3 := drawn_below hd hb2 (by omega)
  obtain ⟨sa, caps, rfl, hform, hcap⟩ := hg.form
  obtain ⟨q, hq0, hq1, hr3, hg3⟩ := hd
  have HG := Lib.hid hg
  clear hg hr2 hg3 hb2
  go_wp2_with fail
  refine (l20NeedsM_any _ q 4 (-1) 15 w3 (by omega) hr3 (by omega) (by omega) (by omega)).mono ?_
  rintro e w4 ⟨M, v, rfl, hown, hm, hm2, hd⟩
  have b4 := drawn_below hd b3 (by omega)
  obtain ⟨q4, hq40, hq41, hr4, hg4⟩ := hd
  have HA := Lib.hid (HG.out.drawn hg4 hz2).at
  have HN := Lib.hid hown.at
  obtain ⟨na, ncap, rfl, hx⟩ := id hown.at
  clear hx hown hr3 hr4 hg4
  go_wp2_with fail
  exact bodyPost_ret (v := .tuple #[.slice sa S.length caps, .slice na M.length ncap]) (by simp [results, Try.results43, go_sem]) rfl ⟨S, sa, caps, M, na, ncap, rfl, HA.out, HN.out, hl, hsz, hm, hm2, b4⟩
set_option maxRecDepth 100000 in
set_option maxHeartbeats 4000000 in
theorem DrawLeast_any (a : Option Addr) (len cap : Nat) (w : World) (h : CodeIn w a len cap) : Calls Try.prog 46 #[.slice a len cap] w (AnyNames w) := by
  go_enter Try.func46, Try.ntmps46
  go_wp2_with fail
  refine (DrawLeastVisit_any a len cap w h).mono ?_
  rintro e w1 ⟨S, sa, caps, M, na, ncap, rfl, hat, hnd, r⟩
  go_wp2_with fail
  exact bodyPost_ret (v := .tuple #[.slice sa S.length caps, .slice na M.length ncap]) (by simp [results, Try.results46, go_sem]) rfl ⟨S, sa, caps, M, na, ncap, rfl, hat, hnd, r⟩
def AnyPks (w : World) (e : Ending) (w' : World) : Prop := ∃ A v, e = .returned v ∧ POwn w' w.heap.size v A ∧ A.length ≤ 7 ∧ Below w.heap.size w w'
set_option maxRecDepth 100000 in
set_option maxHeartbeats 4000000 in
theorem DrawLeastNeeds_any (a : Option Addr) (len cap : Nat) (w : World) (h : CodeIn w a len cap) : Calls Try.prog 51 #[.slice a len cap] w (AnyPks w) := by
  go_enter Try.func51, Try.ntmps51
  go_wp2_with fail
  refine (open_any a len cap _ h).mono ?_
  rintro e w1 ⟨rfl, hr1, hb1⟩
  have hz := rdAt_lt hr1
  have z1 := hb1.size
  go_wp2_with fail
  refine (l20Shelf_any _ 0 4 0 w1 (by omega) hr1 (by omega) (by omega) (by omega)).mono ?_
  rintro e w2 ⟨S, v, fs, rfl, hg, hl, hsz, hd⟩
  have b2 := drawn_below hd hb1 (Nat.le_refl _)
  obtain ⟨sa, caps, rfl, hform, hcap⟩ := hg.form
  obtain ⟨q, hq0, hq1, hr2, hg2⟩ := hd
  have HG := Lib.hid hg
  have z2 := b2.size
  clear hg hr1 hg2 hb1
  go_wp2_with fail
  refine (l20Picks_any _ q w1.heap.size 9 sa caps S fs w2 hr2 (by omega) (by omega) (by omega) HG.out (by omega) hl).mono ?_
  rintro e w3 ⟨A, v, rfl, ho, hl, hd⟩
  have b3 := drawn_below hd b2 (Nat.le_refl _)
  have HO := Lib.hid (show POwn w3 w.heap.size v A from ⟨ho.1, by rcases ho.2 with h | ⟨g, c, cur, hv, hb, rest⟩; exact .inl h; exact .inr ⟨g, c, cur, hv, Nat.le_trans z2 hb, rest⟩⟩)
  clear hd ho hr2 b2
  go_wp2_with fail
  go_ret
  exact ⟨A, v, rfl, HO.out, hl, b3⟩
end Dls
end Go.Proofs.Ytjnmkkcdcacakaa
