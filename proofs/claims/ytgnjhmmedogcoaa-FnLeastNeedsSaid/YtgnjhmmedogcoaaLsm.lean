/- The contract of the model's LeastNeeds, over this seat's translation: a need for each of the first five picks, all versions from its own on, as the plain function lnL tells; the spans of each in new memory; nothing that was there before the call has changed. Condition: at most 1048576 picks. -/
import Derived.Test.YtgnjhmmedogcoaaLsn
namespace Go.Proofs.Ytgnjhmmedogcoaa
open Go.RowKit Go.Sort

namespace Lst
open Nup Foot Copy
def LmRel (C : List Pk) (w : World) (v i : Value) (wr : World) : Prop :=
  ∃ (k : Nat) (fs : List (List Nat)), k ≤ C.length ∧ k ≤ 5 ∧ (0 < k → pkOk C = true) ∧ i = .int .i64 (k : Int) ∧ NGrow wr w.heap.size v ((lnT C).take k) fs ∧ Below w.heap.size w wr
theorem one_spf (w : World) (x y : Int) : SpF (w.alloc (.cells #[.int .i64 x, .int .i64 y] 73)) (.slice (some ⟨w.heap.size, 0, none⟩) [((x, y) : Int × Int)].length 1) [(x, y)] [w.heap.size] :=
  ⟨_, _, rfl, .inr ⟨w.heap.size, 1, rfl, rfl, one_span w x y⟩⟩
set_option maxRecDepth 100000 in
set_option maxHeartbeats 8000000 in
theorem specLeastNeeds_any (v : Value) (C : List Pk) (w : World) (hl : C.length ≤ 1048576) (h : PkAt w w.heap.size v C) : Calls Try.prog 29 #[v] w (NcPost (lnL C) w) := by
  obtain ⟨a, cap, rfl, h0⟩ := id h
  obtain ⟨i0, hi, hz0, hz1, hz2⟩ := info_parts infoNeed
  have H := Lib.hid h
  clear h
  have KO : Hid (∀ V, PkAt V V.heap.size (.slice a C.length cap) C → Calls Try.prog 65 #[.slice a C.length cap] V fun e w' => e = .returned (.bool (pkOk C)) ∧ Below V.heap.size V w') := Lib.hid fun V g => specPicksOk_any _ C V hl g
  go_enter Try.func29, Try.ntmps29
  go_wp2_with fail
  go_loopw [3, 4] (fun v i wr => LmRel C w v i wr) (fun _ i _ => C.length - (intOf i).toNat)
  case atStart => exact ⟨0, [], Nat.zero_le _, by omega, fun h => absurd h (Nat.lt_irrefl 0), rfl, by rw [List.take_zero]; exact NGrow.made rfl (Nat.le_refl _), (Below.refl _ _).alloc (Nat.le_refl _) _⟩
  case round =>
    obtain ⟨k, fs, hk, hk5, hpos, rfl, hown, hb⟩ := hrel
    obtain ⟨T, hT⟩ : ∃ T, (lnT C).take k = T := ⟨_, rfl⟩
    have hTl : T.length = min k 5 := by rw [← hT]; exact lnT_take_len hk
    rw [hT] at hown
    obtain ⟨va, vc, hv, hx⟩ := id hown.own.at
    subst hv
    clear hx
    have S1 := Lib.hid hown
    have HPos := Lib.hid hpos
    have zb := hb.size
    clear hown hpos
    by_cases hlt : k < C.length
    · rcases hok : pkOk C
      · have hk0 : k = 0 := by
          rcases Nat.eq_zero_or_pos k with h | h
          · exact h
          · have := HPos.out h; rw [hok] at this; cases this
        have hE : T = lnL C := by rw [← hT, hk0, List.take_zero]; unfold lnL; rw [hok]; rfl
        have HEE := Lib.hid hE
        have HK0 := Lib.hid hk0
        rw [hok] at KO
        clear hok hk0 hE hTl hT
        go_wp2_with fail
        refine (KO.out _ (H.out.stepAt hb)).mono ?_
        rintro e w2 ⟨rfl, hb2⟩
        go_wp2_with fail
        go_ret
        exact ⟨_, fs, rfl, by rw [← HEE.out]; exact S1.out.below hb2, hb.trans (hb2.mono zb)⟩
      have HOK := Lib.hid hok
      rw [hok] at KO
      clear hok
      by_cases h5 : k < 5
      · have hT5 : T.length = k := by omega
        have HT := Lib.hid hT
        have HT5 := Lib.hid hT5
        have hTm : T.length ≤ 5 := by omega
        rcases h0 with h0 | ⟨b, o, rfl, hB, hc⟩
        · subst h0
          exact absurd hlt (by simp)
        obtain ⟨x, a1, b1, c1, d1, hxy⟩ : ∃ x a b c d, C[k] = (x, a, b, c, d) := ⟨_, _, _, _, _, rfl⟩
        have HXY := Lib.hid (show C[k]? = some (x, a1, b1, c1, d1) by rw [List.getElem?_eq_getElem hlt, hxy])
        have HC := Lib.hid hc
        have i1 : (0 : Int) ≤ (k : Int) := by omega
        have i2 : (k : Int) < (C.length : Int) := by omega
        have i5 : (k : Int) < 5 := by omega
        obtain ⟨r, hr⟩ : ∃ r, vRank a1 b1 c1 d1 = r := ⟨_, rfl⟩
        have HND := Lib.hid (show needOf (x, a1, b1, c1, d1) = (x, [(r, 9999999)]) by unfold needOf; rw [hr])
        have KR : Hid (∀ V, Calls Try.prog 66 #[ver a1 b1 c1 d1] V fun e w' => e = .returned (.int .i64 r) ∧ Below V.heap.size V w') := Lib.hid fun V => by have := specRank_any a1 b1 c1 d1 V; rwa [hr] at this
        have HTL := Lib.hid hTl
        clear hr hT hT5 hTl hc
        go_wp2_with fail
        refine (KO.out _ (H.out.stepAt hb)).mono ?_
        rintro e wb ⟨rfl, hb2⟩
        have nb : Below wr.heap.size wr wb := hb2
        have nw : Below w.heap.size w wb := hb.trans (hb2.mono zb)
        have zw := nw.size
        clear hb2
        obtain ⟨e0, e1, e2, e3, e4⟩ := (HC.out k hlt).below nw hB
        rw [hxy] at e0 e1 e2 e3 e4
        simp only at e0 e1 e2 e3 e4
        have hBb : b < wb.heap.size := by omega
        have hzb : wr.heap.size ≤ wb.heap.size := nb.size
        have hcells := Lib.hid (show ∀ V, Below wb.heap.size wb V → V.cell? ⟨b, o + k * 5, none⟩ = some (.int .i64 x) ∧ V.cell? ⟨b, o + k * 5 + 1, none⟩ = some (.int .i64 a1) ∧ V.cell? ⟨b, o + k * 5 + 2, none⟩ = some (.int .i64 b1) ∧ V.cell? ⟨b, o + k * 5 + 3, none⟩ = some (.int .i64 c1) ∧ V.cell? ⟨b, o + k * 5 + 4, none⟩ = some (.int .i64 d1) from fun V g =>
          ⟨(g.cell (p := ⟨b, o + k * 5, none⟩) hBb).trans e0, (g.cell (p := ⟨b, o + k * 5 + 1, none⟩) hBb).trans e1, (g.cell (p := ⟨b, o + k * 5 + 2, none⟩) hBb).trans e2, (g.cell (p := ⟨b, o + k * 5 + 3, none⟩) hBb).trans e3, (g.cell (p := ⟨b, o + k * 5 + 4, none⟩) hBb).trans e4⟩)
        clear hxy
        go_wp2_with fail
        go_region_held3 (fun V => V.cell? ⟨b, o + k * 5, none⟩ = some (.int .i64 x) ∧ V.cell? ⟨b, o + k * 5 + 1, none⟩ = some (.int .i64 a1) ∧ V.cell? ⟨b, o + k * 5 + 2, none⟩ = some (.int .i64 b1) ∧ V.cell? ⟨b, o + k * 5 + 3, none⟩ = some (.int .i64 c1) ∧ V.cell? ⟨b, o + k * 5 + 4, none⟩ = some (.int .i64 d1)) (go_keep)
          (first
          | (go_at_call 66; refine (KR.out _).mono ?_; rintro e w5 ⟨rfl, hb5⟩; have n5 : Below wb.heap.size wb w5 := Below.step (by go_grown) hb5; clear hb5; obtain ⟨q0, q1, q2, q3, q4⟩ := hcells.out _ n5; have z5 := n5.size; have n6 : Below wb.heap.size wb (w5.alloc (.cells #[.int .i64 r, .int .i64 9999999] 73)) := n5.alloc n5.size _; have n6r : Below wr.heap.size wr (w5.alloc (.cells #[.int .i64 r, .int .i64 9999999] 73)) := nb.trans (n6.mono nb.size); have nw6 : Below w.heap.size w (w5.alloc (.cells #[.int .i64 r, .int .i64 9999999] 73)) := nw.trans (n6.mono nw.size); obtain ⟨cs, hown2, he2, hnd2, _⟩ := S1.out.below n6r; obtain ⟨_, _, _, _, hin1⟩ := id S1.out; have hlt2 := World.ownsRow.lt hown2; have hlt1 := S1.out.own.lt; have HE2 := Lib.hid he2; have HD := Lib.hid hnd2; have HI := Lib.hid hin1; have HN6 := Lib.hid n6r.size; have HZ := Lib.hid (show b < w5.heap.size from by omega); have NW6 := Lib.hid nw6; have HFF := Lib.hid (show ∀ b ∈ [w5.heap.size], wr.heap.size ≤ b from (by intro b hb; simp only [List.mem_singleton] at hb; omega)); clear he2 hnd2 hin1 n6 n6r nw6)
          | ((try rw [if_pos (by first | rfl | kernel_rfl | simp [Region.wanted])]); refine wp_append_lies _ _ _ 31 (by rfl) w.heap.size 59 i0 (.agg #[.int .i64 0, .slice none 0 0]) 2 32 Try.underlying31 hi hz0 hz1 hz2 rfl (by decide) _ _ cs (by rfl) (hown2.alloc (.cells #[.int .i64 x, .slice (some ⟨w5.heap.size, 0, none⟩) 1 1] 59)) ⟨w5.heap.size + 1, 0, none⟩ 1 1 [.int .i64 x, .slice (some ⟨w5.heap.size, 0, none⟩) 1 1] (by rfl) rfl (by have := need_new (w := w5.alloc (.cells #[.int .i64 r, .int .i64 9999999] 73)) (V := (w5.alloc (.cells #[.int .i64 r, .int .i64 9999999] 73)).alloc (.cells #[.int .i64 x, .slice (some ⟨w5.heap.size, 0, none⟩) 1 1] 59)) (x := x) (u := .slice (some ⟨w5.heap.size, 0, none⟩) 1 1) rfl; rw [show (w5.alloc (.cells #[.int .i64 r, .int .i64 9999999] 73)).heap.size = w5.heap.size + 1 by simp] at this; exact this) need_one (by omega) (by unfold maxLen; omega) (by omega) (by first | (simp; done) | (simp; omega)) _ rfl ?_; intro g cap3 w3 hown3 hgrow3 hat3 hlt3; have HP := Lib.hid (NGrow.push (Z := wr.heap.size) (L := [(r, 9999999)]) (na := some ⟨w5.heap.size, 0, none⟩) (ncap := 1) (F := [w5.heap.size]) (w2 := w5.alloc (.cells #[.int .i64 r, .int .i64 9999999] 73)) (W := (w5.alloc (.cells #[.int .i64 r, .int .i64 9999999] 73)).alloc (.cells #[.int .i64 x, .slice (some ⟨w5.heap.size, 0, none⟩) 1 1] 59)) ((Below.refl _ _).alloc (Nat.le_refl _) _) HE2.out hown2.1 HD.out HI.out (fun k e => (hlt1 k e).2) (one_spf w5 r 9999999) HFF.out HN6.out zb hown3 hgrow3 (by simpa using hat3)); have n3 : Below w.heap.size w w3 := Below.grown (by first | exact NW6.out.alloc NW6.out.size _ | go_grown) hgrow3 (by first | (simp; done) | (simp; omega)) (fun k e => (hlt2 k e).1); have HC3 := Lib.hid (show ∀ j, w3.cell? ⟨b, j, none⟩ = w5.cell? ⟨b, j, none⟩ from fun j => (World.cell?_of_block (a := ⟨b, j, none⟩) (hgrow3.block b (by have := HZ.out; first | (simp; omega) | omega) (fun e => by have := hlt1 _ e.symm; omega))).trans ((((Below.refl w5.heap.size w5).alloc (Nat.le_refl _) (.cells #[.int .i64 r, .int .i64 9999999] 73)).alloc (by simp) (.cells #[.int .i64 x, .slice (some ⟨w5.heap.size, 0, none⟩) 1 1] 59)).cell (p := ⟨b, j, none⟩) HZ.out)); have v0 := (HC3.out _).trans q0; have v1 := (HC3.out _).trans q1; have v2 := (HC3.out _).trans q2; have v3 := (HC3.out _).trans q3; have v4 := (HC3.out _).trans q4))
        all_goals
          have HQ := Lib.hid (show LmRel C w (.slice (some ⟨g, 0, none⟩) (T.length + 1) cap3) (.int .i64 ((k : Int) + 1)) w3 from by
            obtain ⟨k', fs', h1, h2, h3, h4⟩ := ln_next HT.out HXY.out h5 (by rw [HND.out]; exact HP.out) n3
            obtain rfl : k' = k + 1 := by injection h2 with _ h2; omega
            exact ⟨k + 1, fs', h1, by omega, fun _ => HOK.out, h2, h3, h4⟩)
          go_wp2_with fail
          go_roundw
          case rel => exact HQ.out
          case measure => simp [intOf]; omega
      · have hE : T = lnL C := by rw [← hT, lnT_all (.inr (by omega))]; unfold lnL; rw [HOK.out]; rfl
        have HEE := Lib.hid hE
        have i5 : ¬ (k : Int) < 5 := by omega
        clear hE hTl hT
        go_wp2_with fail
        refine (KO.out _ (H.out.stepAt hb)).mono ?_
        rintro e w2 ⟨rfl, hb2⟩
        go_wp2_with fail
        go_ret
        exact ⟨_, fs, rfl, by rw [← HEE.out]; exact S1.out.below hb2, hb.trans (hb2.mono zb)⟩
    · obtain rfl : k = C.length := by omega
      have hE : T = lnL C := by
        rw [← hT, lnT_all (.inl rfl)]
        unfold lnL
        rcases hok : pkOk C
        · rcases Nat.eq_zero_or_pos C.length with h | h
          · rw [List.eq_nil_of_length_eq_zero h]; rfl
          · have := HPos.out h; rw [hok] at this; cases this
        · rfl
      have HEE := Lib.hid hE
      clear hE hTl hT
      go_wp2_with fail
      go_ret
      exact ⟨_, fs, rfl, by rw [← HEE.out]; exact S1.out, hb⟩
end Lst
end Go.Proofs.Ytgnjhmmedogcoaa
