/- Contracts of LeastNeeds, the program's and the model's, over this seat's translation: a need for each of the first five picks, all versions from its own on, as the plain function lnL tells; the spans of each in new memory; nothing that was there before the call has changed. Condition: at most 1048576 picks. -/
import Derived.Test.YtgnjhmmedogcoaaLsp
import Derived.Test.YtgnjhmmedogcoaaGg
import Derived.Test.YtgnjhmmedogcoaaImone
import Derived.Test.YtgnjhmmedogcoaaGh
namespace Go.Proofs.Ytgnjhmmedogcoaa
open Go.RowKit Go.Sort

namespace Lst
open Nup Foot Copy
def needOf (x : Pk) : Nd := (x.1, [(vRank x.2.1 x.2.2.1 x.2.2.2.1 x.2.2.2.2, 9999999)])
def lnT (C : List Pk) : List Nd := (C.take 5).map needOf
def lnL (C : List Pk) : List Nd := if pkOk C = true then lnT C else []
theorem lnT_at {C : List Pk} {k : Nat} {x : Pk} (hx : C[k]? = some x) (h5 : k < 5) : (lnT C)[k]? = some (needOf x) := by
  unfold lnT
  rw [List.getElem?_map, List.getElem?_take, if_pos h5, hx]
  rfl
theorem lnT_take_len {C : List Pk} {k : Nat} (hk : k ≤ C.length) : ((lnT C).take k).length = min k 5 := by
  unfold lnT
  rw [List.length_take, List.length_map, List.length_take]
  omega
theorem lnT_all {C : List Pk} {k : Nat} (hk : k = C.length ∨ 5 ≤ k) : (lnT C).take k = lnT C := by
  apply List.take_of_length_le
  unfold lnT
  rw [List.length_map, List.length_take]
  omega
theorem lnL_len (C : List Pk) : (lnL C).length ≤ 5 := by
  unfold lnL lnT
  split
  · rw [List.length_map, List.length_take]; omega
  · simp
theorem lnL_sz : ∀ (C : List Pk), ∀ q ∈ lnL C, q.2.length = 1 := fun C q hq => by
  unfold lnL at hq
  split at hq
  · unfold lnT at hq
    obtain ⟨x, _, rfl⟩ := List.mem_map.1 hq
    rfl
  · simp at hq
def LnRel (C : List Pk) (w : World) (v i : Value) (wr : World) : Prop :=
  ∃ (k : Nat) (fs : List (List Nat)), k ≤ C.length ∧ i = .int .i64 (k : Int) ∧ NGrow wr w.heap.size v ((lnT C).take k) fs ∧ Below w.heap.size w wr
theorem ln_next {C : List Pk} {T : List Nd} {w w3 : World} {k : Nat} {x : Pk} {v : Value} {fs : List (List Nat)} (hT : (lnT C).take k = T) (hx : C[k]? = some x) (h5 : k < 5) (h : NGrow w3 w.heap.size v (T ++ [needOf x]) fs) (hb : Below w.heap.size w w3) :
    LnRel C w v (.int .i64 ((k : Int) + 1)) w3 := by
  have hk : k < C.length := (List.getElem?_eq_some_iff.1 hx).1
  refine ⟨k + 1, fs, by omega, by go_num, ?_, hb⟩
  rw [List.take_add_one, lnT_at hx h5, hT]
  exact h
theorem ln_rest {C : List Pk} {w w3 : World} {k : Nat} {v : Value} {fs : List (List Nat)} (hk : k < C.length) (h5 : 5 ≤ k) (h : NGrow w3 w.heap.size v ((lnT C).take k) fs) (hb : Below w.heap.size w w3) :
    LnRel C w v (.int .i64 ((k : Int) + 1)) w3 :=
  ⟨k + 1, fs, by omega, by go_num, by rw [lnT_all (.inr (by omega)), ← lnT_all (C := C) (k := k) (.inr h5)]; exact h, hb⟩

set_option maxRecDepth 100000 in
set_option maxHeartbeats 8000000 in
theorem implLeastNeeds_any (v : Value) (C : List Pk) (w : World) (hl : C.length ≤ 1048576) (h : PkAt w w.heap.size v C) : Calls Try.prog 31 #[v] w (NcPost (lnL C) w) := by
  obtain ⟨a, cap, rfl, h0⟩ := id h
  obtain ⟨i0, hi, hz0, hz1, hz2⟩ := info_parts infoNeed
  have KO := Lib.hid (implPicksOk_any _ C w hl h)
  clear h
  rcases hok : pkOk C
  · have HE := Lib.hid (show lnL C = [] by unfold lnL; rw [hok]; rfl)
    rw [hok] at KO
    clear hok h0
    go_enter Try.func31, Try.ntmps31
    go_wp2_with fail
    refine KO.out.mono ?_
    rintro e w1 ⟨rfl, hb⟩
    go_wp2_with fail
    go_ret
    exact ⟨_, [], rfl, by rw [HE.out]; exact NGrow.nil _ _, hb⟩
  have HE := Lib.hid (show lnL C = lnT C by unfold lnL; rw [hok]; rfl)
  rw [hok] at KO
  clear hok
  go_enter Try.func31, Try.ntmps31
  go_wp2_with fail
  refine KO.out.mono ?_
  rintro e w1 ⟨rfl, hb1⟩
  have HB1 := Lib.hid hb1
  have hz := hb1.size
  clear hb1
  go_wp2_with fail
  go_loopw [3, 11] (fun v i wr => LnRel C w1 v i wr) (fun _ i _ => C.length - (intOf i).toNat)
  case atStart => exact ⟨0, [], Nat.zero_le _, rfl, by rw [List.take_zero]; exact NGrow.nil _ _, Below.refl _ _⟩
  case round =>
    obtain ⟨k, fs, hk, rfl, hown, hb⟩ := hrel
    obtain ⟨T, hT⟩ : ∃ T, (lnT C).take k = T := ⟨_, rfl⟩
    have hTl : T.length = min k 5 := by rw [← hT]; exact lnT_take_len hk
    rw [hT] at hown
    obtain ⟨va, vc, hv, hx⟩ := id hown.own.at
    subst hv
    clear hx
    have S1 := Lib.hid hown
    clear hown
    by_cases hlt : k < C.length
    · rcases h0 with h0 | ⟨b, o, rfl, hB, hc⟩
      · subst h0
        exact absurd hlt (by simp)
      obtain ⟨x, a1, b1, c1, d1, hxy⟩ : ∃ x a b c d, C[k] = (x, a, b, c, d) := ⟨_, _, _, _, _, rfl⟩
      have bw := HB1.out.trans (hb.mono hz)
      obtain ⟨e0, e1, e2, e3, e4⟩ := (hc k hlt).below bw hB
      rw [hxy] at e0 e1 e2 e3 e4
      simp only at e0 e1 e2 e3 e4
      have HXY := Lib.hid (show C[k]? = some (x, a1, b1, c1, d1) by rw [List.getElem?_eq_getElem hlt, hxy])
      have HT := Lib.hid hT
      have zb := hb.size
      have i1 : (0 : Int) ≤ (k : Int) := by omega
      have i2 : (k : Int) < (C.length : Int) := by omega
      obtain ⟨wb, hwb⟩ : ∃ V : World, V = wr.alloc (.cells #[.int .i64 x, .int .i64 a1, .int .i64 b1, .int .i64 c1, .int .i64 d1] 68) := ⟨_, rfl⟩
      have nb : Below wr.heap.size wr wb := by rw [hwb]; exact (Below.refl _ _).alloc (Nat.le_refl _) _
      have hzb : wr.heap.size + 1 ≤ wb.heap.size := by rw [hwb]; simp
      have y0 : wb.cell? ⟨wr.heap.size, 0, none⟩ = some (.int .i64 x) := by rw [hwb]; go_simp
      have y1 : wb.cell? ⟨wr.heap.size, 1, none⟩ = some (.int .i64 a1) := by rw [hwb]; go_simp
      have y2 : wb.cell? ⟨wr.heap.size, 2, none⟩ = some (.int .i64 b1) := by rw [hwb]; go_simp
      have y3 : wb.cell? ⟨wr.heap.size, 3, none⟩ = some (.int .i64 c1) := by rw [hwb]; go_simp
      have y4 : wb.cell? ⟨wr.heap.size, 4, none⟩ = some (.int .i64 d1) := by rw [hwb]; go_simp
      have nw : Below w1.heap.size w1 wb := hb.trans (nb.mono zb)
      clear hxy hc hT bw
      by_cases h5 : k < 5
      · have hT5 : T.length = k := by omega
        have HT5 := Lib.hid hT5
        have j1 : (T.length : Int) < 5 := by omega
        have hTm : T.length ≤ 5 := by omega
        obtain ⟨r, hr⟩ : ∃ r, vRank a1 b1 c1 d1 = r := ⟨_, rfl⟩
        obtain ⟨L, hL⟩ : ∃ L : Sps, [(r, 9999999)] = L := ⟨_, rfl⟩
        have HND := Lib.hid (show needOf (x, a1, b1, c1, d1) = (x, L) by unfold needOf; rw [hr, hL])
        have hL1 : L.length = 1 := by rw [← hL]; rfl
        have KR : Hid (∀ V, Calls Try.prog 42 #[ver a1 b1 c1 d1] V fun e w' => e = .returned (.int .i64 r) ∧ Below V.heap.size V w') := Lib.hid fun V => by have := implRank_any a1 b1 c1 d1 V; rwa [hr] at this
        have KS : Hid (∀ V, Calls Try.prog 68 #[.int .i64 r, .int .i64 9999999] V (RP L V)) := Lib.hid fun V => by rw [← hL]; exact rangeOfSpan_any r 9999999 V
        have HL1 := Lib.hid hL1
        have hLs : L.length ≤ 1048576 := by omega
        have hcells := Lib.hid (show ∀ V, Below wb.heap.size wb V → V.cell? ⟨wr.heap.size, 0, none⟩ = some (.int .i64 x) ∧ V.cell? ⟨wr.heap.size, 1, none⟩ = some (.int .i64 a1) ∧ V.cell? ⟨wr.heap.size, 2, none⟩ = some (.int .i64 b1) ∧ V.cell? ⟨wr.heap.size, 3, none⟩ = some (.int .i64 c1) ∧ V.cell? ⟨wr.heap.size, 4, none⟩ = some (.int .i64 d1) from fun V g =>
          ⟨(g.cell (p := ⟨wr.heap.size, 0, none⟩) (by show wr.heap.size < wb.heap.size; omega)).trans y0, (g.cell (p := ⟨wr.heap.size, 1, none⟩) (by show wr.heap.size < wb.heap.size; omega)).trans y1, (g.cell (p := ⟨wr.heap.size, 2, none⟩) (by show wr.heap.size < wb.heap.size; omega)).trans y2, (g.cell (p := ⟨wr.heap.size, 3, none⟩) (by show wr.heap.size < wb.heap.size; omega)).trans y3, (g.cell (p := ⟨wr.heap.size, 4, none⟩) (by show wr.heap.size < wb.heap.size; omega)).trans y4⟩)
        clear hL1 hr hL hT5 hTl
        go_upto_region 7 with fail
        rw [← hwb]
        clear hwb e0 e1 e2 e3 e4
        go_wp2_with fail
        go_region_held3 (fun V => V.cell? ⟨wr.heap.size, 0, none⟩ = some (.int .i64 x) ∧ V.cell? ⟨wr.heap.size, 1, none⟩ = some (.int .i64 a1) ∧ V.cell? ⟨wr.heap.size, 2, none⟩ = some (.int .i64 b1) ∧ V.cell? ⟨wr.heap.size, 3, none⟩ = some (.int .i64 c1) ∧ V.cell? ⟨wr.heap.size, 4, none⟩ = some (.int .i64 d1)) (go_keep)
          (first
          | (go_at_call 42; refine (KR.out _).mono ?_; rintro e w5 ⟨rfl, hb5⟩; have n5 : Below wb.heap.size wb w5 := Below.step (by go_grown) hb5; clear hb5; obtain ⟨q0, q1, q2, q3, q4⟩ := hcells.out _ n5)
          | (go_at_call 68; refine (KS.out _).mono ?_; rintro e w2 ⟨u2, rfl, sr2, hb2⟩; obtain ⟨na, ncap, rfl, _⟩ := id sr2; have n2 : Below wb.heap.size wb w2 := Below.step (by go_grown) hb2; obtain ⟨q0', q1', q2', q3', q4'⟩ := hcells.out _ n2; have n2r : Below wr.heap.size wr w2 := nb.trans (n2.mono nb.size); have z2 := n2r.size; have z5 := n5.size; have nw2 : Below w1.heap.size w1 w2 := nw.trans (n2.mono nw.size); obtain ⟨cs, hown2, he2, hnd2, _⟩ := S1.out.below n2r; obtain ⟨_, _, _, _, hin1⟩ := id S1.out; have hlt2 := World.ownsRow.lt hown2; have hlt1 := S1.out.own.lt; obtain ⟨F, hsF, hF0⟩ := SpF.of sr2; have hF := Lib.hid (show ∀ b ∈ F, wr.heap.size ≤ b from fun b k => by have := hF0 b k; first | (simp at this; omega) | omega); have HE2 := Lib.hid he2; have HD := Lib.hid hnd2; have HI := Lib.hid hin1; have HX := Lib.hid hsF; have HZ := Lib.hid (show wr.heap.size < w2.heap.size from by have := n2.size; omega); clear he2 hnd2 hin1 hsF hF0 sr2 hb2 q0 q1 q2 q3 q4)
          | ((try rw [if_pos (by first | rfl | kernel_rfl | simp [Region.wanted])]); refine wp_append_lies _ _ _ 31 (by rfl) w1.heap.size 59 i0 (.agg #[.int .i64 0, .slice none 0 0]) 2 32 Try.underlying31 hi hz0 hz1 hz2 rfl (by decide) _ _ cs (by rfl) (hown2.alloc (.cells #[.int .i64 x, .slice na L.length ncap] 59)) ⟨w2.heap.size, 0, none⟩ 1 1 [.int .i64 x, .slice na L.length ncap] (by rfl) rfl (need_new rfl) need_one (by omega) (by unfold maxLen; omega) (by omega) (by first | (simp; done) | (simp; omega)) _ rfl ?_; intro g cap3 w3 hown3 hgrow3 hat3 hlt3; have HP := Lib.hid (NGrow.push (Z := wr.heap.size) (W := w2.alloc (.cells #[.int .i64 x, .slice na L.length ncap] 59)) ((Below.refl _ _).alloc (Nat.le_refl _) _) HE2.out hown2.1 HD.out HI.out (fun k e => (hlt1 k e).2) HX.out hF.out z2 zb hown3 hgrow3 (by simpa using hat3)); have n3 : Below w1.heap.size w1 w3 := Below.grown (by go_grown) hgrow3 (by first | (simp; done) | (simp; omega)) (fun k e => (hlt2 k e).1); have HC3 := Lib.hid (show ∀ j, w3.cell? ⟨wr.heap.size, j, none⟩ = w2.cell? ⟨wr.heap.size, j, none⟩ from fun j => (World.cell?_of_block (a := ⟨wr.heap.size, j, none⟩) (hgrow3.block (wr.heap.size) (by have := HZ.out; first | (simp; omega) | omega) (fun e => by have := hlt1 _ e.symm; omega))).trans ((((Below.refl w2.heap.size w2).alloc (Nat.le_refl _) (.cells #[.int .i64 x, .slice na L.length ncap] 59))).cell (p := ⟨wr.heap.size, j, none⟩) HZ.out)); have v0 := (HC3.out 0).trans q0'; have v1 := (HC3.out 1).trans q1'; have v2 := (HC3.out 2).trans q2'; have v3 := (HC3.out 3).trans q3'; have v4 := (HC3.out 4).trans q4'))
        all_goals
          have HQ := Lib.hid (show LnRel C w1 (.slice (some ⟨g, 0, none⟩) (T.length + 1) cap3) (.int .i64 ((k : Int) + 1)) w3 from ln_next HT.out HXY.out h5 (by rw [HND.out]; exact HP.out) n3)
          go_wp2_with fail
          go_roundw
          case rel => exact HQ.out
          case measure => simp [intOf]; omega
      · have hT5 : T.length = 5 := by omega
        have HQ := Lib.hid (ln_rest hlt (by omega) (by rw [HT.out]; exact S1.out.below nb) nw)
        rw [hT5] at HQ ⊢
        clear hT5 hTl
        go_upto_region 7 with fail
        rw [← hwb]
        clear hwb e0 e1 e2 e3 e4
        go_wp2_with fail
        go_roundw
        case rel => exact HQ.out
        case measure => simp [intOf]; omega
    · obtain rfl : k = C.length := by omega
      have hT' : T = lnL C := by rw [HE.out, ← hT]; exact lnT_all (.inl rfl)
      subst hT'
      go_wp2_with fail
      go_ret
      exact ⟨_, _, rfl, by
        obtain ⟨cs, ⟨hl, ho⟩, hr⟩ := S1.out
        refine ⟨cs, ⟨hl, ?_⟩, hr.1, hr.2.1, fun b hb' => ⟨by have := (hr.2.2 b hb').1; omega, (hr.2.2 b hb').2⟩⟩
        rcases ho with hn | ⟨g, cap, cur, hv, hb', rest⟩
        · exact .inl hn
        · exact .inr ⟨g, cap, cur, hv, by omega, rest⟩, HB1.out.trans (hb.mono hz)⟩
end Lst
end Go.Proofs.Ytgnjhmmedogcoaa
