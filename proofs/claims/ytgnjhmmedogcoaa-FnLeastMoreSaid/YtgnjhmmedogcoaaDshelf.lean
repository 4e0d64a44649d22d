/- The contract of the model's draw of a shelf, over this seat's translation: whatever is drawn, at most 31 releases lie in a row of their own, all that they stand on new and different; nothing that was there has changed but the reader. Condition: the reader was not asked too often; the code is readable. -/
import Derived.Test.YtgnjhmmedogcoaaPuts
import Derived.Test.YtgnjhmmedogcoaaDneeds
namespace Go.Proofs.Ytgnjhmmedogcoaa
open Go.RowKit Go.Sort

namespace Foot
set_option maxRecDepth 100000 in
theorem RGrow.drawn {w w' : World} {B R : Nat} {v : Value} {S : List Rel} {fs : List (List Nat)} (h : RGrow w B v S fs) (hg : w.grownBy w' (Option.some R)) (hR : R < B) : RGrow w' B v S fs := by
  obtain ⟨cs, ho, he, hn, hi⟩ := h
  have hlt := World.ownsRow.lt ho
  exact ⟨cs, Copy.own_kept ho fun k e => hg.block k (hlt k e).2 (fun e' => by injection e' with e'; have := (hlt k e).1; omega), he.kept fun b k => hg.block b (hi b k).2.1 (fun e' => by injection e' with e'; have := (hi b k).1; omega), hn, fun b k => ⟨(hi b k).1, Nat.lt_of_lt_of_le (hi b k).2.1 hg.size, (hi b k).2.2⟩⟩
set_option maxRecDepth 100000 in
theorem RGrow.form {w : World} {B : Nat} {v : Value} {S : List Rel} {fs : List (List Nat)} (h : RGrow w B v S fs) : ∃ sa caps, v = .slice sa S.length caps ∧ ((sa = Option.none ∧ caps = 0 ∧ S = []) ∨ ∃ b o, sa = Option.some ⟨b, o, Option.none⟩) ∧ S.length ≤ caps := by
  obtain ⟨cs, ⟨hl, ho⟩, _⟩ := h
  rcases ho with ⟨rfl, hn⟩ | ⟨g, cap, cur, rfl, hb, hg, hnc, _⟩
  · obtain rfl : S = [] := List.eq_nil_of_length_eq_zero hn
    exact ⟨Option.none, 0, rfl, .inl ⟨rfl, rfl, rfl⟩, Nat.le_refl _⟩
  · exact ⟨_, cap, rfl, .inr ⟨g, 0, rfl⟩, hnc⟩
end Foot

namespace Dsh
open Foot Copy
def SzOk (S : List Rel) : Prop := ∀ q ∈ S, q.2.2.2.length ≤ 9 ∧ ∀ p ∈ q.2.2.2, p.2.length ≤ 41
set_option maxRecDepth 100000 in
theorem SzOk.big {S : List Rel} (h : SzOk S) : ∀ q ∈ S, q.2.2.2.length ≤ 1048576 ∧ ∀ p ∈ q.2.2.2, p.2.length ≤ 1048576 := fun q hq => ⟨by have := (h q hq).1; omega, fun p hp => by have := (h q hq).2 p hp; omega⟩
set_option maxRecDepth 100000 in
theorem SzOk.put {S : List Rel} {x : Rel} (h : SzOk S) (hx : x.2.2.2.length ≤ 9 ∧ ∀ p ∈ x.2.2.2, p.2.length ≤ 41) : SzOk (putL x S) := fun q hq => by
  unfold putL at hq
  simp only [List.mem_append, List.mem_singleton] at hq
  rcases hq with (hq | hq) | hq
  · exact h q (List.mem_of_mem_take hq)
  · rw [hq]; exact hx
  · exact h q (List.mem_of_mem_drop hq)
/-- The state of the draw of a shelf. -/
structure SHB (w : World) (R p c : Nat) (S : List Rel) (v : Value) (wr : World) : Prop where
  own : ∃ fs, RGrow wr w.heap.size v S fs
  len : S.length ≤ 30
  sz : SzOk S
  rd : ∃ q, p ≤ q ∧ q ≤ p + c ∧ RdAt wr R q
  gr : w.grownBy wr (some R)
variable {w wr w2 : World} {R p c c' q : Nat} {S : List Rel} {v : Value}
set_option maxRecDepth 100000 in
theorem SHB.more (h : SHB w R p c S v wr) (hc : c ≤ c') : SHB w R p c' S v wr := ⟨h.own, h.len, h.sz, by obtain ⟨q, h1, h2, h3⟩ := h.rd; exact ⟨q, h1, by omega, h3⟩, h.gr⟩
set_option maxRecDepth 100000 in
theorem SHB.draw (h : SHB w R p c S v wr) (hR : R < w.heap.size) (hq1 : p ≤ q) (hq2 : q ≤ p + c) (hd : Drawn wr R q c' w2) : SHB w R p (c + c') S v w2 := by
  obtain ⟨q', h1, h2, h3, h4⟩ := hd
  obtain ⟨fs, ho⟩ := h.own
  exact ⟨⟨fs, ho.drawn h4 hR⟩, h.len, h.sz, ⟨q', by omega, by omega, h3⟩, grown_trans h.gr h4⟩
set_option maxRecDepth 100000 in
theorem SHB.below (h : SHB w R p c S v wr) (hR : R < w.heap.size) (hb : Below wr.heap.size wr w2) : SHB w R p c S v w2 := by
  have hz := h.gr.size
  obtain ⟨q, h1, h2, h3⟩ := h.rd
  obtain ⟨fs, ho⟩ := h.own
  exact ⟨⟨fs, ho.below hb⟩, h.len, h.sz, ⟨q, h1, h2, rdAt_below h3 hb (by omega)⟩, grown_below h.gr (hb.mono hz)⟩
set_option maxRecDepth 100000 in
theorem SHB.put {x : Rel} {u : Value} {fs : List (List Nat)} (h : SHB w R p c S v wr) (hR : R < w.heap.size) (hb : Below wr.heap.size wr w2) (hok : putOk x S = true) (hx : x.2.2.2.length ≤ 9 ∧ ∀ p ∈ x.2.2.2, p.2.length ≤ 41) (hg : RGrow w2 wr.heap.size u (putL x S) fs) : SHB w R p c (putL x S) u w2 := by
  have k := h.below hR hb
  refine ⟨⟨fs, hg.mono h.gr.size⟩, shOk_len ?_, h.sz.put hx, k.rd, k.gr⟩
  unfold putOk at hok
  rw [Bool.and_eq_true] at hok
  exact hok.2
def ShelfDraw (R p : Nat) (w : World) (e : Ending) (w' : World) : Prop :=
  ∃ S v fs, e = .returned v ∧ RGrow w' w.heap.size v S fs ∧ S.length ≤ 31 ∧ SzOk S ∧ Drawn w R p 8000 w'

set_option maxRecDepth 100000 in
/-- The four odd releases of the model's table. -/
theorem tab_rel {W : World} {g k : Nat} (h : k < 4) (hg : W.heap[g]? = some (.cells #[.int .i64 7, .slice none 0 0] 59 (0, 0))) :
    ∃ (y a b c d : Int) (f : Bool) (ta : Option Addr) (tc : Nat) (M : List Nd) (F : List Nat), (∀ j, j < 7 →
      (#[.int .i64 8, .int .i64 0, .int .i64 0, .int .i64 0, .int .i64 0, .bool false, .slice none 0 0, .int .i64 0, .int .i64 0, .int .i64 0, .int .i64 0, .int .i64 0, .bool false, .slice none 0 0, .int .i64 7, .int .i64 0, .int .i64 0, .int .i64 (-1), .int .i64 0, .bool false, .slice none 0 0, .int .i64 7, .int .i64 0, .int .i64 0, .int .i64 0, .int .i64 0, .bool false, .slice (some ⟨g, 0, none⟩) 1 1] : Array Value)[k * 7 + j]? = (relc (y, (a, b, c, d), f, M) (.slice ta M.length tc))[j]?) ∧
      NdF W (.slice ta M.length tc) M F ∧ F.Nodup ∧ (∀ b ∈ F, b = g) ∧ M.length ≤ 9 ∧ ∀ p ∈ M, p.2.length ≤ 41 := by
  have each : ∀ j, j < 7 → j = 0 ∨ j = 1 ∨ j = 2 ∨ j = 3 ∨ j = 4 ∨ j = 5 ∨ j = 6 := fun j hj => by omega
  have : k = 0 ∨ k = 1 ∨ k = 2 ∨ k = 3 := by omega
  rcases this with rfl | rfl | rfl | rfl
  · exact ⟨8, 0, 0, 0, 0, false, none, 0, [], [], fun j hj => by rcases each j hj with rfl | rfl | rfl | rfl | rfl | rfl | rfl <;> rfl, ⟨none, 0, rfl, .inl ⟨rfl, rfl⟩⟩, by simp, by simp, by simp, by simp⟩
  · exact ⟨0, 0, 0, 0, 0, false, none, 0, [], [], fun j hj => by rcases each j hj with rfl | rfl | rfl | rfl | rfl | rfl | rfl <;> rfl, ⟨none, 0, rfl, .inl ⟨rfl, rfl⟩⟩, by simp, by simp, by simp, by simp⟩
  · exact ⟨7, 0, 0, -1, 0, false, none, 0, [], [], fun j hj => by rcases each j hj with rfl | rfl | rfl | rfl | rfl | rfl | rfl <;> rfl, ⟨none, 0, rfl, .inl ⟨rfl, rfl⟩⟩, by simp, by simp, by simp, by simp⟩
  · refine ⟨7, 0, 0, 0, 0, false, some ⟨g, 0, none⟩, 1, [(7, [])], [g], fun j hj => by rcases each j hj with rfl | rfl | rfl | rfl | rfl | rfl | rfl <;> rfl, ⟨some ⟨g, 0, none⟩, 1, rfl, .inr ⟨g, 1, _, [[]], rfl, hg, rfl, Nat.le_refl _, ⟨rfl, fun i hi => ?_⟩, rfl⟩⟩, by simp, by simp, by simp, by simp⟩
    obtain rfl : i = 0 := by simpa using hi
    exact ⟨rfl, none, 0, rfl, none, 0, rfl, .inl ⟨rfl, rfl⟩⟩

set_option maxRecDepth 100000 in
set_option maxHeartbeats 8000000 in
theorem l20Shelf_any (R p mo : Nat) (k0 : Int) (w : World) (hmo : mo ≤ 5) (h : RdAt w R p) (hp : p ≤ 50000000) (hn0 : -1000000 ≤ k0) (hn1 : k0 ≤ 1000000) :
    Calls Try.prog 71 #[.pointer (some ⟨R, 0, none⟩), .int .i64 (mo : Int), .int .i64 k0] w (ShelfDraw R p w) := by
  have hR := rdAt_lt h
  have h1 := rdAt_alloc h (.cells #[] 63)
  obtain ⟨i0, hi, hz0, hz1, hz2⟩ := info_parts infoRelease
  obtain ⟨w1, hw1⟩ : ∃ V : World, V = w.alloc (.cells #[] 63) := ⟨_, rfl⟩
  have S1 := Lib.hid (show SHB w R p 0 [] (.slice (some ⟨w.heap.size, 0, none⟩) 0 0) w1 from
    ⟨⟨[], RGrow.made (by rw [hw1]) (Nat.le_refl _)⟩, by simp, fun q hq => by simp at hq, ⟨p, Nat.le_refl _, Nat.le_refl _, by rw [hw1]; exact h1⟩, by rw [hw1]; exact grown_start w _ R⟩)
  have hr1 : RdAt w1 R p := by rw [hw1]; exact h1
  clear h1
  go_enter Try.func71, Try.ntmps71
  go_upto_region 2 with fail
  rw [← hw1]
  clear hw1
  go_wp2_with fail
  refine (pick_any R p _ _ hr1 (by omega)).mono ?_
  rintro e w2 ⟨j0, rfl, q0, q1, y1, hr2, hg2⟩
  have S2 := Lib.hid (S1.out.draw hR (Nat.le_refl _) (Nat.le_refl _) (drawn_one hr2 hg2))
  obtain ⟨J, rfl⟩ := Int.eq_ofNat_of_zero_le q0
  have hJ : J < 4 * mo + 4 := by have := q1 (by omega); omega
  clear q1 y1 hg2 S1 hr1 hr2 q0
  go_wp2_with fail
  go_loopw [7, 8] (fun s7 s8 wr => ∃ (j : Nat) (S : List Rel), j ≤ J ∧ s8 = .int .i64 (j : Int) ∧ SHB w R p (1 + 310 * (J - j)) S s7 wr) (fun _ s8 _ => (intOf s8).toNat)
  case atStart => exact ⟨J, [], Nat.le_refl _, rfl, S2.out.more (by omega)⟩
  case round =>
    obtain ⟨j, S, hj, rfl, hS⟩ := hrel
    obtain ⟨fs, ho⟩ := hS.own
    obtain ⟨sa, caps, hv, hform, hcap⟩ := ho.form
    subst hv
    have S3 := Lib.hid hS
    obtain ⟨q, hq1, hq2, hr⟩ := hS.rd
    have hsz := hS.gr.size
    have hSl := hS.len
    have hSz := Lib.hid hS.sz
    clear hS ho S2
    by_cases hlt : 0 < j
    · go_wp2_with fail
      refine (pick_any R q _ _ hr (by omega)).mono ?_
      rintro e w3 ⟨nm, rfl, a0, a1, y1, hr3, hg3⟩
      have S4 := Lib.hid (S3.out.draw hR hq1 hq2 (drawn_one hr3 hg3))
      clear y1 hg3 S3 hr
      go_wp2_with fail
      refine (l20Small_any R (q + 1) _ hr3 (by omega)).mono ?_
      rintro e w4 ⟨va, vb, vc, vd, rfl, hr4, hg4⟩
      have S5 := Lib.hid (S4.out.draw hR (q := q + 1) (c' := 4) (by omega) (by omega) ⟨q + 1 + 4, by omega, by omega, hr4, hg4⟩)
      clear hg4 S4 hr3
      go_wp2_with fail
      refine (pick_any R (q + 1 + 4) 12 _ hr4 (by omega)).mono ?_
      rintro e w5 ⟨gn, rfl, b0, b1, y1, hr5, hg5⟩
      have S6 := Lib.hid (S5.out.draw hR (q := q + 1 + 4) (by omega) (by omega) (drawn_one hr5 hg5))
      clear y1 hg5 S5 hr4
      go_wp2_with fail
      refine (l20NeedsM_any R (q + 1 + 4 + 1) mo nm 0 _ (by omega) hr5 (by omega) (by omega) (by omega)).mono ?_
      rintro e w6 ⟨M, u6, rfl, hown, hm9, hm41, hd⟩
      have S7 := Lib.hid (S6.out.draw hR (q := q + 1 + 4 + 1) (by omega) (by omega) hd)
      have hnd := hown.at
      obtain ⟨na, nc, rfl, hx⟩ := id hnd
      have HN := Lib.hid hnd
      obtain ⟨fs7, ho7⟩ := S7.out.own
      have H7 := Lib.hid ho7.at
      have hM : M.length ≤ 1048576 ∧ ∀ p ∈ M, p.2.length ≤ 1048576 := ⟨by omega, fun p hp => by have := hm41 p hp; omega⟩
      clear hx hown hd hnd ho7 S6 hr5
      go_wp2_with fail
      refine (specShelfPut_any sa caps S _ _ _ _ _ _ na nc M _ H7.out hform hcap (by omega) hSz.out.big HN.out hM).mono ?_
      rintro e w7 ⟨u7, fs8, rfl, gr7, hb7⟩
      rcases hok : putOk (nm, (va, vb, vc, vd), gn == 11, M) S
      · have S8 := Lib.hid ((S7.out.below hR hb7).more (c' := 1 + 310 * (J - (j - 1))) (by omega))
        clear gr7 hb7 hok
        go_wp2_with fail
        go_roundw
        case rel => exact ⟨j - 1, S, by omega, by congr 1; omega, S8.out⟩
        case measure => simp [intOf]; omega
      · rw [if_pos hok] at gr7
        have S8 := Lib.hid ((S7.out.put hR hb7 hok ⟨hm9, hm41⟩ gr7).more (c' := 1 + 310 * (J - (j - 1))) (by omega))
        clear gr7 hb7 hok
        go_wp2_with fail
        go_roundw
        case rel => exact ⟨j - 1, _, by omega, by congr 1; omega, S8.out⟩
        case measure => simp [intOf]; omega
    · obtain rfl : j = 0 := by omega
      go_wp2_with fail
      refine (odd_any R q k0 _ hr (by omega) hn0 hn1).mono ?_
      rintro e w3 ⟨o, rfl, hx, hd⟩
      have S4 := Lib.hid (S3.out.draw hR hq1 hq2 hd)
      clear hx hd S3 hr
      cases o
      · go_wp2_with fail
        go_ret
        obtain ⟨fs, ho⟩ := S4.out.own
        exact ⟨S, _, fs, rfl, ho, by omega, hSz.out, by obtain ⟨q', h1, h2, h3⟩ := S4.out.rd; exact ⟨q', h1, by omega, h3, S4.out.gr⟩⟩
      · obtain ⟨q3, q30, q31, hr3⟩ := S4.out.rd
        have z3 := S4.out.gr.size
        obtain ⟨w4, hw4⟩ : ∃ V : World, V = (w3.alloc (.cells #[.int .i64 7, .slice none 0 0] 59)).alloc (.cells #[.int .i64 8, .int .i64 0, .int .i64 0, .int .i64 0, .int .i64 0, .bool false, .slice none 0 0, .int .i64 0, .int .i64 0, .int .i64 0, .int .i64 0, .int .i64 0, .bool false, .slice none 0 0, .int .i64 7, .int .i64 0, .int .i64 0, .int .i64 (-1), .int .i64 0, .bool false, .slice none 0 0, .int .i64 7, .int .i64 0, .int .i64 0, .int .i64 0, .int .i64 0, .bool false, .slice (some ⟨w3.heap.size, 0, none⟩) 1 1] 63) := ⟨_, rfl⟩
        have n4 : Below w3.heap.size w3 w4 := by rw [hw4]; exact ((Below.refl _ _).alloc (Nat.le_refl _) _).alloc (by simp) _
        have z4 : w3.heap.size + 2 ≤ w4.heap.size := by rw [hw4]; simp
        have kb : w4.heap[w3.heap.size]? = some (.cells #[.int .i64 7, .slice none 0 0] 59 (0, 0)) := by
          rw [hw4]
          exact (Below.heap_alloc _ _ _ (by simp)).trans (heap_alloc_new w3 _)
        have tb : w4.heap[w3.heap.size + 1]? = some (.cells #[.int .i64 8, .int .i64 0, .int .i64 0, .int .i64 0, .int .i64 0, .bool false, .slice none 0 0, .int .i64 0, .int .i64 0, .int .i64 0, .int .i64 0, .int .i64 0, .bool false, .slice none 0 0, .int .i64 7, .int .i64 0, .int .i64 0, .int .i64 (-1), .int .i64 0, .bool false, .slice none 0 0, .int .i64 7, .int .i64 0, .int .i64 0, .int .i64 0, .int .i64 0, .bool false, .slice (some ⟨w3.heap.size, 0, none⟩) 1 1] 63 (0, 0)) := by
          rw [hw4]
          simpa using heap_alloc_new (w3.alloc (.cells #[.int .i64 7, .slice none 0 0] 59)) (.cells #[.int .i64 8, .int .i64 0, .int .i64 0, .int .i64 0, .int .i64 0, .bool false, .slice none 0 0, .int .i64 0, .int .i64 0, .int .i64 0, .int .i64 0, .int .i64 0, .bool false, .slice none 0 0, .int .i64 7, .int .i64 0, .int .i64 0, .int .i64 (-1), .int .i64 0, .bool false, .slice none 0 0, .int .i64 7, .int .i64 0, .int .i64 0, .int .i64 0, .int .i64 0, .bool false, .slice (some ⟨w3.heap.size, 0, none⟩) 1 1] 63)
        have hr4 := rdAt_below hr3 n4 (by omega)
        have S5 := Lib.hid (S4.out.below hR n4)
        obtain ⟨fs3, ho3⟩ := S4.out.own
        have hlt3 := ho3.lt
        obtain ⟨_, _, _, _, hin3⟩ := id ho3
        have o4 := ho3.below n4
        clear n4 S4 hr3 ho3
        go_wp2_with fail
        rw [← hw4]
        clear hw4
        refine (pick_any R q3 4 _ hr4 (by omega)).mono ?_
        rintro e w5 ⟨k', rfl, q0, q1, y1, hr5, hg5⟩
        have hk4 : k' < 4 := q1 (by omega)
        obtain ⟨kn, rfl⟩ := Int.eq_ofNat_of_zero_le q0
        have hkn : kn < 4 := by omega
        have S6 := Lib.hid (S5.out.draw hR (q := q3) (by omega) (by omega) (drawn_one hr5 hg5))
        have o5 := o4.drawn hg5 hR
        have tb5 := (hg5.block (w3.heap.size + 1) (by omega) (fun e => by injection e with e; omega)).trans tb
        have kb5 := (hg5.block w3.heap.size (by omega) (fun e => by injection e with e; omega)).trans kb
        obtain ⟨y, ta, tb', tc, td, tf, na, nc, M, F, tcell, hF, hFn, hFg, hm9, hm41⟩ := tab_rel hkn kb5
        have d0 := (cell_of_row w5 (w3.heap.size + 1) (kn * 7 + 0) _ _ (0, 0) tb5).trans (tcell 0 (by omega))
        have d1 := (cell_of_row w5 (w3.heap.size + 1) (kn * 7 + 1) _ _ (0, 0) tb5).trans (tcell 1 (by omega))
        have d2 := (cell_of_row w5 (w3.heap.size + 1) (kn * 7 + 2) _ _ (0, 0) tb5).trans (tcell 2 (by omega))
        have d3 := (cell_of_row w5 (w3.heap.size + 1) (kn * 7 + 3) _ _ (0, 0) tb5).trans (tcell 3 (by omega))
        have d4 := (cell_of_row w5 (w3.heap.size + 1) (kn * 7 + 4) _ _ (0, 0) tb5).trans (tcell 4 (by omega))
        have d5 := (cell_of_row w5 (w3.heap.size + 1) (kn * 7 + 5) _ _ (0, 0) tb5).trans (tcell 5 (by omega))
        have d6 := (cell_of_row w5 (w3.heap.size + 1) (kn * 7 + 6) _ _ (0, 0) tb5).trans (tcell 6 (by omega))
        simp only [Nat.add_zero, List.getElem?_cons_zero, List.getElem?_cons_succ, relc] at d0 d1 d2 d3 d4 d5 d6
        obtain ⟨cs, hown5, he5, hnd5, _⟩ := o5
        have HE := Lib.hid he5
        have HF := Lib.hid hF
        have HD := Lib.hid hnd5
        have HI := Lib.hid hin3
        have HL := Lib.hid hlt3
        have HG := Lib.hid hFg
        have HO := Lib.hid hown5
        have HXL := Lib.hid hg5.size
        have hz5 := hg5.size
        have HXN := Lib.hid (rel_new (w := w5) (V := w5.alloc (.cells #[.int .i64 y, .int .i64 ta, .int .i64 tb', .int .i64 tc, .int .i64 td, .bool tf, .slice na M.length nc] 63)) rfl)
        clear he5 hF hnd5 hin3 hlt3 hFg hown5 tb5 kb5 tb kb hr5 hg5 hr4 q1 y1 q0 tcell o4 S5
        have kI0 : (0 : Int) ≤ (kn : Int) := by omega
        have kI1 : (kn : Int) < 4 := by omega
        go_wp2_with (at_builtin; refine wpList_append_lies _ rfl _ _ 29 rfl w.heap.size 63 i0 (.agg #[.int .i64 0, .int .i64 0, .int .i64 0, .int .i64 0, .int .i64 0, .bool false, .slice none 0 0]) 7 72 Try.underlying29 hi hz0 hz1 hz2 rfl (by decide) _ _ cs rfl (HO.out.alloc (.cells #[.int .i64 y, .int .i64 ta, .int .i64 tb', .int .i64 tc, .int .i64 td, .bool tf, .slice na M.length nc] 63)) ⟨w5.heap.size, 0, none⟩ 1 1 [.int .i64 y, .int .i64 ta, .int .i64 tb', .int .i64 tc, .int .i64 td, .bool tf, .slice na M.length nc] rfl rfl HXN.out rel_one (by omega) (by unfold maxLen; omega) (by omega) (by first | (simp; done) | (simp; omega)) _ rfl ?_)
        intro g cap6 w6 hown6 hgrow6 hat6 hlt6
        have HP := Lib.hid (RGrow.push (x := (y, (ta, tb', tc, td), tf, M)) (Z := w3.heap.size) (w2 := w5) (W := w5.alloc (.cells #[.int .i64 y, .int .i64 ta, .int .i64 tb', .int .i64 tc, .int .i64 td, .bool tf, .slice na M.length nc] 63)) ((Below.refl _ _).alloc (Nat.le_refl _) _) HE.out HO.out.1 HD.out HI.out (fun k e => (HL.out k e).2) HF.out hFn (fun b h => by have := HG.out b h; omega) z3 hown6 hgrow6 (by simpa using hat6) (by omega))
        have HGR := Lib.hid (show w.grownBy w6 (some R) from ⟨hgrow6.os.trans S6.out.gr.os, hgrow6.tape.trans S6.out.gr.tape, hgrow6.output.trans S6.out.gr.output, Nat.le_trans S6.out.gr.size (Nat.le_trans (by simp) hgrow6.size), fun i hi hne => (hgrow6.block i (by have := S6.out.gr.size; simp; omega) (fun e => by have := (HL.out i e.symm).1; omega)).trans ((Below.heap_alloc _ _ _ (by have := S6.out.gr.size; omega)).trans (S6.out.gr.block i hi hne))⟩)
        have HRD := Lib.hid (show ∃ q, p ≤ q ∧ q ≤ p + 7500 ∧ RdAt w6 R q from by
          obtain ⟨q', h1, h2, h3⟩ := S6.out.rd
          exact ⟨q', h1, by omega, rdAt_kept (rdAt_below h3 ((Below.refl w5.heap.size w5).alloc (Nat.le_refl _) _) (by omega)) fun k hk => hgrow6.block k (by simp; omega) (fun e => by have := (HL.out k e.symm).1; omega)⟩)
        clear hown6 hgrow6 hat6 d0 d1 d2 d3 d4 d5 d6
        go_wp2_with fail
        go_ret
        exact ⟨_, _, _, rfl, HP.out, by simp; omega, fun q hq => by rcases List.mem_append.1 hq with hq | hq; exact hSz.out q hq; simp at hq; rw [hq]; exact ⟨hm9, hm41⟩, by obtain ⟨q', h1, h2, h3⟩ := HRD.out; exact ⟨q', h1, by omega, h3, HGR.out⟩⟩
end Dsh
end Go.Proofs.Ytgnjhmmedogcoaa
