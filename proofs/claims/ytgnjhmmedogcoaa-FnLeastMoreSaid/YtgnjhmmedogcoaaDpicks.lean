/- The contract of the model's draw of picks, over this seat's translation: whatever is drawn, at most seven picks lie in a row of their own; nothing that was there has changed but the reader. Condition: the reader was not asked too often; the code is readable; the shelf stands on blocks of its own behind the reader. -/
import Derived.Test.YtgnjhmmedogcoaaDshelf
import Derived.Test.YtgnjhmmedogcoaaGg
import Derived.Test.YtgnjhmmedogcoaaIn
namespace Go.Proofs.Ytgnjhmmedogcoaa
open Go.RowKit Go.Sort

namespace Dpk
open Foot Dsh
def pcs : List Pk → List Value
  | [] => []
  | x :: t => .int .i64 x.1 :: .int .i64 x.2.1 :: .int .i64 x.2.2.1 :: .int .i64 x.2.2.2.1 :: .int .i64 x.2.2.2.2 :: pcs t
set_option maxRecDepth 100000 in
theorem pcs_len : ∀ A : List Pk, (pcs A).length = A.length * 5
  | [] => rfl
  | x :: t => by simp [pcs, pcs_len t]; omega
set_option maxRecDepth 100000 in
theorem pcs_append : ∀ A B : List Pk, pcs (A ++ B) = pcs A ++ pcs B
  | [], _ => rfl
  | x :: t, B => by simp [pcs, pcs_append t B]
set_option maxRecDepth 100000 in
theorem pcs_at : ∀ (A : List Pk) (i : Nat) (h : i < A.length), (pcs A)[i * 5]? = some (.int .i64 A[i].1) ∧ (pcs A)[i * 5 + 1]? = some (.int .i64 A[i].2.1) ∧ (pcs A)[i * 5 + 2]? = some (.int .i64 A[i].2.2.1) ∧ (pcs A)[i * 5 + 3]? = some (.int .i64 A[i].2.2.2.1) ∧ (pcs A)[i * 5 + 4]? = some (.int .i64 A[i].2.2.2.2)
  | x :: t, 0, _ => ⟨rfl, rfl, rfl, rfl, rfl⟩
  | x :: t, i + 1, h => by
    have := pcs_at t i (by simpa using h)
    simp only [List.getElem_cons_succ]
    rw [show (i + 1) * 5 = i * 5 + 5 by omega]
    exact this
set_option maxRecDepth 100000 in
theorem pcs_one : ∀ (A : List Pk), ∀ u ∈ pcs A, u.oneCell' = true
  | [], u, h => by simp [pcs] at h
  | x :: t, u, h => by
    simp only [pcs, List.mem_cons] at h
    rcases h with rfl | rfl | rfl | rfl | rfl | h
    · rfl
    · rfl
    · rfl
    · rfl
    · rfl
    · exact pcs_one t u h
set_option maxRecDepth 100000 in
theorem own_cells {w : World} {B t s n : Nat} {v : Value} {xs : List Value} (h : w.ownsRow B t s v n xs) (hn : 0 < n) : ∃ g cap, v = .slice (some ⟨g, 0, none⟩) n cap ∧ B ≤ g ∧ g < w.heap.size ∧ n ≤ cap ∧ ∀ j z, xs[j]? = some z → w.cell? ⟨g, j, none⟩ = some z := by
  obtain ⟨hl, ⟨_, h0⟩ | ⟨g, cap, cur, rfl, hb, hg, hnc, hcm, hcs, htk⟩⟩ := h
  · omega
  · refine ⟨g, cap, rfl, hb, (Array.getElem?_eq_some_iff.1 hg).1, hnc, fun j z hz => ?_⟩
    have hj := (List.getElem?_eq_some_iff.1 hz).1
    rw [cell_of_row w g j cur _ (0, 0) hg]
    rw [← htk, List.getElem?_take, if_pos (by rw [hl] at hj; exact hj)] at hz
    simpa using hz
set_option maxRecDepth 100000 in
theorem own_form {w : World} {B t s n : Nat} {v : Value} {xs : List Value} (h : w.ownsRow B t s v n xs) : ∃ a c, v = .slice a n c := by
  rcases h.2 with ⟨rfl, h0⟩ | ⟨g, cap, cur, rfl, _⟩
  · exact ⟨none, 0, by rw [h0]⟩
  · exact ⟨_, cap, rfl⟩
set_option maxRecDepth 100000 in
theorem own_drawn {w w' : World} {B t s n R : Nat} {v : Value} {xs : List Value} (h : w.ownsRow B t s v n xs) (hg : w.grownBy w' (some R)) (hR : R < B) : w'.ownsRow B t s v n xs :=
  Copy.own_kept h fun k e => hg.block k ((World.ownsRow.lt h) k e).2 (fun e' => by injection e' with e'; have := ((World.ownsRow.lt h) k e).1; omega)
def POwn (w : World) (B : Nat) (v : Value) (A : List Pk) : Prop := w.ownsRow B 68 5 v A.length (pcs A)
set_option maxRecDepth 100000 in
theorem POwn.at {w : World} {B : Nat} {v : Value} {A : List Pk} (h : POwn w B v A) : PkAt w w.heap.size v A := by
  by_cases hn : 0 < A.length
  · obtain ⟨g, cap, rfl, hb, hg, hc, hz⟩ := own_cells h hn
    refine ⟨_, cap, rfl, .inr ⟨g, 0, rfl, hg, fun i hi => ?_⟩⟩
    obtain ⟨h0, h1, h2, h3, h4⟩ := pcs_at A i hi
    rw [Nat.zero_add]
    exact ⟨hz _ _ h0, hz _ _ h1, hz _ _ h2, hz _ _ h3, hz _ _ h4⟩
  · obtain rfl : A = [] := List.eq_nil_of_length_eq_zero (by omega)
    rcases h.2 with ⟨rfl, _⟩ | ⟨g, cap, cur, rfl, _⟩
    · exact ⟨none, 0, rfl, .inl rfl⟩
    · exact ⟨_, cap, rfl, .inl rfl⟩
set_option maxRecDepth 100000 in
theorem POwn.below {w w' : World} {B : Nat} {v : Value} {A : List Pk} (h : POwn w B v A) (hb : Below w.heap.size w w') : POwn w' B v A :=
  Copy.own_kept h fun k e => hb.block k ((World.ownsRow.lt h) k e).2
set_option maxRecDepth 100000 in
theorem POwn.drawn {w w' : World} {B R : Nat} {v : Value} {A : List Pk} (h : POwn w B v A) (hg : w.grownBy w' (some R)) (hR : R < B) : POwn w' B v A :=
  Copy.own_kept h fun k e => hg.block k ((World.ownsRow.lt h) k e).2 (fun e' => by injection e' with e'; have := ((World.ownsRow.lt h) k e).1; omega)
set_option maxRecDepth 100000 in
theorem POwn.made {w V : World} {B : Nat} (hV : V.heap = (w.alloc (.cells #[] 68)).heap) (hB : B ≤ w.heap.size) : POwn V B (.slice (some ⟨w.heap.size, 0, none⟩) 0 0) [] :=
  ⟨rfl, .inr ⟨w.heap.size, 0, #[], rfl, hB, by rw [hV]; exact heap_alloc_new w _, Nat.le_refl _, by unfold maxLen; omega, rfl, rfl⟩⟩
set_option maxRecDepth 100000 in
theorem POwn.form {w : World} {B : Nat} {v : Value} {A : List Pk} (h : POwn w B v A) : ∃ a cap, v = .slice a A.length cap := by
  rcases h.2 with ⟨rfl, h0⟩ | ⟨g, cap, cur, rfl, _⟩
  · exact ⟨none, 0, by rw [h0]⟩
  · exact ⟨_, cap, rfl⟩
/-- The state of the draw of picks. -/
structure PB (w : World) (R p c n : Nat) (A : List Pk) (v : Value) (wr : World) : Prop where
  own : POwn wr w.heap.size v A
  many : A.length ≤ n
  rd : ∃ q, p ≤ q ∧ q ≤ p + c ∧ RdAt wr R q
  gr : w.grownBy wr (some R)
variable {w wr w2 : World} {R p c c' n n' q : Nat} {A : List Pk} {v : Value}
set_option maxRecDepth 100000 in
theorem PB.more (h : PB w R p c n A v wr) (hc : c ≤ c') (hn : n ≤ n') : PB w R p c' n' A v wr := ⟨h.own, Nat.le_trans h.many hn, by obtain ⟨q, h1, h2, h3⟩ := h.rd; exact ⟨q, h1, by omega, h3⟩, h.gr⟩
set_option maxRecDepth 100000 in
theorem PB.draw (h : PB w R p c n A v wr) (hR : R < w.heap.size) (hq1 : p ≤ q) (hq2 : q ≤ p + c) (hd : Drawn wr R q c' w2) : PB w R p (c + c') n A v w2 := by
  obtain ⟨q', h1, h2, h3, h4⟩ := hd
  exact ⟨h.own.drawn h4 hR, h.many, ⟨q', by omega, by omega, h3⟩, grown_trans h.gr h4⟩
set_option maxRecDepth 100000 in
theorem PB.below (h : PB w R p c n A v wr) (hR : R < w.heap.size) (hb : Below wr.heap.size wr w2) : PB w R p c n A v w2 := by
  have hz := h.gr.size
  obtain ⟨q, h1, h2, h3⟩ := h.rd
  exact ⟨h.own.below hb, h.many, ⟨q, h1, h2, rdAt_below h3 hb (by omega)⟩, grown_below h.gr (hb.mono hz)⟩
set_option maxRecDepth 100000 in
theorem pk_new {w V : World} {x a b c d : Int} (hV : V.heap = (w.alloc (.cells #[.int .i64 x, .int .i64 a, .int .i64 b, .int .i64 c, .int .i64 d] 68)).heap) : ∀ j z, (pcs [(x, a, b, c, d)])[j]? = some z → V.cell? ((⟨w.heap.size, 0, none⟩ : Addr).add j) = some z := by
  have hb : V.heap[w.heap.size]? = some (.cells #[.int .i64 x, .int .i64 a, .int .i64 b, .int .i64 c, .int .i64 d] 68 (0, 0)) := by rw [hV]; exact heap_alloc_new w _
  exact World.news_of_block hb
set_option maxRecDepth 100000 in
/-- One pick more, just made. -/
theorem PB.push {x a b c1 d : Int} {g cap : Nat} {W w3 : World} (h : PB w R p c n A v wr) (hW : W = wr.alloc (.cells #[.int .i64 x, .int .i64 a, .int .i64 b, .int .i64 c1, .int .i64 d] 68)) (hR : R < w.heap.size)
    (hown : w3.ownsRow w.heap.size 68 5 (.slice (some ⟨g, 0, none⟩) (A.length + 1) cap) (A.length + 1) (pcs A ++ pcs [(x, a, b, c1, d)])) (hgrow : W.grownBy w3 v.ownBlock) :
    PB w R p c (n + 1) (A ++ [(x, a, b, c1, d)]) (.slice (some ⟨g, 0, none⟩) (A.length + 1) cap) w3 := by
  have hb : Below wr.heap.size wr W := by rw [hW]; exact (Below.refl _ _).alloc (Nat.le_refl _) _
  have hlt := World.ownsRow.lt h.own
  have hz := h.gr.size
  have hbz := hb.size
  obtain ⟨q, q1, q2, q3⟩ := h.rd
  refine ⟨?_, by have := h.many; simp; omega, ⟨q, q1, q2, rdAt_kept (rdAt_below q3 hb (by omega)) fun k hk => hgrow.block k (by omega) (fun e => by have := hlt k e.symm; omega)⟩, ?_⟩
  · unfold POwn
    rw [pcs_append, List.length_append]
    exact hown
  · have g2 := grown_below h.gr (hb.mono hz)
    exact ⟨hgrow.os.trans g2.os, hgrow.tape.trans g2.tape, hgrow.output.trans g2.output, Nat.le_trans g2.size hgrow.size, fun i hi hne => (hgrow.block i (Nat.lt_of_lt_of_le hi g2.size) (fun e => by have := hlt i e.symm; omega)).trans (g2.block i hi hne)⟩
def PicksDraw (R p : Nat) (w : World) (e : Ending) (w' : World) : Prop :=
  ∃ A v, e = .returned v ∧ POwn w' w.heap.size v A ∧ A.length ≤ 7 ∧ Drawn w R p 200 w'
set_option maxRecDepth 100000 in
/-- The three odd picks of the model's table. -/
theorem tab_pick {k : Nat} (h : k < 3) : ∃ y a b c d : Int, ∀ j, j < 5 → (#[.int .i64 0, .int .i64 0, .int .i64 0, .int .i64 0, .int .i64 0, .int .i64 8, .int .i64 0, .int .i64 0, .int .i64 0, .int .i64 0, .int .i64 7, .int .i64 0, .int .i64 0, .int .i64 (-1), .int .i64 0] : Array Value)[k * 5 + j]? = (pcs [(y, a, b, c, d)])[j]? := by
  have each : ∀ j, j < 5 → j = 0 ∨ j = 1 ∨ j = 2 ∨ j = 3 ∨ j = 4 := fun j hj => by omega
  have : k = 0 ∨ k = 1 ∨ k = 2 := by omega
  rcases this with rfl | rfl | rfl
  · exact ⟨0, 0, 0, 0, 0, fun j hj => by rcases each j hj with rfl | rfl | rfl | rfl | rfl <;> rfl⟩
  · exact ⟨8, 0, 0, 0, 0, fun j hj => by rcases each j hj with rfl | rfl | rfl | rfl | rfl <;> rfl⟩
  · exact ⟨7, 0, 0, -1, 0, fun j hj => by rcases each j hj with rfl | rfl | rfl | rfl | rfl <;> rfl⟩

set_option maxRecDepth 100000 in
set_option maxHeartbeats 8000000 in
theorem l20Picks_any (R p B0 : Nat) (k0 : Int) (sa : Option Addr) (caps : Nat) (S : List Rel) (fs : List (List Nat)) (w : World) (h : RdAt w R p) (hp : p ≤ 50000000) (hn0 : -1000000 ≤ k0) (hn1 : k0 ≤ 1000000)
    (hg : RGrow w B0 (.slice sa S.length caps) S fs) (hRB : R < B0) (hl : S.length ≤ 31) :
    Calls Try.prog 78 #[.pointer (some ⟨R, 0, none⟩), .slice sa S.length caps, .int .i64 k0] w (PicksDraw R p w) := by
  have hR := rdAt_lt h
  have h1 := rdAt_alloc h (.cells #[] 68)
  obtain ⟨i0, hi, hz0, hz1, hz2⟩ := info_parts infoPick
  obtain ⟨i1, hi1, hy0, hy1, hy2⟩ := info_parts infoInt
  have HG := Lib.hid hg
  obtain ⟨w1, hw1⟩ : ∃ V : World, V = w.alloc (.cells #[] 68) := ⟨_, rfl⟩
  have S1 := Lib.hid (show PB w R p 0 0 [] (.slice (some ⟨w.heap.size, 0, none⟩) 0 0) w1 from
    ⟨POwn.made (by rw [hw1]) (Nat.le_refl _), Nat.le_refl _, ⟨p, Nat.le_refl _, Nat.le_refl _, by rw [hw1]; exact h1⟩, by rw [hw1]; exact grown_start w _ R⟩)
  clear h1 hg
  go_enter Try.func78, Try.ntmps78
  go_upto_region 2 with fail
  rw [← hw1]
  clear hw1
  go_wp2_with fail
  go_loopw [7, 8] (fun s7 s8 wr => ∃ (k : Nat) (A : List Pk), k ≤ 6 ∧ s8 = .int .i64 (k : Int) ∧ PB w R p (12 * k) k A s7 wr) (fun _ s8 _ => 6 - (intOf s8).toNat)
  case atStart => exact ⟨0, [], Nat.zero_le _, rfl, S1.out⟩
  case round =>
    obtain ⟨k, A, hk, rfl, hS⟩ := hrel
    obtain ⟨va, vc, hv⟩ := hS.own.form
    subst hv
    have S2 := Lib.hid hS
    have hsz := hS.gr.size
    have hml := hS.many
    clear hS S1
    by_cases hlt : k < 6
    · have hltI : (k : Int) ≤ 5 := by omega
      have HAT := Lib.hid (HG.out.drawn S2.out.gr hRB).at
      go_wp2_with fail
      go_loopw [9, 10] (fun s9 s10 wi => ∃ (m : Nat) (N : List Nat), m ≤ S.length ∧ s10 = .int .i64 (m : Int) ∧ N.length ≤ m ∧ (∀ i ∈ N, i < S.length) ∧ wi.ownsRow wr.heap.size 3 1 s9 N.length (N.map fun i : Nat => Value.int .i64 (i : Int)) ∧ Below wr.heap.size wr wi) (fun _ s10 _ => S.length - (intOf s10).toNat)
      case atStart => exact ⟨0, [], Nat.zero_le _, rfl, Nat.le_refl _, by simp, ⟨rfl, .inr ⟨wr.heap.size, 0, #[], rfl, Nat.le_refl _, heap_alloc_new wr _, Nat.le_refl _, by unfold maxLen; omega, rfl, rfl⟩⟩, (Below.refl _ _).alloc (Nat.le_refl _) _⟩
      case round =>
        obtain ⟨m, N, hm, rfl, hN, hNS, hoN, hbi⟩ := hrel
        have HB := Lib.hid hbi
        have HNS := Lib.hid hNS
        have HON := Lib.hid hoN
        rename World => wi
        obtain ⟨ia, ic, hv9⟩ := own_form hoN
        subst hv9
        clear hbi hNS hoN
        by_cases hlm : m < S.length
        · obtain ⟨b, o, hsa, hB, hc⟩ : ∃ b o, sa = some ⟨b, o, none⟩ ∧ b < wr.heap.size ∧ ∀ i (h : i < S.length), RlC wr wr.heap.size b (o + i * 7) S[i] := by
            obtain ⟨a', c', e, hh⟩ := HAT.out
            simp only [Value.slice.injEq] at e
            obtain ⟨rfl, _, _⟩ := e
            rcases hh with rfl | ⟨b, o, e, hB, hc⟩
            · simp at hlm
            · exact ⟨b, o, e, hB, hc⟩
          subst hsa
          obtain ⟨⟨e0, _⟩, _⟩ := (hc m hlm).below HB.out hB
          have j0 : (0 : Int) ≤ (m : Int) := by omega
          have j1 : (m : Int) < (S.length : Int) := by omega
          obtain ⟨xn, hxn⟩ : ∃ n, S[m].1 = n := ⟨_, rfl⟩
          rw [hxn] at e0
          clear hxn hc
          have zi := HB.out.size
          by_cases hxk : xn = (k : Int)
          · subst hxk
            go_wp2_with (at_builtin; refine wpList_append_lies _ rfl _ _ 26 rfl wr.heap.size 3 i1 (.int .i64 0) 1 8 Try.underlying26 hi1 hy0 hy1 hy2 rfl (by decide) _ _ _ rfl (HON.out.alloc (.cells #[.int .i64 (m : Int)] 3)) ⟨wi.heap.size, 0, none⟩ 1 1 [.int .i64 (m : Int)] rfl rfl (one_new wi (m : Int)) (one_one _) (by omega) (by unfold maxLen; omega) (by omega) (by first | omega | (simp; done) | (simp; omega)) _ rfl ?_)
            intro g5 cap5 w5 hown5 hgrow5 hat5 hlt5
            have HO5 := Lib.hid (show w5.ownsRow wr.heap.size 3 1 (.slice (some ⟨g5, 0, none⟩) (N ++ [m]).length cap5) (N ++ [m]).length ((N ++ [m]).map fun i : Nat => Value.int .i64 (i : Int)) by rw [List.length_append, List.map_append]; exact hown5)
            have HB5 := Lib.hid ((HB.out.trans (((Below.refl wi.heap.size wi).alloc (Nat.le_refl _) (.cells #[.int .i64 (m : Int)] 3)).mono zi)).grown hgrow5 (by first | omega | (simp; omega)) (fun k e => (World.ownsRow.lt HON.out k e).1))
            clear hown5 hgrow5 hat5
            go_wp2_with fail
            go_roundw
            case rel => exact ⟨m + 1, N ++ [m], by omega, by go_num, by simp; omega, fun i hi => by rcases List.mem_append.1 hi with hi | hi; exact HNS.out i hi; simp at hi; omega, by simpa using HO5.out, HB5.out⟩
            case measure => simp [intOf]; omega
          · have hxz : (xn == (k : Int)) = false := by rw [beq_eq_false_iff_ne]; exact hxk
            go_wp2_with fail
            go_roundw
            case rel => exact ⟨m + 1, N, by omega, by go_num, by omega, HNS.out, HON.out, HB.out⟩
            case measure => simp [intOf]; omega
        · obtain rfl : m = S.length := by omega
          have S3 := Lib.hid (S2.out.below hR HB.out)
          obtain ⟨q3, q30, q31, hr3⟩ := S3.out.rd
          have z3 := S3.out.gr.size
          by_cases hN0 : 0 < N.length
          · have hN0I : (0 : Int) < (N.length : Int) := by omega
            have HRD3 := Lib.hid hr3
            clear hr3
            go_wp2_with fail
            refine (pick_any R q3 3 _ HRD3.out (by omega)).mono ?_
            rintro e w4 ⟨k3, rfl, a0, a1, y1, hr4, hg4⟩
            have S4 := Lib.hid (S3.out.draw hR (q := q3) (by omega) (by omega) (drawn_one hr4 hg4))
            have HON4 := Lib.hid (own_drawn HON.out hg4 (by omega))
            have HRD := Lib.hid hr4
            clear y1 hg4 hr4
            by_cases h30 : 0 < k3
            · go_wp2_with fail
              refine (pick_any R (q3 + 1) (N.length : Int) _ HRD.out (by omega)).mono ?_
              rintro e w5 ⟨ki, rfl, c0, c1, y1, hr5, hg5⟩
              have S5 := Lib.hid (S4.out.draw hR (q := q3 + 1) (by omega) (by omega) (drawn_one hr5 hg5))
              have c2 : ki < (N.length : Int) := c1 (by omega)
              obtain ⟨kn, rfl⟩ := Int.eq_ofNat_of_zero_le c0
              have hkn : kn < N.length := by omega
              obtain ⟨ig, igc, hiv, _, _, _, hic⟩ := own_cells (own_drawn HON4.out hg5 (by omega)) hN0
              simp only [Value.slice.injEq] at hiv
              obtain ⟨rfl, _, rfl⟩ := hiv
              have i0c := hic kn (.int .i64 (N[kn] : Nat)) (by simp [hkn])
              obtain ⟨ii, hii⟩ : ∃ i, N[kn] = i := ⟨_, rfl⟩
              have hiS : ii < S.length := by rw [← hii]; exact HNS.out _ (List.getElem_mem hkn)
              rw [hii] at i0c
              have hat5 := (HG.out.drawn S5.out.gr hRB).at
              obtain ⟨b, o, hsa, hB, hc⟩ : ∃ b o, sa = some ⟨b, o, none⟩ ∧ b < w5.heap.size ∧ ∀ i (h : i < S.length), RlC w5 w5.heap.size b (o + i * 7) S[i] := by
                obtain ⟨a', c', e, hh⟩ := hat5
                simp only [Value.slice.injEq] at e
                obtain ⟨rfl, _, _⟩ := e
                rcases hh with rfl | ⟨b, o, e, hB, hc⟩
                · simp at hiS
                · exact ⟨b, o, e, hB, hc⟩
              subst hsa
              obtain ⟨⟨_, e1, e2, e3, e4, _⟩, _⟩ := hc ii hiS
              obtain ⟨x0, x1, x2, x3, x4, xr, hxy⟩ : ∃ x a b c d r, S[ii] = (x, (a, b, c, d), r) := ⟨_, _, _, _, _, _, rfl⟩
              rw [hxy] at e1 e2 e3 e4
              simp only at e1 e2 e3 e4
              have j0 : (0 : Int) ≤ (ii : Int) := by omega
              have j1 : (ii : Int) < (S.length : Int) := by omega
              have jk0 : (0 : Int) ≤ (kn : Int) := by omega
              have z5 := S5.out.gr.size
              clear hc hat5 hxy hii hic y1 hg5 hr5 c0 c1
              go_wp2_with (at_builtin; refine wpList_append_lies _ rfl _ _ 40 rfl w.heap.size 68 i0 (.agg #[.int .i64 0, .int .i64 0, .int .i64 0, .int .i64 0, .int .i64 0]) 5 40 Try.underlying40 hi hz0 hz1 hz2 rfl (by decide) _ _ (pcs A) rfl (World.ownsRow.alloc S5.out.own (.cells #[.int .i64 (k : Int), .int .i64 x1, .int .i64 x2, .int .i64 x3, .int .i64 x4] 68)) ⟨w5.heap.size, 0, none⟩ 1 1 (pcs [((k : Int), x1, x2, x3, x4)]) rfl rfl (pk_new rfl) (pcs_one _) (by omega) (by unfold maxLen; omega) (by omega) (by first | omega | (simp; done) | (simp; omega)) _ rfl ?_)
              intro gx capx wx hownx hgrowx hatx hltx
              have HP := Lib.hid (PB.push S5.out rfl hR hownx hgrowx)
              clear hownx hgrowx hatx
              go_wp2_with fail
              go_roundw
              case rel => exact ⟨k + 1, _, by omega, by go_num, HP.out.more (by omega) (by omega)⟩
              case measure => simp [intOf]; omega
            · have h30D : decide (0 < k3) = false := decide_eq_false h30
              go_wp2_with fail
              refine (pick_any R (q3 + 1) 12 _ HRD.out (by omega)).mono ?_
              rintro e w7 ⟨gn, rfl, b0, b1, y2, hr7, hg7⟩
              have S7 := Lib.hid (S4.out.draw hR (q := q3 + 1) (by omega) (by omega) (drawn_one hr7 hg7))
              clear y2 hg7
              by_cases e11 : gn = 11
              · subst e11
                go_wp2_with fail
                refine (l20Small_any R (q3 + 1 + 1) _ hr7 (by omega)).mono ?_
                rintro e w8 ⟨x1, x2, x3, x4, rfl, hr8, hg8⟩
                have S8 := Lib.hid (S7.out.draw hR (q := q3 + 1 + 1) (c' := 4) (by omega) (by omega) ⟨q3 + 1 + 1 + 4, by omega, by omega, hr8, hg8⟩)
                have z8 := S8.out.gr.size
                clear hg8 hr8
                go_wp2_with (at_builtin; refine wpList_append_lies _ rfl _ _ 40 rfl w.heap.size 68 i0 (.agg #[.int .i64 0, .int .i64 0, .int .i64 0, .int .i64 0, .int .i64 0]) 5 40 Try.underlying40 hi hz0 hz1 hz2 rfl (by decide) _ _ (pcs A) rfl (World.ownsRow.alloc S8.out.own (.cells #[.int .i64 (k : Int), .int .i64 x1, .int .i64 x2, .int .i64 x3, .int .i64 x4] 68)) ⟨w8.heap.size, 0, none⟩ 1 1 (pcs [((k : Int), x1, x2, x3, x4)]) rfl rfl (pk_new rfl) (pcs_one _) (by omega) (by unfold maxLen; omega) (by omega) (by first | omega | (simp; done) | (simp; omega)) _ rfl ?_)
                intro gx capx wx hownx hgrowx hatx hltx
                have HP := Lib.hid (PB.push S8.out rfl hR hownx hgrowx)
                clear hownx hgrowx hatx
                go_wp2_with fail
                go_roundw
                case rel => exact ⟨k + 1, _, by omega, by go_num, HP.out.more (by omega) (by omega)⟩
                case measure => simp [intOf]; omega
              · have e11z : (gn == 11) = false := by rw [beq_eq_false_iff_ne]; exact e11
                go_wp2_with fail
                go_roundw
                case rel => exact ⟨k + 1, A, by omega, by go_num, S7.out.more (by omega) (by omega)⟩
                case measure => simp [intOf]; omega
          · have hN0D : decide ((0 : Int) < (N.length : Int)) = false := decide_eq_false (by omega)
            have HRD := Lib.hid hr3
            clear hr3
            go_wp2_with fail
            refine (pick_any R (q3) 12 _ HRD.out (by omega)).mono ?_
            rintro e w7 ⟨gn, rfl, b0, b1, y2, hr7, hg7⟩
            have S7 := Lib.hid (S3.out.draw hR (q := q3) (by omega) (by omega) (drawn_one hr7 hg7))
            clear y2 hg7
            by_cases e11 : gn = 11
            · subst e11
              go_wp2_with fail
              refine (l20Small_any R (q3 + 1) _ hr7 (by omega)).mono ?_
              rintro e w8 ⟨x1, x2, x3, x4, rfl, hr8, hg8⟩
              have S8 := Lib.hid (S7.out.draw hR (q := q3 + 1) (c' := 4) (by omega) (by omega) ⟨q3 + 1 + 4, by omega, by omega, hr8, hg8⟩)
              have z8 := S8.out.gr.size
              clear hg8 hr8
              go_wp2_with (at_builtin; refine wpList_append_lies _ rfl _ _ 40 rfl w.heap.size 68 i0 (.agg #[.int .i64 0, .int .i64 0, .int .i64 0, .int .i64 0, .int .i64 0]) 5 40 Try.underlying40 hi hz0 hz1 hz2 rfl (by decide) _ _ (pcs A) rfl (World.ownsRow.alloc S8.out.own (.cells #[.int .i64 (k : Int), .int .i64 x1, .int .i64 x2, .int .i64 x3, .int .i64 x4] 68)) ⟨w8.heap.size, 0, none⟩ 1 1 (pcs [((k : Int), x1, x2, x3, x4)]) rfl rfl (pk_new rfl) (pcs_one _) (by omega) (by unfold maxLen; omega) (by omega) (by first | omega | (simp; done) | (simp; omega)) _ rfl ?_)
              intro gx capx wx hownx hgrowx hatx hltx
              have HP := Lib.hid (PB.push S8.out rfl hR hownx hgrowx)
              clear hownx hgrowx hatx
              go_wp2_with fail
              go_roundw
              case rel => exact ⟨k + 1, _, by omega, by go_num, HP.out.more (by omega) (by omega)⟩
              case measure => simp [intOf]; omega
            · have e11z : (gn == 11) = false := by rw [beq_eq_false_iff_ne]; exact e11
              go_wp2_with fail
              go_roundw
              case rel => exact ⟨k + 1, A, by omega, by go_num, S7.out.more (by omega) (by omega)⟩
              case measure => simp [intOf]; omega
    · obtain rfl : k = 6 := by omega
      obtain ⟨q, hq1, hq2, hr⟩ := S2.out.rd
      go_wp2_with fail
      refine (odd_any R q k0 _ hr (by omega) hn0 hn1).mono ?_
      rintro e w3 ⟨o, rfl, hx, hd⟩
      have S3 := Lib.hid (S2.out.draw hR hq1 hq2 hd)
      clear hx hd hr
      cases o
      · go_wp2_with fail
        go_ret
        exact ⟨A, _, rfl, S3.out.own, by have := S3.out.many; omega, by obtain ⟨q', h1, h2, h3⟩ := S3.out.rd; exact ⟨q', h1, by omega, h3, S3.out.gr⟩⟩
      · obtain ⟨q3, q30, q31, hr3⟩ := S3.out.rd
        have z3 := S3.out.gr.size
        obtain ⟨w4, hw4⟩ : ∃ V : World, V = w3.alloc (.cells #[.int .i64 0, .int .i64 0, .int .i64 0, .int .i64 0, .int .i64 0, .int .i64 8, .int .i64 0, .int .i64 0, .int .i64 0, .int .i64 0, .int .i64 7, .int .i64 0, .int .i64 0, .int .i64 (-1), .int .i64 0] 68) := ⟨_, rfl⟩
        have n4 : Below w3.heap.size w3 w4 := by rw [hw4]; exact (Below.refl _ _).alloc (Nat.le_refl _) _
        have z4 : w3.heap.size + 1 ≤ w4.heap.size := by rw [hw4]; simp
        have tb : w4.heap[w3.heap.size]? = some (.cells #[.int .i64 0, .int .i64 0, .int .i64 0, .int .i64 0, .int .i64 0, .int .i64 8, .int .i64 0, .int .i64 0, .int .i64 0, .int .i64 0, .int .i64 7, .int .i64 0, .int .i64 0, .int .i64 (-1), .int .i64 0] 68 (0, 0)) := by
          rw [hw4]
          exact heap_alloc_new w3 _
        have hr4 := rdAt_below hr3 n4 (by omega)
        have S4 := Lib.hid (S3.out.below hR n4)
        clear n4 hr3
        go_wp2_with fail
        rw [← hw4]
        clear hw4
        refine (pick_any R q3 3 _ hr4 (by omega)).mono ?_
        rintro e w5 ⟨k', rfl, a0, a1, y1, hr5, hg5⟩
        have hk3 : k' < 3 := a1 (by omega)
        obtain ⟨kn, rfl⟩ := Int.eq_ofNat_of_zero_le a0
        have hkn : kn < 3 := by omega
        have S5 := Lib.hid (S4.out.draw hR (q := q3) (by omega) (by omega) (drawn_one hr5 hg5))
        have tb5 := (hg5.block w3.heap.size (by omega) (fun e => by injection e with e; omega)).trans tb
        obtain ⟨y, x1, x2, x3, x4, tcell⟩ := tab_pick hkn
        have d0 := (cell_of_row w5 w3.heap.size (kn * 5 + 0) _ _ (0, 0) tb5).trans (tcell 0 (by omega))
        have d1 := (cell_of_row w5 w3.heap.size (kn * 5 + 1) _ _ (0, 0) tb5).trans (tcell 1 (by omega))
        have d2 := (cell_of_row w5 w3.heap.size (kn * 5 + 2) _ _ (0, 0) tb5).trans (tcell 2 (by omega))
        have d3 := (cell_of_row w5 w3.heap.size (kn * 5 + 3) _ _ (0, 0) tb5).trans (tcell 3 (by omega))
        have d4 := (cell_of_row w5 w3.heap.size (kn * 5 + 4) _ _ (0, 0) tb5).trans (tcell 4 (by omega))
        simp only [Nat.add_zero, List.getElem?_cons_zero, List.getElem?_cons_succ, pcs] at d0 d1 d2 d3 d4
        have z5 := S5.out.gr.size
        have hm5 := S5.out.many
        clear tb5 tb hr5 hg5 hr4 y1 a0 tcell a1
        have kI0 : (0 : Int) ≤ (kn : Int) := by omega
        have kI1 : (kn : Int) < 3 := by omega
        go_wp2_with (at_builtin; refine wpList_append_lies _ rfl _ _ 40 rfl w.heap.size 68 i0 (.agg #[.int .i64 0, .int .i64 0, .int .i64 0, .int .i64 0, .int .i64 0]) 5 40 Try.underlying40 hi hz0 hz1 hz2 rfl (by decide) _ _ (pcs A) rfl (World.ownsRow.alloc S5.out.own (.cells #[.int .i64 y, .int .i64 x1, .int .i64 x2, .int .i64 x3, .int .i64 x4] 68)) ⟨w5.heap.size, 0, none⟩ 1 1 (pcs [(y, x1, x2, x3, x4)]) rfl rfl (pk_new rfl) (pcs_one _) (by omega) (by unfold maxLen; omega) (by omega) (by first | omega | (simp; done) | (simp; omega)) _ rfl ?_)
        intro gx capx wx hownx hgrowx hatx hltx
        have HP := Lib.hid (PB.push S5.out rfl hR hownx hgrowx)
        clear hownx hgrowx hatx
        go_wp2_with fail
        go_ret
        exact ⟨_, _, rfl, HP.out.own, by have := HP.out.many; omega, by obtain ⟨q', h1, h2, h3⟩ := HP.out.rd; exact ⟨q', h1, by omega, h3, HP.out.gr⟩⟩
end Dpk
end Go.Proofs.Ytgnjhmmedogcoaa
