/- Contracts of the model's draws of needs, over this seat's translation: whatever is drawn, at most nine needs lie in a row of their own, the spans of each elsewhere; nothing that was there has changed but the reader. Condition: the reader was not asked too often; the code is readable. -/
import Derived.Test.YtgnjhmmedogcoaaDnear
import Derived.Test.YtgnjhmmedogcoaaGf
import Derived.Deep.CutRange
namespace Go.Proofs.Ytgnjhmmedogcoaa
open Go.RowKit Go.Sort

set_option maxRecDepth 100000 in
theorem need_new {w V : World} {x : Int} {u : Value} (hV : V.heap = (w.alloc (.cells #[.int .i64 x, u] 59)).heap) : ∀ j z, [Value.int .i64 x, u][j]? = some z → V.cell? ((⟨w.heap.size, 0, none⟩ : Addr).add j) = some z := by
  have hb : V.heap[w.heap.size]? = some (.cells #[.int .i64 x, u] 59 (0, 0)) := by rw [hV]; exact heap_alloc_new w _
  intro j z hz
  have hadd : (⟨w.heap.size, 0, none⟩ : Addr).add j = ⟨w.heap.size, j, none⟩ := by unfold Addr.add; split <;> simp_all
  rw [hadd, cell_of_row V _ j _ _ (0, 0) hb]
  match j, hz with
  | 0, hz => exact hz
  | 1, hz => exact hz
set_option maxRecDepth 100000 in
theorem need_one {x : Int} {a : Option Addr} {n cap : Nat} : ∀ u ∈ [Value.int .i64 x, .slice a n cap], u.oneCell' = true := by
  intro u hu
  simp at hu
  rcases hu with rfl | rfl <;> rfl

/-- The state of the draw of needs. -/
structure NB (w : World) (R p c n : Nat) (M : List Nd) (v : Value) (wr : World) : Prop where
  own : NOwn wr w.heap.size w.heap.size v M
  len : ∀ q ∈ M, q.2.length ≤ 41
  many : M.length ≤ n
  rd : ∃ q, p ≤ q ∧ q ≤ p + c ∧ RdAt wr R q
  gr : w.grownBy wr (some R)
variable {w wr w2 : World} {R p c c' n q : Nat} {M : List Nd} {v : Value}
set_option maxRecDepth 100000 in
theorem NB.more (h : NB w R p c n M v wr) (hc : c ≤ c') : NB w R p c' n M v wr := ⟨h.own, h.len, h.many, by obtain ⟨q, h1, h2, h3⟩ := h.rd; exact ⟨q, h1, by omega, h3⟩, h.gr⟩
set_option maxRecDepth 100000 in
theorem NB.draw (h : NB w R p c n M v wr) (hR : R < w.heap.size) (hq1 : p ≤ q) (hq2 : q ≤ p + c) (hd : Drawn wr R q c' w2) : NB w R p (c + c') n M v w2 := by
  obtain ⟨q', h1, h2, h3, h4⟩ := hd
  exact ⟨h.own.drawn h4 hR hR, h.len, h.many, ⟨q', by omega, by omega, h3⟩, grown_trans h.gr h4⟩

set_option maxRecDepth 100000 in
theorem NB.below (h : NB w R p c n M v wr) (hR : R < w.heap.size) (hb : Below wr.heap.size wr w2) : NB w R p c n M v w2 := by
  have hz := h.gr.size
  obtain ⟨q, h1, h2, h3⟩ := h.rd
  exact ⟨h.own.below hb, h.len, h.many, ⟨q, h1, h2, rdAt_below h3 hb (by omega)⟩, grown_below h.gr (hb.mono hz)⟩
set_option maxRecDepth 100000 in
/-- The four odd needs of the model's table. -/
theorem tab_need {W : World} {lo g k : Nat} {x : Option Nat} (h : k < 4) (hs : SpX W lo x (.slice (some ⟨g, 0, none⟩) 1 1) [(3, 2)]) :
    ∃ (y : Int) (a : Option Addr) (c : Nat) (L : List (Int × Int)), (#[.int .i64 (-1), .slice none 0 0, .int .i64 8, .slice none 0 0, .int .i64 0, .slice none 0 0, .int .i64 7, .slice (some ⟨g, 0, none⟩) 1 1] : Array Value)[k * 2]? = some (.int .i64 y) ∧
      (#[.int .i64 (-1), .slice none 0 0, .int .i64 8, .slice none 0 0, .int .i64 0, .slice none 0 0, .int .i64 7, .slice (some ⟨g, 0, none⟩) 1 1] : Array Value)[k * 2 + 1]? = some (.slice a L.length c) ∧ SpX W lo x (.slice a L.length c) L ∧ L.length ≤ 41 := by
  have : k = 0 ∨ k = 1 ∨ k = 2 ∨ k = 3 := by omega
  rcases this with rfl | rfl | rfl | rfl
  · exact ⟨_, none, 0, [], rfl, rfl, ⟨_, _, rfl, .inl rfl⟩, by simp⟩
  · exact ⟨_, none, 0, [], rfl, rfl, ⟨_, _, rfl, .inl rfl⟩, by simp⟩
  · exact ⟨_, none, 0, [], rfl, rfl, ⟨_, _, rfl, .inl rfl⟩, by simp⟩
  · exact ⟨_, some ⟨g, 0, none⟩, 1, [(3, 2)], rfl, rfl, hs, by simp⟩

def NeedsDraw (R p : Nat) (w : World) (e : Ending) (w' : World) : Prop :=
  ∃ M v, e = .returned v ∧ NOwn w' w.heap.size w.heap.size v M ∧ M.length ≤ 9 ∧ (∀ q ∈ M, q.2.length ≤ 41) ∧ Drawn w R p 300 w'

set_option maxRecDepth 100000 in
/-- One need more, just made behind a draw. -/
theorem NB.push {x : Int} {L : List (Int × Int)} {na : Option Addr} {ncap g cap : Nat} {W w3 : World} {cs : List Value} (h : NB w R p c n M v wr) (hW : W = wr.alloc (.cells #[.int .i64 x, .slice na L.length ncap] 59))
    (ho : wr.ownsRow w.heap.size 59 2 v M.length cs)
    (hc : ∀ i (h : i < M.length), cs[i * 2]? = some (.int .i64 M[i].1) ∧ ∃ a cap, cs[i * 2 + 1]? = some (.slice a M[i].2.length cap) ∧ SpX wr w.heap.size v.ownBlock (.slice a M[i].2.length cap) M[i].2)
    (hs : SpX wr w.heap.size v.ownBlock (.slice na L.length ncap) L) (hL : L.length ≤ 41) (hR : R < w.heap.size)
    (hown : w3.ownsRow w.heap.size 59 2 (.slice (some ⟨g, 0, none⟩) (M.length + 1) cap) (M.length + 1) (cs ++ [.int .i64 x, .slice na L.length ncap])) (hgrow : W.grownBy w3 v.ownBlock) (hat : v.ownBlock = some g ∨ g = W.heap.size) :
    NB w R p c (n + 1) (M ++ [(x, L)]) (.slice (some ⟨g, 0, none⟩) (M.length + 1) cap) w3 := by
  have hb : Below wr.heap.size wr W := by rw [hW]; exact (Below.refl _ _).alloc (Nat.le_refl _) _
  have hoW : W.ownsRow w.heap.size 59 2 v M.length cs := by
    refine ⟨ho.1, ?_⟩
    rcases ho.2 with hn | ⟨g', cap', cur, hv, hb', hg, rest⟩
    · exact .inl hn
    · exact .inr ⟨g', cap', cur, hv, hb', (hb.block g' (Array.getElem?_eq_some_iff.1 hg).1).trans hg, rest⟩
  have hlt := World.ownsRow.lt ho
  have hz := h.gr.size
  obtain ⟨q, q1, q2, q3⟩ := h.rd
  refine ⟨NOwn.grow (P := [(x, L)]) hoW (fun i hi => by obtain ⟨h1, a, cp, h2, h3⟩ := hc i hi; exact ⟨h1, a, cp, h2, h3.below hb⟩) (fun i hi => ?_) hown hgrow hat, fun q hq => ?_, by have := h.many; simp; omega, ⟨q, q1, q2, rdAt_kept (rdAt_below q3 hb (by omega)) fun k hk => ?_⟩, ?_⟩
  · obtain rfl : i = 0 := by simpa using hi
    exact ⟨rfl, na, ncap, rfl, hs.below hb⟩
  · rcases List.mem_append.1 hq with hq | hq
    · exact h.len q hq
    · simp at hq
      rw [hq]
      exact hL
  · exact hgrow.block k (by have := hb.size; omega) (fun e => by have := hlt k e.symm; omega)
  · have g2 := grown_below h.gr (hb.mono hz)
    exact ⟨hgrow.os.trans g2.os, hgrow.tape.trans g2.tape, hgrow.output.trans g2.output, Nat.le_trans g2.size hgrow.size, fun i hi hne => (hgrow.block i (Nat.lt_of_lt_of_le hi g2.size) (fun e => by have := hlt i e.symm; omega)).trans (g2.block i hi hne)⟩

set_option maxRecDepth 100000 in
set_option maxHeartbeats 8000000 in
theorem l20NeedsM_any (R p mo : Nat) (but k0 : Int) (w : World) (hmo : mo ≤ 7) (h : RdAt w R p) (hp : p ≤ 100000000) (hn0 : -1000000 ≤ k0) (hn1 : k0 ≤ 1000000) :
    Calls Try.prog 72 #[.pointer (some ⟨R, 0, none⟩), .int .i64 (mo : Int), .int .i64 but, .int .i64 k0] w (NeedsDraw R p w) := by
  have hR := rdAt_lt h
  have h1 := rdAt_alloc h (.cells #[] 59)
  obtain ⟨i0, hi, hz0, hz1, hz2⟩ := info_parts infoNeed
  obtain ⟨w1, hw1⟩ : ∃ V : World, V = w.alloc (.cells #[] 59) := ⟨_, rfl⟩
  have S1 := Lib.hid (show NB w R p 0 0 [] (.slice (some ⟨w.heap.size, 0, none⟩) 0 0) w1 from
    ⟨NOwn.made (by rw [hw1]) (Nat.le_refl _), by simp, Nat.le_refl _, ⟨p, Nat.le_refl _, Nat.le_refl _, by rw [hw1]; exact h1⟩, by rw [hw1]; exact grown_start w _ R⟩)
  clear h1
  go_enter Try.func72, Try.ntmps72
  go_upto_region 2 with fail
  rw [← hw1]
  clear hw1
  go_wp2_with fail
  go_loopw [9, 10] (fun s9 s10 wr => ∃ (k : Nat) (M : List Nd), k ≤ mo + 1 ∧ s10 = .int .i64 (k : Int) ∧ NB w R p (21 * k) k M s9 wr) (fun _ s10 _ => mo + 1 - (intOf s10).toNat)
  case atStart => exact ⟨0, [], Nat.zero_le _, rfl, S1.out⟩
  case round =>
    obtain ⟨k, M, hk, rfl, hS⟩ := hrel
    obtain ⟨va, vc, hv, hx⟩ := id hS.own.at
    clear hx
    subst hv
    have S2 := Lib.hid hS
    obtain ⟨q, hq1, hq2, hr⟩ := hS.rd
    have hml := hS.many
    have hsz := hS.gr.size
    clear hS
    by_cases hlt : k < mo + 1
    · by_cases hbut : (k : Int) = but
      · have hz : ((k : Int) != but) = false := by simp [hbut]
        go_wp2_with fail
        go_roundw
        case rel => exact ⟨k + 1, M, by omega, by go_num, ⟨S2.out.own, S2.out.len, by omega, ⟨q, hq1, by omega, hr⟩, S2.out.gr⟩⟩
        case measure => simp [intOf]; omega
      · have hz : ((k : Int) != but) = true := by rw [bne_iff_ne]; exact hbut
        go_wp2_with fail
        refine (pick_any R q 3 _ hr (by omega)).mono ?_
        rintro e w3 ⟨k', rfl, q0, q1, y1, hr3, hg3⟩
        have S3 := Lib.hid (S2.out.draw hR hq1 hq2 (drawn_one hr3 hg3))
        clear q1 y1 hg3 S2
        by_cases e0 : k' = 0
        · subst e0
          by_cases h5 : M.length < 5
          · have h5I : (M.length : Int) < 5 := by omega
            have hr4 := Lib.hid hr3
            go_wp2_with fail
            refine (l20Near_any R (q + 1) _ hr3 (by omega)).mono ?_
            rintro e w4 ⟨L, u, rfl, hsr, hL, hd⟩
            have S4 := Lib.hid (S3.out.draw hR (q := q + 1) (by omega) (by omega) hd)
            have z3 := S3.out.gr.size
            have z4 := S4.out.gr.size
            have hlt3 := S3.out.own.lt
            have hsx := SpX.res (x := Value.ownBlock (.slice va M.length vc)) hsr (fun b hb => (hlt3 b hb).2)
            obtain ⟨ua, uc, rfl, hx⟩ := id hsr
            have HS := Lib.hid (hsx.down (lo' := w.heap.size) z3)
            obtain ⟨cs, hown4, hc4⟩ := S4.out.own
            have HC := Lib.hid hc4
            clear hx hsr hd hsx hc4 hr3
            go_wp2_with (at_builtin; refine wpList_append_lies _ rfl _ _ 31 rfl w.heap.size 59 i0 (.agg #[.int .i64 0, .slice none 0 0]) 2 32 Try.underlying31 hi hz0 hz1 hz2 rfl (by decide) _ _ cs rfl (hown4.alloc (.cells #[.int .i64 (k : Int), .slice ua L.length uc] 59)) ⟨w4.heap.size, 0, none⟩ 1 1 [.int .i64 (k : Int), .slice ua L.length uc] rfl rfl (need_new rfl) need_one (by omega) (by unfold maxLen; omega) (by omega) (by simp; omega) _ rfl ?_)
            intro g cap w5 hown5 hgrow hat hlt5
            have HP := Lib.hid (NB.push S4.out rfl hown4 HC.out HS.out (by omega) hR hown5 hgrow (by simpa using hat))
            clear hown5 hgrow hat hown4
            go_wp2_with fail
            go_roundw
            case rel => exact ⟨k + 1, _, by omega, by go_num, HP.out.more (by omega)⟩
            case measure => simp [intOf]; omega
          · have h5I : ¬ (M.length : Int) < 5 := by omega
            have h5D : decide ((M.length : Int) < 5) = false := decide_eq_false h5I
            go_wp2_with fail
            go_roundw
            case rel => exact ⟨k + 1, M, by omega, by go_num, ⟨S3.out.own, S3.out.len, by omega, (S3.out.more (by omega : 21 * k + 1 ≤ 21 * (k + 1))).rd, S3.out.gr⟩⟩
            case measure => simp [intOf]; omega
        · have hz0 : (k' == 0) = false := by rw [beq_eq_false_iff_ne]; exact e0
          go_wp2_with fail
          go_roundw
          case rel => exact ⟨k + 1, M, by omega, by go_num, ⟨S3.out.own, S3.out.len, by omega, (S3.out.more (by omega : 21 * k + 1 ≤ 21 * (k + 1))).rd, S3.out.gr⟩⟩
          case measure => simp [intOf]; omega
    · obtain rfl : k = mo + 1 := by omega
      go_wp2_with fail
      refine (odd_any R q k0 _ hr (by omega) hn0 hn1).mono ?_
      rintro e w3 ⟨o, rfl, hx, hd⟩
      have S3 := Lib.hid (S2.out.draw hR hq1 hq2 hd)
      clear hx hd S2 hr
      cases o
      · go_wp2_with fail
        go_ret
        exact ⟨M, _, rfl, S3.out.own, by omega, S3.out.len, by obtain ⟨q', h1, h2, h3⟩ := S3.out.rd; exact ⟨q', h1, by omega, h3, S3.out.gr⟩⟩
      · obtain ⟨q3, q30, q31, hr3⟩ := S3.out.rd
        have z3 := S3.out.gr.size
        obtain ⟨w4, hw4⟩ : ∃ V : World, V = (w3.alloc (.cells #[.int .i64 3, .int .i64 2] 73)).alloc (.cells #[.int .i64 (-1), .slice none 0 0, .int .i64 8, .slice none 0 0, .int .i64 0, .slice none 0 0, .int .i64 7, .slice (some ⟨w3.heap.size, 0, none⟩) 1 1] 59) := ⟨_, rfl⟩
        have n4 : Below w3.heap.size w3 w4 := by rw [hw4]; exact ((Below.refl _ _).alloc (Nat.le_refl _) _).alloc (by simp) _
        have z4 : w3.heap.size + 2 ≤ w4.heap.size := by rw [hw4]; simp
        have kb : SpBlk w4 w3.heap.size 1 [(3, 2)] := by
          rw [hw4]
          exact (one_span w3 3 2).kept (Below.heap_alloc _ _ _ (by simp))
        have tb : w4.heap[w3.heap.size + 1]? = some (.cells #[.int .i64 (-1), .slice none 0 0, .int .i64 8, .slice none 0 0, .int .i64 0, .slice none 0 0, .int .i64 7, .slice (some ⟨w3.heap.size, 0, none⟩) 1 1] 59 (0, 0)) := by
          rw [hw4]
          have := heap_alloc_new (w3.alloc (.cells #[.int .i64 3, .int .i64 2] 73)) (.cells #[.int .i64 (-1), .slice none 0 0, .int .i64 8, .slice none 0 0, .int .i64 0, .slice none 0 0, .int .i64 7, .slice (some ⟨w3.heap.size, 0, none⟩) 1 1] 59)
          simpa using this
        have hr4 := rdAt_below hr3 n4 (by omega)
        have S4 := Lib.hid (S3.out.below hR n4)
        have hlt3 := S3.out.own.lt
        clear n4 S3 hr3
        go_wp2_with fail
        rw [← hw4]
        clear hw4
        refine (pick_any R q3 4 _ hr4 (by omega)).mono ?_
        rintro e w5 ⟨k', rfl, q0, q1, y1, hr5, hg5⟩
        have hk4 : k' < 4 := q1 (by omega)
        obtain ⟨kn, rfl⟩ := Int.eq_ofNat_of_zero_le q0
        have hkn : kn < 4 := by omega
        have S5 := Lib.hid (S4.out.draw hR (q := q3) (by omega) (by omega) (drawn_one hr5 hg5))
        have tb5 := (hg5.block (w3.heap.size + 1) (by omega) (fun e => by injection e with e; omega)).trans tb
        have kb5 := kb.kept (hg5.block w3.heap.size (by omega) (fun e => by injection e with e; omega))
        have hsp : SpX w5 w.heap.size (Value.ownBlock (.slice va M.length vc)) (.slice (some ⟨w3.heap.size, 0, none⟩) 1 1) [(3, 2)] :=
          (SpX.res (B := w3.heap.size) ⟨some ⟨w3.heap.size, 0, none⟩, 1, rfl, .inr ⟨w3.heap.size, 1, rfl, kb5, Nat.le_refl _⟩⟩ (fun b hb => (hlt3 b hb).2)).down z3
        obtain ⟨y, ta, tc, L, t0, t1, hs, hL⟩ := tab_need hkn hsp
        have d0 := (cell_of_row w5 (w3.heap.size + 1) (kn * 2) _ _ (0, 0) tb5).trans t0
        have d1 := (cell_of_row w5 (w3.heap.size + 1) (kn * 2 + 1) _ _ (0, 0) tb5).trans t1
        obtain ⟨cs, hown5, hc5⟩ := S5.out.own
        have HC := Lib.hid hc5
        have HS := Lib.hid hs
        have hml5 := S5.out.many
        have hz5 := S5.out.gr.size
        clear hc5 hs hsp t0 t1 tb5 kb5 tb kb hr5 hg5 hr4 q1 y1 q0
        have kI0 : (0 : Int) ≤ (kn : Int) := by omega
        have kI1 : (kn : Int) < 4 := by omega
        go_wp2_with (at_builtin; refine wpList_append_lies _ rfl _ _ 31 rfl w.heap.size 59 i0 (.agg #[.int .i64 0, .slice none 0 0]) 2 32 Try.underlying31 hi hz0 hz1 hz2 rfl (by decide) _ _ cs rfl (hown5.alloc (.cells #[.int .i64 y, .slice ta L.length tc] 59)) ⟨w5.heap.size, 0, none⟩ 1 1 [.int .i64 y, .slice ta L.length tc] rfl rfl (need_new rfl) need_one (by omega) (by unfold maxLen; omega) (by omega) (by simp; omega) _ rfl ?_)
        intro g cap w6 hown6 hgrow hat hlt6
        have HP := Lib.hid (NB.push S5.out rfl hown5 HC.out HS.out hL hR hown6 hgrow (by simpa using hat))
        clear hown6 hgrow hat hown5
        go_wp2_with fail
        go_ret
        exact ⟨_, _, rfl, HP.out.own, by have := HP.out.many; omega, HP.out.len, by obtain ⟨q', h1, h2, h3⟩ := HP.out.rd; exact ⟨q', h1, by omega, h3, HP.out.gr⟩⟩
set_option maxRecDepth 100000 in
theorem l20Needs_any (R p : Nat) (but k0 : Int) (w : World) (h : RdAt w R p) (hp : p ≤ 100000000) (hn0 : -1000000 ≤ k0) (hn1 : k0 ≤ 1000000) :
    Calls Try.prog 72 #[.pointer (some ⟨R, 0, none⟩), .int .i64 7, .int .i64 but, .int .i64 k0] w (NeedsDraw R p w) := l20NeedsM_any R p 7 but k0 w (Nat.le_refl _) h hp hn0 hn1

def AnyNeeds (w : World) (e : Ending) (w' : World) : Prop := ∃ M v, e = .returned v ∧ NOwn w' w.heap.size w.heap.size v M ∧ M.length ≤ 9 ∧ (∀ q ∈ M, q.2.length ≤ 41) ∧ Below w.heap.size w w'
set_option maxRecDepth 100000 in
theorem SpX.mono {w : World} {lo lo' : Nat} {x : Option Nat} {u : Value} {L : List (Int × Int)} (h : SpX w lo x u L) (hl : lo' ≤ lo) : SpX w lo' x u L := h.down hl
set_option maxRecDepth 100000 in
theorem NOwn.mono {w : World} {B B' lo lo' : Nat} {v : Value} {M : List Nd} (h : NOwn w B lo v M) (hB : B' ≤ B) (hl : lo' ≤ lo) : NOwn w B' lo' v M := by
  obtain ⟨cs, ⟨h0, h⟩, hc⟩ := h
  refine ⟨cs, ⟨h0, ?_⟩, fun i hi => ?_⟩
  · rcases h with hn | ⟨g, cap, cur, hv, hb', hg, rest⟩
    · exact .inl hn
    · exact .inr ⟨g, cap, cur, hv, by omega, hg, rest⟩
  · obtain ⟨h1, a, cap, h2, h3⟩ := hc i hi
    exact ⟨h1, a, cap, h2, h3.down hl⟩


end Go.Proofs.Ytgnjhmmedogcoaa
