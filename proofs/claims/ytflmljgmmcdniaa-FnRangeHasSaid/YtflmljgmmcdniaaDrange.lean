/- The contract of the model's draw of ranges, over this seat's translation: it answers with some range of at most 41 spans, in a row of its own; the reader was asked at most 300 times more; nothing else that was there has changed. Conditions as for pick. -/
import Derived.Test.YtflmljgmmcdniaaDrb
import Derived.Deep.RegionLaw
import Derived.Deep.RegionHeld3
import Derived.Test.YtflmljgmmcdniaaTake
import Derived.Test.YtflmljgmmcdniaaStp
import Derived.Deep.AppendLies
import Derived.IntWalk
import Derived.Deep.CutBlock
namespace Go.Proofs.Ytflmljgmmcdniaa
open Go.RowKit Go.Sort

/-- What each way through the first half leaves. -/
def RMid (w : World) (R p c n : Nat) (s5 : Value) (wx : World) : Prop := s5 = .pointer (some ⟨w.heap.size + 1, 0, none⟩) ∧ ∃ G v, RB w R p c G v wx ∧ G.length ≤ n

/-- Behind the region that lays one span more on the range. -/
def RNext (w : World) (R p c : Nat) (G : Sps) (v s9 s10 : Value) (wx : World) : Prop :=
  ∃ g u L o, s9 = .pointer (some ⟨g, 0, none⟩) ∧ s10 = .bool o ∧ RB w R p c G v wx ∧ wx.cell? ⟨g, 0, none⟩ = some u ∧ Owns wx (w.heap.size + 2) u L ∧ L.length ≤ 40

def RAdd (w : World) (R p c n : Nat) (s5 : Value) (wx : World) : Prop := s5 = .pointer (some ⟨w.heap.size + 1, 0, none⟩) ∧ ∃ G v, RB w R p c G v wx ∧ G.length = n

def tabX (k : Nat) : Int := if k = 0 then -1 else if k = 1 then 7 else 0
def tabY (k : Nat) : Int := if k = 0 then 5 else if k = 1 then 6 else if k = 2 then 10000000 else 3
theorem tab_at0 {k : Nat} (h : k < 4) : (#[Value.int .i64 (-1), .int .i64 5, .int .i64 7, .int .i64 6, .int .i64 0, .int .i64 10000000, .int .i64 0, .int .i64 3] : Array Value)[k * 2]? = some (.int .i64 (tabX k)) := by
  have : k = 0 ∨ k = 1 ∨ k = 2 ∨ k = 3 := by omega
  rcases this with rfl | rfl | rfl | rfl <;> rfl
theorem tab_at1 {k : Nat} (h : k < 4) : (#[Value.int .i64 (-1), .int .i64 5, .int .i64 7, .int .i64 6, .int .i64 0, .int .i64 10000000, .int .i64 0, .int .i64 3] : Array Value)[k * 2 + 1]? = some (.int .i64 (tabY k)) := by
  have : k = 0 ∨ k = 1 ∨ k = 2 ∨ k = 3 := by omega
  rcases this with rfl | rfl | rfl | rfl <;> rfl

theorem rb_start (w : World) (R p : Nat) (h : RdAt w R p) : RB w R p 0 [] (.slice none 0 0) ((w.alloc (.cells #[.slice none 0 0] 28)).alloc (.cells #[.slice none 0 0] 28)) :=
  ⟨owns_nil _ _, by go_simp, by go_simp, by go_simp, by go_simp, ⟨p, Nat.le_refl _, Nat.le_refl _, rdAt_alloc (rdAt_alloc h _) _⟩, grown_alloc (grown_start w _ R) _, by simp⟩

set_option maxRecDepth 100000 in
set_option maxHeartbeats 8000000 in
theorem l20Range_any (R p : Nat) (n : Int) (w : World) (h : RdAt w R p) (hp : p ≤ 800000000) (hn0 : -1000000 ≤ n) (hn1 : n ≤ 1000000) :
    Calls Try.prog 58 #[.pointer (some ⟨R, 0, none⟩), .int .i64 n] w (RngDraw R p w) := by
  have hR := rdAt_lt h
  have S0 := Lib.hid (rb_start w R p h)
  have hr0 := rdAt_alloc (rdAt_alloc h (.cells #[.slice none 0 0] 28)) (.cells #[.slice none 0 0] 28)
  obtain ⟨ti, hi, hz0, hz1, hz2⟩ := info_parts infoSpan
  clear h
  go_enter Try.func58, Try.ntmps58
  go_wp2_with fail
  refine (pick_any R p _ _ hr0 (by omega)).mono ?_
  rintro e w1 ⟨k1, rfl, k10, k11, _, hr1, hg1⟩
  have k12 : k1 < 6 := k11 (by omega)
  have S1 := Lib.hid (S0.out.draw hR (Nat.le_refl _) (Nat.le_refl _) (drawn_pick hr1 hg1))
  clear S0 hr0 hg1 hr1 k11
  go_upto_block 0 with fail
  go_cut [5] from 6 (fun s5 wx => RMid w R p 80 40 s5 wx)
  case first =>
    have e1 := S1.out.c1
    have e2 := S1.out.f1
    have e3 := S1.out.sz
    obtain ⟨q, hq1, hq2, hr⟩ := S1.out.rd
    by_cases hk0 : k1 = 0
    · subst hk0
      go_wp2_with fail
      refine (version_any R q 0 _ hr (by omega) (by omega) (by omega)).mono ?_
      rintro e w2 ⟨a, b, c, d, rfl, hok, hd⟩
      have S2 := Lib.hid (S1.out.draw hR hq1 hq2 hd)
      clear hok hd hr S1 e1 e2 e3
      go_wp2_with fail
      refine (specFrom_own a b c d _).mono ?_
      rintro e w3 ⟨u, rfl, ho, hb⟩
      have S3 := S2.out.below hR hb
      have e1 := S3.c1
      have e2 := S3.f1
      have e3 := S2.out.sz
      have S4 := Lib.hid (S3.set hR (Owns.mono ho e3))
      obtain ⟨au, cu, rfl, _⟩ := id ho.res
      clear S2 S3 ho hb e3
      go_wp2_with fail
      go_meet
      case rel => exact ⟨rfl, _, _, S4.out.more (by omega), fromL_1 a b c d⟩
    · have hz0' : (k1 == 0) = false := by rw [beq_eq_false_iff_ne]; exact hk0
      by_cases hk1 : k1 = 1
      · subst hk1
        go_wp2_with fail
        refine (specAll_own _).mono ?_
        rintro e w3 ⟨u, rfl, ho, hb⟩
        have S3 := S1.out.below hR hb
        have S4 := Lib.hid (S3.set hR (Owns.mono ho e3))
        clear e1 e2
        have e1 := S3.c1
        have e2 := S3.f1
        obtain ⟨au, cu, rfl, _⟩ := id ho.res
        clear S3 ho hb e3 S1
        go_wp2_with fail
        go_meet
        case rel => exact ⟨rfl, _, _, S4.out.more (by omega), by simp⟩
      · have hz1' : (k1 == 1) = false := by rw [beq_eq_false_iff_ne]; exact hk1
        by_cases hk2 : k1 = 2
        · subst hk2
          go_wp2_with fail
          refine (version_any R q 0 _ hr (by omega) (by omega) (by omega)).mono ?_
          rintro e w2 ⟨a, b, c, d, rfl, hok, hd⟩
          have S2 := Lib.hid (S1.out.draw hR hq1 hq2 hd)
          clear hok hd hr S1 e1 e2 e3
          go_wp2_with fail
          refine (specOne_own a b c d _).mono ?_
          rintro e w3 ⟨u, rfl, ho, hb⟩
          have S3 := S2.out.below hR hb
          have e1 := S3.c1
          have e2 := S3.f1
          have e3 := S2.out.sz
          have S4 := Lib.hid (S3.set hR (Owns.mono ho e3))
          obtain ⟨au, cu, rfl, _⟩ := id ho.res
          clear S2 S3 ho hb e3
          go_wp2_with fail
          go_meet
          case rel => exact ⟨rfl, _, _, S4.out.more (by omega), oneL_1 a b c d⟩
        · have hz2' : (k1 == 2) = false := by rw [beq_eq_false_iff_ne]; exact hk2
          go_wp2_with fail
          refine (pick_any R q _ _ hr (by omega)).mono ?_
          rintro e w2 ⟨k2, rfl, k20, k21, _, hr2, hg2⟩
          have k22 : k2 < 4 := k21 (by omega)
          have S2 := Lib.hid (S1.out.draw hR hq1 hq2 (drawn_pick hr2 hg2))
          obtain ⟨m, rfl⟩ := Int.eq_ofNat_of_zero_le k20
          have m4 : m ≤ 3 := by omega
          clear S1 e1 e2 e3 hr hr2 hg2 k21 hq1 hq2
          go_wp2_with fail
          go_loopw [6] (fun s6 wr => ∃ k : Nat, k ≤ 3 ∧ s6 = .int .i64 (k : Int) ∧ ∃ G v, RB w R p (2 + 21 * (3 - k)) G v wr ∧ G.length ≤ 40) (fun s6 _ => (intOf s6).toNat)
          case atStart => exact ⟨m, m4, rfl, _, _, S2.out.more (by omega), by simp⟩
          case round =>
            obtain ⟨k, hk, rfl, G, v, hS, hG⟩ := hrel
            have HS := Lib.hid hS
            obtain ⟨q, hq1, hq2, hr⟩ := hS.rd
            clear hS
            by_cases hk0 : 0 < k
            · obtain ⟨j, rfl⟩ : ∃ j, k = j + 1 := ⟨k - 1, by omega⟩
              go_wp2_with fail
              refine (version_any R q 0 _ hr (by omega) (by omega) (by omega)).mono ?_
              rintro e w3 ⟨a, b, c, d, rfl, hok, hd⟩
              have S3 := Lib.hid (HS.out.draw hR hq1 hq2 hd)
              clear hok hd hr HS hq1 hq2 hk0
              go_wp2_with fail
              refine (specRank_any a b c d _).mono ?_
              rintro e w4 ⟨rfl, hb⟩
              have S4 := Lib.hid (S3.out.below hR hb)
              generalize vRank a b c d = x
              clear S3 hb
              obtain ⟨q2, hq1, hq2, hr⟩ := S4.out.rd
              go_wp2_with fail
              refine (version_any R q2 0 _ hr (by omega) (by omega) (by omega)).mono ?_
              rintro e w5 ⟨a, b, c, d, rfl, hok, hd⟩
              have S5 := Lib.hid (S4.out.draw hR hq1 hq2 hd)
              clear hok hd hr S4 hq1 hq2
              go_wp2_with fail
              refine (specRank_any a b c d _).mono ?_
              rintro e w6 ⟨rfl, hb⟩
              have S6 := Lib.hid (S5.out.below hR hb)
              generalize vRank a b c d = y
              clear S5 hb
              obtain ⟨q3, hq1, hq2, hr⟩ := S6.out.rd
              have e1 := S6.out.c1
              have s6 := S6.out.sz
              go_upto_region 8 with fail
              go_cut [9, 10] from 17 to 54 (fun s9 s10 wx => RNext w R p (2 + 21 * (3 - j)) G v s9 s10 wx)
              case first =>
                obtain ⟨lo, emin⟩ : ∃ lo, (if y < x then y else x) = lo := ⟨_, rfl⟩
                obtain ⟨hi', emax⟩ : ∃ hi', (if x < y then y else x) = hi' := ⟨_, rfl⟩
                obtain ⟨df, edf⟩ : ∃ df, IntKind.i64.wrap (hi' - lo) = df := ⟨_, rfl⟩
                obtain ⟨m1, em1⟩ : ∃ m1, (if df < 1 then df else 1) = m1 := ⟨_, rfl⟩
                have n6R : w6.heap.size ≠ R := by omega
                have n6a : w6.heap.size ≠ w.heap.size + 1 := by omega
                have n6b : w.heap.size + 1 ≠ w6.heap.size := by omega
                have n6c : w.heap.size + 1 < w6.heap.size := by omega
                have n6d : w.heap.size < w6.heap.size := by omega
                have hR6 : R < w6.heap.size := by omega
                have hG6 : G.length ≤ 1048576 := by omega
                refine wp_region_noPanic ?_
                refine wp_region_held_drew (S := fun V => V.cell? ⟨w.heap.size + 1, 0, none⟩ = some v) (by kernel_rfl) ?_ (fun hHeld => ?_)
                · go_keep
                refine take0 (v := ?v1) (by kernel_rfl) (by kernel_rfl) (by kernel_rfl) (fun _ _ _ h => h) (by rfl) ?y1 (by assumption) ?r1
                case y1 => (intro w hSw; (try dsimp only at hSw); go_simp; (try with_reducible rfl))
                (try simp only [Act.put, List.setIfInBounds_toArray, List.set_cons_zero, List.set_cons_succ])
                refine take1 (v := ?v2) (by kernel_rfl) (by kernel_rfl) (by kernel_rfl) (fun _ _ _ h => h) (by rfl) ?y2 (by assumption) ?r2
                case y2 => (intro w hSw; (try dsimp only at hSw); go_simp; (try with_reducible rfl))
                (try simp only [Act.put, List.setIfInBounds_toArray, List.set_cons_zero, List.set_cons_succ])
                refine take2 (v := ?v3) (by kernel_rfl) (by kernel_rfl) (by kernel_rfl) (fun _ _ _ h => h) (by rfl) ?y3 (by assumption) ?r3
                case y3 => (intro w hSw; (try dsimp only at hSw); go_simp; (try with_reducible rfl))
                (try simp only [Act.put, List.setIfInBounds_toArray, List.set_cons_zero, List.set_cons_succ])
                refine take3 (v := ?v4) (by kernel_rfl) (by kernel_rfl) (by kernel_rfl) (fun _ _ _ h => h) (by rfl) ?y4 (by assumption) ?r4
                case y4 => (intro w hSw; (try dsimp only at hSw); go_simp; (try with_reducible rfl))
                (try simp only [Act.put, List.setIfInBounds_toArray, List.set_cons_zero, List.set_cons_succ])
                refine take4 (v := ?v5) (by kernel_rfl) (by kernel_rfl) (by kernel_rfl) (fun _ _ _ h => h) (by rfl) ?y5 (by assumption) ?r5
                case y5 => (intro w hSw; (try dsimp only at hSw); go_simp; (try with_reducible rfl))
                (try simp only [Act.put, List.setIfInBounds_toArray, List.set_cons_zero, List.set_cons_succ])
                refine take5 (v := ?v6) (by kernel_rfl) (by kernel_rfl) (by kernel_rfl) (fun _ _ _ h => h) (by rfl) ?y6 (by assumption) ?r6
                case y6 => (intro w hSw; (try dsimp only at hSw); go_simp; (try with_reducible rfl))
                (try simp only [Act.put, List.setIfInBounds_toArray, List.set_cons_zero, List.set_cons_succ])
                refine take6 (v := ?v7) (by kernel_rfl) (by kernel_rfl) (by kernel_rfl) (fun _ _ _ h => h) (by rfl) ?y7 (by assumption) ?r7
                case y7 => (intro w hSw; (try dsimp only at hSw); go_simp; (try with_reducible rfl))
                (try simp only [Act.put, List.setIfInBounds_toArray, List.set_cons_zero, List.set_cons_succ])
                refine take7 (v := ?v8) (by kernel_rfl) (by kernel_rfl) (by kernel_rfl) (fun _ _ _ h => h) (by rfl) ?y8 (by assumption) ?r8
                case y8 => (intro w hSw; (try dsimp only at hSw); go_simp; (try with_reducible rfl))
                (try simp only [Act.put, List.setIfInBounds_toArray, List.set_cons_zero, List.set_cons_succ])
                refine take9 (v := ?v9) (by kernel_rfl) (by kernel_rfl) (by kernel_rfl) (fun _ _ _ h => h) (by rfl) ?y9 (by assumption) ?r9
                case y9 => (intro w hSw; (try dsimp only at hSw); go_simp; (try with_reducible rfl))
                (try simp only [Act.put, List.setIfInBounds_toArray, List.set_cons_zero, List.set_cons_succ])
                refine take10 (v := ?v10) (by kernel_rfl) (by kernel_rfl) (by kernel_rfl) (fun _ _ _ h => h) (by rfl) ?y10 (by assumption) ?r10
                case y10 => (intro w hSw; (try dsimp only at hSw); go_simp; (try with_reducible rfl))
                (try simp only [Act.put, List.setIfInBounds_toArray, List.set_cons_zero, List.set_cons_succ])
                refine take11 (v := ?v11) (by kernel_rfl) (by kernel_rfl) (by kernel_rfl) (fun _ _ _ h => h) (by rfl) ?y11 (by assumption) ?r11
                case y11 => (intro w hSw; (try dsimp only at hSw); go_simp; (try with_reducible rfl))
                (try simp only [Act.put, List.setIfInBounds_toArray, List.set_cons_zero, List.set_cons_succ])
                refine take12 (v := ?v12) (by kernel_rfl) (by kernel_rfl) (by kernel_rfl) (fun _ _ _ h => h) (by rfl) ?y12 (by assumption) ?r12
                case y12 => (intro w hSw; (try dsimp only at hSw); go_simp; (try with_reducible rfl))
                (try simp only [Act.put, List.setIfInBounds_toArray, List.set_cons_zero, List.set_cons_succ])
                refine take13 (v := ?v13) (by kernel_rfl) (by kernel_rfl) (by kernel_rfl) (fun _ _ _ h => h) (by rfl) ?y13 (by assumption) ?r13
                case y13 => (intro w hSw; (try dsimp only at hSw); go_simp; (try with_reducible rfl))
                (try simp only [Act.put, List.setIfInBounds_toArray, List.set_cons_zero, List.set_cons_succ])
                refine take14 (v := ?v14) (by kernel_rfl) (by kernel_rfl) (by kernel_rfl) (fun _ _ _ h => h) (by rfl) ?y14 (by assumption) ?r14
                case y14 => (intro w hSw; (try dsimp only at hSw); go_simp; (try with_reducible rfl))
                (try simp only [Act.put, List.setIfInBounds_toArray, List.set_cons_zero, List.set_cons_succ])
                refine take15 (v := ?v15) (by kernel_rfl) (by kernel_rfl) (by kernel_rfl) (fun _ _ _ h => h) (by rfl) ?y15 (by assumption) ?r15
                case y15 => (intro w hSw; (try dsimp only at hSw); go_simp; (try with_reducible rfl))
                (try simp only [Act.put, List.setIfInBounds_toArray, List.set_cons_zero, List.set_cons_succ])
                refine take16 (v := ?v16) (by kernel_rfl) (by kernel_rfl) (by kernel_rfl) (fun _ _ _ h => h) (by rfl) ?y16 (by assumption) ?r16
                case y16 => (intro w hSw; (try dsimp only at hSw); go_simp; (try with_reducible rfl))
                (try simp only [Act.put, List.setIfInBounds_toArray, List.set_cons_zero, List.set_cons_succ])
                refine wpAnyH_ready (rs := [8, 26]) (by kernel_rfl) (by simp) ?_
                refine come8 (fun K hK => ?_) ?_
                · go_simp
                  (go_at_call 63; refine (pick_any R q3 2 _ (rdAt_below (B := w6.heap.size) hr (by go_grown) hR6) (by omega)).mono ?_; rintro e wx ⟨kp, rfl, _, _, _, hrx, hgx⟩; have Sx := Lib.hid (RB.draw (RB.below S6.out hR (by go_grown)) hR hq1 hq2 (drawn_pick hrx hgx)); have gx := grown_trans (grown_below (⟨rfl, rfl, rfl, Nat.le_refl _, fun _ _ _ => rfl⟩ : w6.grownBy w6 (some R)) (by go_grown)) hgx; have e1x := Sx.out.c1; have hcx := fun b o (h1 : b < _) (h2 : b ≠ R) => grown_cell (o := o) hgx h1 h2; have hfx := fun b o (h1 : b < _) (h2 : b ≠ R) => grown_frozen (o := o) hgx h1 h2; have szx := hgx.size; (try simp at szx); have rsx := Sx.out.sz; have nx1 : wx.heap.size ≠ w.heap.size + 1 := (by omega); have nx2 : w.heap.size + 1 ≠ wx.heap.size := (by omega); have nx4 : wx.heap.size ≠ w.heap.size := (by omega); have nx5 : w.heap.size ≠ wx.heap.size := (by omega); have nx6 : w.heap.size + 1 < wx.heap.size := (by omega); have nx7 : w.heap.size < wx.heap.size := (by omega); (try (have nx3 : w6.heap.size < wx.heap.size := (by omega))); (try (have nx3b : w6.heap.size ≤ wx.heap.size := (by omega))); clear hgx)
                  go_wp2_with fail
                  refine hK.out _ _ ?_ (fun hHeld => ?_)
                  · go_keep
                  clear hK K
                  (try simp only [Act.put, List.setIfInBounds_toArray, List.set_cons_zero, List.set_cons_succ])
                  refine take17 (v := ?v17) (by kernel_rfl) (by kernel_rfl) (by kernel_rfl) (fun _ _ _ h => h) (by rfl) ?y17 (by assumption) ?r17
                  case y17 => (intro w hSw; (try dsimp only at hSw); go_simp; (try with_reducible rfl))
                  (try simp only [Act.put, List.setIfInBounds_toArray, List.set_cons_zero, List.set_cons_succ])
                  refine take18 (v := ?v18) (by kernel_rfl) (by kernel_rfl) (by kernel_rfl) (fun _ _ _ h => h) (by rfl) ?y18 (by assumption) ?r18
                  case y18 => (intro w hSw; (try dsimp only at hSw); go_simp; (try with_reducible rfl))
                  (try simp only [Act.put, List.setIfInBounds_toArray, List.set_cons_zero, List.set_cons_succ])
                  refine take19 (v := ?v19) (by kernel_rfl) (by kernel_rfl) (by kernel_rfl) (fun _ _ _ h => h) (by rfl) ?y19 (by assumption) ?r19
                  case y19 => (intro w hSw; (try dsimp only at hSw); go_simp; (try with_reducible rfl))
                  (try simp only [Act.put, List.setIfInBounds_toArray, List.set_cons_zero, List.set_cons_succ])
                  refine wpAnyH_ready (rs := [20, 26]) (by kernel_rfl) (by simp) ?_
                  refine come20 (fun K hK => ?_) ?_
                  · go_simp
                    refine hK.out _ _ ?_ (fun hHeld => ?_)
                    · go_keep
                    clear hK K
                    (try simp only [Act.put, List.setIfInBounds_toArray, List.set_cons_zero, List.set_cons_succ])
                    refine take21 (v := ?v20) (by kernel_rfl) (by kernel_rfl) (by kernel_rfl) (fun _ _ _ h => h) (by rfl) ?y20 (by assumption) ?r20
                    case y20 => (intro w hSw; (try dsimp only at hSw); go_simp; (try with_reducible rfl))
                    (try simp only [Act.put, List.setIfInBounds_toArray, List.set_cons_zero, List.set_cons_succ])
                    refine wpAnyH_ready (rs := [22, 26]) (by kernel_rfl) (by simp) ?_
                    refine come22 (fun K hK => ?_) ?_
                    · go_simp
                      (go_at_call 21; refine (specOr_some _ _ G _ hG6 ((RB.below Sx.out hR (by go_grown)).own.res.at) (one_ex (by go_simp) (by go_simp) (by first | omega | (simp; done) | (simp; omega)))).mono ?_; rintro e wz ⟨uz, Lz, oz, rfl, hoz, hLz, hbz⟩; obtain ⟨az, cz, rfl, _⟩ := id hoz.res; have bz := (Below.step (by go_grown) hbz : Below wx.heap.size wx wz); have Sz := Lib.hid (RB.below Sx.out hR bz); have gz := grown_below gx (bz.mono gx.size); have hrz := rdAt_below hrx bz (by omega); have e1z := Sz.out.c1; obtain ⟨hcz, hfz⟩ := bcell hbz; have szz := hbz.size; (try simp at szz); have syy := bz.size; have nz1 : wz.heap.size ≠ w.heap.size + 1 := (by omega); have nz2 : w.heap.size + 1 ≠ wz.heap.size := (by omega); have nz6 : w.heap.size + 1 < wz.heap.size := (by omega); have nz7 : w.heap.size < wz.heap.size := (by omega); (try (have nz8 : w6.heap.size < wz.heap.size := (by omega))); (try (have nz9 : wx.heap.size < wz.heap.size := (by omega))); (try (have nz10 : wx.heap.size + 1 < wz.heap.size := (by omega))))
                      go_wp2_with fail
                      refine hK.out _ _ ?_ (fun hHeld => ?_)
                      · go_keep
                      clear hK K
                      (try simp only [Act.put, List.setIfInBounds_toArray, List.set_cons_zero, List.set_cons_succ])
                      refine take23 (v := ?v21) (by kernel_rfl) (by kernel_rfl) (by kernel_rfl) (fun _ _ _ h => h) (by rfl) ?y21 (by assumption) ?r21
                      case y21 => (intro w hSw; (try dsimp only at hSw); go_simp; (try with_reducible rfl))
                      (try simp only [Act.put, List.setIfInBounds_toArray, List.set_cons_zero, List.set_cons_succ])
                      refine take24 (v := ?v22) (by kernel_rfl) (by kernel_rfl) (by kernel_rfl) (fun _ _ _ h => h) (by rfl) ?y22 (by assumption) ?r22
                      case y22 => (intro w hSw; (try dsimp only at hSw); go_simp; (try with_reducible rfl))
                      (try simp only [Act.put, List.setIfInBounds_toArray, List.set_cons_zero, List.set_cons_succ])
                      refine take25 (v := ?v23) (by kernel_rfl) (by kernel_rfl) (by kernel_rfl) (fun _ _ _ h => h) (by rfl) ?y23 (by assumption) ?r23
                      case y23 => (intro w hSw; (try dsimp only at hSw); go_simp; (try with_reducible rfl))
                      (try simp only [Act.put, List.setIfInBounds_toArray, List.set_cons_zero, List.set_cons_succ])
                      refine wpAnyH_ready (rs := [26]) (by kernel_rfl) (by simp) ?_
                      refine come26 (fun K hK => ?_) ?_
                      · go_simp
                        refine hK.out _ _ ?_ (fun hHeld => ?_)
                        · go_keep
                        clear hK K
                        (try simp only [Act.put, List.setIfInBounds_toArray, List.set_cons_zero, List.set_cons_succ])
                        refine wpAnyH_ready (rs := [27]) (by kernel_rfl) (by simp) ?_
                        refine come27 (fun K hK => ?_) ?_
                        · go_simp
                          refine hK.out _ _ ?_ (fun hHeld => ?_)
                          · go_keep
                          clear hK K
                          (try simp only [Act.put, List.setIfInBounds_toArray, List.set_cons_zero, List.set_cons_succ])
                          refine take28 (v := ?v24) (by kernel_rfl) (by kernel_rfl) (by kernel_rfl) (fun _ _ _ h => h) (by rfl) ?y24 (by assumption) ?r24
                          case y24 => (intro w hSw; (try dsimp only at hSw); go_simp; (try with_reducible rfl))
                          (try simp only [Act.put, List.setIfInBounds_toArray, List.set_cons_zero, List.set_cons_succ])
                          refine wpAnyH_done (by kernel_rfl) ?_ _
                          refine NoPanic.normal ?_
                          go_wp2_with fail
                          go_meet
                          case rel =>
                            refine ⟨_, .slice az Lz.length cz, _, _, rfl, rfl, (S6.out.draw hR hq1 hq2 ⟨q3 + 1, Nat.le_succ _, Nat.le_refl _, ?_, ?_⟩).more (by omega), by go_simp, ?_, hLz⟩
                            · exact rdAt_alloc hrz _
                            · exact grown_alloc gz _
                            · refine Owns.mono (B := wx.heap.size) ?_ (by omega)
                              exact Owns.below (Owns.mono hoz (by first | omega | (simp; done) | (simp; omega))) (by go_grown)
                        exact AllReadyH.nil
                      exact AllReadyH.nil
                    refine come26 (fun K hK => ?_) ?_
                    · go_simp
                      refine hK.out _ _ ?_ (fun hHeld => ?_)
                      · go_keep
                      clear hK K
                      (try simp only [Act.put, List.setIfInBounds_toArray, List.set_cons_zero, List.set_cons_succ])
                      refine wpAnyH_ready (rs := [22]) (by kernel_rfl) (by simp) ?_
                      refine come22 (fun K hK => ?_) ?_
                      · go_simp
                        (go_at_call 21; refine (specOr_some _ _ G _ hG6 ((RB.below Sx.out hR (by go_grown)).own.res.at) (one_ex (by go_simp) (by go_simp) (by first | omega | (simp; done) | (simp; omega)))).mono ?_; rintro e wz ⟨uz, Lz, oz, rfl, hoz, hLz, hbz⟩; obtain ⟨az, cz, rfl, _⟩ := id hoz.res; have bz := (Below.step (by go_grown) hbz : Below wx.heap.size wx wz); have Sz := Lib.hid (RB.below Sx.out hR bz); have gz := grown_below gx (bz.mono gx.size); have hrz := rdAt_below hrx bz (by omega); have e1z := Sz.out.c1; obtain ⟨hcz, hfz⟩ := bcell hbz; have szz := hbz.size; (try simp at szz); have syy := bz.size; have nz1 : wz.heap.size ≠ w.heap.size + 1 := (by omega); have nz2 : w.heap.size + 1 ≠ wz.heap.size := (by omega); have nz6 : w.heap.size + 1 < wz.heap.size := (by omega); have nz7 : w.heap.size < wz.heap.size := (by omega); (try (have nz8 : w6.heap.size < wz.heap.size := (by omega))); (try (have nz9 : wx.heap.size < wz.heap.size := (by omega))); (try (have nz10 : wx.heap.size + 1 < wz.heap.size := (by omega))))
                        go_wp2_with fail
                        refine hK.out _ _ ?_ (fun hHeld => ?_)
                        · go_keep
                        clear hK K
                        (try simp only [Act.put, List.setIfInBounds_toArray, List.set_cons_zero, List.set_cons_succ])
                        refine take23 (v := ?v25) (by kernel_rfl) (by kernel_rfl) (by kernel_rfl) (fun _ _ _ h => h) (by rfl) ?y25 (by assumption) ?r25
                        case y25 => (intro w hSw; (try dsimp only at hSw); go_simp; (try with_reducible rfl))
                        (try simp only [Act.put, List.setIfInBounds_toArray, List.set_cons_zero, List.set_cons_succ])
                        refine take24 (v := ?v26) (by kernel_rfl) (by kernel_rfl) (by kernel_rfl) (fun _ _ _ h => h) (by rfl) ?y26 (by assumption) ?r26
                        case y26 => (intro w hSw; (try dsimp only at hSw); go_simp; (try with_reducible rfl))
                        (try simp only [Act.put, List.setIfInBounds_toArray, List.set_cons_zero, List.set_cons_succ])
                        refine take25 (v := ?v27) (by kernel_rfl) (by kernel_rfl) (by kernel_rfl) (fun _ _ _ h => h) (by rfl) ?y27 (by assumption) ?r27
                        case y27 => (intro w hSw; (try dsimp only at hSw); go_simp; (try with_reducible rfl))
                        (try simp only [Act.put, List.setIfInBounds_toArray, List.set_cons_zero, List.set_cons_succ])
                        refine wpAnyH_ready (rs := [27]) (by kernel_rfl) (by simp) ?_
                        refine come27 (fun K hK => ?_) ?_
                        · go_simp
                          refine hK.out _ _ ?_ (fun hHeld => ?_)
                          · go_keep
                          clear hK K
                          (try simp only [Act.put, List.setIfInBounds_toArray, List.set_cons_zero, List.set_cons_succ])
                          refine take28 (v := ?v28) (by kernel_rfl) (by kernel_rfl) (by kernel_rfl) (fun _ _ _ h => h) (by rfl) ?y28 (by assumption) ?r28
                          case y28 => (intro w hSw; (try dsimp only at hSw); go_simp; (try with_reducible rfl))
                          (try simp only [Act.put, List.setIfInBounds_toArray, List.set_cons_zero, List.set_cons_succ])
                          refine wpAnyH_done (by kernel_rfl) ?_ _
                          refine NoPanic.normal ?_
                          go_wp2_with fail
                          go_meet
                          case rel =>
                            refine ⟨_, .slice az Lz.length cz, _, _, rfl, rfl, (S6.out.draw hR hq1 hq2 ⟨q3 + 1, Nat.le_succ _, Nat.le_refl _, ?_, ?_⟩).more (by omega), World.cell?_setCell_same _ _ _ (u := .slice none 0 0) (by go_simp), ?_, hLz⟩
                            · exact rdAt_set hrz (by omega)
                            · exact grown_set gz (by omega)
                            · refine Owns.mono (B := wx.heap.size) ?_ (by omega)
                              exact Owns.mono (ownsRow_setCell_below hoz (by first | omega | (simp; done) | (simp; omega)) _) (by first | omega | (simp; done) | (simp; omega))
                        exact AllReadyH.nil
                      exact AllReadyH.nil
                    exact AllReadyH.nil
                  refine come26 (fun K hK => ?_) ?_
                  · go_simp
                    refine hK.out _ _ ?_ (fun hHeld => ?_)
                    · go_keep
                    clear hK K
                    (try simp only [Act.put, List.setIfInBounds_toArray, List.set_cons_zero, List.set_cons_succ])
                    refine wpAnyH_ready (rs := [20]) (by kernel_rfl) (by simp) ?_
                    refine come20 (fun K hK => ?_) ?_
                    · go_simp
                      refine hK.out _ _ ?_ (fun hHeld => ?_)
                      · go_keep
                      clear hK K
                      (try simp only [Act.put, List.setIfInBounds_toArray, List.set_cons_zero, List.set_cons_succ])
                      refine take21 (v := ?v29) (by kernel_rfl) (by kernel_rfl) (by kernel_rfl) (fun _ _ _ h => h) (by rfl) ?y29 (by assumption) ?r29
                      case y29 => (intro w hSw; (try dsimp only at hSw); go_simp; (try with_reducible rfl))
                      (try simp only [Act.put, List.setIfInBounds_toArray, List.set_cons_zero, List.set_cons_succ])
                      refine wpAnyH_ready (rs := [22]) (by kernel_rfl) (by simp) ?_
                      refine come22 (fun K hK => ?_) ?_
                      · go_simp
                        (go_at_call 21; refine (specOr_some _ _ G _ hG6 ((RB.below Sx.out hR (by go_grown)).own.res.at) (one_ex (by go_simp) (by go_simp) (by first | omega | (simp; done) | (simp; omega)))).mono ?_; rintro e wz ⟨uz, Lz, oz, rfl, hoz, hLz, hbz⟩; obtain ⟨az, cz, rfl, _⟩ := id hoz.res; have bz := (Below.step (by go_grown) hbz : Below wx.heap.size wx wz); have Sz := Lib.hid (RB.below Sx.out hR bz); have gz := grown_below gx (bz.mono gx.size); have hrz := rdAt_below hrx bz (by omega); have e1z := Sz.out.c1; obtain ⟨hcz, hfz⟩ := bcell hbz; have szz := hbz.size; (try simp at szz); have syy := bz.size; have nz1 : wz.heap.size ≠ w.heap.size + 1 := (by omega); have nz2 : w.heap.size + 1 ≠ wz.heap.size := (by omega); have nz6 : w.heap.size + 1 < wz.heap.size := (by omega); have nz7 : w.heap.size < wz.heap.size := (by omega); (try (have nz8 : w6.heap.size < wz.heap.size := (by omega))); (try (have nz9 : wx.heap.size < wz.heap.size := (by omega))); (try (have nz10 : wx.heap.size + 1 < wz.heap.size := (by omega))))
                        go_wp2_with fail
                        refine hK.out _ _ ?_ (fun hHeld => ?_)
                        · go_keep
                        clear hK K
                        (try simp only [Act.put, List.setIfInBounds_toArray, List.set_cons_zero, List.set_cons_succ])
                        refine take23 (v := ?v30) (by kernel_rfl) (by kernel_rfl) (by kernel_rfl) (fun _ _ _ h => h) (by rfl) ?y30 (by assumption) ?r30
                        case y30 => (intro w hSw; (try dsimp only at hSw); go_simp; (try with_reducible rfl))
                        (try simp only [Act.put, List.setIfInBounds_toArray, List.set_cons_zero, List.set_cons_succ])
                        refine take24 (v := ?v31) (by kernel_rfl) (by kernel_rfl) (by kernel_rfl) (fun _ _ _ h => h) (by rfl) ?y31 (by assumption) ?r31
                        case y31 => (intro w hSw; (try dsimp only at hSw); go_simp; (try with_reducible rfl))
                        (try simp only [Act.put, List.setIfInBounds_toArray, List.set_cons_zero, List.set_cons_succ])
                        refine take25 (v := ?v32) (by kernel_rfl) (by kernel_rfl) (by kernel_rfl) (fun _ _ _ h => h) (by rfl) ?y32 (by assumption) ?r32
                        case y32 => (intro w hSw; (try dsimp only at hSw); go_simp; (try with_reducible rfl))
                        (try simp only [Act.put, List.setIfInBounds_toArray, List.set_cons_zero, List.set_cons_succ])
                        refine wpAnyH_ready (rs := [27]) (by kernel_rfl) (by simp) ?_
                        refine come27 (fun K hK => ?_) ?_
                        · go_simp
                          refine hK.out _ _ ?_ (fun hHeld => ?_)
                          · go_keep
                          clear hK K
                          (try simp only [Act.put, List.setIfInBounds_toArray, List.set_cons_zero, List.set_cons_succ])
                          refine take28 (v := ?v33) (by kernel_rfl) (by kernel_rfl) (by kernel_rfl) (fun _ _ _ h => h) (by rfl) ?y33 (by assumption) ?r33
                          case y33 => (intro w hSw; (try dsimp only at hSw); go_simp; (try with_reducible rfl))
                          (try simp only [Act.put, List.setIfInBounds_toArray, List.set_cons_zero, List.set_cons_succ])
                          refine wpAnyH_done (by kernel_rfl) ?_ _
                          refine NoPanic.normal ?_
                          go_wp2_with fail
                          go_meet
                          case rel =>
                            refine ⟨_, .slice az Lz.length cz, _, _, rfl, rfl, (S6.out.draw hR hq1 hq2 ⟨q3 + 1, Nat.le_succ _, Nat.le_refl _, ?_, ?_⟩).more (by omega), World.cell?_setCell_same _ _ _ (u := .slice none 0 0) (by go_simp), ?_, hLz⟩
                            · exact rdAt_set hrz (by omega)
                            · exact grown_set gz (by omega)
                            · refine Owns.mono (B := wx.heap.size) ?_ (by omega)
                              exact Owns.mono (ownsRow_setCell_below hoz (by first | omega | (simp; done) | (simp; omega)) _) (by first | omega | (simp; done) | (simp; omega))
                        exact AllReadyH.nil
                      exact AllReadyH.nil
                    exact AllReadyH.nil
                  exact AllReadyH.nil
                refine come26 (fun K hK => ?_) ?_
                · go_simp
                  refine hK.out _ _ ?_ (fun hHeld => ?_)
                  · go_keep
                  clear hK K
                  (try simp only [Act.put, List.setIfInBounds_toArray, List.set_cons_zero, List.set_cons_succ])
                  refine wpAnyH_ready (rs := [8]) (by kernel_rfl) (by simp) ?_
                  refine come8 (fun K hK => ?_) ?_
                  · go_simp
                    (go_at_call 63; refine (pick_any R q3 2 _ (rdAt_below (B := w6.heap.size) hr (by go_grown) hR6) (by omega)).mono ?_; rintro e wx ⟨kp, rfl, _, _, _, hrx, hgx⟩; have Sx := Lib.hid (RB.draw (RB.below S6.out hR (by go_grown)) hR hq1 hq2 (drawn_pick hrx hgx)); have gx := grown_trans (grown_below (⟨rfl, rfl, rfl, Nat.le_refl _, fun _ _ _ => rfl⟩ : w6.grownBy w6 (some R)) (by go_grown)) hgx; have e1x := Sx.out.c1; have hcx := fun b o (h1 : b < _) (h2 : b ≠ R) => grown_cell (o := o) hgx h1 h2; have hfx := fun b o (h1 : b < _) (h2 : b ≠ R) => grown_frozen (o := o) hgx h1 h2; have szx := hgx.size; (try simp at szx); have rsx := Sx.out.sz; have nx1 : wx.heap.size ≠ w.heap.size + 1 := (by omega); have nx2 : w.heap.size + 1 ≠ wx.heap.size := (by omega); have nx4 : wx.heap.size ≠ w.heap.size := (by omega); have nx5 : w.heap.size ≠ wx.heap.size := (by omega); have nx6 : w.heap.size + 1 < wx.heap.size := (by omega); have nx7 : w.heap.size < wx.heap.size := (by omega); (try (have nx3 : w6.heap.size < wx.heap.size := (by omega))); (try (have nx3b : w6.heap.size ≤ wx.heap.size := (by omega))); clear hgx)
                    go_wp2_with fail
                    refine hK.out _ _ ?_ (fun hHeld => ?_)
                    · go_keep
                    clear hK K
                    (try simp only [Act.put, List.setIfInBounds_toArray, List.set_cons_zero, List.set_cons_succ])
                    refine take17 (v := ?v34) (by kernel_rfl) (by kernel_rfl) (by kernel_rfl) (fun _ _ _ h => h) (by rfl) ?y34 (by assumption) ?r34
                    case y34 => (intro w hSw; (try dsimp only at hSw); go_simp; (try with_reducible rfl))
                    (try simp only [Act.put, List.setIfInBounds_toArray, List.set_cons_zero, List.set_cons_succ])
                    refine take18 (v := ?v35) (by kernel_rfl) (by kernel_rfl) (by kernel_rfl) (fun _ _ _ h => h) (by rfl) ?y35 (by assumption) ?r35
                    case y35 => (intro w hSw; (try dsimp only at hSw); go_simp; (try with_reducible rfl))
                    (try simp only [Act.put, List.setIfInBounds_toArray, List.set_cons_zero, List.set_cons_succ])
                    refine take19 (v := ?v36) (by kernel_rfl) (by kernel_rfl) (by kernel_rfl) (fun _ _ _ h => h) (by rfl) ?y36 (by assumption) ?r36
                    case y36 => (intro w hSw; (try dsimp only at hSw); go_simp; (try with_reducible rfl))
                    (try simp only [Act.put, List.setIfInBounds_toArray, List.set_cons_zero, List.set_cons_succ])
                    refine wpAnyH_ready (rs := [20]) (by kernel_rfl) (by simp) ?_
                    refine come20 (fun K hK => ?_) ?_
                    · go_simp
                      refine hK.out _ _ ?_ (fun hHeld => ?_)
                      · go_keep
                      clear hK K
                      (try simp only [Act.put, List.setIfInBounds_toArray, List.set_cons_zero, List.set_cons_succ])
                      refine take21 (v := ?v37) (by kernel_rfl) (by kernel_rfl) (by kernel_rfl) (fun _ _ _ h => h) (by rfl) ?y37 (by assumption) ?r37
                      case y37 => (intro w hSw; (try dsimp only at hSw); go_simp; (try with_reducible rfl))
                      (try simp only [Act.put, List.setIfInBounds_toArray, List.set_cons_zero, List.set_cons_succ])
                      refine wpAnyH_ready (rs := [22]) (by kernel_rfl) (by simp) ?_
                      refine come22 (fun K hK => ?_) ?_
                      · go_simp
                        (go_at_call 21; refine (specOr_some _ _ G _ hG6 ((RB.below Sx.out hR (by go_grown)).own.res.at) (one_ex (by go_simp) (by go_simp) (by first | omega | (simp; done) | (simp; omega)))).mono ?_; rintro e wz ⟨uz, Lz, oz, rfl, hoz, hLz, hbz⟩; obtain ⟨az, cz, rfl, _⟩ := id hoz.res; have bz := (Below.step (by go_grown) hbz : Below wx.heap.size wx wz); have Sz := Lib.hid (RB.below Sx.out hR bz); have gz := grown_below gx (bz.mono gx.size); have hrz := rdAt_below hrx bz (by omega); have e1z := Sz.out.c1; obtain ⟨hcz, hfz⟩ := bcell hbz; have szz := hbz.size; (try simp at szz); have syy := bz.size; have nz1 : wz.heap.size ≠ w.heap.size + 1 := (by omega); have nz2 : w.heap.size + 1 ≠ wz.heap.size := (by omega); have nz6 : w.heap.size + 1 < wz.heap.size := (by omega); have nz7 : w.heap.size < wz.heap.size := (by omega); (try (have nz8 : w6.heap.size < wz.heap.size := (by omega))); (try (have nz9 : wx.heap.size < wz.heap.size := (by omega))); (try (have nz10 : wx.heap.size + 1 < wz.heap.size := (by omega))))
                        go_wp2_with fail
                        refine hK.out _ _ ?_ (fun hHeld => ?_)
                        · go_keep
                        clear hK K
                        (try simp only [Act.put, List.setIfInBounds_toArray, List.set_cons_zero, List.set_cons_succ])
                        refine take23 (v := ?v38) (by kernel_rfl) (by kernel_rfl) (by kernel_rfl) (fun _ _ _ h => h) (by rfl) ?y38 (by assumption) ?r38
                        case y38 => (intro w hSw; (try dsimp only at hSw); go_simp; (try with_reducible rfl))
                        (try simp only [Act.put, List.setIfInBounds_toArray, List.set_cons_zero, List.set_cons_succ])
                        refine take24 (v := ?v39) (by kernel_rfl) (by kernel_rfl) (by kernel_rfl) (fun _ _ _ h => h) (by rfl) ?y39 (by assumption) ?r39
                        case y39 => (intro w hSw; (try dsimp only at hSw); go_simp; (try with_reducible rfl))
                        (try simp only [Act.put, List.setIfInBounds_toArray, List.set_cons_zero, List.set_cons_succ])
                        refine take25 (v := ?v40) (by kernel_rfl) (by kernel_rfl) (by kernel_rfl) (fun _ _ _ h => h) (by rfl) ?y40 (by assumption) ?r40
                        case y40 => (intro w hSw; (try dsimp only at hSw); go_simp; (try with_reducible rfl))
                        (try simp only [Act.put, List.setIfInBounds_toArray, List.set_cons_zero, List.set_cons_succ])
                        refine wpAnyH_ready (rs := [27]) (by kernel_rfl) (by simp) ?_
                        refine come27 (fun K hK => ?_) ?_
                        · go_simp
                          refine hK.out _ _ ?_ (fun hHeld => ?_)
                          · go_keep
                          clear hK K
                          (try simp only [Act.put, List.setIfInBounds_toArray, List.set_cons_zero, List.set_cons_succ])
                          refine take28 (v := ?v41) (by kernel_rfl) (by kernel_rfl) (by kernel_rfl) (fun _ _ _ h => h) (by rfl) ?y41 (by assumption) ?r41
                          case y41 => (intro w hSw; (try dsimp only at hSw); go_simp; (try with_reducible rfl))
                          (try simp only [Act.put, List.setIfInBounds_toArray, List.set_cons_zero, List.set_cons_succ])
                          refine wpAnyH_done (by kernel_rfl) ?_ _
                          refine NoPanic.normal ?_
                          go_wp2_with fail
                          go_meet
                          case rel =>
                            refine ⟨_, .slice az Lz.length cz, _, _, rfl, rfl, (S6.out.draw hR hq1 hq2 ⟨q3 + 1, Nat.le_succ _, Nat.le_refl _, ?_, ?_⟩).more (by omega), World.cell?_setCell_same _ _ _ (u := .slice none 0 0) (by go_simp), ?_, hLz⟩
                            · exact rdAt_set hrz (by omega)
                            · exact grown_set gz (by omega)
                            · refine Owns.mono (B := wx.heap.size) ?_ (by omega)
                              exact Owns.mono (ownsRow_setCell_below hoz (by first | omega | (simp; done) | (simp; omega)) _) (by first | omega | (simp; done) | (simp; omega))
                        exact AllReadyH.nil
                      exact AllReadyH.nil
                    exact AllReadyH.nil
                  exact AllReadyH.nil
                exact AllReadyH.nil
              case rest =>
                obtain ⟨g, u, L, o, rfl, rfl, hS, hu, ho, hL⟩ := hcut
                have e1 := hS.c1
                have e2 := hS.f1
                have S7 := Lib.hid hS
                have S8 := Lib.hid (hS.set hR ho)
                obtain ⟨au, cu, rfl, _⟩ := id ho.res
                clear hS ho hr
                cases o
                · go_wp2_with fail
                  go_roundw
                  case rel => exact ⟨j, by omega, by go_num, _, _, S7.out.more (by omega), hG⟩
                  case measure => simp [intOf]
                · go_wp2_with fail
                  go_roundw
                  case rel => exact ⟨j, by omega, by go_num, _, _, S8.out.more (by omega), hL⟩
                  case measure => simp [intOf]
            · obtain rfl : k = 0 := by omega
              go_wp2_with fail
              go_meet
              case rel => exact ⟨rfl, _, _, HS.out.more (by omega), hG⟩
  case rest =>
    rename World => wa
    obtain ⟨rfl, G0, v0, hS, hG⟩ := hcut
    have S2 := Lib.hid hS
    obtain ⟨q, hq1, hq2, hr⟩ := hS.rd
    clear hS S1
    go_wp2_with fail
    refine (odd_any R q 15 _ hr (by omega) (by omega) (by omega)).mono ?_
    rintro e wb ⟨o, rfl, _, hd⟩
    have S3 := Lib.hid (S2.out.draw hR hq1 hq2 hd)
    clear S2 hr hd hq1 hq2
    go_upto_if 69 with fail
    go_cut [5] from 6 (fun s5 wx => RMid w R p 270 40 s5 wx)
    case first =>
      cases o
      · go_wp2_with fail
        go_meet
        case rel => exact ⟨rfl, _, _, S3.out.more (by omega), hG⟩
      · have e1 := S3.out.c1
        have e2 := S3.out.f1
        have S4 := Lib.hid (S3.out.set hR (owns_nil _ _))
        clear S3
        go_wp2_with fail
        go_loopw [11] (fun s11 wr => ∃ (k : Nat) (G : Sps) (v : Value), k ≤ 40 ∧ s11 = .int .i64 (k : Int) ∧ G.length = k ∧ RB w R p (82 + 2 * k) G v wr) (fun s11 _ => 40 - (intOf s11).toNat)
        case atStart => exact ⟨0, _, _, by omega, rfl, rfl, S4.out.more (by omega)⟩
        case round =>
          obtain ⟨k, G, v, hk, rfl, hl, hS⟩ := hrel
          have HS := Lib.hid hS
          have HL := Lib.hid hl
          obtain ⟨q, hq1, hq2, hr⟩ := hS.rd
          clear hS S4 hl e1 e2
          go_wp2_with fail
          refine (pick_any R q _ _ hr (by omega)).mono ?_
          rintro e w2 ⟨kp, rfl, kp0, kp1, _, hr2, hg2⟩
          have kp2 : kp < 2 := kp1 (by omega)
          have S5 := Lib.hid (HS.out.draw hR hq1 hq2 (drawn_pick hr2 hg2))
          clear HS hr hr2 hg2 hq1 hq2 kp1
          by_cases hlt : (k : Int) < 39 + kp
          · obtain ⟨q2, hq1, hq2, hr⟩ := S5.out.rd
            have e1 := S5.out.c1
            have e2 := S5.out.f1
            have s5 := S5.out.sz
            have e3 : w.heap.size + 1 < w2.heap.size := by omega
            have lG : G.length ≤ 40 := by rw [HL.out]; omega
            go_upto_block 4 with fail
            go_cut [5] from 71 to 90 (fun s5 wx => RAdd w R p (82 + 2 * (k + 1)) (k + 1) s5 wx)
            case first =>
              go_wp2_with fail
              go_region_law (first
                | (refine step_append_lies _ rfl (.tmp 79) (.tmp 88) 26 rfl (w.heap.size + 2) 40 ti (.agg #[.int .i64 0, .int .i64 0]) 2 16 Try.underlying26 hi hz0 hz1 hz2 rfl (by decide) _ _ _ rfl (RB.below Sx.out hR (by go_grown)).own ⟨wx.heap.size, 0, none⟩ 1 1 [.int .i64 _, .int .i64 _] rfl rfl (two_new0 wx _ _) (two_one _ _) (by omega) (by unfold maxLen; omega) (by omega) (by have := Sx.out.sz; simp; omega) _ rfl ?_; intro g cp w3 hown3 hgrow hat hlt3; have Sp := Lib.hid (RB.push (RB.below Sx.out hR (by go_grown)) hR hown3 hgrow); have e1y := Owns.far (RB.below Sx.out hR (by go_grown)).own hgrow (Nat.lt_succ_self _) (RB.below Sx.out hR (by go_grown)).c1; have e2y := Owns.farf (RB.below Sx.out hR (by go_grown)).own hgrow (Nat.lt_succ_self _) (by have := Sx.out.sz; simp; omega) (RB.below Sx.out hR (by go_grown)).f1; clear hown3 hgrow hat)
                | (go_simp; go_at_call 63; refine (pick_any R q2 2 _ (rdAt_below (B := w2.heap.size) hr (by go_grown) (by omega)) (by omega)).mono ?_; rintro e wx ⟨kq, rfl, kq0, kq1, _, hrx, hgx⟩; have Sx := Lib.hid (RB.draw (RB.below S5.out hR (by go_grown)) hR hq1 hq2 (drawn_pick hrx hgx)); have e1x := Sx.out.c1; have e2x := Sx.out.f1; have szx := Sx.out.sz; have sly : w.heap.size + 1 < wx.heap.size := (by omega); clear hgx hrx))
              all_goals
                go_wp2_with fail
                go_meet
                case rel => exact ⟨rfl, _, _, Sp.out.more (by omega), by rw [List.length_append, HL.out]; rfl⟩
            case rest =>
              obtain ⟨rfl, G', v', hS', hl'⟩ := hcut
              have HS' := Lib.hid hS'
              have HL' := Lib.hid hl'
              clear hS' hl' e1 e2
              go_wp2_with fail
              go_roundw
              case rel => exact ⟨k + 1, G', v', by omega, by go_num, HL'.out, HS'.out⟩
              case measure => simp [intOf]; omega
          · go_wp2_with fail
            go_meet
            case rel => exact ⟨rfl, _, _, S5.out.more (by omega), by rw [HL.out]; omega⟩
    case rest =>
      rename World => wc
      obtain ⟨rfl, G0, v0, hS, hG⟩ := hcut
      have S2 := Lib.hid hS
      obtain ⟨q, hq1, hq2, hr⟩ := hS.rd
      clear hS S3
      go_wp2_with fail
      refine (odd_any R q n _ hr (by omega) hn0 hn1).mono ?_
      rintro e wd ⟨o, rfl, _, hd⟩
      have S3 := Lib.hid (S2.out.draw hR hq1 hq2 hd)
      clear S2 hr hd hq1 hq2
      go_upto_if 93 with fail
      go_cut [5] from 6 (fun s5 wx => RMid w R p 280 41 s5 wx)
      case first =>
        cases o
        · go_wp2_with fail
          go_meet
          case rel => exact ⟨rfl, _, _, S3.out.more (by omega), by omega⟩
        · obtain ⟨q2, hq1, hq2, hr⟩ := S3.out.rd
          have e1 := S3.out.c1
          have e2 := S3.out.f1
          have s5 := S3.out.sz
          have e3 : w.heap.size + 1 < wd.heap.size := by omega
          have e4 : wd.heap.size ≠ R := by omega
          go_wp2_with fail
          have lG : G0.length ≤ 40 := hG
          go_region_law (first
            | (refine step_append_lies _ rfl (.tmp 95) (.tmp 105) 26 rfl (w.heap.size + 2) 40 ti (.agg #[.int .i64 0, .int .i64 0]) 2 16 Try.underlying26 hi hz0 hz1 hz2 rfl (by decide) _ _ _ rfl (RB.below Sx.out hR (by go_grown)).own ⟨_, 0, none⟩ 1 1 [.int .i64 _, .int .i64 _] rfl rfl (by first | exact two_new0 _ _ _ | exact two_new _ _ _ _) (two_one _ _) (by omega) (by unfold maxLen; omega) (by omega) (by have := Sx.out.sz; simp; omega) _ rfl ?_; intro g cp w3 hown3 hgrow hat hlt3; have Sp := Lib.hid (RB.push (RB.below Sx.out hR (by go_grown)) hR hown3 hgrow); have e1y := Owns.far (RB.below Sx.out hR (by go_grown)).own hgrow (Nat.lt_succ_self _) (RB.below Sx.out hR (by go_grown)).c1; have e2y := Owns.farf (RB.below Sx.out hR (by go_grown)).own hgrow (Nat.lt_succ_self _) (by have := Sx.out.sz; simp; omega) (RB.below Sx.out hR (by go_grown)).f1; clear hown3 hgrow hat)
            | (go_simp; go_at_call 63; refine (pick_any R q2 4 _ (rdAt_below (B := wd.heap.size) hr (by go_grown) (by omega)) (by omega)).mono ?_; rintro e wx ⟨kq, rfl, kq0, kq1, _, hrx, hgx⟩; have kq2 : kq < 4 := kq1 (by omega); obtain ⟨kk, rfl⟩ := Int.eq_ofNat_of_zero_le kq0; have t0 := tab_at0 (k := kk) (by omega); have t1 := tab_at1 (k := kk) (by omega); have Sx := Lib.hid (RB.draw (RB.below S3.out hR (by go_grown)) hR hq1 hq2 (drawn_pick hrx hgx)); have hcx := fun b o (h1 : b < _) (h2 : b ≠ R) => grown_cell (o := o) hgx h1 h2; have e1x := Sx.out.c1; have e2x := Sx.out.f1; have szx := Sx.out.sz; have sgx := hgx.size; (try simp at sgx); have sly : w.heap.size + 1 < wx.heap.size := (by omega); have sly2 : w.heap.size < wx.heap.size := (by omega); clear hgx hrx kq1))
          all_goals
            go_wp2_with fail
            go_meet
            case rel => exact ⟨rfl, _, _, Sp.out.more (by omega), by simp; omega⟩
      case rest =>
        rename World => we
        obtain ⟨rfl, G, v, hS, hG2⟩ := hcut
        have e1 := hS.c1
        have e2 := hS.c0
        have e3 := hS.f0
        have e4 := hS.sz
        obtain ⟨q, hq1, hq2, hr⟩ := hS.rd
        have hg := hS.gr
        have ho := Owns.mono (ownsRow_setCell_below hS.own (a := ⟨w.heap.size, 0, none⟩) (by show w.heap.size < w.heap.size + 2; omega) v) (show w.heap.size ≤ w.heap.size + 2 by omega)
        have HF := Lib.hid (show RngDraw R p w (.returned (.agg #[v])) (we.setCell ⟨w.heap.size, 0, none⟩ v) from ⟨G, v, rfl, ho, hG2, q, hq1, by omega, rdAt_set hr (by omega), grown_set hg (Nat.le_refl _)⟩)
        obtain ⟨av, cv, rfl, _⟩ := id ho.res
        clear hS hr hg ho
        go_wp2_with fail
        exact bodyPost_ret (v := .agg #[.slice av G.length cv]) (by simp [results, Try.results58, go_sem, e2]) rfl HF.out

end Go.Proofs.Ytflmljgmmcdniaa
