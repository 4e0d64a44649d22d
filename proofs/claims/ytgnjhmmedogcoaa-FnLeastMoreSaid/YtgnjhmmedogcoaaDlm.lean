/- The contract of the model's draw of a shelf, needs and one need more, over this seat's translation: whatever is drawn, the names of the needs are below that of the one more; nothing that was there has changed. Condition: the code is readable. -/
import Derived.Test.YtgnjhmmedogcoaaDlst
namespace Go.Proofs.Ytgnjhmmedogcoaa
open Go.RowKit Go.Sort

namespace Dlm
open Foot Dsh Dfi Dnm Dls
def NeedsDrawU (R p mo : Nat) (w : World) (e : Ending) (w' : World) : Prop :=
  ∃ M v, e = .returned v ∧ NOwn w' w.heap.size w.heap.size v M ∧ M.length ≤ 9 ∧ (∀ q ∈ M, q.2.length ≤ 41) ∧ (∀ q ∈ M, q.1 ≤ (mo : Int)) ∧ Drawn w R p 300 w'
theorem names_push {M : List Nd} {k : Nat} {L : Sps} (h : ∀ q ∈ M, q.1 < (k : Int)) : ∀ q ∈ M ++ [((k : Int), L)], q.1 < ((k + 1 : Nat) : Int) := fun q hq => by
  rcases List.mem_append.1 hq with h1 | h1
  · have := h q h1
    omega
  · simp only [List.mem_singleton] at h1
    rw [h1]
    show (k : Int) < _
    omega
theorem grown_two (V : World) (p : Nat) (a b : Value) : V.grownBy ((V.setCell ⟨p, 0, none⟩ a).setCell ⟨p, 1, none⟩ b) (some p) :=
  ⟨rfl, rfl, rfl, by rw [two_size]; exact Nat.le_refl _, fun i _ hne => two_block a b (fun e => hne (by rw [e]))⟩
theorem nown_none {w : World} {B lo : Nat} {na : Option Addr} {k ncap : Nat} {M : List Nd} (h : NOwn w B lo (.slice na k ncap) M) : na = none → M.length = 0 ∧ ncap = 0 := fun e => by
  obtain ⟨cs, ho, _⟩ := h
  rcases ho.2 with ⟨hv, hn⟩ | ⟨g, cap, cur, hv, _⟩
  · simp only [Value.slice.injEq] at hv
    exact ⟨hn, hv.2.2⟩
  · simp only [Value.slice.injEq] at hv
    rw [e] at hv
    cases hv.1
def AnyMore (w : World) (e : Ending) (w' : World) : Prop := ∃ S sa caps M na ncap, ∃ n : Int, ∃ L la lc, e = .returned (.tuple #[.slice sa S.length caps, .slice na M.length ncap, .agg #[.int .i64 n, .slice la L.length lc]]) ∧ RlAt w' w'.heap.size (.slice sa S.length caps) S ∧ NdAt w' w'.heap.size (.slice na M.length ncap) M ∧ (na = none → M.length = 0 ∧ ncap = 0) ∧ SpAt w' w'.heap.size (.slice la L.length lc) L ∧
  S.length ≤ 31 ∧ SzOk S ∧ M.length ≤ 9 ∧ (∀ q ∈ M, q.2.length ≤ 41) ∧ (∀ q ∈ M, q.1 ≤ ((3 : Nat) : Int)) ∧ 4 ≤ n ∧ L.length ≤ 3 ∧ Below w.heap.size w w'
set_option maxRecDepth 100000 in
set_option maxHeartbeats 8000000 in
theorem l20NeedsU_any (R p mo : Nat) (but k0 : Int) (w : World) (hk0 : k0 ≤ 0) (hmo : mo ≤ 7) (h : RdAt w R p) (hp : p ≤ 100000000) (hn0 : -1000000 ≤ k0) (hn1 : k0 ≤ 1000000) :
    Calls Try.prog 72 #[.pointer (some ⟨R, 0, none⟩), .int .i64 (mo : Int), .int .i64 but, .int .i64 k0] w (NeedsDrawU R p mo w) := by
  have hR := rdAt_lt h
  have h1 := rdAt_alloc h (.cells #[] 59)
  obtain ⟨i0, hi, hz0, hz1, hz2⟩ := info_parts infoNeed
  obtain ⟨w1, hw1⟩ : ∃ V : World, V = w.alloc (.cells #[] 59) := ⟨_, rfl⟩
  have S1 := Lib.hid (show NB w R p 0 0 [] (.slice (some ⟨w.heap.size, 0, none⟩) 0 0) w1 from
    ⟨NOwn.made (by rw [hw1]) (Nat.le_refl _), by simp, Nat.le_refl _, ⟨p, Nat.le_refl _, Nat.le_refl _, by rw [hw1]; exact h1⟩, by rw [hw1]; exact grown_start w _ R⟩)
  clear h1
  go_enter Try.func72, Try.ntmps72
  go_upto_region 2 with fail
  rw [← hw1]
  clear hw1
  go_wp2_with fail
  go_loopw [9, 10] (fun s9 s10 wr => ∃ (k : Nat) (M : List Nd), k ≤ mo + 1 ∧ s10 = .int .i64 (k : Int) ∧ NB w R p (21 * k) k M s9 wr ∧ ∀ q ∈ M, q.1 < (k : Int)) (fun _ s10 _ => mo + 1 - (intOf s10).toNat)
  case atStart => exact ⟨0, [], Nat.zero_le _, rfl, S1.out, by simp⟩
  case round =>
    obtain ⟨k, M, hk, rfl, hS, hNm⟩ := hrel
    have HNm := Lib.hid hNm
    clear hNm
    obtain ⟨va, vc, hv, hx⟩ := id hS.own.at
    clear hx
    subst hv
    have S2 := Lib.hid hS
    obtain ⟨q, hq1, hq2, hr⟩ := hS.rd
    have hml := hS.many
    have hsz := hS.gr.size
    clear hS
    by_cases hlt : k < mo + 1
    · by_cases hbut : (k : Int) = but
      · have hz : ((k : Int) != but) = false := by simp [hbut]
        go_wp2_with fail
        go_roundw
        case rel => exact ⟨k + 1, M, by omega, by go_num, ⟨S2.out.own, S2.out.len, by omega, ⟨q, hq1, by omega, hr⟩, S2.out.gr⟩, fun q hq => by have := HNm.out q hq; omega⟩
        case measure => simp [intOf]; omega
      · have hz : ((k : Int) != but) = true := by rw [bne_iff_ne]; exact hbut
        go_wp2_with fail
        refine (pick_any R q 3 _ hr (by omega)).mono ?_
        rintro e w3 ⟨k', rfl, q0, q1, y1, hr3, hg3⟩
        have S3 := Lib.hid (S2.out.draw hR hq1 hq2 (drawn_one hr3 hg3))
        clear q1 y1 hg3 S2
        by_cases e0 : k' = 0
        · subst e0
          by_cases h5 : M.length < 5
          · have h5I : (M.length : Int) < 5 := by omega
            have hr4 := Lib.hid hr3
            go_wp2_with fail
            refine (l20Near_any R (q + 1) _ hr3 (by omega)).mono ?_
            rintro e w4 ⟨L, u, rfl, hsr, hL, hd⟩
            have S4 := Lib.hid (S3.out.draw hR (q := q + 1) (by omega) (by omega) hd)
            have z3 := S3.out.gr.size
            have z4 := S4.out.gr.size
            have hlt3 := S3.out.own.lt
            have hsx := SpX.res (x := Value.ownBlock (.slice va M.length vc)) hsr (fun b hb => (hlt3 b hb).2)
            obtain ⟨ua, uc, rfl, hx⟩ := id hsr
            have HS := Lib.hid (hsx.down (lo' := w.heap.size) z3)
            obtain ⟨cs, hown4, hc4⟩ := S4.out.own
            have HC := Lib.hid hc4
            clear hx hsr hd hsx hc4 hr3
            go_wp2_with (at_builtin; refine wpList_append_lies _ rfl _ _ 31 rfl w.heap.size 59 i0 (.agg #[.int .i64 0, .slice none 0 0]) 2 32 Try.underlying31 hi hz0 hz1 hz2 rfl (by decide) _ _ cs rfl (hown4.alloc (.cells #[.int .i64 (k : Int), .slice ua L.length uc] 59)) ⟨w4.heap.size, 0, none⟩ 1 1 [.int .i64 (k : Int), .slice ua L.length uc] rfl rfl (need_new rfl) need_one (by omega) (by unfold maxLen; omega) (by omega) (by simp; omega) _ rfl ?_)
            intro g cap w5 hown5 hgrow hat hlt5
            have HP := Lib.hid (NB.push S4.out rfl hown4 HC.out HS.out (by omega) hR hown5 hgrow (by simpa using hat))
            clear hown5 hgrow hat hown4
            go_wp2_with fail
            go_roundw
            case rel => exact ⟨k + 1, _, by omega, by go_num, HP.out.more (by omega), names_push HNm.out⟩
            case measure => simp [intOf]; omega
          · have h5I : ¬ (M.length : Int) < 5 := by omega
            have h5D : decide ((M.length : Int) < 5) = false := decide_eq_false h5I
            go_wp2_with fail
            go_roundw
            case rel => exact ⟨k + 1, M, by omega, by go_num, ⟨S3.out.own, S3.out.len, by omega, (S3.out.more (by omega : 21 * k + 1 ≤ 21 * (k + 1))).rd, S3.out.gr⟩, fun q hq => by have := HNm.out q hq; omega⟩
            case measure => simp [intOf]; omega
        · have hz0 : (k' == 0) = false := by rw [beq_eq_false_iff_ne]; exact e0
          go_wp2_with fail
          go_roundw
          case rel => exact ⟨k + 1, M, by omega, by go_num, ⟨S3.out.own, S3.out.len, by omega, (S3.out.more (by omega : 21 * k + 1 ≤ 21 * (k + 1))).rd, S3.out.gr⟩, fun q hq => by have := HNm.out q hq; omega⟩
          case measure => simp [intOf]; omega
    · obtain rfl : k = mo + 1 := by omega
      go_wp2_with fail
      refine (odd_any R q k0 _ hr (by omega) hn0 hn1).mono ?_
      rintro e w3 ⟨o, rfl, hx, hd⟩
      obtain rfl := hx hk0
      have S3 := Lib.hid (S2.out.draw hR hq1 hq2 hd)
      clear hx hd S2 hr
      · go_wp2_with fail
        go_ret
        exact ⟨M, _, rfl, S3.out.own, by omega, S3.out.len, (fun q hq => by have := HNm.out q hq; omega), by obtain ⟨q', h1, h2, h3⟩ := S3.out.rd; exact ⟨q', h1, by omega, h3, S3.out.gr⟩⟩
set_option maxRecDepth 100000 in
set_option maxHeartbeats 4000000 in
theorem DrawLeastMore_any (a : Option Addr) (len cap : Nat) (w : World) (h : CodeIn w a len cap) : Calls Try.prog 48 #[.slice a len cap] w (AnyMore w) := by
  obtain ⟨w1, hw1⟩ : ∃ V : World, V = w.alloc (.cells #[.int .i64 0, .slice none 0 0] 59) := ⟨_, rfl⟩
  have v1 : BX w1 w.heap.size := by rw [hw1]; exact BX.new w _ _
  have s1 : w.heap.size < w1.heap.size := by rw [hw1]; simp
  have b1 : Below w.heap.size w w1 := by rw [hw1]; exact (Below.refl _ _).alloc (Nat.le_refl _) _
  have h1 : CodeIn w1 a len cap := codeIn_below h b1
  go_enter Try.func48, Try.ntmps48
  go_upto_region 1 with fail
  rw [← hw1]
  clear hw1 h
  go_wp2_with fail
  refine (open_any a len cap _ h1).mono ?_
  rintro e w2 ⟨rfl, hr2, hb2⟩
  have v2 := v1.below hb2 s1
  have b2 := b1.trans (hb2.mono b1.size)
  have hz2 := rdAt_lt hr2
  have s2 : w.heap.size < w2.heap.size := Nat.lt_of_lt_of_le s1 hb2.size
  clear hb2 v1 h1 b1
  go_wp2_with fail
  refine (l20Shelf_any _ 0 4 0 w2 (by omega) hr2 (by omega) (by omega) (by omega)).mono ?_
  rintro e w3 ⟨S, v, fs, rfl, hg, hl, hsz, hd⟩
  have b3 := drawn_below hd b2 (by omega)
  obtain ⟨sa, caps, rfl, hform, hcap⟩ := hg.form
  obtain ⟨q, hq0, hq1, hr3, hg3⟩ := hd
  have v3 := v2.drawn hg3 s2 (by omega)
  have z3 := hg3.size
  have HG := Lib.hid hg
  clear hg hr2 hg3 b2 v2
  go_wp2_with fail
  refine (l20NeedsU_any _ q 3 (-1) 0 w3 (by omega) (by omega) hr3 (by omega) (by omega) (by omega)).mono ?_
  rintro e w4 ⟨M, v, rfl, hown, hm, hm2, hm3, hd⟩
  have b4 := drawn_below hd b3 (by omega)
  obtain ⟨q4, hq40, hq41, hr4, hg4⟩ := hd
  have v4 := v3.drawn hg4 (by omega) (by omega)
  have z4 := hg4.size
  have HG4 := Lib.hid (HG.out.drawn hg4 hz2)
  have HN4 := Lib.hid hown
  obtain ⟨na, ncap, rfl, hx⟩ := id hown.at
  clear hx hown hr3 hg4 b3 v3 HG
  go_wp2_with fail
  refine (pick_any _ q4 2 _ hr4 (by omega)).mono ?_
  rintro e w5 ⟨k5, rfl, a0, a1, y1, hr5, hg5⟩
  have a2 := a1 (by omega)
  have b5 := b4.grown hg5 b4.size (fun k hk => by injection hk with hk; omega)
  have v5 := v4.drawn hg5 (by omega) (by omega)
  have z5 := hg5.size
  have HG5 := Lib.hid (HG4.out.drawn hg5 hz2)
  have HN5 := Lib.hid (HN4.out.drawn hg5 (by omega) (by omega))
  clear y1 hr4 hg5 b4 v4 HG4 HN4 a1
  go_wp2_with fail
  refine (l20Near_any _ (q4 + 1) _ hr5 (by omega)).mono ?_
  rintro e w6 ⟨L, u0, rfl, hsr, hL0, hd⟩
  have b6 := drawn_below hd b5 (by omega)
  obtain ⟨q6, hq60, hq61, hr6, hg6⟩ := hd
  have v6 := v5.drawn hg6 (by omega) (by omega)
  have z6 := hg6.size
  have HG6 := Lib.hid (HG5.out.drawn hg6 hz2)
  have HN6 := Lib.hid (HN5.out.drawn hg6 (by omega) (by omega))
  obtain ⟨la, lc, rfl, hx⟩ := id hsr
  have HS6 := Lib.hid hsr
  clear hx hsr hr5 hr6 hg6 b5 v5 HG5 HN5
  obtain ⟨x0, x1, y0, y1, f0, f1⟩ := id v6
  have hw4 : IntKind.i64.wrap (4 + k5) = 4 + k5 := IntWalk.i64_in _ (by omega)
  obtain ⟨n, hn⟩ : ∃ n, 4 + k5 = n := ⟨_, rfl⟩
  rw [hn] at hw4
  obtain ⟨u0, u1⟩ := v6.stored (.int .i64 n) (.slice la L.length lc)
  have gt := grown_two w6 w.heap.size (.int .i64 n) (.slice la L.length lc)
  have HAE := Lib.hid (HG6.out.drawn gt (by omega)).at
  have HNE := Lib.hid (HN6.out.drawn gt (by omega) (by omega)).at
  have HNF := Lib.hid (nown_none HN6.out)
  have HSE := Lib.hid (SRes_drawn HS6.out gt (by omega)).at
  have HBE := Lib.hid ((b6.setCell (p := ⟨w.heap.size, 0, none⟩) (Nat.le_refl _) (.int .i64 n)).setCell (p := ⟨w.heap.size, 1, none⟩) (Nat.le_refl _) (.slice la L.length lc))
  have hn4 : 4 ≤ n := by omega
  clear b6 v6 gt HG6 HN6 HS6 a0 a2
  go_wp2_with fail
  exact bodyPost_ret (v := .tuple #[.slice sa S.length caps, .slice na M.length ncap, .agg #[.int .i64 n, .slice la L.length lc]]) (by simp [results, Try.results48, go_sem, u0, u1]) rfl
    ⟨S, sa, caps, M, na, ncap, n, L, la, lc, rfl, HAE.out, HNE.out, HNF.out, HSE.out, hl, hsz, hm, hm2, hm3, hn4, hL0, HBE.out⟩
end Dlm
end Go.Proofs.Ytgnjhmmedogcoaa
