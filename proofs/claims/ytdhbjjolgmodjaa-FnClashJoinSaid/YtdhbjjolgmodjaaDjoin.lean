/- The contract of the model's draw of two clashes and a name (DrawClashJoin), over this seat's translation: whatever is drawn, at most six terms each; nothing that was there has changed. Condition: the code is readable. -/
import Derived.Test.YtdhbjjolgmodjaaGo
import Derived.Test.YtdhbjjolgmodjaaGe
import Derived.Deep.CutRange
namespace Go.Proofs.Ytdhbjjolgmodjaa
open Go.RowKit Go.Sort

namespace Tmj
open Foot Tmo
theorem join_cap {w : World} {B t s n m c : Nat} {a : Option Addr} {xs : List Value} (h : w.ownsRow B t s (.slice a m c) n xs) : n ≤ c := by
  rcases h.2 with ⟨e, h0⟩ | ⟨g, cap, cur, e, hb, hg, hnc, _⟩
  · omega
  · simp only [Value.slice.injEq] at e
    obtain ⟨_, _, rfl⟩ := e
    exact hnc
def AnyJoin (w : World) (e : Ending) (w' : World) : Prop := ∃ A va vc B vb vd n, e = .returned (.tuple #[.slice va A.length vc, .slice vb B.length vd, .int .i64 n]) ∧ TmAt w' w'.heap.size (.slice va A.length vc) A ∧ TmAt w' w'.heap.size (.slice vb B.length vd) B ∧ (A.length ≤ 6 ∧ (∀ q ∈ A, q.2.1.length ≤ 41) ∧ A.length ≤ vc) ∧ (B.length ≤ 6 ∧ (∀ q ∈ B, q.2.1.length ≤ 41) ∧ B.length ≤ vd) ∧ Below w.heap.size w w'
set_option maxRecDepth 100000 in
set_option maxHeartbeats 4000000 in
theorem DrawClashJoin_any (a : Option Addr) (len cap : Nat) (w : World) (h : CodeIn w a len cap) : Calls Try.prog 17 #[.slice a len cap] w (AnyJoin w) := by
  go_enter Try.func17, Try.ntmps17
  go_wp2_with fail
  refine (open_any a len cap _ h).mono ?_
  rintro e w2 ⟨rfl, hr2, hb2⟩
  have hz2 := rdAt_lt hr2
  go_wp2_with fail
  refine (l20Clash_any _ 0 15 w2 hr2 (by omega) (by omega) (by omega)).mono ?_
  rintro e w3 ⟨A, v, rfl, hown, hA, hqA, hd⟩
  have b3 := drawn_below hd hb2 (by omega)
  obtain ⟨q, hq0, hq1, hr3, hg3⟩ := hd
  have z23 := hg3.size
  obtain ⟨va, vc, rfl, hx⟩ := id hown.at
  have hvc : A.length ≤ vc := by obtain ⟨cs, ho, _⟩ := hown; exact join_cap ho
  have HN := Lib.hid hown
  clear hx hown hr2 hg3 hb2
  go_wp2_with fail
  refine (l20Clash_any _ q 15 w3 hr3 (by omega) (by omega) (by omega)).mono ?_
  rintro e w4 ⟨B, v, rfl, hown, hB, hqB, hd⟩
  have b4 := drawn_below hd b3 (by omega)
  obtain ⟨q4, hq40, hq41, hr4, hg4⟩ := hd
  have z34 := hg4.size
  obtain ⟨vb, vd, rfl, hx⟩ := id hown.at
  have hvd : B.length ≤ vd := by obtain ⟨cs, ho, _⟩ := hown; exact join_cap ho
  have HN4 := Lib.hid (HN.out.drawn hg4 hz2 hz2)
  have HM4 := Lib.hid (TOwn.mono (B' := w2.heap.size) (lo' := w2.heap.size) hown z23 z23)
  clear hx hown hr3 hg4 b3 HN
  by_cases hA0 : A.length = 0
  · have g0 : decide (0 < A.length) = false := decide_eq_false (by omega)
    have g1 : decide ((0 : Int) < (A.length : Int)) = false := decide_eq_false (by omega)
    clear hA0
    go_wp2_with fail
    refine (pick_any _ (q4) 6 w4 hr4 (by omega)).mono ?_
    rintro e w5 ⟨p, rfl, p0, p1, _, hr5, hg5⟩
    have hd : Drawn w4 w.heap.size (q4) 1 w5 := ⟨(q4) + 1, by omega, by omega, hr5, hg5⟩
    have b5 := drawn_below hd b4 (by omega)
    have z45 := hg5.size
    have HN5 := Lib.hid (HN4.out.drawn hg5 hz2 hz2)
    have HM5 := Lib.hid (HM4.out.drawn hg5 hz2 hz2)
    clear hd hg5 HN4 HM4
    go_wp2_with fail
    refine (pick_any _ (q4 + 1) 9 w5 hr5 (by omega)).mono ?_
    rintro e w6 ⟨r, rfl, r0, r1, _, hr6, hg6⟩
    have hd : Drawn w5 w.heap.size (q4 + 1) 1 w6 := ⟨(q4 + 1) + 1, by omega, by omega, hr6, hg6⟩
    have b6 := drawn_below hd b5 (by omega)
    have z56 := hg6.size
    have HN6 := Lib.hid (HN5.out.drawn hg6 hz2 hz2)
    have HM6 := Lib.hid (HM5.out.drawn hg6 hz2 hz2)
    clear hd hg6 HN5 HM5
    have HA := Lib.hid HN6.out.at
    have HB := Lib.hid HM6.out.at
    go_wp2_with fail
    exact bodyPost_ret (v := .tuple #[.slice va A.length vc, .slice vb B.length vd, .int .i64 _]) (by simp [results, Try.results17, go_sem]; rfl) rfl ⟨A, va, vc, B, vb, vd, _, rfl, HA.out, HB.out, ⟨hA, hqA, hvc⟩, ⟨hB, hqB, hvd⟩, b6⟩
  have g0 : decide (0 < A.length) = true := decide_eq_true (by omega)
  have g1 : decide ((0 : Int) < (A.length : Int)) = true := decide_eq_true (by omega)
  go_wp2_with fail
  refine (pick_any _ (q4) 3 w4 hr4 (by omega)).mono ?_
  rintro e w5 ⟨k, rfl, k0, k1, _, hr5, hg5⟩
  have hd : Drawn w4 w.heap.size (q4) 1 w5 := ⟨(q4) + 1, by omega, by omega, hr5, hg5⟩
  have b5 := drawn_below hd b4 (by omega)
  have z45 := hg5.size
  have HN5 := Lib.hid (HN4.out.drawn hg5 hz2 hz2)
  have HM5 := Lib.hid (HM4.out.drawn hg5 hz2 hz2)
  clear hd hg5 HN4 HM4
  by_cases hk : k = 0
  · subst hk
    go_wp2_with fail
    refine (pick_any _ (q4 + 1) 6 w5 hr5 (by omega)).mono ?_
    rintro e w6 ⟨p, rfl, p0, p1, _, hr6, hg6⟩
    have hd : Drawn w5 w.heap.size (q4 + 1) 1 w6 := ⟨(q4 + 1) + 1, by omega, by omega, hr6, hg6⟩
    have b6 := drawn_below hd b5 (by omega)
    have z56 := hg6.size
    have HN6 := Lib.hid (HN5.out.drawn hg6 hz2 hz2)
    have HM6 := Lib.hid (HM5.out.drawn hg6 hz2 hz2)
    clear hd hg6 HN5 HM5
    go_wp2_with fail
    refine (pick_any _ (q4 + 1 + 1) 9 w6 hr6 (by omega)).mono ?_
    rintro e w7 ⟨r, rfl, r0, r1, _, hr7, hg7⟩
    have hd : Drawn w6 w.heap.size (q4 + 1 + 1) 1 w7 := ⟨(q4 + 1 + 1) + 1, by omega, by omega, hr7, hg7⟩
    have b7 := drawn_below hd b6 (by omega)
    have z67 := hg7.size
    have HN7 := Lib.hid (HN6.out.drawn hg7 hz2 hz2)
    have HM7 := Lib.hid (HM6.out.drawn hg7 hz2 hz2)
    clear hd hg7 HN6 HM6
    have HA := Lib.hid HN7.out.at
    have HB := Lib.hid HM7.out.at
    go_wp2_with fail
    exact bodyPost_ret (v := .tuple #[.slice va A.length vc, .slice vb B.length vd, .int .i64 _]) (by simp [results, Try.results17, go_sem]; rfl) rfl ⟨A, va, vc, B, vb, vd, _, rfl, HA.out, HB.out, ⟨hA, hqA, hvc⟩, ⟨hB, hqB, hvd⟩, b7⟩
  have g2 : decide ((0 : Int) < k) = true := decide_eq_true (by omega)
  have hn0 : 0 < A.length := by omega
  obtain ⟨a9, c9, hv, hcell⟩ := id HN5.out.at
  injection hv with hv hv3 hv2
  subst hv
  subst hv2
  clear hv3
  rcases hcell with hcell | ⟨b, o, rfl, hbB, hcell⟩
  · exact absurd (congrArg List.length hcell) hA0
  clear hcell
  have KP : Hid (Calls Try.prog 59 #[.pointer (some ⟨w.heap.size, 0, none⟩), .int .i64 (A.length : Int)] w5.drew fun e w6 => ∃ (i : Nat) (x : Int), e = .returned (.int .i64 (i : Int)) ∧ i < A.length ∧ w6.cell? ⟨b, o + i * 3, none⟩ = some (.int .i64 x) ∧ TmAt w6 w6.heap.size (.slice (some ⟨b, o, none⟩) A.length vc) A ∧ TmAt w6 w6.heap.size (.slice vb B.length vd) B ∧ Below w.heap.size w w6) := Lib.hid (by
    refine (pick_any _ (q4 + 1) (A.length : Int) w5.drew hr5 (by omega)).mono ?_
    rintro e w6 ⟨j, rfl, j0, j1, _, hr6, hg6⟩
    have hg6 : w5.grownBy w6 (some w.heap.size) := ⟨hg6.os, hg6.tape, hg6.output, hg6.size, hg6.block⟩
    have hd : Drawn w5 w.heap.size (q4 + 1) 1 w6 := ⟨q4 + 1 + 1, by omega, by omega, hr6, hg6⟩
    have b6 := drawn_below hd b5 (by omega)
    have T6 := (HN5.out.drawn hg6 hz2 hz2).at
    have U6 := (HM5.out.drawn hg6 hz2 hz2).at
    obtain ⟨a9, c9, hv, hcell⟩ := id T6
    injection hv with hv hv3 hv2
    subst hv2
    rcases hcell with hcell | ⟨b9, o9, hv9, hbB, hcell⟩
    · exact absurd (congrArg List.length hcell) hA0
    rw [hv9] at hv
    injection hv with hv
    injection hv with hv hv4
    subst hv
    subst hv4
    have j2 := j1 (by omega)
    obtain ⟨i, rfl⟩ : ∃ i : Nat, j = (i : Int) := ⟨j.toNat, by omega⟩
    exact ⟨i, _, rfl, by omega, (hcell i (by omega)).1, T6, U6, b6⟩)
  clear HN5 HM5 hr5 b5
  go_wp2_with fail
  go_region_with ((go_at_call 59; refine KP.out.mono ?_; rintro e w6 ⟨i, x, rfl, hi, ci, T6, U6, b6⟩))
  all_goals
    go_wp2_with fail
    exact bodyPost_ret (v := .tuple #[.slice (some ⟨b, o, none⟩) A.length vc, .slice vb B.length vd, .int .i64 _]) (by simp [results, Try.results17, go_sem]; rfl) rfl ⟨A, _, vc, B, vb, vd, _, rfl, T6, U6, ⟨hA, hqA, hvc⟩, ⟨hB, hqB, hvd⟩, b6⟩
end Tmj
end Go.Proofs.Ytdhbjjolgmodjaa
