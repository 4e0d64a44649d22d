/- Contracts of the model's draws of a shelf, needs and picks (DrawChoiceReach, DrawChoiceTrim), over this seat's translation: whatever is drawn, at most 31 releases, nine needs and 30 picks; nothing that was there has changed. Condition: the code is readable. -/
import Derived.Test.YthbfhalciioehaaDch
import Derived.Test.YthbfhalciioehaaGe
namespace Go.Proofs.Ythbfhalciioehaa
open Go.RowKit Go.Sort

namespace Dcr
open Foot Dsh Dpk Dch
theorem own_cap {w : World} {B t s n m c : Nat} {a : Option Addr} {xs : List Value} (h : w.ownsRow B t s (.slice a m c) n xs) : n ≤ c := by
  rcases h.2 with ⟨e, h0⟩ | ⟨g, cap, cur, e, hb, hg, hnc, _⟩
  · omega
  · simp only [Value.slice.injEq] at e
    obtain ⟨_, _, rfl⟩ := e
    exact hnc
def AnyChoice (w : World) (e : Ending) (w' : World) : Prop := ∃ S sa caps M na ncap C pa pc, e = .returned (.tuple #[.slice sa S.length caps, .slice na M.length ncap, .slice pa C.length pc]) ∧ RlAt w' w'.heap.size (.slice sa S.length caps) S ∧ NdAt w' w'.heap.size (.slice na M.length ncap) M ∧ PkAt w' w'.heap.size (.slice pa C.length pc) C ∧ S.length ≤ 31 ∧ SzOk S ∧ M.length ≤ 9 ∧ (∀ q ∈ M, q.2.length ≤ 41) ∧ C.length ≤ 30 ∧ M.length ≤ ncap ∧ C.length ≤ pc ∧ Below w.heap.size w w'

set_option maxRecDepth 100000 in
set_option maxHeartbeats 4000000 in
theorem DrawChoiceReach_any (a : Option Addr) (len cap : Nat) (w : World) (h : CodeIn w a len cap) : Calls Try.prog 42 #[.slice a len cap] w (AnyChoice w) := by
  go_enter Try.func42, Try.ntmps42
  go_wp2_with fail
  refine (open_any a len cap _ h).mono ?_
  rintro e w2 ⟨rfl, hr2, hb2⟩
  have hz2 := rdAt_lt hr2
  go_wp2_with fail
  refine (l20Shelf_any _ 0 4 20 w2 (by omega) hr2 (by omega) (by omega) (by omega)).mono ?_
  rintro e w3 ⟨S, v, fs, rfl, hg, hl, hsz, hd⟩
  have b3 := drawn_below hd hb2 (by omega)
  obtain ⟨sa, caps, rfl, hform, hcap⟩ := hg.form
  obtain ⟨q, hq0, hq1, hr3, hg3⟩ := hd
  have z23 := hg3.size
  have HG := Lib.hid hg
  clear hg hr2 hg3 hb2
  go_wp2_with fail
  refine (l20NeedsM_any _ q 4 (-1) 20 w3 (by omega) hr3 (by omega) (by omega) (by omega)).mono ?_
  rintro e w4 ⟨M, v, rfl, hown, hm, hm2, hd⟩
  have b4 := drawn_below hd b3 (by omega)
  obtain ⟨q4, hq40, hq41, hr4, hg4⟩ := hd
  have z34 := hg4.size
  have HG4 := Lib.hid (HG.out.drawn hg4 hz2)
  have HN4 := Lib.hid hown
  obtain ⟨na, ncap, rfl, hx⟩ := id hown.at
  have hnc : M.length ≤ ncap := by obtain ⟨cs, ho, _⟩ := hown; exact own_cap ho
  clear hx hown hr3 hg4 HG b3
  go_wp2_with fail
  refine (pick_any _ q4 2 _ hr4 (by omega)).mono ?_
  rintro e w5 ⟨k5, rfl, a0, a1, y1, hr5, hg5⟩
  have b5 := b4.grown hg5 b4.size (fun k hk => by injection hk with hk; omega)
  have z45 := hg5.size
  have HG5 := Lib.hid (HG4.out.drawn hg5 hz2)
  have HN5 := Lib.hid (HN4.out.drawn hg5 (by omega) (by omega))
  clear hg5 hr4 HG4 HN4 b4 a0 a1 y1
  by_cases hk : k5 = 0
  · subst hk
    go_wp2_with fail
    refine (l20Picks_any _ (q4 + 1) _ 20 sa caps S fs w5 hr5 (by omega) (by omega) (by omega) HG5.out hz2 hl).mono ?_
    rintro e w6 ⟨C, v, rfl, ho, hC, hd⟩
    have b6 := drawn_below hd b5 (by omega)
    obtain ⟨q6, _, _, _, hg6⟩ := hd
    have HA := Lib.hid (HG5.out.drawn hg6 hz2).at
    have HN := Lib.hid (HN5.out.drawn hg6 (by omega) (by omega)).at
    have HP := Lib.hid ho.at
    obtain ⟨pa, pc, rfl⟩ := ho.form
    have hpc : C.length ≤ pc := own_cap ho
    clear hg6 ho
    go_wp2_with fail
    exact bodyPost_ret (v := .tuple #[.slice sa S.length caps, .slice na M.length ncap, .slice pa C.length pc]) (by simp [results, Try.results42, go_sem]) rfl ⟨S, sa, caps, M, na, ncap, C, pa, pc, rfl, HA.out, HN.out, HP.out, hl, hsz, hm, hm2, by omega, hnc, hpc, b6⟩
  · have hkb : (k5 == 0) = false := by rw [beq_eq_false_iff_ne]; exact hk
    go_wp2_with fail
    refine (l20Chosen_any _ (q4 + 1) _ sa na caps ncap S fs M w5 hr5 (by omega) HG5.out hz2 hl hsz HN5.out.at hm hm2).mono ?_
    rintro e w6 ⟨C, v, rfl, ho, hC, hd⟩
    have b6 := drawn_below hd b5 (by omega)
    obtain ⟨q6, _, _, _, hg6⟩ := hd
    have HA := Lib.hid (HG5.out.drawn hg6 hz2).at
    have HN := Lib.hid (HN5.out.drawn hg6 (by omega) (by omega)).at
    have HP := Lib.hid ho.at
    obtain ⟨pa, pc, rfl⟩ := ho.form
    have hpc : C.length ≤ pc := own_cap ho
    clear hg6 ho
    go_wp2_with fail
    exact bodyPost_ret (v := .tuple #[.slice sa S.length caps, .slice na M.length ncap, .slice pa C.length pc]) (by simp [results, Try.results42, go_sem]) rfl ⟨S, sa, caps, M, na, ncap, C, pa, pc, rfl, HA.out, HN.out, HP.out, hl, hsz, hm, hm2, hC, hnc, hpc, b6⟩

set_option maxRecDepth 100000 in
theorem DrawChoiceTrim_any (a : Option Addr) (len cap : Nat) (w : World) (h : CodeIn w a len cap) : Calls Try.prog 50 #[.slice a len cap] w (AnyChoice w) := by
  go_enter Try.func50, Try.ntmps50
  go_wp2_with fail
  refine (DrawChoiceReach_any a len cap _ h).mono ?_
  rintro e w2 ⟨S, sa, caps, M, na, ncap, C, pa, pc, rfl, rest⟩
  go_wp2_with fail
  exact bodyPost_ret (v := .tuple #[.slice sa S.length caps, .slice na M.length ncap, .slice pa C.length pc]) (by simp [results, Try.results50, go_sem]) rfl ⟨S, sa, caps, M, na, ncap, C, pa, pc, rfl, rest⟩
end Dcr
end Go.Proofs.Ythbfhalciioehaa
