/- The contract of the model's draw of a shelf, needs, what is held, and picks (DrawChoiceFault), over this seat's translation: whatever is drawn, at most 31 releases, nine needs and 30 picks of each; nothing that was there has changed. Condition: the code is readable. -/
import Derived.Test.YthbfhalciioehaaDcr
namespace Go.Proofs.Ythbfhalciioehaa
open Go.RowKit Go.Sort

namespace Dcr
open Foot Dsh Dpk Dch
def AnyFault (w : World) (e : Ending) (w' : World) : Prop := ∃ S sa caps M na ncap D da dc C pa pc, e = .returned (.tuple #[.slice sa S.length caps, .slice na M.length ncap, .slice da D.length dc, .slice pa C.length pc]) ∧ RlAt w' w'.heap.size (.slice sa S.length caps) S ∧ NdAt w' w'.heap.size (.slice na M.length ncap) M ∧ PkAt w' w'.heap.size (.slice da D.length dc) D ∧ PkAt w' w'.heap.size (.slice pa C.length pc) C ∧ S.length ≤ 31 ∧ SzOk S ∧ M.length ≤ 9 ∧ (∀ q ∈ M, q.2.length ≤ 41) ∧ D.length ≤ 30 ∧ C.length ≤ 30 ∧ C.length ≤ pc ∧ Below w.heap.size w w'

set_option maxRecDepth 100000 in
set_option maxHeartbeats 4000000 in
theorem DrawChoiceFault_any (a : Option Addr) (len cap : Nat) (w : World) (h : CodeIn w a len cap) : Calls Try.prog 49 #[.slice a len cap] w (AnyFault w) := by
  go_enter Try.func49, Try.ntmps49
  go_wp2_with fail
  refine (open_any a len cap _ h).mono ?_
  rintro e w2 ⟨rfl, hr2, hb2⟩
  have hz2 := rdAt_lt hr2
  go_wp2_with fail
  refine (l20Shelf_any _ 0 4 20 w2 (by omega) hr2 (by omega) (by omega) (by omega)).mono ?_
  rintro e w3 ⟨S, v, fs, rfl, hg, hl, hsz, hd⟩
  have b3 := drawn_below hd hb2 (by omega)
  obtain ⟨sa, caps, rfl, hform, hcap⟩ := hg.form
  obtain ⟨q, hq0, hq1, hr3, hg3⟩ := hd
  have z23 := hg3.size
  have HG := Lib.hid hg
  clear hg hr2 hg3 hb2
  go_wp2_with fail
  refine (l20NeedsM_any _ q 4 (-1) 20 w3 (by omega) hr3 (by omega) (by omega) (by omega)).mono ?_
  rintro e w4 ⟨M, v, rfl, hown, hm, hm2, hd⟩
  have b4 := drawn_below hd b3 (by omega)
  obtain ⟨q4, hq40, hq41, hr4, hg4⟩ := hd
  have z34 := hg4.size
  have HG4 := Lib.hid (HG.out.drawn hg4 hz2)
  have HN4 := Lib.hid hown
  obtain ⟨na, ncap, rfl, hx⟩ := id hown.at
  clear hx hown hr3 hg4 HG b3
  go_wp2_with fail
  refine (l20Chosen_any _ q4 _ sa na caps ncap S fs M w4 hr4 (by omega) HG4.out hz2 hl hsz HN4.out.at hm hm2).mono ?_
  rintro e w5 ⟨C0, v, rfl, ho, hC0, hd⟩
  have b5 := drawn_below hd b4 (by omega)
  obtain ⟨q5, hq50, hq51, hr5, hg5⟩ := hd
  have z45 := hg5.size
  have HG5 := Lib.hid (HG4.out.drawn hg5 hz2)
  have HN5 := Lib.hid (HN4.out.drawn hg5 (by omega) (by omega))
  obtain ⟨pa0, pc0, rfl⟩ := ho.form
  have HO5 := Lib.hid ho
  clear hg5 hr4 HG4 HN4 b4 ho
  go_wp2_with fail
  refine (pick_any _ q5 3 _ hr5 (by omega)).mono ?_
  rintro e w6 ⟨k6, rfl, a0, a1, y1, hr6, hg6⟩
  have b6 := b5.grown hg6 b5.size (fun k hk => by injection hk with hk; omega)
  have z56 := hg6.size
  have HG6 := Lib.hid (HG5.out.drawn hg6 hz2)
  have HN6 := Lib.hid (HN5.out.drawn hg6 (by omega) (by omega))
  have HO6 := Lib.hid (HO5.out.drawn hg6 (by omega))
  clear hg6 hr5 HG5 HN5 HO5 b5 a0 a1 y1
  by_cases hk : k6 = 0
  · subst hk
    go_wp2_with fail
    refine (l20Picks_any _ (q5 + 1) _ 20 sa caps S fs w6 hr6 (by omega) (by omega) (by omega) HG6.out hz2 hl).mono ?_
    rintro e w7 ⟨C, v, rfl, ho, hC, hd⟩
    have b7 := drawn_below hd b6 (by omega)
    obtain ⟨q7, hq70, hq71, hr7, hg7⟩ := hd
    have z67 := hg7.size
    have HG7 := Lib.hid (HG6.out.drawn hg7 hz2)
    have HN7 := Lib.hid (HN6.out.drawn hg7 (by omega) (by omega))
    obtain ⟨pa, pc, rfl⟩ := ho.form
    have HO7 := Lib.hid ho
    have hC30 : C.length ≤ 30 := by omega
    clear hg7 hr6 HG6 HN6 HO6 b6 ho hC
    go_wp2_with fail
    refine (l20Picks_any _ q7 _ 20 sa caps S fs w7 hr7 (by omega) (by omega) (by omega) HG7.out hz2 hl).mono ?_
    rintro e w8 ⟨D, v, rfl, ho8, hD, hd⟩
    have b8 := drawn_below hd b7 (by omega)
    obtain ⟨q8, hq80, hq81, hr8, hg8⟩ := hd
    have z78 := hg8.size
    have HG8 := Lib.hid (HG7.out.drawn hg8 hz2)
    have HN8 := Lib.hid (HN7.out.drawn hg8 (by omega) (by omega))
    have HO8 := Lib.hid (HO7.out.drawn hg8 (by omega))
    obtain ⟨da, dc, rfl⟩ := ho8.form
    have HD8 := Lib.hid ho8
    clear hg8 hr7 HG7 HN7 HO7 b7 ho8
    go_wp2_with fail
    refine (pick_any _ q8 2 _ hr8 (by omega)).mono ?_
    rintro e w9 ⟨k9, rfl, a0, a1, y1, hr9, hg9⟩
    have b9 := b8.grown hg9 b8.size (fun k hk => by injection hk with hk; omega)
    have HA := Lib.hid (HG8.out.drawn hg9 hz2).at
    have HN := Lib.hid (HN8.out.drawn hg9 (by omega) (by omega)).at
    have HP := Lib.hid (HO8.out.drawn hg9 (by omega)).at
    have HD := Lib.hid (HD8.out.drawn hg9 (by omega)).at
    have hpcc : C.length ≤ pc := own_cap HO8.out
    clear hg9 hr8 hr9 HG8 HN8 HO8 HD8 b8 a0 a1 y1
    by_cases hk9 : k9 = 0
    · subst hk9
      go_wp2_with fail
      exact bodyPost_ret (v := .tuple #[.slice sa S.length caps, .slice na M.length ncap, .slice pa C.length pc, .slice pa C.length pc]) (by simp [results, Try.results49, go_sem]) rfl ⟨S, sa, caps, M, na, ncap, C, pa, pc, C, pa, pc, rfl, HA.out, HN.out, HP.out, HP.out, hl, hsz, hm, hm2, hC30, hC30, hpcc, b9⟩
    · have hkb9 : (k9 == 0) = false := by rw [beq_eq_false_iff_ne]; exact hk9
      go_wp2_with fail
      exact bodyPost_ret (v := .tuple #[.slice sa S.length caps, .slice na M.length ncap, .slice da D.length dc, .slice pa C.length pc]) (by simp [results, Try.results49, go_sem]) rfl ⟨S, sa, caps, M, na, ncap, D, da, dc, C, pa, pc, rfl, HA.out, HN.out, HD.out, HP.out, hl, hsz, hm, hm2, by omega, hC30, hpcc, b9⟩
  · have hkb : (k6 == 0) = false := by rw [beq_eq_false_iff_ne]; exact hk
    obtain ⟨w7, rfl⟩ : ∃ w7, w7 = w6 := ⟨_, rfl⟩
    obtain ⟨q7, hq7⟩ : ∃ q7, q7 = q5 + 1 := ⟨_, rfl⟩
    have hr7 := hr6
    rw [← hq7] at hr7
    have hq70 : q7 ≤ 1000000 := by omega
    have HG7 := HG6
    have HN7 := HN6
    have HO7 := HO6
    have b7 := b6
    have hC30 := hC0
    clear HG6 HN6 HO6 b6 hC0 hr6 hq7
    go_wp2_with fail
    refine (l20Picks_any _ q7 _ 20 sa caps S fs w7 hr7 (by omega) (by omega) (by omega) HG7.out hz2 hl).mono ?_
    rintro e w8 ⟨D, v, rfl, ho8, hD, hd⟩
    have b8 := drawn_below hd b7 (by omega)
    obtain ⟨q8, hq80, hq81, hr8, hg8⟩ := hd
    have z78 := hg8.size
    have HG8 := Lib.hid (HG7.out.drawn hg8 hz2)
    have HN8 := Lib.hid (HN7.out.drawn hg8 (by omega) (by omega))
    have HO8 := Lib.hid (HO7.out.drawn hg8 (by omega))
    obtain ⟨da, dc, rfl⟩ := ho8.form
    have HD8 := Lib.hid ho8
    clear hg8 hr7 HG7 HN7 HO7 b7 ho8
    go_wp2_with fail
    refine (pick_any _ q8 2 _ hr8 (by omega)).mono ?_
    rintro e w9 ⟨k9, rfl, a0, a1, y1, hr9, hg9⟩
    have b9 := b8.grown hg9 b8.size (fun k hk => by injection hk with hk; omega)
    have HA := Lib.hid (HG8.out.drawn hg9 hz2).at
    have HN := Lib.hid (HN8.out.drawn hg9 (by omega) (by omega)).at
    have HP := Lib.hid (HO8.out.drawn hg9 (by omega)).at
    have HD := Lib.hid (HD8.out.drawn hg9 (by omega)).at
    have hpcc : C0.length ≤ pc0 := own_cap HO8.out
    clear hg9 hr8 hr9 HG8 HN8 HO8 HD8 b8 a0 a1 y1
    by_cases hk9 : k9 = 0
    · subst hk9
      go_wp2_with fail
      exact bodyPost_ret (v := .tuple #[.slice sa S.length caps, .slice na M.length ncap, .slice pa0 C0.length pc0, .slice pa0 C0.length pc0]) (by simp [results, Try.results49, go_sem]) rfl ⟨S, sa, caps, M, na, ncap, C0, pa0, pc0, C0, pa0, pc0, rfl, HA.out, HN.out, HP.out, HP.out, hl, hsz, hm, hm2, hC30, hC30, hpcc, b9⟩
    · have hkb9 : (k9 == 0) = false := by rw [beq_eq_false_iff_ne]; exact hk9
      go_wp2_with fail
      exact bodyPost_ret (v := .tuple #[.slice sa S.length caps, .slice na M.length ncap, .slice da D.length dc, .slice pa0 C0.length pc0]) (by simp [results, Try.results49, go_sem]) rfl ⟨S, sa, caps, M, na, ncap, D, da, dc, C0, pa0, pc0, rfl, HA.out, HN.out, HD.out, HP.out, hl, hsz, hm, hm2, by omega, hC30, hpcc, b9⟩
end Dcr
end Go.Proofs.Ythbfhalciioehaa
