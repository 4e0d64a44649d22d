/- The contract of the program's clashOfShelf, over this seat's translation. Nothing that was there before a call has changed. Condition: at most 30 releases. -/
import Derived.Test.YtdhbjjolgmodjaaGs
namespace Go.Proofs.Ytdhbjjolgmodjaa
open Go.RowKit Go.Sort

namespace Tmc
open Foot
/-- The clash of a name: what is of no release of it. -/
def cofS (S : List Rel) (A B N : Int) : Option (List Tm) :=
  if A = 0 ∧ B = 0 ∧ inB N 0 7 = true then (absL N S).map fun R => [(N, R, false)] else none

set_option maxRecDepth 100000 in
set_option maxHeartbeats 2000000 in
theorem clashOfShelf_any (u : Value) (S : List Rel) (K A B N : Int) (w : World) (hS : S.length ≤ 30) (h : RlAt w w.heap.size u S) :
    Calls Try.prog 110 #[u, stepV K A B N] w (TbPost (cofS S A B N) w) := by
  obtain ⟨a, cap, rfl, hx⟩ := id h
  clear hx
  by_cases hA : A = 0
  · subst hA
    by_cases hB : B = 0
    · subst hB
      have hz := (Below.refl w.heap.size w).alloc (Nat.le_refl _) (.cells #[.int .i64 K, .int .i64 0, .int .i64 0, .int .i64 N] 48)
      have hs1 := (h.below hz).mono hz.size
      have H1 := Lib.hid hs1
      clear hs1 hz
      rcases hn : inB N 0 7
      · have HU := Lib.hid (show cofS S 0 0 N = none by unfold cofS; rw [hn]; simp)
        have K1 : Hid (∀ V, Calls Try.prog 132 #[.int .i64 N] V fun e w' => e = .returned (.bool false) ∧ Below V.heap.size V w') := Lib.hid fun V => by rw [← hn]; exact nameOk_any N V
        clear hn
        go_enter Try.func110, Try.ntmps110
        go_wp2_with fail
        refine (K1.out _).mono ?_
        rintro e w2 ⟨rfl, hb⟩
        have hb0 := ((Below.refl w.heap.size w).alloc (Nat.le_refl _) (.cells #[.int .i64 K, .int .i64 0, .int .i64 0, .int .i64 N] 48)).trans (hb.mono (by simp))
        have z0 : w.heap.size ≤ w2.heap.size := hb0.size
        clear hb
        go_wp2_with fail
        exact bodyPost_ret (v := .tuple #[.slice none 0 0, .bool false]) (by simp [results, Try.results110, go_sem]) rfl ⟨_, by rw [HU.out]; rfl, by rw [HU.out]; exact TmB.nil _ _ _ _ _, by go_grown⟩
      · have HO := Lib.hid (show cofS S 0 0 N = (absL N S).map fun R => [(N, R, false)] by unfold cofS; rw [hn]; simp)
        have K1 : Hid (∀ V, Calls Try.prog 132 #[.int .i64 N] V fun e w' => e = .returned (.bool true) ∧ Below V.heap.size V w') := Lib.hid fun V => by rw [← hn]; exact nameOk_any N V
        have K2 : Hid (∀ V, RlAt V V.heap.size (.slice a S.length cap) S → Calls Try.prog 137 #[.slice a S.length cap, .int .i64 N] V (TPost (absL N S).isSome ((absL N S).getD []) V)) := Lib.hid fun V g => rangeAbsent_any _ S N V hS g
        clear hn
        rcases hab : absL N S with _ | R
        · have HU := Lib.hid (show cofS S 0 0 N = none by rw [HO.out, hab]; rfl)
          rw [hab] at K2
          simp only [Option.isSome_none, Option.getD_none] at K2
          clear hab
          go_enter Try.func110, Try.ntmps110
          go_wp2_with fail
          refine (K1.out _).mono ?_
          rintro e w2 ⟨rfl, hb⟩
          have c3 := (hb.cell (p := ⟨w.heap.size, 3, none⟩) (by simp)).trans (show _ = some (Value.int .i64 N) by go_simp)
          have hb0 := ((Below.refl w.heap.size w).alloc (Nat.le_refl _) (.cells #[.int .i64 K, .int .i64 0, .int .i64 0, .int .i64 N] 48)).trans (hb.mono (by simp))
          have z0 : w.heap.size ≤ w2.heap.size := hb0.size
          have z1 : w.heap.size < w2.heap.size := by have := hb.size; simp at this; omega
          have H2 := Lib.hid ((H1.out.below hb).mono hb.size)
          clear hb
          go_wp2_with fail
          refine (K2.out _ H2.out).mono ?_
          rintro e w3 ⟨v3, rfl, r3, hb3⟩
          have hb4 := hb0.trans (hb3.mono z0)
          have z4 : w.heap.size ≤ w3.heap.size := hb4.size
          obtain ⟨ra, rc, rfl, _⟩ := id r3
          clear hb3 r3
          go_wp2_with fail
          exact bodyPost_ret (v := .tuple #[.slice none 0 0, .bool false]) (by simp [results, Try.results110, go_sem]) rfl ⟨_, by rw [HU.out]; rfl, by rw [HU.out]; exact TmB.nil _ _ _ _ _, by go_grown⟩
        · have HU := Lib.hid (show cofS S 0 0 N = some [(N, R, false)] by rw [HO.out, hab]; rfl)
          rw [hab] at K2
          simp only [Option.isSome_some, Option.getD_some] at K2
          clear hab
          go_enter Try.func110, Try.ntmps110
          go_wp2_with fail
          refine (K1.out _).mono ?_
          rintro e w2 ⟨rfl, hb⟩
          have c3 := (hb.cell (p := ⟨w.heap.size, 3, none⟩) (by simp)).trans (show _ = some (Value.int .i64 N) by go_simp)
          have hb0 := ((Below.refl w.heap.size w).alloc (Nat.le_refl _) (.cells #[.int .i64 K, .int .i64 0, .int .i64 0, .int .i64 N] 48)).trans (hb.mono (by simp))
          have z0 : w.heap.size ≤ w2.heap.size := hb0.size
          have z1 : w.heap.size < w2.heap.size := by have := hb.size; simp at this; omega
          have H2 := Lib.hid ((H1.out.below hb).mono hb.size)
          clear hb
          go_wp2_with fail
          refine (K2.out _ H2.out).mono ?_
          rintro e w3 ⟨v3, rfl, r3, hb3⟩
          have hb4 := hb0.trans (hb3.mono z0)
          have z4 : w.heap.size ≤ w3.heap.size := hb4.size
          have z5 : w2.heap.size ≤ w3.heap.size := hb3.size
          have z6 : w.heap.size < w3.heap.size := by omega
          have c4 := (hb3.cell (p := ⟨w.heap.size, 3, none⟩) z1).trans c3
          obtain ⟨ra, rc, rfl, _⟩ := id r3
          have HT := Lib.hid (made_one (x := N) (f := false) (cap := 1) (resNew (ob := .cells #[.slice ra R.length rc] 81) r3) (by simp; omega))
          clear hb3 r3 c3
          go_wp2_with fail
          exact bodyPost_ret (v := .tuple #[.slice (some ⟨w3.heap.size + 1, 0, none⟩) 1 1, .bool true]) (by simp [results, Try.results110, go_sem]) rfl ⟨_, by rw [HU.out]; rfl, by
            rw [HU.out]
            have hsz : ∀ ob : Obj, (w3.alloc ob).heap.size = w3.heap.size + 1 := fun ob => by simp
            have := HT.out
            rw [hsz] at this
            exact (this.mono (by omega)).wide (by simp), by go_grown⟩
    · have HO := Lib.hid (show cofS S 0 B N = none by unfold cofS; exact if_neg fun e => hB e.2.1)
      have h5 : (B == 0) = false := beq_eq_false_iff_ne.2 hB
      have h6 : (B != 0) = true := bne_iff_ne.2 hB
      clear h
      go_enter Try.func110, Try.ntmps110
      go_wp2_with fail
      exact bodyPost_ret (v := .tuple #[.slice none 0 0, .bool false]) (by simp [results, Try.results110, go_sem]) rfl ⟨_, by rw [HO.out]; rfl, by rw [HO.out]; exact TmB.nil _ _ _ _ _, by go_grown⟩
  · have HO := Lib.hid (show cofS S A B N = none by unfold cofS; exact if_neg fun e => hA e.1)
    have h5 : (A == 0) = false := beq_eq_false_iff_ne.2 hA
    have h6 : (A != 0) = true := bne_iff_ne.2 hA
    clear h
    go_enter Try.func110, Try.ntmps110
    go_wp2_with fail
    exact bodyPost_ret (v := .tuple #[.slice none 0 0, .bool false]) (by simp [results, Try.results110, go_sem]) rfl ⟨_, by rw [HO.out]; rfl, by rw [HO.out]; exact TmB.nil _ _ _ _ _, by go_grown⟩
end Tmc
end Go.Proofs.Ytdhbjjolgmodjaa
