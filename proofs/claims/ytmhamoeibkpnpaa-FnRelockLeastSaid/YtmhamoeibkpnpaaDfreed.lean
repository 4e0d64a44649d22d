/- The contract of the model's draw of names that are set free, over this seat's translation: at most three numbers lie in a row of their own; nothing that was there has changed but the reader. Condition: the reader was not asked too often; the code is readable. -/
import Derived.Test.YtmhamoeibkpnpaaDpicks
import Derived.Test.YtmhamoeibkpnpaaIn
namespace Go.Proofs.Ytmhamoeibkpnpaa
open Go.RowKit Go.Sort

namespace Dfr
open Foot Dsh Dpk
def FreedDraw (R p : Nat) (w : World) (e : Ending) (w' : World) : Prop := ∃ N v, e = .returned v ∧ IOwn w' w.heap.size v N ∧ N.length ≤ 3 ∧ Drawn w R p 20 w'
def FRel (R p : Nat) (w : World) (v i : Value) (wr : World) : Prop :=
  ∃ (k : Nat) (N : List Int), i = .int .i64 (k : Int) ∧ N.length + k ≤ 3 ∧ IOwn wr w.heap.size v N ∧ (∃ q, p ≤ q ∧ q + 2 * k ≤ p + 7 ∧ RdAt wr R q) ∧ w.grownBy wr (some R)
theorem io_form {w : World} {B : Nat} {v : Value} {N : List Int} (h : IOwn w B v N) : ∃ a c, v = .slice a N.length c := by
  rcases h.2 with ⟨hv, h0⟩ | ⟨g, cap, cur, hv, _⟩
  · exact ⟨none, 0, by rw [hv, h0]⟩
  · exact ⟨_, cap, hv⟩
theorem io_mono {w : World} {B B' : Nat} {v : Value} {N : List Int} (h : IOwn w B v N) (hB : B' ≤ B) : IOwn w B' v N :=
  ⟨h.1, by rcases h.2 with h0 | ⟨g, cap, cur, e, hb, rest⟩; exact .inl h0; exact .inr ⟨g, cap, cur, e, Nat.le_trans hB hb, rest⟩⟩
theorem io_drawn {w w' : World} {B R : Nat} {v : Value} {N : List Int} (h : IOwn w B v N) (hg : w.grownBy w' (some R)) (hR : R < B) : IOwn w' B v N := own_drawn h hg hR

set_option maxRecDepth 100000 in
set_option maxHeartbeats 4000000 in
theorem l20Freed_any (R p : Nat) (w : World) (h : RdAt w R p) (hp : p ≤ 50000000) : Calls Try.prog 39 #[.pointer (some ⟨R, 0, none⟩)] w (FreedDraw R p w) := by
  have hR := rdAt_lt h
  obtain ⟨i0, hi, hz0, hz1, hz2⟩ := info_parts infoInt
  obtain ⟨w1, hw1⟩ : ∃ V : World, V = w.alloc (.cells #[] 3) := ⟨_, rfl⟩
  have hr1 : RdAt w1 R p := by rw [hw1]; exact rdAt_alloc h _
  have g1 : w.grownBy w1 (some R) := by rw [hw1]; exact grown_start w _ R
  have o1 : IOwn w1 w.heap.size (.slice (some ⟨w.heap.size, 0, none⟩) 0 0) [] := by
    rw [hw1]
    exact World.ownsRow_made (base := w.heap.size) (e := 3) (size := 1) w #[] 0 (by simp) (by unfold maxLen; omega) rfl
  have HO1 := Lib.hid o1
  clear o1
  go_enter Try.func39, Try.ntmps39
  go_upto_region 2 with fail
  rw [← hw1]
  clear hw1
  go_wp2_with fail
  refine (pick_any R p _ _ hr1 (by omega)).mono ?_
  rintro e w2 ⟨k2, rfl, k20, k21, _, hr2, hg2⟩
  have k22 : k2 < 4 := k21 (by omega)
  obtain ⟨kn, rfl⟩ := Int.eq_ofNat_of_zero_le k20
  have HR := Lib.hid (show FRel R p w (.slice (some ⟨w.heap.size, 0, none⟩) 0 0) (.int .i64 (kn : Int)) w2 from ⟨kn, [], rfl, by simp; omega, io_drawn HO1.out hg2 (by omega), ⟨p + 1, by omega, by omega, hr2⟩, grown_trans g1 hg2⟩)
  clear hr1 g1 hr2 hg2 k21
  go_wp2_with fail
  go_loopw [3, 4] (fun v i wr => FRel R p w v i wr) (fun _ i _ => (intOf i).toNat)
  case atStart => exact HR.out
  case round =>
    rename World => wr
    obtain ⟨k, N, rfl, hN, hown, ⟨q, hq0, hq1, hr⟩, hg⟩ := hrel
    obtain ⟨va, vc, rfl⟩ := io_form hown
    have HO := Lib.hid hown
    have HG := Lib.hid hg
    clear hown hg
    by_cases hk : k = 0
    · subst hk
      have HP := Lib.hid (show FreedDraw R p w (.returned (.slice va N.length vc)) wr from ⟨N, _, rfl, HO.out, by omega, ⟨q, hq0, by omega, hr, HG.out⟩⟩)
      clear hr
      go_wp2_with fail
      go_ret
      exact HP.out
    · have hkI : (0 : Int) < (k : Int) := by omega
      go_wp2_with fail
      refine (pick_any R q _ _ hr (by omega)).mono ?_
      rintro e w3 ⟨k3, rfl, k30, k31, _, hr3, hg3⟩
      have k32 : k3 < 5 := k31 (by omega)
      go_wp2_with fail
      refine (pick_any R _ _ _ hr3 (by omega)).mono ?_
      rintro e w4 ⟨k4, rfl, k40, k41, _, hr4, hg4⟩
      have k42 : k4 < 12 := k41 (by omega)
      have g4 := grown_trans (grown_trans HG.out hg3) hg4
      have HO4 := Lib.hid (io_drawn (io_drawn HO.out hg3 (by omega)) hg4 (by omega))
      have z4 := g4.size
      have HG4 := Lib.hid g4
      have HR4 := Lib.hid hr4
      clear hr hr3 hr4 hg3 hg4 k31 k41 g4
      go_wp2_with (at_builtin; refine wpList_append_own _ rfl _ _ 24 rfl w.heap.size 3 i0 (.int .i64 0) 1 8 Try.underlying24 hi hz0 hz1 hz2 rfl (by decide) _ _ _ rfl (HO4.out.alloc (.cells #[.int .i64 (k3 - k4 / 11)] 3)) ⟨w4.heap.size, 0, none⟩ 1 1 [.int .i64 (k3 - k4 / 11)] rfl rfl (one_new w4 _) (one_one _) (by unfold maxLen; omega) (by omega) (by simp; omega) ?_)
      intro v' w5 hown' hgrow hnn
      have o5 : IOwn w5 w.heap.size v' (N ++ [k3 - k4 / 11]) := IOwn.push hown'
      have hlt := World.ownsRow.lt HO4.out
      have hr5 : RdAt w5 R (q + 1 + 1) := rdAt_kept (rdAt_alloc HR4.out (.cells #[.int .i64 (k3 - k4 / 11)] 3)) fun j hj => hgrow.block j (by simp; omega) (fun e => by have := hlt j e.symm; omega)
      have g5 : w.grownBy w5 (some R) := by
        have g2 := grown_below HG4.out ((Below.refl w4.heap.size w4).alloc (Nat.le_refl _) (.cells #[.int .i64 (k3 - k4 / 11)] 3) |>.mono z4)
        exact ⟨hgrow.os.trans g2.os, hgrow.tape.trans g2.tape, hgrow.output.trans g2.output, Nat.le_trans g2.size hgrow.size, fun i hi hne => (hgrow.block i (Nat.lt_of_lt_of_le hi g2.size) (fun e => by have := hlt i e.symm; omega)).trans (g2.block i hi hne)⟩
      obtain ⟨m, rfl⟩ : ∃ m, k = m + 1 := ⟨k - 1, by omega⟩
      have HR5 := Lib.hid (show FRel R p w v' (.int .i64 (m : Int)) w5 from ⟨m, N ++ [k3 - k4 / 11], rfl, by simp; omega, o5, ⟨q + 1 + 1, by omega, by omega, hr5⟩, g5⟩)
      have em : ((m + 1 : Nat) : Int) - 1 = (m : Int) := by omega
      have em2 : (m : Int) + 1 - 1 = (m : Int) := by omega
      clear hown' hgrow hnn o5 hlt hr5 g5
      go_wp2_with fail
      go_roundw
      case rel => exact HR5.out
      case measure => simp [intOf]
end Dfr
end Go.Proofs.Ytmhamoeibkpnpaa
