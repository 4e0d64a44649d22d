/- Contracts of the model's draws DrawWorldOk, DrawBuild, DrawWorldNeeds and DrawWorldPart, over this seat's translation: whatever is drawn lies readable, few targets, all small, and a place near them; nothing that was there has changed. Condition: the code is readable. -/
import Derived.Test.YtopplljilmjjgaaDww
import Derived.Test.YtopplljilmjjgaaWok
namespace Go.Proofs.Ytopplljilmjjgaa
open Go.RowKit Go.Sort

namespace Dtg
open Tg Drm
def WdDraw (w : World) (e : Ending) (w' : World) : Prop :=
  ∃ S a c, e = .returned (.slice a S.length c) ∧ S.length ≤ c ∧ TgAt w' w'.heap.size (.slice a S.length c) S ∧ S.length ≤ 10 ∧ (∀ q ∈ S, Sm q) ∧ Below w.heap.size w w'
def WkDraw (w : World) (e : Ending) (w' : World) : Prop :=
  ∃ S a c k, e = .returned (.tuple #[.slice a S.length c, .int .i64 k]) ∧ (-1 ≤ k ∧ k ≤ 10) ∧ TgAt w' w'.heap.size (.slice a S.length c) S ∧ S.length ≤ 10 ∧ (∀ q ∈ S, Sm q) ∧ Below w.heap.size w w'
theorem td_cap {w : World} {B n : Nat} {a : Option Addr} {c : Nat} {S : List Tgt} (h : TD w B (.slice a n c) S) : S.length ≤ c := by
  obtain ⟨cs, ⟨_, ⟨hv, h0⟩ | ⟨g, cap, cur, hv, _, _, hnc, _⟩⟩, _⟩ := h
  · omega
  · simp only [Value.slice.injEq] at hv
    obtain ⟨_, _, rfl⟩ := hv
    exact hnc
theorem sm_par {S : List Tgt} (h : ∀ q ∈ S, Sm q) : ∀ q ∈ S, Wl.Par q := fun q hq => by
  obtain ⟨h1, h2, h3, h4⟩ := h q hq
  exact ⟨by omega, by omega, fun p hp => Nat.le_trans (h3 p hp) (by omega), by omega⟩



set_option maxRecDepth 100000 in
set_option maxHeartbeats 4000000 in
theorem DrawWorldNeeds_any (a : Option Addr) (len cap : Nat) (w : World) (h : CodeIn w a len cap) : Calls Try.prog 107 #[.slice a len cap] w (WkDraw w) := by
  go_enter Try.func107, Try.ntmps107
  go_wp2_with fail
  refine (open_any a len cap _ h).mono ?_
  rintro e w1 ⟨rfl, hr1, hb1⟩
  have hz := hb1.size
  have hR1 := rdAt_lt hr1
  go_wp2_with fail
  refine (l20World_any _ 0 9 12 w1 hr1 (by omega) (by omega) (by omega) (by omega)).mono ?_
  rintro e w2 ⟨S, v, rfl, htd, hl, hsm, hd⟩
  obtain ⟨va, vc, rfl, xx⟩ := id htd.at
  obtain ⟨q2, _, q22, hr2, hg2⟩ := hd
  have HTD := Lib.hid htd
  have HG2 := Lib.hid hg2
  have HR2 := Lib.hid hr2
  clear htd hg2 hr1 xx hr2
  go_wp2_with fail
  refine (pick_any _ q2 _ w2 HR2.out (by omega)).mono ?_
  rintro e w3 ⟨k3, rfl, k30, k31, _, hr3, hg3⟩
  have k32 : k3 < (S.length : Int) + 1 := k31 (by omega)
  have HG3 := Lib.hid hg3
  have HR3 := Lib.hid hr3
  clear k31 hr3 hg3
  go_wp2_with fail
  refine (pick_any _ (q2 + 1) 15 w3 HR3.out (by omega)).mono ?_
  rintro e w4 ⟨k4, rfl, k40, k41, _, _, hg4⟩
  have k42 : k4 < 15 := k41 (by omega)
  have g4 := grown_trans HG3.out hg4
  have ht4 := HTD.out.keep g4.size (fun k k1 k2 => g4.block k k2 (fun e => by injection e with e; omega))
  have hat := Lib.hid ht4.at
  have b4 := Lib.hid (hb1.grown (grown_trans HG2.out g4) hz (fun k hk => by injection hk with hk; omega))
  obtain ⟨kd, hkd⟩ : ∃ kd : Int, k4 / 14 = kd := ⟨_, rfl⟩
  have kd01 : kd = 0 ∨ kd = 1 := by omega
  clear k41 hg4 g4 ht4
  rcases kd01 with rfl | rfl
  all_goals
    go_wp2_with fail
    exact bodyPost_ret (v := .tuple #[.slice va S.length vc, .int .i64 _]) (by simp [results, Try.results107, go_sem]; rfl) rfl ⟨S, _, _, _, rfl, ⟨by omega, by omega⟩, hat.out, by omega, hsm, b4.out⟩

set_option maxRecDepth 100000 in
set_option maxHeartbeats 1000000 in
theorem DrawWorldPart_any (a : Option Addr) (len cap : Nat) (w : World) (h : CodeIn w a len cap) : Calls Try.prog 51 #[.slice a len cap] w (WkDraw w) := by
  go_enter Try.func51, Try.ntmps51
  go_wp2_with fail
  refine (DrawWorldNeeds_any a len cap _ h).mono ?_
  rintro e w1 ⟨S, a1, c1, k, rfl, hk, hat, hl, hsm, hb⟩
  have H := Lib.hid (And.intro hat hb)
  clear hat hb
  go_wp2_with fail
  exact bodyPost_ret (v := .tuple #[.slice a1 S.length c1, .int .i64 k]) (by simp [results, Try.results51, go_sem]) rfl ⟨S, _, _, _, rfl, hk, H.out.1, hl, hsm, H.out.2⟩
end Dtg
end Go.Proofs.Ytopplljilmjjgaa
