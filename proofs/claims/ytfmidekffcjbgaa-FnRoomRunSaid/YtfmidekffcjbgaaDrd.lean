/- Contracts of the model's draws DrawScriptOk, DrawThingsOk and DrawRoomRun, over this seat's translation: whatever is drawn lies readable; nothing that was there has changed. Condition: the code is readable. -/
import Derived.Test.YtfmidekffcjbgaaDrs
import Derived.Test.YtfmidekffcjbgaaRxt
namespace Go.Proofs.Ytfmidekffcjbgaa
open Go.RowKit Go.Sort
namespace Drm
open Obl Rx
def ScDraw (w : World) (e : Ending) (w' : World) : Prop :=
  ∃ S ins v, e = .returned (.tuple #[v, .int .i64 ins]) ∧ LnAt w' w'.heap.size v S ∧ S.length ≤ 6 ∧ (∀ q ∈ S, q.2.2.2.size ≤ 9) ∧ -1 ≤ ins ∧ ins ≤ 6 ∧ Below w.heap.size w w'
def ThDraw (w : World) (e : Ending) (w' : World) : Prop :=
  ∃ N v, e = .returned v ∧ StAt w' w'.heap.size v N ∧ N.length ≤ 7 ∧ (∀ q ∈ N, q.size ≤ 41) ∧ Below w.heap.size w w'
def RoDraw (w : World) (e : Ending) (w' : World) : Prop :=
  ∃ S I O v u z, e = .returned (.tuple #[v, u, z]) ∧ LnAt w' w'.heap.size v S ∧ StAt w' w'.heap.size u I ∧ BoAt w' w'.heap.size z O ∧ S.length ≤ 6 ∧ (∀ q ∈ S, q.2.2.2.size ≤ 9) ∧ I.length ≤ 7 ∧ (∀ q ∈ I, q.size ≤ 41) ∧ O.length = I.length ∧ Below w.heap.size w w'

set_option maxRecDepth 100000 in
set_option maxHeartbeats 2000000 in
theorem DrawScriptOk_any (a : Option Addr) (len cap : Nat) (w : World) (h : CodeIn w a len cap) : Calls Try.prog 10 #[.slice a len cap] w (ScDraw w) := by
  go_enter Try.func10, Try.ntmps10
  go_wp2_with fail
  refine (open_any a len cap _ h).mono ?_
  rintro e w1 ⟨rfl, hr1, hb1⟩
  go_wp2_with fail
  refine (pick_any _ 0 7 w1 hr1 (by omega)).mono ?_
  rintro e w2 ⟨k1, rfl, k10, k11, _, hr2, hg2⟩
  have k12 : k1 < 7 := k11 (by omega)
  go_wp2_with fail
  refine (pick_any _ _ 15 _ hr2 (by omega)).mono ?_
  rintro e w3 ⟨k2, rfl, k20, k21, _, hr3, hg3⟩
  have k22 : k2 < 15 := k21 (by omega)
  have hg := grown_trans hg2 hg3
  have hz := hb1.size
  clear k11 k21 hr1 hr2 hg2 hg3
  obtain ⟨kd, hkd⟩ : ∃ kd : Int, k2 / 14 = kd := ⟨_, rfl⟩
  have kd01 : kd = 0 ∨ kd = 1 := by omega
  have HR3 := Lib.hid hr3
  have HG := Lib.hid hg
  clear hr3 hg
  rcases kd01 with rfl | rfl
  all_goals
    go_wp2_with fail
  all_goals
    refine (l20Script_any _ _ _ 2 _ HR3.out (by omega) (by omega) (by omega)).mono ?_
    rintro e w4 ⟨S, v, rfl, ho, hl, hq, hd⟩
    have hat := ho.at
    obtain ⟨_, _, _, _, hg4⟩ := hd
    have b4 := hb1.grown (grown_trans HG.out hg4) hz (fun k hk => by injection hk with hk; omega)
    clear ho hg4
    go_wp2_with fail
    exact bodyPost_ret (v := .tuple #[v, .int .i64 _]) (by simp [results, Try.results10, go_sem]; rfl) rfl ⟨S, _, v, rfl, hat, hl, hq, by omega, by omega, b4⟩

set_option maxRecDepth 100000 in
set_option maxHeartbeats 2000000 in
theorem DrawThingsOk_any (a : Option Addr) (len cap : Nat) (w : World) (h : CodeIn w a len cap) : Calls Try.prog 13 #[.slice a len cap] w (ThDraw w) := by
  go_enter Try.func13, Try.ntmps13
  go_wp2_with fail
  refine (open_any a len cap _ h).mono ?_
  rintro e w1 ⟨rfl, hr1, hb1⟩
  go_wp2_with fail
  refine (pick_any _ 0 7 w1 hr1 (by omega)).mono ?_
  rintro e w2 ⟨k1, rfl, k10, k11, _, hr2, hg2⟩
  have k12 : k1 < 7 := k11 (by omega)
  obtain ⟨m, rfl⟩ := Int.eq_ofNat_of_zero_le k10
  have hz := hb1.size
  have HR2 := Lib.hid hr2
  clear k11 hr1 hr2
  go_wp2_with fail
  refine (l20Ins_any _ _ m 3 _ HR2.out (by omega) (by omega) (by omega) (by omega)).mono ?_
  rintro e w3 ⟨N, v, rfl, ho, hl, hq, _, hd⟩
  have hat := ho.at
  obtain ⟨_, _, _, _, hg4⟩ := hd
  have b4 := hb1.grown (grown_trans hg2 hg4) hz (fun k hk => by injection hk with hk; omega)
  clear ho hg2 hg4
  go_wp2_with fail
  go_ret
  exact ⟨N, _, rfl, hat, by omega, hq, b4⟩

set_option maxRecDepth 100000 in
set_option maxHeartbeats 4000000 in
theorem DrawRoomRun_any (a : Option Addr) (len cap : Nat) (w : World) (h : CodeIn w a len cap) : Calls Try.prog 16 #[.slice a len cap] w (RoDraw w) := by
  go_enter Try.func16, Try.ntmps16
  go_wp2_with fail
  refine (open_any a len cap _ h).mono ?_
  rintro e w1 ⟨rfl, hr1, hb1⟩
  go_wp2_with fail
  refine (pick_any _ 0 4 w1 hr1 (by omega)).mono ?_
  rintro e w2 ⟨k1, rfl, k10, k11, _, hr2, hg2⟩
  have k12 : k1 < 4 := k11 (by omega)
  obtain ⟨m, rfl⟩ := Int.eq_ofNat_of_zero_le k10
  have hz := hb1.size
  have HR2 := Lib.hid hr2
  have hR1 := rdAt_lt hr1
  have z2 := hg2.size
  clear k11 hr1 hr2
  go_wp2_with fail
  refine (l20Ins_any _ _ m 20 _ HR2.out (by omega) (by omega) (by omega) (by omega)).mono ?_
  rintro e w3 ⟨N, u, rfl, ho, hl, hq, _, hd⟩
  obtain ⟨ua, uc, rfl⟩ := row_form ho
  obtain ⟨q3, s0, s1, hr3, hg3⟩ := hd
  have HO := Lib.hid ho
  have HR3 := Lib.hid hr3
  have HQ := Lib.hid hq
  have g3 := grown_trans hg2 hg3
  have z3 := hg3.size
  clear ho hg2 hg3 hr3 hq
  go_wp2_with fail
  refine (l20Script_any _ _ _ 20 _ HR3.out (by omega) (by omega) (by omega)).mono ?_
  rintro e w4 ⟨S, v, rfl, hoS, hlS, hqS, hd⟩
  obtain ⟨va, vc, rfl⟩ := row_form hoS
  obtain ⟨q4, s2, s3, hr4, hg4⟩ := hd
  have HO4 := Lib.hid (show SOwn w4 w2.heap.size (.slice ua N.length uc) N from row_drawn HO.out hg4 (by omega))
  have HS := Lib.hid hoS
  have HR4 := Lib.hid hr4
  have HQS := Lib.hid hqS
  have g4 := grown_trans g3 hg4
  have z4 := hg4.size
  clear hoS hg4 g3 hr4 hqS
  go_wp2_with fail
  refine (l20Open2_any _ _ N.length _ HR4.out (by omega) (by omega)).mono ?_
  rintro e w5 ⟨O, z, rfl, hoO, hlO, hd⟩
  obtain ⟨za, zc, rfl⟩ := row_form hoO
  obtain ⟨_, _, _, _, hg5⟩ := hd
  have hS5 := (show LOwn w5 w3.heap.size (.slice va S.length vc) S from row_drawn HS.out hg5 (by omega)).at
  have hN5 := (show SOwn w5 w2.heap.size (.slice ua N.length uc) N from row_drawn HO4.out hg5 (by omega)).at
  have hO5 := hoO.at
  have b5 := hb1.grown (grown_trans g4 hg5) hz (fun k hk => by injection hk with hk; omega)
  have HAT := Lib.hid (And.intro hS5 (And.intro hN5 hO5))
  clear hoO hg5 g4 hS5 hN5 hO5
  go_wp2_with fail
  exact bodyPost_ret (v := .tuple #[.slice va S.length vc, .slice ua N.length uc, .slice za O.length zc]) (by simp [results, Try.results16, go_sem, hlO]) rfl ⟨S, N, O, _, _, _, rfl, HAT.out.1, HAT.out.2.1, HAT.out.2.2, hlS, HQS.out, by omega, HQ.out, hlO, b5⟩
end Drm
end Go.Proofs.Ytfmidekffcjbgaa
