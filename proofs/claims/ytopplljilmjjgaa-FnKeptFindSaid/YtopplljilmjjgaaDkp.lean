/- Contracts of the model's draws of what is kept (none of it spoilt) and of DrawKeptFind, over this seat's translation: whatever is drawn lies readable, at most sixty entries, all small; nothing that was there has changed but the reader. Condition: the reader was not asked too often; the code is readable. -/
import Derived.Test.YtopplljilmjjgaaGx
import Derived.Test.YtopplljilmjjgaaDwd
import Derived.BigQuiet
namespace Go.Proofs.Ytopplljilmjjgaa
open Go.RowKit Go.Sort
namespace Kb
open Tg Bl Wl Md Kf Egr Drm Dtg En
theorem kFrom_inv : ∀ (T : List Tgt) (k : Nat) (s : St), (∀ i x, T[i]? = some x → tOk (k + i) x = true ∧ x.2.2.2.length ≤ 12 ∧ ∀ p ∈ x.2.2.1, p.2.2.2.size ≤ 1048576) → Inv k s → Inv (k + T.length) (kFrom k T s)
  | [], k, s, _, h => h
  | x :: T, k, s, ht, h => by
    obtain ⟨h1, h2, h3⟩ := ht 0 x rfl
    have ih := kFrom_inv T (k + 1) (kStep k x s) (fun i y hy => by have := ht (i + 1) y (by simpa using hy); rwa [show k + (i + 1) = k + 1 + i by omega] at this) (inv_step h h1 h2 h3)
    show Inv (k + (T.length + 1)) (kFrom (k + 1) T (kStep k x s))
    rwa [show k + (T.length + 1) = k + 1 + T.length by omega]
theorem kept_sml {S : List Tgt} {E : List Ent} (hq : ∀ q ∈ S, Par q) (hp : ∀ q ∈ E, Pen q) : (keptB S E).2.1.length ≤ 60 ∧ ∀ e ∈ (keptB S E).2.1, Sml e := by
  unfold keptB
  split
  · rename_i h
    have hi := kFrom_inv S 0 ([], E, []) (fun i x hx => by
      have h1 := (wOk_iff.1 h.1).2 i x hx
      obtain ⟨m, t, L, N⟩ := x
      have h2 := ins_in h.1 hx
      rw [Nat.zero_add]
      exact ⟨h1, h2.2, (hq _ (List.mem_of_getElem? hx)).2.2.1⟩) (inv_start h.2 hp)
    exact ⟨hi.kl, hi.ks⟩
  · exact ⟨Nat.zero_le _, fun e he => by cases he⟩
def KdPost (R p : Nat) (w : World) (e : Ending) (w' : World) : Prop := ∃ E v, e = .returned v ∧ EnB E w.heap.size w'.heap.size v w' ∧ E.length ≤ 60 ∧ (∀ q ∈ E, Sml q) ∧ Drawn w R p 4000 w'
def KdRel (R p : Nat) (w : World) (v i : Value) (wr : World) : Prop := ∃ (k : Nat) (E : List Ent), k ≤ 3 ∧ i = .int .i64 (k : Int) ∧ EnB E w.heap.size wr.heap.size v wr ∧ E.length ≤ 60 ∧ (∀ q ∈ E, Sml q) ∧ Drawn w R p (1 + 900 * (3 - k)) wr
theorem enb_drawn {E : List Ent} {lo hi R : Nat} {v : Value} {w w' : World} (h : EnB E lo hi v w) (hg : w.grownBy w' (some R)) (hR : R < lo) (hz : hi ≤ w'.heap.size) : EnB E lo w'.heap.size v w' :=
  EnB.wide (EnB.kept h fun g h1 _ hl => hg.block g hl (fun e => by injection e with e; omega)) (Nat.le_refl _) hz
set_option maxRecDepth 100000 in
set_option maxHeartbeats 8000000 in
theorem l20Kept_any (R p : Nat) (w : World) (h : RdAt w R p) (hp : p ≤ 500000000) :
    Calls Try.prog 118 #[.pointer (some ⟨R, 0, none⟩), .int .i64 0] w (KdPost R p w) := by
  have hR := rdAt_lt h
  have HRA := Lib.hid (rdAt_alloc h (.cells #[] 83))
  have HEA := Lib.hid (show EnB [] w.heap.size (w.alloc (.cells #[] 83)).heap.size (.slice (some ⟨w.heap.size, 0, none⟩) 0 0) (w.alloc (.cells #[] 83)) from ⟨_, _, rfl, Nat.le_refl _, .inl rfl⟩)
  clear h
  go_enter Try.func118, Try.ntmps118
  go_wp2_with fail
  refine (pick_any R p 4 _ HRA.out (by omega)).mono ?_
  rintro e w1 ⟨k1, rfl, k10, k11, _, hr1, hg1⟩
  have k12 : k1 < 4 := k11 (by omega)
  obtain ⟨kn, rfl⟩ := Int.eq_ofNat_of_zero_le k10
  have HST := Lib.hid (show KdRel R p w (.slice (some ⟨w.heap.size, 0, none⟩) 0 0) (.int .i64 (kn : Int)) w1 from
    ⟨kn, [], by omega, rfl, enb_drawn HEA.out hg1 hR hg1.size, Nat.zero_le _, (fun q hq => by cases hq), ⟨p + 1, by omega, by omega, hr1, grown_trans (grown_start w _ R) hg1⟩⟩)
  clear hr1 hg1 k11
  go_wp2_with fail
  go_loopw [5, 6] (fun v i wr => KdRel R p w v i wr) (fun _ i _ => (intOf i).toNat)
  case atStart => exact HST.out
  case round =>
    obtain ⟨k, E, hk, rfl, heb, hle, hsm, hd⟩ := hrel
    obtain ⟨va, vc, rfl, hvc, _⟩ := id heb
    have HEB := Lib.hid heb
    have HSM := Lib.hid hsm
    have HD := Lib.hid hd
    obtain ⟨q, q1, q2, hr, hg⟩ := hd
    have zg := hg.size
    clear heb hsm hg
    rcases k with _ | k
    · go_wp2_with fail
      refine (odd_any R q 0 wr hr (by omega) (by omega) (by omega)).mono ?_
      rintro e w3 ⟨o, rfl, ho, hd3⟩
      have hof := ho (by omega)
      subst hof
      have HD3 := Lib.hid (show Drawn w R p 4000 w3 by
        obtain ⟨q', r1, r2, hr', hg'⟩ := HD.out
        obtain ⟨q3, s1, s2, hr3, hg3⟩ := hd3
        exact ⟨q3, by omega, by omega, hr3, grown_trans hg' hg3⟩)
      have HE3 := Lib.hid (show EnB E w.heap.size w3.heap.size (.slice va E.length vc) w3 by
        obtain ⟨_, _, _, _, hg3⟩ := hd3
        exact enb_drawn HEB.out hg3 hR hg3.size)
      clear hd3 hr ho
      go_wp2_with fail
      go_ret
      exact ⟨E, _, rfl, HE3.out, hle, HSM.out, HD3.out⟩
    · have i1 : (0 : Int) < ((k + 1 : Nat) : Int) := by omega
      go_wp2_with fail
      refine (l20World_any R q 7 0 wr hr (by omega) (by omega) (by omega) (by omega)).mono ?_
      rintro e w2 ⟨S, vS, rfl, htd, hlS, hsS, hd2⟩
      have HAT := Lib.hid htd.at
      obtain ⟨sa, sc, rfl, xx⟩ := id HAT.out
      have hp2 := sm_par hsS
      have HE2 := Lib.hid (show EnB E w.heap.size w2.heap.size (.slice va E.length vc) w2 by
        obtain ⟨_, _, _, _, hg3⟩ := hd2
        exact enb_drawn HEB.out hg3 hR hg3.size)
      have HD2 := Lib.hid (show Drawn w R p (1 + 900 * (3 - (k + 1)) + 800) w2 by
        obtain ⟨q', r1, r2, hr', hg'⟩ := HD.out
        obtain ⟨q3, s1, s2, hr3, hg3⟩ := hd2
        exact ⟨q3, by omega, by omega, hr3, grown_trans hg' hg3⟩)
      have HKS := Lib.hid (kept_sml (S := S) (E := E) hp2 (fun q hq => (HSM.out q hq).pen))
      have KB := Lib.hid (specKeptBuild_any (.slice sa S.length sc) (.slice va E.length vc) S E w2 (by omega) hp2 (by omega) (fun q hq => (HSM.out q hq).pen) HAT.out HE2.out.at)
      clear htd hsS hp2 hd2 xx hr
      go_wp2_with fail
      refine KB.out.mono ?_
      rintro e w3 ⟨v7, v8, v9, rfl, _, he8, _, hb3⟩
      have z23 := hb3.size
      have HR := Lib.hid (show KdRel R p w v8 (.int .i64 (k : Int)) w3 from ⟨k, (keptB S E).2.1, by omega, rfl, EnB.wide he8 (by obtain ⟨_, _, _, _, hg3⟩ := HD2.out; exact hg3.size) (Nat.le_refl _), HKS.out.1, HKS.out.2, dr_more (dr_below HD2.out hR hb3) (by omega)⟩)
      have hi9 : ((k + 1 : Nat) : Int) - 1 = (k : Int) := by omega
      clear he8 hb3 KB
      go_wp2_with fail
      go_roundw
      case rel => exact HR.out
      case measure => simp [intOf]
def KfDraw (w : World) (e : Ending) (w' : World) : Prop := ∃ E L N va vc s u, e = .returned (.tuple #[.slice va E.length vc, s, u]) ∧ EnAt w' w'.heap.size (.slice va E.length vc) E ∧ E.length ≤ 60 ∧ (∀ q ∈ E, Sml q) ∧ LnAt w' w'.heap.size s L ∧ L.length ≤ 10 ∧ Obl.StAt w' w'.heap.size u N ∧ N.length ≤ 12 ∧ Below w.heap.size w w'
set_option maxRecDepth 100000 in
set_option maxHeartbeats 8000000 in
theorem DrawKeptFind_any (a : Option Addr) (len cap : Nat) (w : World) (h : CodeIn w a len cap) : Calls Try.prog 58 #[.slice a len cap] w (KfDraw w) := by
  go_enter Try.func58, Try.ntmps58
  go_wp2_with fail
  refine (open_any a len cap _ h).mono ?_
  rintro e w1 ⟨rfl, hr1, hb1⟩
  have hz := hb1.size
  have hR1 := rdAt_lt hr1
  go_wp2_with fail
  refine (l20Kept_any _ 0 w1 hr1 (by omega)).mono ?_
  rintro e w2 ⟨E, v, rfl, heb, hle, hsm, hd2⟩
  obtain ⟨va, vc, rfl, hvc, xx⟩ := id heb
  have HEB := Lib.hid heb
  have HSM := Lib.hid hsm
  have HB1 := Lib.hid hb1
  have HD := Lib.hid hd2
  obtain ⟨q, _, q2, hr2, hg2⟩ := hd2
  have HG2 := Lib.hid hg2
  have z2 := hg2.size
  have HR2 := Lib.hid hr2
  clear heb hsm xx hb1 hr1 hg2 hr2
  have HF := Lib.hid fun (V V' : World) (n : Nat) (p' : Nat) (hg : w1.grownBy V (some w.heap.size)) (hd : Drawn V w.heap.size p' n V') => (show w1.grownBy V' (some w.heap.size) by
    obtain ⟨_, _, _, _, g⟩ := hd
    exact grown_trans hg g)
  have HBW := Lib.hid fun (V : World) (hg : w1.grownBy V (some w.heap.size)) => (show Below w.heap.size w V from HB1.out.grown hg hz (fun k hk => by injection hk with hk; omega))
  rcases Nat.eq_zero_or_pos E.length with hn | hn
  · obtain rfl : E = [] := List.eq_nil_of_length_eq_zero hn
    clear hn
    go_wp2_with fail
    refine (pick_any _ q 3 _ HR2.out (by omega)).mono ?_
    rintro e w3 ⟨k3, rfl, k30, k31, _, hr3, hg3⟩
    have k32 : k3 < 3 := k31 (by omega)
    obtain ⟨kn, rfl⟩ := Int.eq_ofNat_of_zero_le k30
    have HG3 := Lib.hid (grown_trans HG2.out hg3)
    have HR3 := Lib.hid hr3
    clear hr3 hg3 k31
    go_wp2_with fail
    refine (l20Script_any _ (q + 1) (kn : Int) 0 w3 HR3.out (by omega) (by omega) (by omega)).mono ?_
    rintro e w4 ⟨L, vL, rfl, hown4, hl4, hq4, hd4⟩
    obtain ⟨la, lc, rfl⟩ := row_form hown4
    have HO4 := Lib.hid hown4
    have HG4 := Lib.hid (HF.out _ _ _ _ HG3.out hd4)
    obtain ⟨q4, _, q42, hr4, hg4⟩ := hd4
    have HR4 := Lib.hid hr4
    have z4 := hg4.size
    clear hown4 hr4 hg4
    go_wp2_with fail
    refine (l20Ins_any _ q4 kn 0 w4 HR4.out (by omega) (by omega) (by omega) (by omega)).mono ?_
    rintro e w5 ⟨N, vN, rfl, hown5, hl5, hq5, hz5, hd5⟩
    clear hz5
    obtain ⟨na, nc, rfl⟩ := row_form hown5
    have HG5 := Lib.hid (HF.out _ _ _ _ HG4.out hd5)
    have HO5 := Lib.hid hown5
    obtain ⟨q5, _, _, _, hg5⟩ := hd5
    have z3 := HG3.out.size
    have HL5 := Lib.hid (row_drawn HO4.out hg5 (by omega))
    clear hown5 hg5
    go_wp2_with fail
    refine bodyPost_ret (v := .tuple #[.slice va 0 vc, .slice la L.length lc, .slice na N.length nc]) (by simp [results, Try.results58, go_sem]) rfl ?_
    exact ⟨[], L, N, va, vc, _, _, rfl, ⟨_, _, rfl, Nat.zero_le _, .inl rfl⟩, by simp, (fun q hq => by cases hq), (Dtg.LOwn.lb HL5.out).at, by omega, SOwn.at HO5.out, by omega, HBW.out _ HG5.out⟩
  · have hi1 : (0 : Int) < (E.length : Int) := by omega
    go_wp2_with fail
    refine (pick_any _ q 3 _ HR2.out (by omega)).mono ?_
    rintro e w3 ⟨k3, rfl, k30, k31, _, hr3, hg3⟩
    have k32 : k3 < 3 := k31 (by omega)
    have HG3 := Lib.hid (grown_trans HG2.out hg3)
    have HE3 := Lib.hid (enb_drawn HEB.out hg3 hR1 hg3.size)
    have HR3 := Lib.hid hr3
    have z3 := HG3.out.size
    clear hr3 hg3 k31
    by_cases hk3 : 0 < k3
    · go_wp2_with fail
      refine (pick_any _ (q + 1) (E.length : Int) _ HR3.out (by omega)).mono ?_
      rintro e w4 ⟨j4, rfl, k40, k41, _, hr4, hg4⟩
      have k42 : j4 < (E.length : Int) := k41 (by omega)
      obtain ⟨j, rfl⟩ := Int.eq_ofNat_of_zero_le k40
      have hj : j < E.length := by omega
      have HG4 := Lib.hid (grown_trans HG3.out hg4)
      have he4 := enb_drawn HE3.out hg4 hR1 hg4.size
      have HE4 := Lib.hid he4.at
      obtain ⟨a1, c1, e1, _, hS⟩ := he4.at
      simp only [Value.slice.injEq] at e1
      obtain ⟨rfl, _, rfl⟩ := e1
      rcases hS with hx | ⟨b, o, rfl, hB, hc⟩
      · rw [hx] at hj
        simp at hj
      obtain ⟨m, t, L, N, hxy⟩ : ∃ m t L N, E[j] = (m, t, L, N) := ⟨_, _, _, _, rfl⟩
      have cc := hc j hj
      rw [hxy] at cc
      obtain ⟨⟨e2, e3⟩, a2, c2, a3, c3, e0, e1, h1, h2⟩ := cc
      simp only at e0 e1 e2 e3 h1 h2
      have hse := HSM.out _ (List.getElem_mem hj)
      rw [hxy] at hse
      have ba := (Below.refl w4.heap.size w4).alloc (Nat.le_refl _) (.cells #[.slice a2 L.length c2, .slice a3 N.length c3, .bool m, .string t] 83)
      have x0 : (w4.alloc (.cells #[.slice a2 L.length c2, .slice a3 N.length c3, .bool m, .string t] 83)).cell? ⟨w4.heap.size, 0, none⟩ = some (.slice a2 L.length c2) := by go_simp
      have x1 : (w4.alloc (.cells #[.slice a2 L.length c2, .slice a3 N.length c3, .bool m, .string t] 83)).cell? ⟨w4.heap.size, 1, none⟩ = some (.slice a3 N.length c3) := by go_simp
      have HFN := Lib.hid fun V (g : Below (w4.alloc (.cells #[.slice a2 L.length c2, .slice a3 N.length c3, .bool m, .string t] 83)).heap.size (w4.alloc (.cells #[.slice a2 L.length c2, .slice a3 N.length c3, .bool m, .string t] 83)) V) => (show KfDraw w (.returned (.tuple #[.slice (some ⟨b, o, none⟩) E.length vc, .slice a2 L.length c2, .slice a3 N.length c3])) V from
        ⟨E, L, N, _, _, _, _, rfl, (HE4.out.stepAt ba).stepAt g, hle, HSM.out, (h1.stepAt ba).stepAt g, hse.2.1, (h2.stepAt ba).stepAt g, hse.2.2.2.1, ((HBW.out _ HG4.out).trans (ba.mono (HBW.out _ HG4.out).size)).trans (g.mono (Nat.le_trans (HBW.out _ HG4.out).size ba.size))⟩)
      obtain ⟨W, hW⟩ : ∃ W, w4.alloc (.cells #[.slice a2 L.length c2, .slice a3 N.length c3, .bool m, .string t] 83) = W := ⟨_, rfl⟩
      rw [hW] at x0 x1 HFN
      clear he4 hr4 hg4 hc hxy h1 h2 hse ba k41
      go_upto_region 5 with fail
      clear hW e0 e1 e2 e3
      have t0 := cell_regrown x0
      have t1 := cell_regrown x1
      refine wp_region_quiet_below (by kernel_rfl) (by kernel_rfl) ?_
      repeat (any_goals (first | go_big_quiet_step (fail) | quiet_step (fail)))
      refine wpQuiet_nil ?_
      intro W2 hw
      have HP := Lib.hid (HFN.out _ (quiet_end hw))
      clear hw t0 t1 x0 x1
      go_wp2_with fail
      refine bodyPost_ret (v := .tuple #[.slice (some ⟨b, o, none⟩) E.length vc, .slice a2 L.length c2, .slice a3 N.length c3]) (by simp [results, Try.results58, go_sem]) rfl ?_
      exact HP.out
    · obtain rfl : k3 = 0 := by omega
      go_wp2_with fail
      refine (pick_any _ (q + 1) 3 _ HR3.out (by omega)).mono ?_
      rintro e w4 ⟨k4, rfl, k40, k41, _, hr4, hg4⟩
      have k42 : k4 < 3 := k41 (by omega)
      obtain ⟨kn, rfl⟩ := Int.eq_ofNat_of_zero_le k40
      have HG4 := Lib.hid (grown_trans HG3.out hg4)
      have HE4 := Lib.hid (enb_drawn HE3.out hg4 hR1 hg4.size)
      have HR4 := Lib.hid hr4
      have z4 := HG4.out.size
      clear hr4 hg4 k41
      go_wp2_with fail
      refine (l20Script_any _ (q + 1 + 1) (kn : Int) 0 w4 HR4.out (by omega) (by omega) (by omega)).mono ?_
      rintro e w5 ⟨L, vL, rfl, hown5, hl5, hq5, hd5⟩
      obtain ⟨la, lc, rfl⟩ := row_form hown5
      have HO5 := Lib.hid hown5
      have HG5 := Lib.hid (HF.out _ _ _ _ HG4.out hd5)
      obtain ⟨q5, _, q52, hr5, hg5⟩ := hd5
      have HE5 := Lib.hid (enb_drawn HE4.out hg5 hR1 hg5.size)
      have HR5 := Lib.hid hr5
      have z5 := hg5.size
      clear hown5 hr5 hg5
      go_wp2_with fail
      refine (l20Ins_any _ q5 kn 0 w5 HR5.out (by omega) (by omega) (by omega) (by omega)).mono ?_
      rintro e w6 ⟨N, vN, rfl, hown6, hl6, hq6, hz6, hd6⟩
      clear hz6
      obtain ⟨na, nc, rfl⟩ := row_form hown6
      have HG6 := Lib.hid (HF.out _ _ _ _ HG5.out hd6)
      have HO6 := Lib.hid hown6
      obtain ⟨q6, _, _, _, hg6⟩ := hd6
      have HE6 := Lib.hid (enb_drawn HE5.out hg6 hR1 hg6.size).at
      have HL6 := Lib.hid (row_drawn HO5.out hg6 (by omega))
      clear hown6 hg6
      go_wp2_with fail
      refine bodyPost_ret (v := .tuple #[.slice va E.length vc, .slice la L.length lc, .slice na N.length nc]) (by simp [results, Try.results58, go_sem]) rfl ?_
      exact ⟨E, L, N, va, vc, _, _, rfl, HE6.out, hle, HSM.out, (Dtg.LOwn.lb HL6.out).at, by omega, SOwn.at HO6.out, by omega, HBW.out _ HG6.out⟩
end Kb
end Go.Proofs.Ytopplljilmjjgaa
