/- The contract of the model's l5Conflict, over this seat's translation, as the plain function confB tells it; nothing that was there before the call has changed. Condition: a shelf that is fine, picks that are fine and there; at most 1048576 of each row. -/
import Derived.Test.YtgenjbeamlffmaaSvo
import Derived.Test.YtgenjbeamlffmaaCft
namespace Go.Proofs.Ytgenjbeamlffmaa
open Go.RowKit Go.Sort

namespace Svp
open Foot Copy Nup Cpu Cfa Rch
def okB (C : List Pk) (z : Int) (n : Nd) : Bool := !(decide (n.1 < z) && !metP C n)
def inOk (S : List Rel) (C : List Pk) (z : Int) (x : Pk) : Bool := (ndsOf S x).all (okB C z)
theorem any_all {α : Type} (p : α → Bool) : ∀ L : List α, L.any p = !L.all fun x => !p x
  | [] => rfl
  | x :: t => by rw [List.any_cons, List.all_cons, any_all p t]; cases p x <;> simp
theorem conf_all (S : List Rel) (N : List Nd) (C : List Pk) (z : Int) : confB S N C z = !(N.all (okB C z) && C.all (inOk S C z)) := by
  unfold confB
  rw [any_all, any_all, Bool.not_and]
  congr 1
  congr 1
  congr 1
  funext x
  rw [any_all, Bool.not_not]
  rfl

set_option maxRecDepth 100000 in
set_option maxHeartbeats 8000000 in
theorem specConf_any (v u z : Value) (S : List Rel) (N : List Nd) (C : List Pk) (zz : Int) (w : World) (hs : shOk S = true) (hq : ∀ q ∈ S, q.2.2.2.length ≤ 1048576 ∧ ∀ p ∈ q.2.2.2, p.2.length ≤ 1048576) (hN : N.length ≤ 1048576) (hNq : ∀ q ∈ N, q.2.length ≤ 1048576) (hC : C.length ≤ 1048576) (hok : pkOk C = true) (hT : ∀ x ∈ C, thereP S x = true) (h : RlAt w w.heap.size v S) (h' : NdAt w w.heap.size u N) (h2 : PkAt w w.heap.size z C) :
    Calls Try.prog 119 #[v, u, z, .int .i64 zz] w fun e w' => e = .returned (.bool (confB S N C zz)) ∧ Below w.heap.size w w' := by
  obtain ⟨sa, caps, rfl, hx⟩ := id h
  obtain ⟨na, ncap, rfl, n0⟩ := id h'
  obtain ⟨pa, pc, rfl, h0⟩ := id h2
  have hS30 := sh_len hs
  have H := Lib.hid h
  have H2 := Lib.hid h2
  have HX := Lib.hid hx
  have HOS := Lib.hid hs
  have HOC := Lib.hid hok
  have HA1 := Lib.hid hT
  clear h h' h2 hx hs hok hT
  go_enter Try.func119, Try.ntmps119
  go_wp2_with fail
  go_loopw [9] (fun i wr => ∃ k : Nat, k ≤ N.length ∧ i = .int .i64 (k : Int) ∧ N.all (okB C zz) = (N.drop k).all (okB C zz) ∧ Below w.heap.size w wr) (fun i _ => N.length - (intOf i).toNat)
  case atStart => exact ⟨0, Nat.zero_le _, rfl, rfl, Below.refl _ _⟩
  case round =>
    obtain ⟨k, hk, rfl, he, hb⟩ := hrel
    have HEM := Lib.hid he
    clear he
    by_cases hql : k < N.length
    · rcases n0 with n0 | ⟨gb, go', rfl, hgB, hgc⟩
      · subst n0
        exact absurd hql (by simp)
      obtain ⟨nm, L, hnl⟩ : ∃ nm L, N[k] = (nm, L) := ⟨_, _, rfl⟩
      obtain ⟨d0, la, lc, d1, hs⟩ := (hgc k hql).below hb hgB
      rw [hnl] at d0 d1 hs
      simp only at d0 d1 hs
      have hL : L.length ≤ 1048576 := by have := hNq _ (List.getElem_mem hql); rwa [hnl] at this
      have HSM := Lib.hid (all_step (okB C zz) (show N[k]? = some (nm, L) by rw [List.getElem?_eq_getElem hql, hnl]))
      have HS := Lib.hid (hs.mono hb.size)
      have q0 : (0 : Int) ≤ (k : Int) := by omega
      have q1 : (k : Int) < (N.length : Int) := by omega
      have KM : Hid (∀ V, PkAt V V.heap.size (.slice pa C.length pc) C → SpAt V V.heap.size (.slice la L.length lc) L → Calls Try.prog 161 #[.slice pa C.length pc, need nm (.slice la L.length lc)] V fun e w' => e = .returned (.bool (metP C (nm, L))) ∧ Below V.heap.size V w') := Lib.hid fun V g g' => l4Met_any _ C nm la lc L V hC HOC.out hL g g'
      have H2r := Lib.hid (H2.out.stepAt hb)
      clear hnl hgc hs
      by_cases hnz : nm < zz
      · rcases hm : metP C (nm, L)
        · rw [hm] at KM
          have HF := Lib.hid (show N.all (okB C zz) = false by rw [HEM.out, HSM.out]; unfold okB; rw [hm, decide_eq_true hnz]; rfl)
          clear hm
          go_wp2_with fail
          refine (KM.out _ H2r.out HS.out).mono ?_
          rintro e w6 ⟨rfl, hb6⟩
          go_wp2_with fail
          go_ret
          exact ⟨by rw [conf_all, HF.out]; rfl, hb.trans (hb6.mono hb.size)⟩
        · rw [hm] at KM
          have HM1 := Lib.hid (show okB C zz (nm, L) = true by unfold okB; rw [hm]; simp)
          clear hm
          go_wp2_with fail
          refine (KM.out _ H2r.out HS.out).mono ?_
          rintro e w6 ⟨rfl, hb6⟩
          have HR := Lib.hid (show ∃ k' : Nat, k' ≤ N.length ∧ Value.int .i64 ((k : Int) + 1) = .int .i64 (k' : Int) ∧ N.all (okB C zz) = (N.drop k').all (okB C zz) ∧ Below w.heap.size w w6 from ⟨k + 1, by omega, by go_num, by rw [HEM.out, HSM.out, HM1.out]; rfl, hb.trans (hb6.mono hb.size)⟩)
          clear hb6
          go_wp2_with fail
          go_roundw
          case rel => exact HR.out
          case measure => simp [intOf]; omega
      · have hnzD : decide (nm < zz) = false := decide_eq_false hnz
        have HM1 := Lib.hid (show okB C zz (nm, L) = true by unfold okB; rw [decide_eq_false hnz]; rfl)
        have HR := Lib.hid (show ∃ k' : Nat, k' ≤ N.length ∧ Value.int .i64 ((k : Int) + 1) = .int .i64 (k' : Int) ∧ N.all (okB C zz) = (N.drop k').all (okB C zz) ∧ Below w.heap.size w wr from ⟨k + 1, by omega, by go_num, by rw [HEM.out, HSM.out, HM1.out]; rfl, hb⟩)
        clear KM hnz
        go_wp2_with fail
        go_roundw
        case rel => exact HR.out
        case measure => simp [intOf]; omega
    · obtain rfl : k = N.length := by omega
      have HQN := Lib.hid (show N.all (okB C zz) = true by rw [HEM.out, List.drop_length]; rfl)
      have hb0 := hb
      clear hb HEM hk hNq n0
      rename World => w0
      go_wp2_with fail
      go_loopw [10] (fun i wr => ∃ k : Nat, k ≤ C.length ∧ i = .int .i64 (k : Int) ∧ C.all (inOk S C zz) = (C.drop k).all (inOk S C zz) ∧ Below w.heap.size w wr) (fun i _ => C.length - (intOf i).toNat)
      case atStart => exact ⟨0, Nat.zero_le _, rfl, rfl, hb0⟩
      case round =>
        obtain ⟨k, hk, rfl, he, hb⟩ := hrel
        have HE := Lib.hid he
        clear he
        by_cases hlt : k < C.length
        · rcases h0 with h0 | ⟨b, o, rfl, hB, hc⟩
          · subst h0
            exact absurd hlt (by simp)
          obtain ⟨x, a, b', c, d, hxy⟩ : ∃ x a b c d, C[k] = (x, a, b, c, d) := ⟨_, _, _, _, _, rfl⟩
          obtain ⟨r0, r1, r2, r3, r4⟩ := hc k hlt
          rw [hxy] at r0 r1 r2 r3 r4
          simp only at r0 r1 r2 r3 r4
          have e0 := (hb.cell (p := ⟨b, o + k * 5, none⟩) hB).trans r0
          have e1 := (hb.cell (p := ⟨b, o + k * 5 + 1, none⟩) hB).trans r1
          have e2 := (hb.cell (p := ⟨b, o + k * 5 + 2, none⟩) hB).trans r2
          have e3 := (hb.cell (p := ⟨b, o + k * 5 + 3, none⟩) hB).trans r3
          have e4 := (hb.cell (p := ⟨b, o + k * 5 + 4, none⟩) hB).trans r4
          have HXY := Lib.hid (show C[k]? = some (x, a, b', c, d) by rw [List.getElem?_eq_getElem hlt, hxy])
          have hxm : (x, a, b', c, d) ∈ C := by rw [← hxy]; exact List.getElem_mem hlt
          have bB : b < wr.heap.size := Nat.lt_of_lt_of_le hB hb.size
          have i0 : (0 : Int) ≤ (k : Int) := by omega
          have i1 : (k : Int) < (C.length : Int) := by omega
          have HSr := Lib.hid (H.out.stepAt hb)
          have KA : Hid (∀ V, RlAt V V.heap.size (.slice sa S.length caps) S → Calls Try.prog 162 #[.slice sa S.length caps, .int .i64 x, ver a b' c d] V fun e w' => e = .returned (.int .i64 (shFind x (a, b', c, d) 0 S)) ∧ Below V.heap.size V w') := Lib.hid fun V g => by
            have := specShelfAt_any _ S x a b' c d V (by omega) hq g
            rwa [show shAt S x (a, b', c, d) = shFind x (a, b', c, d) 0 S by unfold shAt; rw [HOS.out]; rfl] at this
          clear hxy r0 r1 r2 r3 r4 hc
          have HST := Lib.hid (all_step (inOk S C zz) HXY.out)
          obtain ⟨j, hj, hf, _, hnd⟩ := there_at (HA1.out _ hxm)
          simp only at hf
          rw [hf] at KA
          obtain ⟨sb, so, hsa, hsB, hsc⟩ : ∃ b o, sa = some ⟨b, o, none⟩ ∧ b < w.heap.size ∧ ∀ i (h : i < S.length), RlC w w.heap.size b (o + i * 7) S[i] := by
            rcases HX.out with hh | hh
            · rw [hh] at hj; simp at hj
            · exact hh
          subst hsa
          obtain ⟨sx, sa1, sb1, sc1, sd1, sg, M, hsj⟩ : ∃ x a b c d f M, S[j] = (x, (a, b, c, d), f, M) := ⟨_, _, _, _, _, _, _, rfl⟩
          obtain ⟨⟨s0, s1, s2, s3, s4, s5⟩, ad, cap, s6, hs6⟩ := hsc j hj
          have hMq := hq _ (List.getElem_mem hj)
          rw [hsj] at s0 s1 s2 s3 s4 s5 s6 hs6 hMq hnd
          simp only at s0 s1 s2 s3 s4 s5 s6 hs6 hMq hnd
          have HIN := Lib.hid (show inOk S C zz (x, a, b', c, d) = M.all (okB C zz) by unfold inOk; rw [hnd])
          have HND := Lib.hid hs6
          have sB : sb < wr.heap.size := Nat.lt_of_lt_of_le hsB hb.size
          have f0 := (hb.cell (p := ⟨sb, so + j * 7, none⟩) hsB).trans s0
          have f1 := (hb.cell (p := ⟨sb, so + j * 7 + 1, none⟩) hsB).trans s1
          have f2 := (hb.cell (p := ⟨sb, so + j * 7 + 2, none⟩) hsB).trans s2
          have f3 := (hb.cell (p := ⟨sb, so + j * 7 + 3, none⟩) hsB).trans s3
          have f4 := (hb.cell (p := ⟨sb, so + j * 7 + 4, none⟩) hsB).trans s4
          have f5 := (hb.cell (p := ⟨sb, so + j * 7 + 5, none⟩) hsB).trans s5
          have f6 := (hb.cell (p := ⟨sb, so + j * 7 + 6, none⟩) hsB).trans s6
          have j0 : (0 : Int) ≤ (j : Int) := by omega
          have j1 : (j : Int) < (S.length : Int) := by omega
          clear hf hsc hsj hs6 hxm hnd s0 s1 s2 s3 s4 s5 s6
          go_wp2_with fail
          go_cut [11] from 35 to 80 (fun t wx => ∃ p, t = .pointer (some ⟨p, 0, none⟩) ∧ p < wx.heap.size ∧ wx.cell? ⟨p, 6, none⟩ = some (.slice ad M.length cap) ∧ Below wr.heap.size wr wx)
          case first =>
            go_region_with (first
              | (go_at_call 162; refine (KA.out _ (HSr.out.stepAt (by go_grown))).mono ?_; rintro e wu ⟨rfl, hbu⟩; have hz := hbu.size; simp at hz; replace hz : wr.heap.size < wu.heap.size := Nat.lt_of_succ_le hz; have nn : Below wr.heap.size wr wu := Below.step (by go_grown) hbu; have zu := hbu.size; (try simp at zu); have m0 := (nn.cell (p := ⟨sb, so + j * 7, none⟩) sB).trans f0; have m1 := (nn.cell (p := ⟨sb, so + j * 7 + 1, none⟩) sB).trans f1; have m2 := (nn.cell (p := ⟨sb, so + j * 7 + 2, none⟩) sB).trans f2; have m3 := (nn.cell (p := ⟨sb, so + j * 7 + 3, none⟩) sB).trans f3; have m4 := (nn.cell (p := ⟨sb, so + j * 7 + 4, none⟩) sB).trans f4; have m5 := (nn.cell (p := ⟨sb, so + j * 7 + 5, none⟩) sB).trans f5; have m6 := (nn.cell (p := ⟨sb, so + j * 7 + 6, none⟩) sB).trans f6; have sU : sb < wu.heap.size := Nat.lt_of_lt_of_le sB nn.size; have q0 : wu.cell? ⟨wr.heap.size, 0, none⟩ = some (.int .i64 0) := (hbu.cell (p := ⟨wr.heap.size, 0, none⟩) (by simp)).trans (by go_simp); have q1 : wu.cell? ⟨wr.heap.size, 1, none⟩ = some (.int .i64 0) := (hbu.cell (p := ⟨wr.heap.size, 1, none⟩) (by simp)).trans (by go_simp); have q2 : wu.cell? ⟨wr.heap.size, 2, none⟩ = some (.int .i64 0) := (hbu.cell (p := ⟨wr.heap.size, 2, none⟩) (by simp)).trans (by go_simp); have q3 : wu.cell? ⟨wr.heap.size, 3, none⟩ = some (.int .i64 0) := (hbu.cell (p := ⟨wr.heap.size, 3, none⟩) (by simp)).trans (by go_simp); have q4 : wu.cell? ⟨wr.heap.size, 4, none⟩ = some (.int .i64 0) := (hbu.cell (p := ⟨wr.heap.size, 4, none⟩) (by simp)).trans (by go_simp); have q5 : wu.cell? ⟨wr.heap.size, 5, none⟩ = some (.bool false) := (hbu.cell (p := ⟨wr.heap.size, 5, none⟩) (by simp)).trans (by go_simp); have q6 : wu.cell? ⟨wr.heap.size, 6, none⟩ = some (.slice none 0 0) := (hbu.cell (p := ⟨wr.heap.size, 6, none⟩) (by simp)).trans (by go_simp); have qf : ∀ o, wu.frozen? ⟨wr.heap.size, o, none⟩ = false := fun o => (hbu.frozen (p := ⟨wr.heap.size, o, none⟩) (by simp)).trans (by go_simp))
              | (go_at_call 162; refine (KA.out _ (HSr.out.stepAt (by go_grown))).mono ?_; rintro e wu ⟨rfl, hbu⟩; have nn : Below wr.heap.size wr wu := Below.step (by go_grown) hbu; have zu := hbu.size; (try simp at zu); have m0 := (nn.cell (p := ⟨sb, so + j * 7, none⟩) sB).trans f0; have m1 := (nn.cell (p := ⟨sb, so + j * 7 + 1, none⟩) sB).trans f1; have m2 := (nn.cell (p := ⟨sb, so + j * 7 + 2, none⟩) sB).trans f2; have m3 := (nn.cell (p := ⟨sb, so + j * 7 + 3, none⟩) sB).trans f3; have m4 := (nn.cell (p := ⟨sb, so + j * 7 + 4, none⟩) sB).trans f4; have m5 := (nn.cell (p := ⟨sb, so + j * 7 + 5, none⟩) sB).trans f5; have m6 := (nn.cell (p := ⟨sb, so + j * 7 + 6, none⟩) sB).trans f6; have sU : sb < wu.heap.size := Nat.lt_of_lt_of_le sB nn.size))
            all_goals
              go_wp2_with fail
              go_meet
              case rel => exact ⟨_, rfl, by first | (simp; done) | (simp; omega), by go_simp, by go_grown⟩
          case rest =>
            rename World => wy
            obtain ⟨p, rfl, hp, hp6, hby⟩ := hcut
            have my := hb.trans (hby.mono hb.size)
            have HMy := Lib.hid (HND.out.below my)
            clear f0 f1 f2 f3 f4 f5 f6 e0 e1 e2 e3 e4 KA
            go_wp2_with fail
            go_loopw [12] (fun i wx => ∃ q : Nat, q ≤ M.length ∧ i = .int .i64 (q : Int) ∧ M.all (okB C zz) = (M.drop q).all (okB C zz) ∧ Below wy.heap.size wy wx) (fun i _ => M.length - (intOf i).toNat)
            case atStart => exact ⟨0, Nat.zero_le _, rfl, rfl, Below.refl _ _⟩
            case round =>
              rename World => wx
              obtain ⟨q, hqM, rfl, he, hbx⟩ := hrel
              have HEM := Lib.hid he
              have mx := my.trans (hbx.mono my.size)
              have c6 := (hbx.cell (p := ⟨p, 6, none⟩) hp).trans hp6
              clear he
              by_cases hql : q < M.length
              · obtain ⟨gb, go', had, hgB, hgc⟩ : ∃ b o, ad = some ⟨b, o, none⟩ ∧ b < w.heap.size ∧ ∀ i (h : i < M.length), NdC wy w.heap.size b (o + i * 2) M[i] := by
                  obtain ⟨a', c', e', hh⟩ := HMy.out
                  simp only [Value.slice.injEq] at e'
                  obtain ⟨rfl, _, _⟩ := e'
                  rcases hh with hh | hh
                  · rw [hh] at hql; simp at hql
                  · exact hh
                subst had
                obtain ⟨nm, L, hnl⟩ : ∃ nm L, M[q] = (nm, L) := ⟨_, _, rfl⟩
                obtain ⟨d0, la, lc, d1, hs⟩ := (hgc q hql).below (hbx.mono my.size) hgB
                rw [hnl] at d0 d1 hs
                simp only at d0 d1 hs
                have hL : L.length ≤ 1048576 := by have := hMq.2 _ (List.getElem_mem hql); rwa [hnl] at this
                have HSM := Lib.hid (all_step (okB C zz) (show M[q]? = some (nm, L) by rw [List.getElem?_eq_getElem hql, hnl]))
                have HS := Lib.hid (hs.mono mx.size)
                have q0 : (0 : Int) ≤ (q : Int) := by omega
                have q1 : (q : Int) < (M.length : Int) := by omega
                have KM : Hid (∀ V, PkAt V V.heap.size (.slice (some ⟨b, o, none⟩) C.length pc) C → SpAt V V.heap.size (.slice la L.length lc) L → Calls Try.prog 161 #[.slice (some ⟨b, o, none⟩) C.length pc, need nm (.slice la L.length lc)] V fun e w' => e = .returned (.bool (metP C (nm, L))) ∧ Below V.heap.size V w') := Lib.hid fun V g g' => l4Met_any _ C nm la lc L V hC HOC.out hL g g'
                have H2r := Lib.hid (H2.out.stepAt mx)
                clear hnl hgc hs
                by_cases hnz : nm < zz
                · rcases hm : metP C (nm, L)
                  · rw [hm] at KM
                    have HF := Lib.hid (show C.all (inOk S C zz) = false by rw [HE.out, HST.out, HIN.out, HEM.out, HSM.out]; unfold okB; rw [hm, decide_eq_true hnz]; rfl)
                    clear hm
                    go_wp2_with fail
                    refine (KM.out _ H2r.out HS.out).mono ?_
                    rintro e w6 ⟨rfl, hb6⟩
                    go_wp2_with fail
                    go_ret
                    exact ⟨by rw [conf_all, HQN.out, HF.out]; rfl, mx.trans (hb6.mono mx.size)⟩
                  · rw [hm] at KM
                    have HM1 := Lib.hid (show okB C zz (nm, L) = true by unfold okB; rw [hm]; simp)
                    clear hm
                    go_wp2_with fail
                    refine (KM.out _ H2r.out HS.out).mono ?_
                    rintro e w6 ⟨rfl, hb6⟩
                    have HR := Lib.hid (show ∃ k' : Nat, k' ≤ M.length ∧ Value.int .i64 ((q : Int) + 1) = .int .i64 (k' : Int) ∧ M.all (okB C zz) = (M.drop k').all (okB C zz) ∧ Below wy.heap.size wy w6 from ⟨q + 1, by omega, by go_num, by rw [HEM.out, HSM.out, HM1.out]; rfl, hbx.trans (hb6.mono hbx.size)⟩)
                    clear hb6
                    go_wp2_with fail
                    go_roundw
                    case rel => exact HR.out
                    case measure => simp [intOf]; omega
                · have hnzD : decide (nm < zz) = false := decide_eq_false hnz
                  have HM1 := Lib.hid (show okB C zz (nm, L) = true by unfold okB; rw [decide_eq_false hnz]; rfl)
                  have HR := Lib.hid (show ∃ k' : Nat, k' ≤ M.length ∧ Value.int .i64 ((q : Int) + 1) = .int .i64 (k' : Int) ∧ M.all (okB C zz) = (M.drop k').all (okB C zz) ∧ Below wy.heap.size wy wx from ⟨q + 1, by omega, by go_num, by rw [HEM.out, HSM.out, HM1.out]; rfl, hbx⟩)
                  clear KM hnz
                  go_wp2_with fail
                  go_roundw
                  case rel => exact HR.out
                  case measure => simp [intOf]; omega
              · obtain rfl : q = M.length := by omega
                have HR := Lib.hid (show ∃ k' : Nat, k' ≤ C.length ∧ Value.int .i64 ((k : Int) + 1) = .int .i64 (k' : Int) ∧ C.all (inOk S C zz) = (C.drop k').all (inOk S C zz) ∧ Below w.heap.size w wx from ⟨k + 1, by omega, by go_num, by rw [HE.out, HST.out, HIN.out, exit_rel HEM.out]; rfl, mx⟩)
                go_wp2_with fail
                go_roundw
                case rel => exact HR.out
                case measure => simp [intOf]; omega
        · obtain rfl : k = C.length := by omega
          have HF := Lib.hid (show C.all (inOk S C zz) = true by rw [HE.out, List.drop_length]; rfl)
          go_wp2_with fail
          go_ret
          exact ⟨by rw [conf_all, HQN.out, HF.out]; rfl, hb⟩
end Svp
end Go.Proofs.Ytgenjbeamlffmaa
