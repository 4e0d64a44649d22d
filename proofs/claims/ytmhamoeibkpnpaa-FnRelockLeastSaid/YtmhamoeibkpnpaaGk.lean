/- Groundwork over this seat's translation: Svo, Svp, Svq, Svr, Svt, Svu in one text; the conditions stand at each part. -/
import Derived.Test.YtmhamoeibkpnpaaGj
import Derived.Test.YtmhamoeibkpnpaaCft
import Derived.Test.YtmhamoeibkpnpaaCfs
import Derived.Test.YtmhamoeibkpnpaaGw

/- The model's search for the best choice, as plain facts: a need of a lower name that is not met is met by nothing that picks are made up to; the ways to decide a name are its open picks, the newest one first. No condition. -/
namespace Go.Proofs.Ytmhamoeibkpnpaa
open Go.RowKit Go.Sort

namespace Svp
open Foot Copy Nup Cpu Cfa Rch Gof Pof
/-- Whether picks conflict with needs of names below one. -/
def confB (S : List Rel) (N : List Nd) (c : List Pk) (z : Int) : Bool := N.any (fun n => decide (n.1 < z) && !metP c n) || c.any fun x => (ndsOf S x).any fun n => decide (n.1 < z) && !metP c n
/-- What is open of names from one on. -/
def partL (O : List Pk) (z : Int) : List Pk := O.filter fun p => decide (z ≤ p.1)
def optL (O : List Pk) (z : Int) : List Pk := O.filter fun p => decide (p.1 = z)
theorem low_met {c d O : List Pk} {z : Int} {n : Nd} (hc : pkOk c = true) (hsub : ∀ x ∈ d, x ∈ c ++ O) (hO : ∀ y ∈ O, z ≤ y.1) (hn : n.1 < z) (h : metP d n = true) : metP c n = true := by
  obtain ⟨v, hv, hh⟩ := met_mem h
  rcases List.mem_append.1 (hsub _ hv) with k | k
  · exact met_of (lo := 0) hc k hh
  · have := hO _ k
    simp only at this
    omega
theorem conf_none {S : List Rel} {N : List Nd} {H c O : List Pk} {z : Int} (hS : shOk S = true) (hG : Good S H c O) (hO : ∀ y ∈ O, z ≤ y.1) (hh : confB S N c z = true) : bestL S N H c O = [] := by
  unfold bestL
  rw [List.filter_eq_nil_iff]
  intro d hd h0
  have h0' : faultF S N H d = 0 := by simpa using h0
  obtain ⟨h1, h2, h3⟩ := comps_mem hS _ c O hG d hd
  have F := Fine.of (.inr h0')
  unfold confB at hh
  rw [Bool.or_eq_true] at hh
  rcases hh with hh | hh
  · obtain ⟨n, hn, he⟩ := List.any_eq_true.1 hh
    rw [Bool.and_eq_true, decide_eq_true_eq] at he
    have := low_met hG.pk h2 hO he.1 (F.met n hn)
    rw [this] at he
    exact absurd he.2 (by decide)
  · obtain ⟨x, hx, hh⟩ := List.any_eq_true.1 hh
    obtain ⟨n, hn, he⟩ := List.any_eq_true.1 hh
    rw [Bool.and_eq_true, decide_eq_true_eq] at he
    have := low_met hG.pk h2 hO he.1 (F.inner x (h1 x hx) n hn)
    rw [this] at he
    exact absurd he.2 (by decide)
theorem part_split : ∀ {O : List Pk} (z : Int), (O.Pairwise fun x y => x.1 ≤ y.1) → partL O z = optL O z ++ partL O (z + 1)
  | [], _, _ => rfl
  | q :: t, z, h => by
    have ih := part_split z (List.pairwise_cons.1 h).2
    have hq := (List.pairwise_cons.1 h).1
    unfold partL optL at ih ⊢
    by_cases h1 : q.1 < z
    · rw [List.filter_cons_of_neg (by simp; omega), List.filter_cons_of_neg (by simp; omega), List.filter_cons_of_neg (by simp; omega), ih]
    · by_cases h2 : q.1 = z
      · rw [List.filter_cons_of_pos (by simp; omega), List.filter_cons_of_pos (by simpa using h2), List.filter_cons_of_neg (by simp; omega), ih]
        rfl
      · have hn : t.filter (fun p => decide (p.1 = z)) = [] := by
          rw [List.filter_eq_nil_iff]
          intro y hy
          have := hq y hy
          simp
          omega
        rw [List.filter_cons_of_pos (by simp; omega), List.filter_cons_of_neg (by simpa using h2), List.filter_cons_of_pos (by simp; omega), ih, hn]
        rfl
/-- What comes of picks where a name is to be decided: without it, and then by its versions, the newest one first. -/
theorem best_name {S : List Rel} {N : List Nd} {H c O : List Pk} (z : Int) (hm : O.Pairwise fun x y => x.1 ≤ y.1) : bestL S N H c (partL O z) = bestL S N H c (partL O (z + 1)) ++ ((optL O z).reverse).flatMap fun q => bestL S N H (c ++ [q]) (partL O (z + 1)) := by
  have hs := part_split z hm
  have hA : ∀ q ∈ optL O z, q.1 = z := fun q hq => by simpa using (List.mem_filter.1 hq).2
  have hB : ∀ q ∈ partL O (z + 1), ¬ q.1 = z := fun q hq => by
    have := (List.mem_filter.1 hq).2
    simp at this
    omega
  rcases hp : optL O z with _ | ⟨p, t⟩
  · rw [hp] at hs
    rw [hs]
    simp
  · have hpz : p.1 = z := hA p (by rw [hp]; exact List.mem_cons_self)
    rw [hp] at hA hs
    have hc : partL O z = p :: (t ++ partL O (z + 1)) := hs
    have hf : firstN (p :: (t ++ partL O (z + 1))) = (p :: t).length := by
      show ((p :: (t ++ partL O (z + 1))).takeWhile (fun q => decide (q.1 = p.1))).length = _
      rw [← List.cons_append, List.takeWhile_append_of_pos (fun q hq => by simpa using (hA q hq).trans hpz.symm)]
      have hb : (partL O (z + 1)).takeWhile (fun q => decide (q.1 = p.1)) = [] := by
        rcases hx : partL O (z + 1) with _ | ⟨y, r⟩
        · rfl
        · rw [List.takeWhile_cons_of_neg]
          have := hB y (by rw [hx]; exact List.mem_cons_self)
          rw [← hpz] at this
          simpa using this
      rw [hb, List.append_nil]
    have ht : (p :: (t ++ partL O (z + 1))).take (p :: t).length = p :: t := by rw [← List.cons_append]; simp
    have hd : (p :: (t ++ partL O (z + 1))).drop (p :: t).length = partL O (z + 1) := by rw [← List.cons_append]; simp
    rw [hc, best_step, hf, ht, hd]
/-- Behind the last name nothing is open. -/
theorem part_none {S : List Rel} {H : List Pk} (hS : shOk S = true) : partL (openL S H) 8 = [] := by
  unfold partL
  rw [List.filter_eq_nil_iff]
  intro y hy
  have := (open_ok hS hy).1
  simp
  omega
theorem part_all {S : List Rel} {H : List Pk} (hS : shOk S = true) : partL (openL S H) 0 = openL S H := by
  unfold partL
  rw [List.filter_eq_self]
  intro y hy
  have := (open_ok hS hy).1
  simp
  omega
theorem best_last (S : List Rel) (N : List Nd) (H c : List Pk) : bestL S N H c [] = if faultF S N H c = 0 then [c] else [] := by
  unfold bestL
  show (([c] : List (List Pk)).filter fun d => decide (faultF S N H d = 0)) = _
  by_cases h : faultF S N H c = 0
  · rw [if_pos h, List.filter_cons_of_pos (by simpa using h)]
    rfl
  · rw [if_neg h, List.filter_cons_of_neg (by simpa using h)]
    rfl
/-- The first one of rows laid one behind the other. -/
theorem head_two {α : Type} (A B : List α) : (A ++ B).head? = (A.head?).or B.head? := by
  cases A with
  | nil => simp
  | cons a t => rfl
end Svp
end Go.Proofs.Ytmhamoeibkpnpaa

/- The contract of the model's l5Conflict, over this seat's translation, as the plain function confB tells it; nothing that was there before the call has changed. Condition: a shelf that is fine, picks that are fine and there; at most 1048576 of each row. -/
namespace Go.Proofs.Ytmhamoeibkpnpaa
open Go.RowKit Go.Sort

namespace Svp
open Foot Copy Nup Cpu Cfa Rch
def okB (C : List Pk) (z : Int) (n : Nd) : Bool := !(decide (n.1 < z) && !metP C n)
def inOk (S : List Rel) (C : List Pk) (z : Int) (x : Pk) : Bool := (ndsOf S x).all (okB C z)
theorem any_all {α : Type} (p : α → Bool) : ∀ L : List α, L.any p = !L.all fun x => !p x
  | [] => rfl
  | x :: t => by rw [List.any_cons, List.all_cons, any_all p t]; cases p x <;> simp
theorem conf_all (S : List Rel) (N : List Nd) (C : List Pk) (z : Int) : confB S N C z = !(N.all (okB C z) && C.all (inOk S C z)) := by
  unfold confB
  rw [any_all, any_all, Bool.not_and]
  congr 1
  congr 1
  congr 1
  funext x
  rw [any_all, Bool.not_not]
  rfl

set_option maxRecDepth 100000 in
set_option maxHeartbeats 8000000 in
theorem specConf_any (v u z : Value) (S : List Rel) (N : List Nd) (C : List Pk) (zz : Int) (w : World) (hs : shOk S = true) (hq : ∀ q ∈ S, q.2.2.2.length ≤ 1048576 ∧ ∀ p ∈ q.2.2.2, p.2.length ≤ 1048576) (hN : N.length ≤ 1048576) (hNq : ∀ q ∈ N, q.2.length ≤ 1048576) (hC : C.length ≤ 1048576) (hok : pkOk C = true) (hT : ∀ x ∈ C, thereP S x = true) (h : RlAt w w.heap.size v S) (h' : NdAt w w.heap.size u N) (h2 : PkAt w w.heap.size z C) :
    Calls Try.prog 88 #[v, u, z, .int .i64 zz] w fun e w' => e = .returned (.bool (confB S N C zz)) ∧ Below w.heap.size w w' := by
  obtain ⟨sa, caps, rfl, hx⟩ := id h
  obtain ⟨na, ncap, rfl, n0⟩ := id h'
  obtain ⟨pa, pc, rfl, h0⟩ := id h2
  have hS30 := sh_len hs
  have H := Lib.hid h
  have H2 := Lib.hid h2
  have HX := Lib.hid hx
  have HOS := Lib.hid hs
  have HOC := Lib.hid hok
  have HA1 := Lib.hid hT
  clear h h' h2 hx hs hok hT
  go_enter Try.func88, Try.ntmps88
  go_wp2_with fail
  go_loopw [9] (fun i wr => ∃ k : Nat, k ≤ N.length ∧ i = .int .i64 (k : Int) ∧ N.all (okB C zz) = (N.drop k).all (okB C zz) ∧ Below w.heap.size w wr) (fun i _ => N.length - (intOf i).toNat)
  case atStart => exact ⟨0, Nat.zero_le _, rfl, rfl, Below.refl _ _⟩
  case round =>
    obtain ⟨k, hk, rfl, he, hb⟩ := hrel
    have HEM := Lib.hid he
    clear he
    by_cases hql : k < N.length
    · rcases n0 with n0 | ⟨gb, go', rfl, hgB, hgc⟩
      · subst n0
        exact absurd hql (by simp)
      obtain ⟨nm, L, hnl⟩ : ∃ nm L, N[k] = (nm, L) := ⟨_, _, rfl⟩
      obtain ⟨d0, la, lc, d1, hs⟩ := (hgc k hql).below hb hgB
      rw [hnl] at d0 d1 hs
      simp only at d0 d1 hs
      have hL : L.length ≤ 1048576 := by have := hNq _ (List.getElem_mem hql); rwa [hnl] at this
      have HSM := Lib.hid (all_step (okB C zz) (show N[k]? = some (nm, L) by rw [List.getElem?_eq_getElem hql, hnl]))
      have HS := Lib.hid (hs.mono hb.size)
      have q0 : (0 : Int) ≤ (k : Int) := by omega
      have q1 : (k : Int) < (N.length : Int) := by omega
      have KM : Hid (∀ V, PkAt V V.heap.size (.slice pa C.length pc) C → SpAt V V.heap.size (.slice la L.length lc) L → Calls Try.prog 115 #[.slice pa C.length pc, need nm (.slice la L.length lc)] V fun e w' => e = .returned (.bool (metP C (nm, L))) ∧ Below V.heap.size V w') := Lib.hid fun V g g' => l4Met_any _ C nm la lc L V hC HOC.out hL g g'
      have H2r := Lib.hid (H2.out.stepAt hb)
      clear hnl hgc hs
      by_cases hnz : nm < zz
      · rcases hm : metP C (nm, L)
        · rw [hm] at KM
          have HF := Lib.hid (show N.all (okB C zz) = false by rw [HEM.out, HSM.out]; unfold okB; rw [hm, decide_eq_true hnz]; rfl)
          clear hm
          go_wp2_with fail
          refine (KM.out _ H2r.out HS.out).mono ?_
          rintro e w6 ⟨rfl, hb6⟩
          go_wp2_with fail
          go_ret
          exact ⟨by rw [conf_all, HF.out]; rfl, hb.trans (hb6.mono hb.size)⟩
        · rw [hm] at KM
          have HM1 := Lib.hid (show okB C zz (nm, L) = true by unfold okB; rw [hm]; simp)
          clear hm
          go_wp2_with fail
          refine (KM.out _ H2r.out HS.out).mono ?_
          rintro e w6 ⟨rfl, hb6⟩
          have HR := Lib.hid (show ∃ k' : Nat, k' ≤ N.length ∧ Value.int .i64 ((k : Int) + 1) = .int .i64 (k' : Int) ∧ N.all (okB C zz) = (N.drop k').all (okB C zz) ∧ Below w.heap.size w w6 from ⟨k + 1, by omega, by go_num, by rw [HEM.out, HSM.out, HM1.out]; rfl, hb.trans (hb6.mono hb.size)⟩)
          clear hb6
          go_wp2_with fail
          go_roundw
          case rel => exact HR.out
          case measure => simp [intOf]; omega
      · have hnzD : decide (nm < zz) = false := decide_eq_false hnz
        have HM1 := Lib.hid (show okB C zz (nm, L) = true by unfold okB; rw [decide_eq_false hnz]; rfl)
        have HR := Lib.hid (show ∃ k' : Nat, k' ≤ N.length ∧ Value.int .i64 ((k : Int) + 1) = .int .i64 (k' : Int) ∧ N.all (okB C zz) = (N.drop k').all (okB C zz) ∧ Below w.heap.size w wr from ⟨k + 1, by omega, by go_num, by rw [HEM.out, HSM.out, HM1.out]; rfl, hb⟩)
        clear KM hnz
        go_wp2_with fail
        go_roundw
        case rel => exact HR.out
        case measure => simp [intOf]; omega
    · obtain rfl : k = N.length := by omega
      have HQN := Lib.hid (show N.all (okB C zz) = true by rw [HEM.out, List.drop_length]; rfl)
      have hb0 := hb
      clear hb HEM hk hNq n0
      rename World => w0
      go_wp2_with fail
      go_loopw [10] (fun i wr => ∃ k : Nat, k ≤ C.length ∧ i = .int .i64 (k : Int) ∧ C.all (inOk S C zz) = (C.drop k).all (inOk S C zz) ∧ Below w.heap.size w wr) (fun i _ => C.length - (intOf i).toNat)
      case atStart => exact ⟨0, Nat.zero_le _, rfl, rfl, hb0⟩
      case round =>
        obtain ⟨k, hk, rfl, he, hb⟩ := hrel
        have HE := Lib.hid he
        clear he
        by_cases hlt : k < C.length
        · rcases h0 with h0 | ⟨b, o, rfl, hB, hc⟩
          · subst h0
            exact absurd hlt (by simp)
          obtain ⟨x, a, b', c, d, hxy⟩ : ∃ x a b c d, C[k] = (x, a, b, c, d) := ⟨_, _, _, _, _, rfl⟩
          obtain ⟨r0, r1, r2, r3, r4⟩ := hc k hlt
          rw [hxy] at r0 r1 r2 r3 r4
          simp only at r0 r1 r2 r3 r4
          have e0 := (hb.cell (p := ⟨b, o + k * 5, none⟩) hB).trans r0
          have e1 := (hb.cell (p := ⟨b, o + k * 5 + 1, none⟩) hB).trans r1
          have e2 := (hb.cell (p := ⟨b, o + k * 5 + 2, none⟩) hB).trans r2
          have e3 := (hb.cell (p := ⟨b, o + k * 5 + 3, none⟩) hB).trans r3
          have e4 := (hb.cell (p := ⟨b, o + k * 5 + 4, none⟩) hB).trans r4
          have HXY := Lib.hid (show C[k]? = some (x, a, b', c, d) by rw [List.getElem?_eq_getElem hlt, hxy])
          have hxm : (x, a, b', c, d) ∈ C := by rw [← hxy]; exact List.getElem_mem hlt
          have bB : b < wr.heap.size := Nat.lt_of_lt_of_le hB hb.size
          have i0 : (0 : Int) ≤ (k : Int) := by omega
          have i1 : (k : Int) < (C.length : Int) := by omega
          have HSr := Lib.hid (H.out.stepAt hb)
          have KA : Hid (∀ V, RlAt V V.heap.size (.slice sa S.length caps) S → Calls Try.prog 107 #[.slice sa S.length caps, .int .i64 x, ver a b' c d] V fun e w' => e = .returned (.int .i64 (shFind x (a, b', c, d) 0 S)) ∧ Below V.heap.size V w') := Lib.hid fun V g => by
            have := specShelfAt_any _ S x a b' c d V (by omega) hq g
            rwa [show shAt S x (a, b', c, d) = shFind x (a, b', c, d) 0 S by unfold shAt; rw [HOS.out]; rfl] at this
          clear hxy r0 r1 r2 r3 r4 hc
          have HST := Lib.hid (all_step (inOk S C zz) HXY.out)
          obtain ⟨j, hj, hf, _, hnd⟩ := there_at (HA1.out _ hxm)
          simp only at hf
          rw [hf] at KA
          obtain ⟨sb, so, hsa, hsB, hsc⟩ : ∃ b o, sa = some ⟨b, o, none⟩ ∧ b < w.heap.size ∧ ∀ i (h : i < S.length), RlC w w.heap.size b (o + i * 7) S[i] := by
            rcases HX.out with hh | hh
            · rw [hh] at hj; simp at hj
            · exact hh
          subst hsa
          obtain ⟨sx, sa1, sb1, sc1, sd1, sg, M, hsj⟩ : ∃ x a b c d f M, S[j] = (x, (a, b, c, d), f, M) := ⟨_, _, _, _, _, _, _, rfl⟩
          obtain ⟨⟨s0, s1, s2, s3, s4, s5⟩, ad, cap, s6, hs6⟩ := hsc j hj
          have hMq := hq _ (List.getElem_mem hj)
          rw [hsj] at s0 s1 s2 s3 s4 s5 s6 hs6 hMq hnd
          simp only at s0 s1 s2 s3 s4 s5 s6 hs6 hMq hnd
          have HIN := Lib.hid (show inOk S C zz (x, a, b', c, d) = M.all (okB C zz) by unfold inOk; rw [hnd])
          have HND := Lib.hid hs6
          have sB : sb < wr.heap.size := Nat.lt_of_lt_of_le hsB hb.size
          have f0 := (hb.cell (p := ⟨sb, so + j * 7, none⟩) hsB).trans s0
          have f1 := (hb.cell (p := ⟨sb, so + j * 7 + 1, none⟩) hsB).trans s1
          have f2 := (hb.cell (p := ⟨sb, so + j * 7 + 2, none⟩) hsB).trans s2
          have f3 := (hb.cell (p := ⟨sb, so + j * 7 + 3, none⟩) hsB).trans s3
          have f4 := (hb.cell (p := ⟨sb, so + j * 7 + 4, none⟩) hsB).trans s4
          have f5 := (hb.cell (p := ⟨sb, so + j * 7 + 5, none⟩) hsB).trans s5
          have f6 := (hb.cell (p := ⟨sb, so + j * 7 + 6, none⟩) hsB).trans s6
          have j0 : (0 : Int) ≤ (j : Int) := by omega
          have j1 : (j : Int) < (S.length : Int) := by omega
          clear hf hsc hsj hs6 hxm hnd s0 s1 s2 s3 s4 s5 s6
          go_wp2_with fail
          go_cut [11] from 35 to 80 (fun t wx => ∃ p, t = .pointer (some ⟨p, 0, none⟩) ∧ p < wx.heap.size ∧ wx.cell? ⟨p, 6, none⟩ = some (.slice ad M.length cap) ∧ Below wr.heap.size wr wx)
          case first =>
            go_region_with (first
              | (go_at_call 107; refine (KA.out _ (HSr.out.stepAt (by go_grown))).mono ?_; rintro e wu ⟨rfl, hbu⟩; have hz := hbu.size; simp at hz; replace hz : wr.heap.size < wu.heap.size := Nat.lt_of_succ_le hz; have nn : Below wr.heap.size wr wu := Below.step (by go_grown) hbu; have zu := hbu.size; (try simp at zu); have m0 := (nn.cell (p := ⟨sb, so + j * 7, none⟩) sB).trans f0; have m1 := (nn.cell (p := ⟨sb, so + j * 7 + 1, none⟩) sB).trans f1; have m2 := (nn.cell (p := ⟨sb, so + j * 7 + 2, none⟩) sB).trans f2; have m3 := (nn.cell (p := ⟨sb, so + j * 7 + 3, none⟩) sB).trans f3; have m4 := (nn.cell (p := ⟨sb, so + j * 7 + 4, none⟩) sB).trans f4; have m5 := (nn.cell (p := ⟨sb, so + j * 7 + 5, none⟩) sB).trans f5; have m6 := (nn.cell (p := ⟨sb, so + j * 7 + 6, none⟩) sB).trans f6; have sU : sb < wu.heap.size := Nat.lt_of_lt_of_le sB nn.size; have q0 : wu.cell? ⟨wr.heap.size, 0, none⟩ = some (.int .i64 0) := (hbu.cell (p := ⟨wr.heap.size, 0, none⟩) (by simp)).trans (by go_simp); have q1 : wu.cell? ⟨wr.heap.size, 1, none⟩ = some (.int .i64 0) := (hbu.cell (p := ⟨wr.heap.size, 1, none⟩) (by simp)).trans (by go_simp); have q2 : wu.cell? ⟨wr.heap.size, 2, none⟩ = some (.int .i64 0) := (hbu.cell (p := ⟨wr.heap.size, 2, none⟩) (by simp)).trans (by go_simp); have q3 : wu.cell? ⟨wr.heap.size, 3, none⟩ = some (.int .i64 0) := (hbu.cell (p := ⟨wr.heap.size, 3, none⟩) (by simp)).trans (by go_simp); have q4 : wu.cell? ⟨wr.heap.size, 4, none⟩ = some (.int .i64 0) := (hbu.cell (p := ⟨wr.heap.size, 4, none⟩) (by simp)).trans (by go_simp); have q5 : wu.cell? ⟨wr.heap.size, 5, none⟩ = some (.bool false) := (hbu.cell (p := ⟨wr.heap.size, 5, none⟩) (by simp)).trans (by go_simp); have q6 : wu.cell? ⟨wr.heap.size, 6, none⟩ = some (.slice none 0 0) := (hbu.cell (p := ⟨wr.heap.size, 6, none⟩) (by simp)).trans (by go_simp); have qf : ∀ o, wu.frozen? ⟨wr.heap.size, o, none⟩ = false := fun o => (hbu.frozen (p := ⟨wr.heap.size, o, none⟩) (by simp)).trans (by go_simp))
              | (go_at_call 107; refine (KA.out _ (HSr.out.stepAt (by go_grown))).mono ?_; rintro e wu ⟨rfl, hbu⟩; have nn : Below wr.heap.size wr wu := Below.step (by go_grown) hbu; have zu := hbu.size; (try simp at zu); have m0 := (nn.cell (p := ⟨sb, so + j * 7, none⟩) sB).trans f0; have m1 := (nn.cell (p := ⟨sb, so + j * 7 + 1, none⟩) sB).trans f1; have m2 := (nn.cell (p := ⟨sb, so + j * 7 + 2, none⟩) sB).trans f2; have m3 := (nn.cell (p := ⟨sb, so + j * 7 + 3, none⟩) sB).trans f3; have m4 := (nn.cell (p := ⟨sb, so + j * 7 + 4, none⟩) sB).trans f4; have m5 := (nn.cell (p := ⟨sb, so + j * 7 + 5, none⟩) sB).trans f5; have m6 := (nn.cell (p := ⟨sb, so + j * 7 + 6, none⟩) sB).trans f6; have sU : sb < wu.heap.size := Nat.lt_of_lt_of_le sB nn.size))
            all_goals
              go_wp2_with fail
              go_meet
              case rel => exact ⟨_, rfl, by first | (simp; done) | (simp; omega), by go_simp, by go_grown⟩
          case rest =>
            rename World => wy
            obtain ⟨p, rfl, hp, hp6, hby⟩ := hcut
            have my := hb.trans (hby.mono hb.size)
            have HMy := Lib.hid (HND.out.below my)
            clear f0 f1 f2 f3 f4 f5 f6 e0 e1 e2 e3 e4 KA
            go_wp2_with fail
            go_loopw [12] (fun i wx => ∃ q : Nat, q ≤ M.length ∧ i = .int .i64 (q : Int) ∧ M.all (okB C zz) = (M.drop q).all (okB C zz) ∧ Below wy.heap.size wy wx) (fun i _ => M.length - (intOf i).toNat)
            case atStart => exact ⟨0, Nat.zero_le _, rfl, rfl, Below.refl _ _⟩
            case round =>
              rename World => wx
              obtain ⟨q, hqM, rfl, he, hbx⟩ := hrel
              have HEM := Lib.hid he
              have mx := my.trans (hbx.mono my.size)
              have c6 := (hbx.cell (p := ⟨p, 6, none⟩) hp).trans hp6
              clear he
              by_cases hql : q < M.length
              · obtain ⟨gb, go', had, hgB, hgc⟩ : ∃ b o, ad = some ⟨b, o, none⟩ ∧ b < w.heap.size ∧ ∀ i (h : i < M.length), NdC wy w.heap.size b (o + i * 2) M[i] := by
                  obtain ⟨a', c', e', hh⟩ := HMy.out
                  simp only [Value.slice.injEq] at e'
                  obtain ⟨rfl, _, _⟩ := e'
                  rcases hh with hh | hh
                  · rw [hh] at hql; simp at hql
                  · exact hh
                subst had
                obtain ⟨nm, L, hnl⟩ : ∃ nm L, M[q] = (nm, L) := ⟨_, _, rfl⟩
                obtain ⟨d0, la, lc, d1, hs⟩ := (hgc q hql).below (hbx.mono my.size) hgB
                rw [hnl] at d0 d1 hs
                simp only at d0 d1 hs
                have hL : L.length ≤ 1048576 := by have := hMq.2 _ (List.getElem_mem hql); rwa [hnl] at this
                have HSM := Lib.hid (all_step (okB C zz) (show M[q]? = some (nm, L) by rw [List.getElem?_eq_getElem hql, hnl]))
                have HS := Lib.hid (hs.mono mx.size)
                have q0 : (0 : Int) ≤ (q : Int) := by omega
                have q1 : (q : Int) < (M.length : Int) := by omega
                have KM : Hid (∀ V, PkAt V V.heap.size (.slice (some ⟨b, o, none⟩) C.length pc) C → SpAt V V.heap.size (.slice la L.length lc) L → Calls Try.prog 115 #[.slice (some ⟨b, o, none⟩) C.length pc, need nm (.slice la L.length lc)] V fun e w' => e = .returned (.bool (metP C (nm, L))) ∧ Below V.heap.size V w') := Lib.hid fun V g g' => l4Met_any _ C nm la lc L V hC HOC.out hL g g'
                have H2r := Lib.hid (H2.out.stepAt mx)
                clear hnl hgc hs
                by_cases hnz : nm < zz
                · rcases hm : metP C (nm, L)
                  · rw [hm] at KM
                    have HF := Lib.hid (show C.all (inOk S C zz) = false by rw [HE.out, HST.out, HIN.out, HEM.out, HSM.out]; unfold okB; rw [hm, decide_eq_true hnz]; rfl)
                    clear hm
                    go_wp2_with fail
                    refine (KM.out _ H2r.out HS.out).mono ?_
                    rintro e w6 ⟨rfl, hb6⟩
                    go_wp2_with fail
                    go_ret
                    exact ⟨by rw [conf_all, HQN.out, HF.out]; rfl, mx.trans (hb6.mono mx.size)⟩
                  · rw [hm] at KM
                    have HM1 := Lib.hid (show okB C zz (nm, L) = true by unfold okB; rw [hm]; simp)
                    clear hm
                    go_wp2_with fail
                    refine (KM.out _ H2r.out HS.out).mono ?_
                    rintro e w6 ⟨rfl, hb6⟩
                    have HR := Lib.hid (show ∃ k' : Nat, k' ≤ M.length ∧ Value.int .i64 ((q : Int) + 1) = .int .i64 (k' : Int) ∧ M.all (okB C zz) = (M.drop k').all (okB C zz) ∧ Below wy.heap.size wy w6 from ⟨q + 1, by omega, by go_num, by rw [HEM.out, HSM.out, HM1.out]; rfl, hbx.trans (hb6.mono hbx.size)⟩)
                    clear hb6
                    go_wp2_with fail
                    go_roundw
                    case rel => exact HR.out
                    case measure => simp [intOf]; omega
                · have hnzD : decide (nm < zz) = false := decide_eq_false hnz
                  have HM1 := Lib.hid (show okB C zz (nm, L) = true by unfold okB; rw [decide_eq_false hnz]; rfl)
                  have HR := Lib.hid (show ∃ k' : Nat, k' ≤ M.length ∧ Value.int .i64 ((q : Int) + 1) = .int .i64 (k' : Int) ∧ M.all (okB C zz) = (M.drop k').all (okB C zz) ∧ Below wy.heap.size wy wx from ⟨q + 1, by omega, by go_num, by rw [HEM.out, HSM.out, HM1.out]; rfl, hbx⟩)
                  clear KM hnz
                  go_wp2_with fail
                  go_roundw
                  case rel => exact HR.out
                  case measure => simp [intOf]; omega
              · obtain rfl : q = M.length := by omega
                have HR := Lib.hid (show ∃ k' : Nat, k' ≤ C.length ∧ Value.int .i64 ((k : Int) + 1) = .int .i64 (k' : Int) ∧ C.all (inOk S C zz) = (C.drop k').all (inOk S C zz) ∧ Below w.heap.size w wx from ⟨k + 1, by omega, by go_num, by rw [HE.out, HST.out, HIN.out, exit_rel HEM.out]; rfl, mx⟩)
                go_wp2_with fail
                go_roundw
                case rel => exact HR.out
                case measure => simp [intOf]; omega
        · obtain rfl : k = C.length := by omega
          have HF := Lib.hid (show C.all (inOk S C zz) = true by rw [HE.out, List.drop_length]; rfl)
          go_wp2_with fail
          go_ret
          exact ⟨by rw [conf_all, HQN.out, HF.out]; rfl, hb⟩
end Svp
end Go.Proofs.Ytmhamoeibkpnpaa

/- The contract of the model's l5Options, over this seat's translation: the versions of a name that are open, the newest one first, in a row of their own; nothing that was there before the call has changed. Condition: held picks that are fine; at most 1048576 of each row. -/
namespace Go.Proofs.Ytmhamoeibkpnpaa
open Go.RowKit Go.Sort

namespace Svp
open Foot Copy Nup Cpu Cfa Rch
def vcs : List V4 → List Value
  | [] => []
  | x :: t => [.int .i64 x.1, .int .i64 x.2.1, .int .i64 x.2.2.1, .int .i64 x.2.2.2] ++ vcs t
theorem vcs_len : ∀ A : List V4, (vcs A).length = A.length * 4
  | [] => rfl
  | x :: t => by simp only [vcs, List.length_append, List.length_cons, List.length_nil, vcs_len t]; omega
theorem vcs_app : ∀ A B : List V4, vcs (A ++ B) = vcs A ++ vcs B
  | [], _ => rfl
  | x :: t, B => by simp only [List.cons_append, vcs, vcs_app t B, List.append_assoc]
/-- A row of versions that a call makes. -/
abbrev VRow (w : World) (base : Nat) (v : Value) (L : List V4) : Prop := w.ownsRow base 69 4 v L.length (vcs L)
theorem VRow.below {w w' : World} {B : Nat} {v : Value} {L : List V4} (h : VRow w B v L) (hb : Below w.heap.size w w') : VRow w' B v L := by
  refine ⟨h.1, ?_⟩
  rcases h.2 with hn | ⟨g, cap, cur, hv, hb', hg, rest⟩
  · exact .inl hn
  · exact .inr ⟨g, cap, cur, hv, hb', (hb.block g (Array.getElem?_eq_some_iff.1 hg).1).trans hg, rest⟩
theorem VRow.form {w : World} {B : Nat} {v : Value} {L : List V4} (h : VRow w B v L) : ∃ a c, v = .slice a L.length c := by
  rcases h.2 with ⟨rfl, hn⟩ | ⟨g, cap, cur, rfl, _⟩
  · exact ⟨none, 0, by rw [hn]⟩
  · exact ⟨_, cap, rfl⟩
theorem infoVer : (Try.prog.info? 69).map (fun i => (i.zero, i.size, i.bytes)) = some (some (.agg #[.int .i64 0, .int .i64 0, .int .i64 0, .int .i64 0]), 4, 32) := by kernel_rfl
theorem ver_new (w : World) (a b c d : Int) : ∀ j u, [Value.int .i64 a, .int .i64 b, .int .i64 c, .int .i64 d][j]? = some u → (w.alloc (.cells #[.int .i64 a, .int .i64 b, .int .i64 c, .int .i64 d] 69)).cell? ((⟨w.heap.size, 0, none⟩ : Addr).add j) = some u :=
  World.news_of_block (heap_alloc_new w _)
theorem ver_one (a b c d : Int) : ∀ u ∈ [Value.int .i64 a, .int .i64 b, .int .i64 c, .int .i64 d], u.oneCell' = true := by
  intro u hu
  simp only [List.mem_cons, List.not_mem_nil, or_false] at hu
  rcases hu with rfl | rfl | rfl | rfl <;> rfl
/-- The versions of a name that are open among releases, the newest one first. -/
def verL (S : List Rel) (H : List Pk) (z : Int) : List V4 := ((optL (openL S H) z).reverse).map (·.2)
theorem ver_step {S : List Rel} {H : List Pk} {z : Int} {k : Nat} {r : Rel} (h : S[k]? = some r) : verL (S.drop k) H z = verL (S.drop (k + 1)) H z ++ (if (decide (r.1 = z) && openB H r) = true then [r.2.1] else []) := by
  have hk := (List.getElem?_eq_some_iff.1 h).1
  rw [List.drop_eq_getElem_cons hk, (List.getElem?_eq_some_iff.1 h).2]
  unfold verL optL openL
  by_cases hb : openB H r = true
  · rw [List.filter_cons_of_pos hb, List.map_cons]
    by_cases hz : r.1 = z
    · rw [List.filter_cons_of_pos (p := fun p : Pk => decide (p.1 = z)) (a := pkR r) (decide_eq_true hz), List.reverse_cons, List.map_append, if_pos (by rw [hb, decide_eq_true hz]; rfl)]
      rfl
    · rw [List.filter_cons_of_neg (p := fun p : Pk => decide (p.1 = z)) (a := pkR r) (by show ¬ decide (r.1 = z) = true; rw [decide_eq_false hz]; decide), if_neg (by rw [decide_eq_false hz]; simp), List.append_nil]
  · rw [List.filter_cons_of_neg hb, if_neg (by simp [hb]), List.append_nil]

set_option maxRecDepth 100000 in
set_option maxHeartbeats 4000000 in
theorem specOptions_any (u z : Value) (S : List Rel) (D : List Pk) (zz : Int) (w : World) (hl : S.length ≤ 1048576) (hD : D.length ≤ 1048576) (hok : pkOk D = true) (h : RlAt w w.heap.size u S) (h1 : PkAt w w.heap.size z D) :
    Calls Try.prog 90 #[u, z, .int .i64 zz] w fun e w' => ∃ v, e = .returned v ∧ VRow w' w.heap.size v (verL S D zz) ∧ Below w.heap.size w w' := by
  obtain ⟨i0, hi, hz0, hz1, hz2⟩ := info_parts infoVer
  obtain ⟨sa, caps, rfl, h0⟩ := id h
  obtain ⟨da, dc, rfl, hx⟩ := id h1
  clear hx
  have H1 := Lib.hid h1
  have KA : Hid (∀ V x a b c d, PkAt V V.heap.size (.slice da D.length dc) D → Calls Try.prog 44 #[.slice da D.length dc, pick x a b c d] V fun e w' => e = .returned (.bool (heldP D (x, a, b, c, d))) ∧ Below V.heap.size V w') := Lib.hid fun V x a b c d g => l4Held_any _ D x a b c d V hD hok g
  clear h h1
  obtain ⟨w1, hw1⟩ : ∃ V : World, V = w.alloc (.cells #[] 69) := ⟨_, rfl⟩
  have b1 : Below w.heap.size w w1 := by rw [hw1]; exact (Below.refl _ _).alloc (Nat.le_refl _) _
  have v1 : VRow w1 w.heap.size (.slice (some ⟨w.heap.size, 0, none⟩) 0 0) [] := ⟨rfl, .inr ⟨w.heap.size, 0, #[], rfl, Nat.le_refl _, by rw [hw1]; exact heap_alloc_new w _, Nat.le_refl _, by unfold maxLen; omega, rfl, rfl⟩⟩
  have V1 := Lib.hid v1
  have lw : IntKind.i64.wrap ((S.length : Int) - 1) = (S.length : Int) - 1 := IntWalk.i64_in _ (by omega)
  clear v1
  go_enter Try.func90, Try.ntmps90
  go_upto_region 2 with fail
  rw [← hw1]
  clear hw1
  go_wp2_with fail
  go_loopw [7, 8] (fun s7 i wr => ∃ (k : Nat) (L : List V4), k ≤ S.length ∧ i = .int .i64 ((k : Int) - 1) ∧ verL (S.drop k) D zz = L ∧ L.length ≤ S.length - k ∧ VRow wr w.heap.size s7 L ∧ Below w.heap.size w wr) (fun _ i _ => (intOf i + 1).toNat)
  case atStart => exact ⟨S.length, [], Nat.le_refl _, rfl, by rw [List.drop_length]; rfl, Nat.zero_le _, V1.out, b1⟩
  case round =>
    clear V1
    obtain ⟨k, L, hk, rfl, he, hL, hV, hb⟩ := hrel
    have HE := Lib.hid he
    obtain ⟨la, lc, hlf⟩ := hV.form
    subst hlf
    have HV := Lib.hid hV
    have zb := hb.size
    clear he hV
    by_cases hk0 : 0 < k
    · obtain ⟨j, rfl⟩ : ∃ j, k = j + 1 := ⟨k - 1, by omega⟩
      have ej : (((j + 1 : Nat) : Int)) - 1 = (j : Int) := by omega
      rw [ej]
      have hj : j < S.length := by omega
      rcases h0 with h0 | ⟨sb, o, rfl, hB, hc⟩
      · subst h0
        exact absurd hj (by simp)
      obtain ⟨x, a, b, c, d, f, P, hxy⟩ : ∃ x a b c d f P, S[j] = (x, (a, b, c, d), f, P) := ⟨_, _, _, _, _, _, _, rfl⟩
      obtain ⟨⟨r0, r1, r2, r3, r4, r5⟩, na, nc, r6, _⟩ := hc j hj
      rw [hxy] at r0 r1 r2 r3 r4 r5 r6
      simp only at r0 r1 r2 r3 r4 r5 r6
      have e0 := (hb.cell (p := ⟨sb, o + j * 7, none⟩) hB).trans r0
      have e1 := (hb.cell (p := ⟨sb, o + j * 7 + 1, none⟩) hB).trans r1
      have e2 := (hb.cell (p := ⟨sb, o + j * 7 + 2, none⟩) hB).trans r2
      have e3 := (hb.cell (p := ⟨sb, o + j * 7 + 3, none⟩) hB).trans r3
      have e4 := (hb.cell (p := ⟨sb, o + j * 7 + 4, none⟩) hB).trans r4
      have e5 := (hb.cell (p := ⟨sb, o + j * 7 + 5, none⟩) hB).trans r5
      have HST := Lib.hid (ver_step (H := D) (z := zz) (show S[j]? = some (x, (a, b, c, d), f, P) by rw [List.getElem?_eq_getElem hj, hxy]))
      have j0 : (0 : Int) ≤ (j : Int) := by omega
      have j1 : (j : Int) < (S.length : Int) := by omega
      have jw : IntKind.i64.wrap ((j : Int) - 1) = (j : Int) - 1 := IntWalk.i64_in _ (by omega)
      clear hxy r0 r1 r2 r3 r4 r5 r6
      by_cases hz : x = zz
      · have hzb : (x == zz) = true := by simp [hz]
        cases f
        · have HC := Lib.hid (show (decide (x = zz) && openB D (x, (a, b, c, d), false, P)) = true by rw [decide_eq_true hz]; rfl)
          have HVX := HV
          have HBW := Lib.hid hb
          clear hz KA
          go_wp2_with (at_builtin; refine wpList_append_own _ rfl _ _ 133 rfl w.heap.size 69 i0 (.agg #[.int .i64 0, .int .i64 0, .int .i64 0, .int .i64 0]) 4 32 Try.underlying133 hi hz0 hz1 hz2 rfl (by decide) _ _ _ rfl (VRow.below HVX.out ((Below.refl wr.heap.size wr).alloc (Nat.le_refl _) (.cells #[.int .i64 a, .int .i64 b, .int .i64 c, .int .i64 d] 69))) ⟨wr.heap.size, 0, none⟩ 1 1 [.int .i64 a, .int .i64 b, .int .i64 c, .int .i64 d] rfl rfl (ver_new wr a b c d) (ver_one _ _ _ _) (by unfold maxLen; omega) (by omega) (by simp; omega) ?_)
          intro v' w7 hown' hgrow hnn
          have HS := Lib.hid (show VRow w7 w.heap.size v' (L ++ [(a, b, c, d)]) by unfold VRow; rw [vcs_app, List.length_append]; exact hown')
          have HB7 := Lib.hid ((HBW.out.alloc HBW.out.size (.cells #[.int .i64 a, .int .i64 b, .int .i64 c, .int .i64 d] 69)).grown hgrow (Nat.le_trans HBW.out.size (by simp)) (fun k e => by have := (World.ownsRow.lt HVX.out) k e; omega))
          clear hown' hgrow hnn
          go_wp2_with fail
          go_roundw
          case rel => exact ⟨j, L ++ [(a, b, c, d)], by omega, rfl, by rw [HST.out, HE.out, HC.out, if_pos rfl], by simp; omega, HS.out, HB7.out⟩
          case measure => first | (simp [intOf]; done) | (simp [intOf]; omega)
        · have KH : Hid (∀ V, PkAt V V.heap.size (.slice da D.length dc) D → Calls Try.prog 44 #[.slice da D.length dc, pick zz a b c d] V fun e w' => e = .returned (.bool (heldP D (zz, a, b, c, d))) ∧ Below V.heap.size V w') := Lib.hid fun V g => KA.out V zz a b c d g
          have HC0 := Lib.hid (show (decide (x = zz) && openB D (x, (a, b, c, d), true, P)) = heldP D (zz, a, b, c, d) by rw [decide_eq_true hz, hz]; unfold openB pkR; simp)
          have HCE := Lib.hid hz
          clear hz
          rcases hh : heldP D (zz, a, b, c, d)
          all_goals
            rw [hh] at KH
            have HC := Lib.hid (HC0.out.trans hh)
            clear hh
            go_wp2_with fail
            refine (KH.out _ (H1.out.stepAt hb)).mono ?_
            rintro e w4 ⟨rfl, hb4⟩
            have m4 := hb.trans (hb4.mono hb.size)
            have HVX := Lib.hid (VRow.below HV.out hb4)
            have HBW := Lib.hid m4
            have z4 := m4.size
          · clear hb4
            go_wp2_with fail
            go_roundw
            case rel => exact ⟨j, L, by omega, rfl, by rw [HST.out, HE.out, HC.out, if_neg (by decide), List.append_nil], by omega, HVX.out, HBW.out⟩
            case measure => first | (simp [intOf]; done) | (simp [intOf]; omega)
          · have g1 := (hb4.cell (p := ⟨sb, o + j * 7 + 1, none⟩) (by show sb < wr.heap.size; omega)).trans e1
            have g2 := (hb4.cell (p := ⟨sb, o + j * 7 + 2, none⟩) (by show sb < wr.heap.size; omega)).trans e2
            have g3 := (hb4.cell (p := ⟨sb, o + j * 7 + 3, none⟩) (by show sb < wr.heap.size; omega)).trans e3
            have g4 := (hb4.cell (p := ⟨sb, o + j * 7 + 4, none⟩) (by show sb < wr.heap.size; omega)).trans e4
            clear hb4 m4 e0 e1 e2 e3 e4 e5
            go_wp2_with (at_builtin; refine wpList_append_own _ rfl _ _ 133 rfl w.heap.size 69 i0 (.agg #[.int .i64 0, .int .i64 0, .int .i64 0, .int .i64 0]) 4 32 Try.underlying133 hi hz0 hz1 hz2 rfl (by decide) _ _ _ rfl (VRow.below HVX.out ((Below.refl w4.heap.size w4).alloc (Nat.le_refl _) (.cells #[.int .i64 a, .int .i64 b, .int .i64 c, .int .i64 d] 69))) ⟨w4.heap.size, 0, none⟩ 1 1 [.int .i64 a, .int .i64 b, .int .i64 c, .int .i64 d] rfl rfl (ver_new w4 a b c d) (ver_one _ _ _ _) (by unfold maxLen; omega) (by omega) (by simp; omega) ?_)
            intro v' w7 hown' hgrow hnn
            have HS := Lib.hid (show VRow w7 w.heap.size v' (L ++ [(a, b, c, d)]) by unfold VRow; rw [vcs_app, List.length_append]; exact hown')
            have HB7 := Lib.hid ((HBW.out.alloc HBW.out.size (.cells #[.int .i64 a, .int .i64 b, .int .i64 c, .int .i64 d] 69)).grown hgrow (Nat.le_trans HBW.out.size (by simp)) (fun k e => by have := (World.ownsRow.lt HVX.out) k e; omega))
            clear hown' hgrow hnn
            go_wp2_with fail
            go_roundw
            case rel => exact ⟨j, L ++ [(a, b, c, d)], by omega, rfl, by rw [HST.out, HE.out, HC.out, if_pos rfl], by simp; omega, HS.out, HB7.out⟩
            case measure => first | (simp [intOf]; done) | (simp [intOf]; omega)
      · have hzb : (x == zz) = false := by rw [beq_eq_false_iff_ne]; exact hz
        have HC := Lib.hid (show (decide (x = zz) && openB D (x, (a, b, c, d), f, P)) = false by rw [decide_eq_false hz]; rfl)
        have HVX := HV
        clear hz KA
        go_wp2_with fail
        go_roundw
        case rel => exact ⟨j, L, by omega, rfl, by rw [HST.out, HE.out, HC.out, if_neg (by decide), List.append_nil], by omega, HVX.out, hb⟩
        case measure => first | (simp [intOf]; done) | (simp [intOf]; omega)
    · obtain rfl : k = 0 := by omega
      have ej : (((0 : Nat) : Int)) - 1 = -1 := by omega
      rw [ej]
      have HQ := Lib.hid (show VRow wr w.heap.size (.slice la L.length lc) (verL S D zz) by
        have := HV.out
        rwa [← HE.out] at this ⊢)
      go_wp2_with fail
      go_ret
      exact ⟨_, rfl, HQ.out, hb⟩
end Svp
end Go.Proofs.Ytmhamoeibkpnpaa

/- What the model's search keeps from name to name, as plain facts, and what it answers. No condition. -/
namespace Go.Proofs.Ytmhamoeibkpnpaa
open Go.RowKit Go.Sort

namespace Svp
open Foot Copy Nup Cpu Cfa Rch Gof Pof
theorem part_mem {O : List Pk} {z : Int} {x : Pk} : x ∈ partL O z ↔ x ∈ O ∧ z ≤ x.1 := by
  unfold partL
  rw [List.mem_filter, decide_eq_true_eq]
theorem opt_mem {O : List Pk} {z : Int} {x : Pk} : x ∈ optL O z ↔ x ∈ O ∧ x.1 = z := by
  unfold optL
  rw [List.mem_filter, decide_eq_true_eq]
/-- A name is passed by. -/
theorem good_skip {S : List Rel} {H C : List Pk} {z : Int} (hS : shOk S = true) (h : Good S H C (partL (openL S H) z)) : Good S H C (partL (openL S H) (z + 1)) := by
  refine ⟨fun x hx => ?_, h.pk, fun x hx y hy => ?_, (good_start H hS).mono.filter _⟩
  · rcases List.mem_append.1 hx with hx | hx
    · exact h.sub x (List.mem_append_left _ hx)
    · exact (part_mem.1 hx).1
  · have := part_mem.1 hy
    exact h.low x hx y (part_mem.2 ⟨this.1, by omega⟩)
/-- A version of a name is picked. -/
theorem good_next {S : List Rel} {H C : List Pk} {z : Int} (hS : shOk S = true) (h : Good S H C (partL (openL S H) z)) {q : Pk} (hq : q ∈ optL (openL S H) z) : Good S H (C ++ [q]) (partL (openL S H) (z + 1)) := by
  have hq' := opt_mem.1 hq
  have hqp : q ∈ partL (openL S H) z := part_mem.2 ⟨hq'.1, by omega⟩
  have hop := open_ok hS hq'.1
  have hk := good_skip hS h
  refine ⟨fun x hx => ?_, pk_snoc (lo := 0) h.pk (fun x hx => h.low x hx q hqp) hop.1.1 hop.1.2 hop.2, fun x hx y hy => ?_, hk.mono⟩
  · rcases List.mem_append.1 hx with hx | hx
    · rcases List.mem_append.1 hx with hx | hx
      · exact h.sub x (List.mem_append_left _ hx)
      · rw [List.mem_singleton.1 hx]; exact hq'.1
    · exact (part_mem.1 hx).1
  · rcases List.mem_append.1 hx with hx | hx
    · exact hk.low x hx y hy
    · have := part_mem.1 hy
      rw [List.mem_singleton.1 hx]
      omega
/-- The first one found behind some ways that found none, and one more. -/
theorem flat_head {α β : Type} (f : α → List β) {Q : List α} {k : Nat} {q : α} (hq : Q[k]? = some q) (h : (Q.take k).flatMap f = []) : ((Q.take (k + 1)).flatMap f) = f q := by
  rw [List.take_add_one, hq, List.flatMap_append, h]
  simp
theorem flat_found {α β : Type} (f : α → List β) {Q : List α} {k : Nat} {L : β} (h : ((Q.take k).flatMap f).head? = some L) : (Q.flatMap f).head? = some L := by
  have e : Q.flatMap f = (Q.take k).flatMap f ++ (Q.drop k).flatMap f := by rw [← List.flatMap_append, List.take_append_drop]
  rw [e, head_two, h]
  rfl
/-- What the model's search answers from a name on. -/
def SearchPost (z : Nat) (r : Option (List Pk)) (w : World) (e : Ending) (w' : World) : Prop := ∃ v, e = .returned (.tuple #[v, .bool r.isSome]) ∧ (∀ L, r = some L → PB L w.heap.size w'.heap.size v w') ∧ (z ≤ 7 → r = none → PB [] w.heap.size w'.heap.size v w') ∧ Below w.heap.size w w'
end Svp
end Go.Proofs.Ytmhamoeibkpnpaa

/- One step of the model's l5Search, over this seat's translation: where the shorter searches answer the first fine one of what picks can be made up to, this one does; nothing that was there before a call has changed. Condition: the shelf, the needs and what is held are fine; at most 1048576 of each row. -/
namespace Go.Proofs.Ytmhamoeibkpnpaa
open Go.RowKit Go.Sort

namespace Svp
open Foot Copy Nup Cpu Cfa Rch Gof Pof
theorem vcs_at : ∀ (A : List V4) (i : Nat) (h : i < A.length), (vcs A)[i * 4]? = some (.int .i64 A[i].1) ∧ (vcs A)[i * 4 + 1]? = some (.int .i64 A[i].2.1) ∧ (vcs A)[i * 4 + 2]? = some (.int .i64 A[i].2.2.1) ∧ (vcs A)[i * 4 + 3]? = some (.int .i64 A[i].2.2.2)
  | x :: t, 0, _ => ⟨rfl, rfl, rfl, rfl⟩
  | x :: t, i + 1, h => by
    have ih := vcs_at t i (by simpa using h)
    have e : ∀ j, (vcs (x :: t))[(i + 1) * 4 + j]? = (vcs t)[i * 4 + j]? := fun j => by
      show ([Value.int .i64 x.1, .int .i64 x.2.1, .int .i64 x.2.2.1, .int .i64 x.2.2.2] ++ vcs t)[(i + 1) * 4 + j]? = _
      rw [List.getElem?_append_right (by simp; omega)]
      congr 1
      simp
      omega
    have e0 := e 0
    simp only [Nat.add_zero] at e0
    exact ⟨by rw [e0]; exact ih.1, by rw [e 1]; exact ih.2.1, by rw [e 2]; exact ih.2.2.1, by rw [e 3]; exact ih.2.2.2⟩
theorem ver_cells {w : World} {B n m oc k : Nat} {oa : Option Addr} {V : List V4} {a b c d : Int} (h : w.ownsRow B 69 4 (.slice oa m oc) n (vcs V)) (hk : k < V.length) (hV : V[k] = (a, b, c, d)) : ∃ g, oa = some ⟨g, 0, none⟩ ∧ g < w.heap.size ∧ w.cell? ⟨g, k * 4, none⟩ = some (.int .i64 a) ∧ w.cell? ⟨g, k * 4 + 1, none⟩ = some (.int .i64 b) ∧ w.cell? ⟨g, k * 4 + 2, none⟩ = some (.int .i64 c) ∧ w.cell? ⟨g, k * 4 + 3, none⟩ = some (.int .i64 d) := by
  obtain ⟨v0, v1, v2, v3⟩ := vcs_at V k hk
  rw [hV] at v0 v1 v2 v3
  rcases h.2 with ⟨e, h0⟩ | ⟨g, cap, cur, e, hb, hg, rest⟩
  · have := h.1
    rw [vcs_len, h0] at this
    omega
  · simp only [Value.slice.injEq] at e
    obtain ⟨rfl, _, rfl⟩ := e
    have hadd : ∀ j, (⟨g, 0, none⟩ : Addr).add j = ⟨g, j, none⟩ := fun j => by unfold Addr.add; split <;> simp_all
    have cc := fun j u hu => World.ownsRow.cells h (g := g) rfl j u hu
    simp only [hadd] at cc
    exact ⟨g, rfl, (Array.getElem?_eq_some_iff.1 hg).1, cc _ _ v0, cc _ _ v1, cc _ _ v2, cc _ _ v3⟩
theorem own_made {V : World} {B g : Nat} (hg : V.heap[g]? = some (.cells #[] 71 (0, 0))) (hB : B ≤ g) : V.ownsRow B 71 5 (.slice (some ⟨g, 0, none⟩) 0 0) 0 [] :=
  ⟨rfl, .inr ⟨g, 0, #[], rfl, hB, hg, Nat.le_refl _, by unfold maxLen; omega, rfl, rfl⟩⟩

theorem search_row {w : World} {B cap : Nat} {a : Option Addr} {C : List Pk} {x p q r t : Int} (h : w.ownsRow B 71 5 (.slice a (0 + C.length + 1) cap) (0 + C.length + 1) ([] ++ pcl C ++ [.int .i64 x, .int .i64 p, .int .i64 q, .int .i64 r, .int .i64 t])) : KOwn w B (.slice a (0 + C.length + 1) cap) (C ++ [(x, p, q, r, t)]) := KOwn.of h (by simp) (by rw [pcl_app]; rfl)
theorem search_at {w : World} {B cap n : Nat} {a : Option Addr} {L : List Pk} (h : PkAt w B (.slice a (0 + n + 1) cap) L) : PkAt w B (.slice a (n + 1) cap) L := by rwa [Nat.zero_add] at h
theorem own_addr {w : World} {B t s n m c : Nat} {a : Option Addr} {xs : List Value} (h : w.ownsRow B t s (.slice a m c) n xs) (hn : 0 < n) : ∃ b o, a = some ⟨b, o, none⟩ := by
  rcases h.2 with ⟨e, h0⟩ | ⟨g, cap, cur, e, _⟩
  · omega
  · simp only [Value.slice.injEq] at e
    obtain ⟨rfl, _, _⟩ := e
    exact ⟨_, _, rfl⟩

set_option maxRecDepth 100000 in
set_option maxHeartbeats 8000000 in
theorem search_walk (sa na da : Option Addr) (caps ncap dc : Nat) (S : List Rel) (N : List Nd) (D : List Pk) (hS : shOk S = true) (hN : ndOk N = true) (hD : pkOk D = true) (hq : ∀ q ∈ S, q.2.2.2.length ≤ 1048576 ∧ ∀ p ∈ q.2.2.2, p.2.length ≤ 1048576) (hNq : ∀ q ∈ N, q.2.length ≤ 1048576)
    (nm : Nat) (h8 : nm ≤ 8) (C : List Pk) (vc : Value) (w : World)
    (IH : nm < 8 → ∀ (C' : List Pk) (vc' : Value) (w' : World), Good S D C' (partL (openL S D) ((nm : Int) + 1)) → RlAt w' w'.heap.size (.slice sa S.length caps) S → NdAt w' w'.heap.size (.slice na N.length ncap) N → PkAt w' w'.heap.size (.slice da D.length dc) D → PkAt w' w'.heap.size vc' C' → (∃ b o c, vc' = .slice (some ⟨b, o, none⟩) C'.length c) →
      Calls Try.prog 106 #[.slice sa S.length caps, .slice na N.length ncap, .slice da D.length dc, vc', .int .i64 ((nm : Int) + 1)] w' (SearchPost (nm + 1) ((bestL S N D C' (partL (openL S D) ((nm : Int) + 1))).head?) w'))
    (hG : Good S D C (partL (openL S D) (nm : Int))) (h : RlAt w w.heap.size (.slice sa S.length caps) S) (h' : NdAt w w.heap.size (.slice na N.length ncap) N) (h1 : PkAt w w.heap.size (.slice da D.length dc) D) (h2 : PkAt w w.heap.size vc C) (hvc : ∃ b o c, vc = .slice (some ⟨b, o, none⟩) C.length c) :
    Calls Try.prog 106 #[.slice sa S.length caps, .slice na N.length ncap, .slice da D.length dc, vc, .int .i64 (nm : Int)] w (SearchPost nm ((bestL S N D C (partL (openL S D) (nm : Int))).head?) w) := by
  obtain ⟨i0, hi, hz0, hz1, hz2⟩ := info_parts infoPick
  obtain ⟨cb, co, pc, rfl⟩ := hvc
  obtain ⟨pa, hpa⟩ : ∃ pa : Option Addr, pa = some ⟨cb, co, none⟩ := ⟨_, rfl⟩
  rw [← hpa] at h2 ⊢
  have HPA := Lib.hid hpa
  clear hpa
  have hC8 := pk_len hG.pk
  have hS30 := sh_len hS
  have hN5 := nd_len hN
  have hD8 := pk_len hD
  have hThere : ∀ x ∈ C, thereP S x = true := fun x hx => (open_there hS (hG.sub x (List.mem_append_left _ hx))).1
  have KC : Hid (∀ V, RlAt V V.heap.size (.slice sa S.length caps) S → NdAt V V.heap.size (.slice na N.length ncap) N → PkAt V V.heap.size (.slice pa C.length pc) C → Calls Try.prog 88 #[.slice sa S.length caps, .slice na N.length ncap, .slice pa C.length pc, .int .i64 (nm : Int)] V fun e w' => e = .returned (.bool (confB S N C (nm : Int))) ∧ Below V.heap.size V w') := Lib.hid fun V g g' g2 => specConf_any _ _ _ S N C (nm : Int) V hS hq (by omega) hNq (by omega) hG.pk hThere g g' g2
  have KF : Hid (∀ V, RlAt V V.heap.size (.slice sa S.length caps) S → NdAt V V.heap.size (.slice na N.length ncap) N → PkAt V V.heap.size (.slice da D.length dc) D → PkAt V V.heap.size (.slice pa C.length pc) C → Calls Try.prog 89 #[.slice sa S.length caps, .slice na N.length ncap, .slice da D.length dc, .slice pa C.length pc] V fun e w' => e = .returned (.int .i64 (faultF S N D C)) ∧ Below V.heap.size V w') := Lib.hid fun V g g' g2 g3 => specFault_any _ _ _ _ S N D C V (by omega) hq (by omega) hNq (by omega) (by omega) g g' g2 g3
  have H := Lib.hid h
  have H' := Lib.hid h'
  have H1 := Lib.hid h1
  have H2 := Lib.hid h2
  have HIH := Lib.hid IH
  have HGG := Lib.hid hG
  have HCN := Lib.hid (fun hh => conf_none (N := N) (H := D) hS hG (fun y hy => (part_mem.1 hy).2) hh)
  clear h h' h1 h2 IH hThere
  rcases hcf : confB S N C (nm : Int)
  all_goals
    rw [hcf] at KC
    have HCF := Lib.hid hcf
    clear hcf
    go_enter Try.func106, Try.ntmps106
    go_wp2_with fail
    refine (KC.out _ H.out H'.out H2.out).mono ?_
    rintro e w2 ⟨rfl, b2⟩
  rotate_left
  · have HE := Lib.hid (show (bestL S N D C (partL (openL S D) (nm : Int))).head? = none by rw [HCN.out HCF.out]; rfl)
    go_wp2_with fail
    exact bodyPost_ret (v := .tuple #[.slice (some ⟨w2.heap.size, 0, none⟩) 0 0, .bool false]) (by simp [results, Try.results106, go_sem]) rfl ⟨_, by rw [HE.out]; rfl, fun L hL => (by rw [HE.out] at hL; cases hL), fun _ _ => ⟨_, 0, rfl, .inl rfl⟩, b2.trans (((Below.refl _ _).alloc (Nat.le_refl _) _).mono b2.size)⟩
  by_cases hn8 : nm = 8
  · subst hn8
    have HP0 := Lib.hid (part_none (H := D) hS)
    have hgt : decide ((7 : Int) < ((8 : Nat) : Int)) = true := by decide
    have HE := Lib.hid (show (bestL S N D C (partL (openL S D) ((8 : Nat) : Int))).head? = if faultF S N D C = 0 then some C else none by
      rw [show partL (openL S D) ((8 : Nat) : Int) = [] from HP0.out, best_last]
      split <;> rfl)
    have bn : Below w2.heap.size w2 (w2.alloc (.cells #[] 71)) := (Below.refl _ _).alloc (Nat.le_refl _) _
    have HON := Lib.hid (show (w2.alloc (.cells #[] 71)).ownsRow w2.heap.size 71 5 (.slice (some ⟨w2.heap.size, 0, none⟩) 0 0) 0 [] from ⟨rfl, .inr ⟨w2.heap.size, 0, #[], rfl, Nat.le_refl _, heap_alloc_new w2 _, Nat.le_refl _, by unfold maxLen; omega, rfl, rfl⟩⟩)
    obtain ⟨l1, l2, l3⟩ := pk_rows ((H2.out.stepAt b2).stepAt bn)
    have L3 := Lib.hid l3
    have BN := Lib.hid bn
    clear l3 bn
    go_wp2_with (at_builtin; refine Ap2.wpList_append _ rfl (.tmp 24) (.tmp 25) 23 rfl w2.heap.size 71 i0 (.agg #[.int .i64 0, .int .i64 0, .int .i64 0, .int .i64 0, .int .i64 0]) 5 40 Try.underlying23 hi hz0 hz1 hz2 rfl (by decide) _ 0 [] rfl HON.out pa C.length pc (pcl C) (by rfl) l1 l2 L3.out (pcl_ones C) (by unfold maxLen; omega) (by omega) (by first | omega | (simp; done) | (simp; omega)) ?_)
    intro a3 c3 w3 own3 grow3 at3
    have o3 : KOwn w3 w2.heap.size (.slice a3 C.length c3) C := KOwn.of own3 rfl (by simp)
    have n3 : Below w2.heap.size w2 w3 := BN.out.grown grow3 (by simp) (fun k e => (World.ownsRow.lt HON.out k e).1)
    have b3 := b2.trans (n3.mono b2.size)
    have HO3 := Lib.hid o3
    clear own3 grow3 at3 o3 n3
    go_wp2_with fail
    refine (KF.out _ (H.out.stepAt b3) (H'.out.stepAt b3) (H1.out.stepAt b3) (H2.out.stepAt b3)).mono ?_
    rintro e w4 ⟨rfl, hb4⟩
    have b4 := b3.trans (hb4.mono b3.size)
    have HPB := Lib.hid (((KOwn.pb (KOwn.below HO3.out hb4))).mono b2.size)
    obtain ⟨ff, hff⟩ : ∃ ff, faultF S N D C = ff := ⟨_, rfl⟩
    rw [hff] at HE ⊢
    clear hb4 hff HO3
    by_cases hf0 : ff = 0
    · have HE1 := Lib.hid (HE.out.trans (if_pos hf0))
      subst hf0
      go_wp2_with fail
      exact bodyPost_ret (v := .tuple #[.slice a3 C.length c3, .bool true]) (by simp [results, Try.results106, go_sem]) rfl ⟨_, by rw [HE1.out]; rfl, fun L' hL' => (by rw [HE1.out] at hL'; injection hL' with hL'; subst hL'; exact HPB.out), fun h7 _ => by omega, b4⟩
    · have hfb : (ff == 0) = false := by rw [beq_eq_false_iff_ne]; exact hf0
      have HE2 := Lib.hid (HE.out.trans (if_neg hf0))
      clear hf0
      go_wp2_with fail
      exact bodyPost_ret (v := .tuple #[.slice a3 C.length c3, .bool false]) (by simp [results, Try.results106, go_sem]) rfl ⟨_, by rw [HE2.out]; rfl, fun L' hL' => (by rw [HE2.out] at hL'; cases hL'), fun h7 _ => by omega, b4⟩
  · have hgt : decide ((7 : Int) < (nm : Int)) = false := decide_eq_false (by omega)
    have nw : IntKind.i64.wrap ((nm : Int) + 1) = (nm : Int) + 1 := IntWalk.i64_in _ (by omega)
    have HBN := Lib.hid (best_name (S := S) (N := N) (H := D) (c := C) (nm : Int) (good_start D hS).mono)
    go_wp2_with fail
    refine (HIH.out (by omega) C _ _ (good_skip hS HGG.out) (H.out.stepAt b2) (H'.out.stepAt b2) (H1.out.stepAt b2) (H2.out.stepAt b2) ⟨cb, co, pc, by rw [HPA.out]⟩).mono ?_
    rintro e w3 ⟨v3, rfl, hs3, hnn3, hb3⟩
    have b3 := b2.trans (hb3.mono b2.size)
    rcases hr : (bestL S N D C (partL (openL S D) ((nm : Int) + 1))).head? with _ | L
    · have HHR := Lib.hid hr
      obtain ⟨Q, hQ⟩ : ∃ Q, (optL (openL S D) (nm : Int)).reverse = Q := ⟨_, rfl⟩
      have HE0 := Lib.hid (show (bestL S N D C (partL (openL S D) (nm : Int))).head? = (Q.flatMap fun q => bestL S N D (C ++ [q]) (partL (openL S D) ((nm : Int) + 1))).head? by rw [HBN.out, head_two, hr, hQ]; rfl)
      have HQM := Lib.hid (show ∀ q ∈ Q, q ∈ optL (openL S D) (nm : Int) from fun q hq => by rw [← hQ] at hq; exact List.mem_reverse.1 hq)
      have HV := Lib.hid (show verL S D (nm : Int) = Q.map (·.2) by unfold verL; rw [hQ])
      have hQ30 : Q.length ≤ 30 := by
        rw [← hQ, List.length_reverse]
        unfold optL
        exact Nat.le_trans (List.length_filter_le _ _) (Nat.le_trans (open_len S D) hS30)
      clear hs3 hnn3 hb3 hr hQ
      go_wp2_with fail
      refine (specOptions_any _ _ S D (nm : Int) _ (by omega) (by omega) hD (H.out.stepAt b3) (H1.out.stepAt b3)).mono ?_
      rintro e w4 ⟨v4, rfl, vr4, hb4⟩
      have b4 := b3.trans (hb4.mono b3.size)
      rw [HV.out] at vr4
      obtain ⟨oa, oc, rfl⟩ := vr4.form
      have hlm : (Q.map (·.2)).length = Q.length := List.length_map _
      rw [hlm] at vr4 ⊢
      have VR := Lib.hid vr4
      clear vr4 hb4 hlm
      go_wp2_with fail
      go_loopw [15] (fun i wr => ∃ k : Nat, k ≤ Q.length ∧ i = .int .i64 (k : Int) ∧ ((Q.take k).flatMap fun q => bestL S N D (C ++ [q]) (partL (openL S D) ((nm : Int) + 1))) = [] ∧ Below w4.heap.size w4 wr) (fun i _ => Q.length - (intOf i).toNat)
      case atStart => exact ⟨0, Nat.zero_le _, rfl, rfl, Below.refl _ _⟩
      case round =>
        obtain ⟨k, hk, rfl, hno, hb⟩ := hrel
        have HNO := Lib.hid hno
        have br := b4.trans (hb.mono b4.size)
        clear hno
        by_cases hlt : k < Q.length
        · obtain ⟨x, a, b, c, d, hxy⟩ : ∃ x a b c d, Q[k] = (x, a, b, c, d) := ⟨_, _, _, _, _, rfl⟩
          have hqm := HQM.out _ (List.getElem_mem hlt)
          rw [hxy] at hqm
          obtain rfl : x = (nm : Int) := (opt_mem.1 hqm).2
          have HGN := Lib.hid (good_next hS HGG.out hqm)
          have HQK := Lib.hid (show Q[k]? = some ((nm : Int), a, b, c, d) by rw [List.getElem?_eq_getElem hlt, hxy])
          obtain ⟨g, hoa, hgl, s0, s1, s2, s3⟩ := ver_cells (n := (Q.map (·.2)).length) (V := Q.map (·.2)) VR.out (k := k) (a := a) (b := b) (c := c) (d := d) (by simpa using hlt) (by simp [hxy])
          subst hoa
          have u0 := (hb.cell (p := ⟨g, k * 4, none⟩) hgl).trans s0
          have u1 := (hb.cell (p := ⟨g, k * 4 + 1, none⟩) hgl).trans s1
          have u2 := (hb.cell (p := ⟨g, k * 4 + 2, none⟩) hgl).trans s2
          have u3 := (hb.cell (p := ⟨g, k * 4 + 3, none⟩) hgl).trans s3
          have hgr : g < wr.heap.size := Nat.lt_of_lt_of_le hgl hb.size
          have k0 : (0 : Int) ≤ (k : Int) := by omega
          have k1 : (k : Int) < (Q.length : Int) := by omega
          have L1 := Lib.hid (pcl_len C)
          have G1 := Lib.hid (show ∀ V, Below wr.heap.size wr V → ∀ j u, (pcl C)[j]? = some u → V.cell? ((⟨cb, co, none⟩ : Addr).add j) = some u from fun V hV j u hu => (pk_rows ((H2.out.stepAt br).stepAt hV)).2.2 _ HPA.out j u hu)
          have HOA := Lib.hid (show (wr.alloc (.cells #[] 71)).ownsRow wr.heap.size 71 5 (.slice (some ⟨wr.heap.size, 0, none⟩) 0 0) 0 [] from own_made (heap_alloc_new wr _) (Nat.le_refl _))
          have HOB := Lib.hid (HOA.out.alloc (.cells #[.int .i64 (nm : Int), .int .i64 a, .int .i64 b, .int .i64 c, .int .i64 d] 71))
          have HOC := Lib.hid (show ((wr.alloc (.cells #[.int .i64 (nm : Int), .int .i64 a, .int .i64 b, .int .i64 c, .int .i64 d] 71)).alloc (.cells #[] 71)).ownsRow wr.heap.size 71 5 (.slice (some ⟨wr.heap.size + 1, 0, none⟩) 0 0) 0 [] from own_made (by simpa using heap_alloc_new (wr.alloc (.cells #[.int .i64 (nm : Int), .int .i64 a, .int .i64 b, .int .i64 c, .int .i64 d] 71)) (.cells #[] 71)) (by omega))
          have HXB := Lib.hid (show ((wr.alloc (.cells #[] 71)).alloc (.cells #[.int .i64 (nm : Int), .int .i64 a, .int .i64 b, .int .i64 c, .int .i64 d] 71)).heap[wr.heap.size + 1]? = some (.cells #[.int .i64 (nm : Int), .int .i64 a, .int .i64 b, .int .i64 c, .int .i64 d] 71 (0, 0)) by simpa using heap_alloc_new (wr.alloc (.cells #[] 71)) (.cells #[.int .i64 (nm : Int), .int .i64 a, .int .i64 b, .int .i64 c, .int .i64 d] 71))
          have HXC := Lib.hid (show ((wr.alloc (.cells #[.int .i64 (nm : Int), .int .i64 a, .int .i64 b, .int .i64 c, .int .i64 d] 71)).alloc (.cells #[] 71)).heap[wr.heap.size]? = some (.cells #[.int .i64 (nm : Int), .int .i64 a, .int .i64 b, .int .i64 c, .int .i64 d] 71 (0, 0)) from (Below.heap_alloc _ _ _ (by simp)).trans (heap_alloc_new wr _))
          have hn7 : nm < 8 := by omega
          obtain ⟨R, hR⟩ : ∃ R, (bestL S N D (C ++ [((nm : Int), a, b, c, d)]) (partL (openL S D) ((nm : Int) + 1))).head? = R := ⟨_, rfl⟩
          have KX : Hid (∀ V a' n' c', n' = C.length + 1 → RlAt V V.heap.size (.slice sa S.length caps) S → NdAt V V.heap.size (.slice na N.length ncap) N → PkAt V V.heap.size (.slice da D.length dc) D → PkAt V V.heap.size (.slice a' n' c') (C ++ [((nm : Int), a, b, c, d)]) → (∃ b o, a' = some ⟨b, o, none⟩) → Calls Try.prog 106 #[.slice sa S.length caps, .slice na N.length ncap, .slice da D.length dc, .slice a' n' c', .int .i64 ((nm : Int) + 1)] V (SearchPost (nm + 1) R V)) := Lib.hid fun V a' n' c' hn' g1 g2 g3 g4 g5 => by
            subst hn'
            obtain ⟨b', o', rfl⟩ := g5
            have := HIH.out hn7 (C ++ [((nm : Int), a, b, c, d)]) _ V HGN.out g1 g2 g3 g4 ⟨b', o', c', by simp⟩
            rwa [hR] at this
          have HFL := Lib.hid (flat_head (fun q => bestL S N D (C ++ [q]) (partL (openL S D) ((nm : Int) + 1))) HQK.out HNO.out)
          have HRR := Lib.hid hR
          clear hxy hqm s0 s1 s2 s3 hR
          have hpa := HPA.out
          clear HPA
          subst hpa
          go_wp2_with fail
          go_cut [12, 13] from 49 to 76 (fun ov fv wx => ∃ v6, ov = v6 ∧ fv = .bool R.isSome ∧ (∀ L, R = some L → PB L wr.heap.size wx.heap.size v6 wx) ∧ Below wr.heap.size wr wx)
          case first =>
            clear HFL HRR HNO HQK HGN HIH HGG VR HE0 HQM HV HBN KF HCN hS30 hN5 hD8 hQ30
            go_region_held3 (fun V => V.cell? ⟨g, k * 4, none⟩ = some (.int .i64 a) ∧ V.cell? ⟨g, k * 4 + 1, none⟩ = some (.int .i64 b) ∧ V.cell? ⟨g, k * 4 + 2, none⟩ = some (.int .i64 c) ∧ V.cell? ⟨g, k * 4 + 3, none⟩ = some (.int .i64 d)) (go_keep)
              (first
                | (refine step_append_rows _ rfl (.tmp 59) (.tmp 60) 23 rfl wr.heap.size 71 i0 (.agg #[.int .i64 0, .int .i64 0, .int .i64 0, .int .i64 0, .int .i64 0]) 5 40 Try.underlying23 hi hz0 hz1 hz2 rfl (by decide) _ _ [] (by rfl) (by first | exact HOA.out | exact HOB.out | exact HOC.out) (some ⟨cb, co, none⟩) C.length pc (pcl C) (by rfl) L1.out (fun e => by cases e) (fun ad e j u hu => by cases e; exact G1.out _ (by go_grown) j u hu) (pcl_ones C) (by unfold maxLen; omega) (by omega) (by first | omega | (simp; done) | (simp; omega)) ?_; intro a4 c4 x4 hown4 hgrow4 hat4; have n4 : Below wr.heap.size wr x4 := Below.grown (by go_grown) hgrow4 (by first | omega | (simp; done) | (simp; omega)) (fun k' e => by first | (have e' : some wr.heap.size = some k' := e; injection e' with e'; omega) | (have e' : some (wr.heap.size + 1) = some k' := e; injection e' with e'; omega)); have z4 := n4.size; have r40 := (n4.cell (p := ⟨g, k * 4, none⟩) (by show g < wr.heap.size; omega)).trans u0; have r41 := (n4.cell (p := ⟨g, k * 4 + 1, none⟩) (by show g < wr.heap.size; omega)).trans u1; have r42 := (n4.cell (p := ⟨g, k * 4 + 2, none⟩) (by show g < wr.heap.size; omega)).trans u2; have r43 := (n4.cell (p := ⟨g, k * 4 + 3, none⟩) (by show g < wr.heap.size; omega)).trans u3; (try (have X4 : x4.heap[wr.heap.size + 1]? = some (.cells #[.int .i64 (nm : Int), .int .i64 a, .int .i64 b, .int .i64 c, .int .i64 d] 71 (0, 0)) := (hgrow4.block _ (by simp) (by intro e; have e' : some (wr.heap.size + 1) = some wr.heap.size := e; simp at e')).trans HXB.out)); (try (have X4 : x4.heap[wr.heap.size]? = some (.cells #[.int .i64 (nm : Int), .int .i64 a, .int .i64 b, .int .i64 c, .int .i64 d] 71 (0, 0)) := (hgrow4.block _ (by simp; omega) (by intro e; have e' : some wr.heap.size = some (wr.heap.size + 1) := e; simp at e')).trans HXC.out)))
                | (refine step_append_rows _ rfl (.tmp 61) (.tmp 68) 23 rfl wr.heap.size 71 i0 (.agg #[.int .i64 0, .int .i64 0, .int .i64 0, .int .i64 0, .int .i64 0]) 5 40 Try.underlying23 hi hz0 hz1 hz2 rfl (by decide) (.slice a4 (0 + C.length) c4) (0 + C.length) ([] ++ pcl C) (by first | rfl | (rw [Nat.zero_add]; rfl) | (simp only [Nat.zero_add]; rfl) | simp [Act.eval]) (by first | exact hown4 | exact hown4.alloc _) _ 1 1 [.int .i64 (nm : Int), .int .i64 a, .int .i64 b, .int .i64 c, .int .i64 d] (by rfl) rfl (fun e => by cases e) (fun ad e j u hu => by cases e; first | exact World.news_of_block X4 j u hu | exact pick_new x4 (nm : Int) a b c d j u hu) (pick_one _ _ _ _ _) (by unfold maxLen; omega) (by omega) (by first | omega | (simp; done) | (simp; omega)) ?_; intro a5 c5 x5 hown5 hgrow5 hat5; have n5 : Below wr.heap.size wr x5 := Below.grown (by go_grown) hgrow5 (by first | omega | (simp; done) | (simp; omega)) (fun k' e => (World.ownsRow.lt hown4 k' e).1); have z5 := n5.size; have A5 := Lib.hid (own_addr hown5 (by omega)); have PK5 := Lib.hid (KOwn.pb (search_row hown5)).at; have r50 := (n5.cell (p := ⟨g, k * 4, none⟩) (by show g < wr.heap.size; omega)).trans u0; have r51 := (n5.cell (p := ⟨g, k * 4 + 1, none⟩) (by show g < wr.heap.size; omega)).trans u1; have r52 := (n5.cell (p := ⟨g, k * 4 + 2, none⟩) (by show g < wr.heap.size; omega)).trans u2; have r53 := (n5.cell (p := ⟨g, k * 4 + 3, none⟩) (by show g < wr.heap.size; omega)).trans u3; skip)
                | (go_at_call 106; refine (KX.out _ a5 (C.length + 1) c5 rfl (H.out.stepAt (br.trans (n5.mono br.size))) (H'.out.stepAt (br.trans (n5.mono br.size))) (H1.out.stepAt (br.trans (n5.mono br.size))) (search_at PK5.out) A5.out).mono ?_; rintro e x6 ⟨v6, rfl, hs6, hnn6, hb6⟩; have n6 : Below wr.heap.size wr x6 := n5.trans (hb6.mono n5.size); have r60 := (n6.cell (p := ⟨g, k * 4, none⟩) (by show g < wr.heap.size; omega)).trans u0; have r61 := (n6.cell (p := ⟨g, k * 4 + 1, none⟩) (by show g < wr.heap.size; omega)).trans u1; have r62 := (n6.cell (p := ⟨g, k * 4 + 2, none⟩) (by show g < wr.heap.size; omega)).trans u2; have r63 := (n6.cell (p := ⟨g, k * 4 + 3, none⟩) (by show g < wr.heap.size; omega)).trans u3; skip)
                | fail)
            all_goals
              have HS6 := Lib.hid (fun L (hL : R = some L) => (hs6 L hL).mono z5)
              have N6 := Lib.hid n6
              clear hs6 hnn6 hb6
              go_wp2_with fail
              go_meet
              case rel => exact ⟨_, rfl, rfl, HS6.out, N6.out⟩
          case rest =>
          rename World => w6
          obtain ⟨v6, rfl, rfl, hs6, n6⟩ := hcut
          have br6 := br.trans (n6.mono br.size)
          have bw6 := hb.trans (n6.mono hb.size)
          rcases R with _ | L
          · have HNE := Lib.hid (show ((Q.take (k + 1)).flatMap fun q => bestL S N D (C ++ [q]) (partL (openL S D) ((nm : Int) + 1))) = [] by rw [HFL.out]; exact List.head?_eq_none_iff.1 HRR.out)
            clear hs6
            go_wp2_with fail
            go_roundw
            case rel => exact ⟨k + 1, by omega, by go_num, HNE.out, bw6⟩
            case measure => simp [intOf]; omega
          · have HE := Lib.hid (show (bestL S N D C (partL (openL S D) (nm : Int))).head? = some L by rw [HE0.out]; exact flat_found _ (k := k + 1) (by rw [HFL.out]; exact HRR.out))
            obtain ⟨za, zc, hv6, hzz⟩ := id (hs6 L rfl)
            have HPB := Lib.hid ((hs6 L rfl).mono br.size)
            subst hv6
            clear hs6 hzz
            go_wp2_with fail
            exact bodyPost_ret (v := .tuple #[.slice za L.length zc, .bool true]) (by simp [results, Try.results106, go_sem]) rfl ⟨_, by rw [HE.out]; rfl, fun L' hL' => (by rw [HE.out] at hL'; injection hL' with hL'; subst hL'; exact HPB.out), fun _ hx => (by rw [HE.out] at hx; cases hx), br6⟩
        · obtain rfl : k = Q.length := by omega
          have HF := Lib.hid (show (bestL S N D C (partL (openL S D) (nm : Int))).head? = none by rw [HE0.out]; have := HNO.out; rw [List.take_length] at this; rw [this]; rfl)
          go_wp2_with fail
          exact bodyPost_ret (v := .tuple #[.slice (some ⟨wr.heap.size, 0, none⟩) 0 0, .bool false]) (by simp [results, Try.results106, go_sem]) rfl ⟨_, by rw [HF.out]; rfl, fun L hL => (by rw [HF.out] at hL; cases hL), fun _ _ => ⟨_, 0, rfl, .inl rfl⟩, br.trans (((Below.refl _ _).alloc (Nat.le_refl _) _).mono br.size)⟩
    · have HE := Lib.hid (show (bestL S N D C (partL (openL S D) (nm : Int))).head? = some L by rw [HBN.out, head_two, hr]; rfl)
      obtain ⟨za, zc, rfl, hzz⟩ := id (hs3 L hr)
      have HPB := Lib.hid ((hs3 L hr).mono b2.size)
      clear hs3 hnn3 hr hzz
      go_wp2_with fail
      exact bodyPost_ret (v := .tuple #[.slice za L.length zc, .bool true]) (by simp [results, Try.results106, go_sem]) rfl ⟨_, by rw [HE.out]; rfl, fun L' hL' => (by rw [HE.out] at hL'; injection hL' with hL'; subst hL'; exact HPB.out), fun _ hx => (by rw [HE.out] at hx; cases hx), b3⟩
end Svp
end Go.Proofs.Ytmhamoeibkpnpaa

/- The contract of the model's Solve, over this seat's translation: the first one of all choices that are fine, in memory of its own, and true, or none; nothing that was there before a call has changed. Condition: at most 1048576 of each row and of what is in it. -/
namespace Go.Proofs.Ytmhamoeibkpnpaa
open Go.RowKit Go.Sort

namespace Svp
open Foot Copy Nup Cpu Cfa Rch Gof Pof
theorem search_any (sa na da : Option Addr) (caps ncap dc : Nat) (S : List Rel) (N : List Nd) (D : List Pk) (hS : shOk S = true) (hN : ndOk N = true) (hD : pkOk D = true) (hq : ∀ q ∈ S, q.2.2.2.length ≤ 1048576 ∧ ∀ p ∈ q.2.2.2, p.2.length ≤ 1048576) (hNq : ∀ q ∈ N, q.2.length ≤ 1048576) :
    ∀ (m nm : Nat), nm + m = 8 → ∀ (C : List Pk) (vc : Value) (w : World), Good S D C (partL (openL S D) (nm : Int)) → RlAt w w.heap.size (.slice sa S.length caps) S → NdAt w w.heap.size (.slice na N.length ncap) N → PkAt w w.heap.size (.slice da D.length dc) D → PkAt w w.heap.size vc C → (∃ b o c, vc = .slice (some ⟨b, o, none⟩) C.length c) →
      Calls Try.prog 106 #[.slice sa S.length caps, .slice na N.length ncap, .slice da D.length dc, vc, .int .i64 (nm : Int)] w (SearchPost nm ((bestL S N D C (partL (openL S D) (nm : Int))).head?) w)
  | 0, nm, he, C, vc, w, hG, h, h', h1, h2, hvc => search_walk sa na da caps ncap dc S N D hS hN hD hq hNq nm (by omega) C vc w (fun hlt => absurd hlt (by omega)) hG h h' h1 h2 hvc
  | m + 1, nm, he, C, vc, w, hG, h, h', h1, h2, hvc => search_walk sa na da caps ncap dc S N D hS hN hD hq hNq nm (by omega) C vc w (fun _ C' vc' w' g1 g2 g3 g4 g5 g6 => by
      have := search_any sa na da caps ncap dc S N D hS hN hD hq hNq m (nm + 1) (by omega) C' vc' w' (by rw [show ((nm + 1 : Nat) : Int) = (nm : Int) + 1 from rfl]; exact g1) g2 g3 g4 g5 g6
      rwa [show ((nm + 1 : Nat) : Int) = (nm : Int) + 1 from rfl] at this) hG h h' h1 h2 hvc

set_option maxRecDepth 100000 in
set_option maxHeartbeats 2000000 in
theorem specSolve_any (v u y : Value) (S : List Rel) (N : List Nd) (D : List Pk) (w : World) (hl : S.length ≤ 1048576) (hq : ∀ q ∈ S, q.2.2.2.length ≤ 1048576 ∧ ∀ p ∈ q.2.2.2, p.2.length ≤ 1048576) (hN : N.length ≤ 1048576) (hNq : ∀ q ∈ N, q.2.length ≤ 1048576) (hD : D.length ≤ 1048576) (h : RlAt w w.heap.size v S) (h' : NdAt w w.heap.size u N) (h1 : PkAt w w.heap.size y D) :
    Calls Try.prog 77 #[v, u, y] w (SolvePost (solveL S N D) w) := by
  obtain ⟨sa, caps, rfl, hx1⟩ := id h
  obtain ⟨na, ncap, rfl, hx2⟩ := id h'
  obtain ⟨da, dc, rfl, hx3⟩ := id h1
  clear hx1 hx2 hx3
  have H := Lib.hid h
  have H' := Lib.hid h'
  have H1 := Lib.hid h1
  have KS : Hid (∀ V, RlAt V V.heap.size (.slice sa S.length caps) S → Calls Try.prog 51 #[.slice sa S.length caps] V fun e w' => e = .returned (.bool (shOk S)) ∧ Below V.heap.size V w') := Lib.hid fun V g => specShelfOk_any _ S V hl hq g
  have KN : Hid (∀ V, NdAt V V.heap.size (.slice na N.length ncap) N → Calls Try.prog 52 #[.slice na N.length ncap] V fun e w' => e = .returned (.bool (ndOk N)) ∧ Below V.heap.size V w') := Lib.hid fun V g => specNeedsOk_any _ N V hN hNq g
  have KC : Hid (∀ V, PkAt V V.heap.size (.slice da D.length dc) D → Calls Try.prog 42 #[.slice da D.length dc] V fun e w' => e = .returned (.bool (pkOk D)) ∧ Below V.heap.size V w') := Lib.hid fun V g => specPicksOk_any _ D V hD g
  clear h h' h1
  have pb0 : ∀ (B Z : Nat) (W : World) (a : Option Addr), PB [] B Z (.slice a 0 0) W := fun B Z W a => ⟨a, 0, rfl, .inl rfl⟩
  have PB0 := Lib.hid pb0
  clear pb0
  rcases hs : shOk S
  · rw [hs] at KS
    have HE := Lib.hid (show solveL S N D = none by unfold solveL; rw [hs]; rfl)
    clear hs KN KC
    go_enter Try.func77, Try.ntmps77
    go_wp2_with fail
    refine (KS.out _ H.out).mono ?_
    rintro e w2 ⟨rfl, b2⟩
    go_wp2_with fail
    exact bodyPost_ret (v := .tuple #[.slice (some ⟨w2.heap.size, 0, none⟩) 0 0, .bool false]) (by simp [results, Try.results77, go_sem]) rfl ⟨_, by rw [HE.out]; rfl, by rw [HE.out]; exact PB0.out _ _ _ _, b2.trans (((Below.refl _ _).alloc (Nat.le_refl _) _).mono b2.size)⟩
  rcases hn : ndOk N
  · rw [hs] at KS
    rw [hn] at KN
    have HE := Lib.hid (show solveL S N D = none by unfold solveL; rw [hs, hn]; rfl)
    clear hs hn KC
    go_enter Try.func77, Try.ntmps77
    go_wp2_with fail
    refine (KS.out _ H.out).mono ?_
    rintro e w2 ⟨rfl, b2⟩
    go_wp2_with fail
    refine (KN.out _ (H'.out.stepAt b2)).mono ?_
    rintro e w3 ⟨rfl, hb⟩
    have b3 := b2.trans (hb.mono b2.size)
    clear hb
    go_wp2_with fail
    exact bodyPost_ret (v := .tuple #[.slice (some ⟨w3.heap.size, 0, none⟩) 0 0, .bool false]) (by simp [results, Try.results77, go_sem]) rfl ⟨_, by rw [HE.out]; rfl, by rw [HE.out]; exact PB0.out _ _ _ _, b3.trans (((Below.refl _ _).alloc (Nat.le_refl _) _).mono b3.size)⟩
  rcases hc : pkOk D
  · rw [hs] at KS
    rw [hn] at KN
    rw [hc] at KC
    have HE := Lib.hid (show solveL S N D = none by unfold solveL; rw [hs, hn, hc]; rfl)
    clear hs hn hc
    go_enter Try.func77, Try.ntmps77
    go_wp2_with fail
    refine (KS.out _ H.out).mono ?_
    rintro e w2 ⟨rfl, b2⟩
    go_wp2_with fail
    refine (KN.out _ (H'.out.stepAt b2)).mono ?_
    rintro e w3 ⟨rfl, hb⟩
    have b3 := b2.trans (hb.mono b2.size)
    clear hb
    go_wp2_with fail
    refine (KC.out _ (H1.out.stepAt b3)).mono ?_
    rintro e w4 ⟨rfl, hb⟩
    have b4 := b3.trans (hb.mono b3.size)
    clear hb
    go_wp2_with fail
    exact bodyPost_ret (v := .tuple #[.slice (some ⟨w4.heap.size, 0, none⟩) 0 0, .bool false]) (by simp [results, Try.results77, go_sem]) rfl ⟨_, by rw [HE.out]; rfl, by rw [HE.out]; exact PB0.out _ _ _ _, b4.trans (((Below.refl _ _).alloc (Nat.le_refl _) _).mono b4.size)⟩
  have hp0 : partL (openL S D) ((0 : Nat) : Int) = openL S D := part_all hs
  obtain ⟨R, hR⟩ : ∃ R, solveL S N D = R := ⟨_, rfl⟩
  have hsr : (bestL S N D [] (openL S D)).head? = R := by rw [← hR]; unfold solveL; rw [hs, hn, hc]; rfl
  have KL : Hid (∀ V g, RlAt V V.heap.size (.slice sa S.length caps) S → NdAt V V.heap.size (.slice na N.length ncap) N → PkAt V V.heap.size (.slice da D.length dc) D → Calls Try.prog 106 #[.slice sa S.length caps, .slice na N.length ncap, .slice da D.length dc, .slice (some ⟨g, 0, none⟩) 0 0, .int .i64 0] V (SearchPost 0 R V)) := Lib.hid fun V g g1 g2 g3 => by
    have := search_any sa na da caps ncap dc S N D hs hn hc hq hNq 8 0 rfl [] (.slice (some ⟨g, 0, none⟩) 0 0) V (by rw [hp0]; exact good_start D hs) g1 g2 g3 ⟨_, _, rfl, .inl rfl⟩ ⟨g, 0, 0, rfl⟩
    rw [hp0, hsr] at this
    exact this
  rw [hs] at KS
  rw [hn] at KN
  rw [hc] at KC
  rw [hR]
  clear hs hn hc hR hsr hp0
  go_enter Try.func77, Try.ntmps77
  go_wp2_with fail
  refine (KS.out _ H.out).mono ?_
  rintro e w2 ⟨rfl, b2⟩
  go_wp2_with fail
  refine (KN.out _ (H'.out.stepAt b2)).mono ?_
  rintro e w3 ⟨rfl, hb⟩
  have b3 := b2.trans (hb.mono b2.size)
  clear hb
  go_wp2_with fail
  refine (KC.out _ (H1.out.stepAt b3)).mono ?_
  rintro e w4 ⟨rfl, hb⟩
  have b4 := b3.trans (hb.mono b3.size)
  clear hb
  have b5 : Below w.heap.size w (w4.alloc (.cells #[] 71)) := b4.trans (((Below.refl _ _).alloc (Nat.le_refl _) _).mono b4.size)
  go_wp2_with fail
  refine (KL.out _ _ (H.out.stepAt b5) (H'.out.stepAt b5) (H1.out.stepAt b5)).mono ?_
  rintro e w6 ⟨v6, rfl, hs6, hn6, hb⟩
  have b6 := b5.trans (hb.mono b5.size)
  have HPB : PB (R.getD []) w.heap.size w6.heap.size v6 w6 := by
    rcases R with _ | L
    · exact (hn6 (by omega) rfl).mono b5.size
    · exact (hs6 L rfl).mono b5.size
  have HP := Lib.hid HPB
  obtain ⟨za, zc, rfl, hzz⟩ := id HPB
  clear hs6 hn6 HPB hzz hb
  go_wp2_with fail
  exact bodyPost_ret (v := .tuple #[.slice za (R.getD []).length zc, .bool R.isSome]) (by simp [results, Try.results77, go_sem]) rfl ⟨_, rfl, HP.out, b6⟩
end Svp
end Go.Proofs.Ytmhamoeibkpnpaa
