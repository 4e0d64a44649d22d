/- Contracts of Least, the program's and the model's, over this seat's translation: the newest version of each name of what comes up, as the plain functions leL and lvB tell it; nothing that was there before the call has changed. Condition: at most 1048576 releases, needs, needs of each release, and spans of those. -/
import Derived.Test.YtgnjhmmedogcoaaLsw
import Derived.Test.YtgnjhmmedogcoaaPkmk
import Derived.WalkSmall
import Derived.Deep.RegionHeld3
namespace Go.Proofs.Ytgnjhmmedogcoaa
open Go.RowKit Go.Sort

namespace Lst
open Nup Foot Copy Cpu
abbrev pkR (x : Rel) : Pk := (x.1, x.2.1)
/-- The last ones of each name. -/
def lastOf : List Rel → List Pk
  | [] => []
  | x :: t => (match t with
    | [] => [pkR x]
    | y :: _ => if y.1 = x.1 then [] else [pkR x]) ++ lastOf t
def relsAt (S : List Rel) (P : List Int) : List Rel := P.filterMap fun z => S[z.toNat]?
def leL (S : List Rel) (N : List Nd) : List Pk := lastOf (relsAt S (lvL S N))
theorem lastOf_len : ∀ R : List Rel, (lastOf R).length ≤ R.length
  | [] => Nat.le_refl _
  | x :: t => by
    have h1 := lastOf_len t
    have h2 : ∀ A : List Pk, A.length ≤ 1 → (A ++ lastOf t).length ≤ (x :: t).length := fun A hA => by
      rw [List.length_append, List.length_cons]; omega
    unfold lastOf
    refine h2 _ ?_
    split
    · simp
    · split <;> simp
theorem relsAt_len (S : List Rel) (P : List Int) : (relsAt S P).length ≤ P.length := List.length_filterMap_le _ _
theorem leL_len (S : List Rel) (N : List Nd) : (leL S N).length ≤ 30 := Nat.le_trans (lastOf_len _) (Nat.le_trans (relsAt_len _ _) lvL_small)
theorem relsAt_at {S : List Rel} : ∀ (P : List Int), (∀ z ∈ P, ∃ m : Nat, z = (m : Int) ∧ m < S.length) → (relsAt S P).length = P.length ∧ ∀ (i m : Nat), P[i]? = some (m : Int) → (relsAt S P)[i]? = S[m]?
  | [], _ => ⟨rfl, fun i m h => by simp at h⟩
  | z :: t, h => by
    obtain ⟨m, rfl, hm⟩ := h z (List.mem_cons_self ..)
    obtain ⟨h1, h2⟩ := relsAt_at t fun y hy => h y (List.mem_cons_of_mem _ hy)
    have e : relsAt S ((m : Int) :: t) = S[m] :: relsAt S t := by
      unfold relsAt
      rw [List.filterMap_cons, Int.toNat_natCast, List.getElem?_eq_getElem hm]
    rw [e]
    refine ⟨by simp [h1], fun i m' hi => ?_⟩
    cases i with
    | zero =>
      simp only [List.getElem?_cons_zero, Option.some.injEq] at hi
      obtain rfl : m = m' := by omega
      rw [List.getElem?_eq_getElem hm]
      rfl
    | succ i => exact h2 i m' (by simpa using hi)
theorem lv_places {S : List Rel} {N : List Nd} : ∀ z ∈ lvL S N, ∃ m : Nat, z = (m : Int) ∧ m < S.length := fun z hz => by
  unfold lvL at hz
  split at hz
  · split at hz
    · simp at hz
    · obtain ⟨m, h1, h2, _⟩ := (plTo_mem _ _ _).1 hz
      exact ⟨m, h1, h2⟩
  · simp at hz
theorem lastOf_end {R : List Rel} {k : Nat} {x : Rel} (hx : R[k]? = some x) (hl : k + 1 = R.length) : lastOf (R.drop k) = [pkR x] ++ lastOf (R.drop (k + 1)) := by
  have hk : k < R.length := by omega
  rw [List.drop_eq_getElem_cons hk, (List.getElem?_eq_some_iff.1 hx).2, List.drop_of_length_le (by omega)]
  rfl
theorem lastOf_next {R : List Rel} {k : Nat} {x y : Rel} (hx : R[k]? = some x) (hy : R[k + 1]? = some y) : lastOf (R.drop k) = (if y.1 = x.1 then [] else [pkR x]) ++ lastOf (R.drop (k + 1)) := by
  have hk : k < R.length := (List.getElem?_eq_some_iff.1 hx).1
  have hk' : k + 1 < R.length := (List.getElem?_eq_some_iff.1 hy).1
  rw [List.drop_eq_getElem_cons hk, (List.getElem?_eq_some_iff.1 hx).2, List.drop_eq_getElem_cons hk', (List.getElem?_eq_some_iff.1 hy).2]
  rfl
/-- What Least answers. -/
def LePost (S : List Rel) (N : List Nd) (w : World) (e : Ending) (w' : World) : Prop :=
  ∃ v, e = .returned (.tuple #[v, .bool (lvB S N)]) ∧ PB (leL S N) w.heap.size w'.heap.size v w' ∧ Below w.heap.size w w'
theorem pb_nil (lo hi : Nat) (w : World) {a : Option Addr} {c : Nat} : PB [] lo hi (.slice a 0 c) w := ⟨a, c, rfl, .inl rfl⟩
def LxRel (R : List Rel) (w3 : World) (v i : Value) (wr : World) : Prop :=
  ∃ (k : Nat) (G : List Pk), k ≤ R.length ∧ i = .int .i64 (k : Int) ∧ lastOf R = G ++ lastOf (R.drop k) ∧ G.length ≤ k ∧ KOwn wr w3.heap.size v G ∧ Below w3.heap.size w3 wr
theorem lx_yes {R : List Rel} {w3 wr : World} {k : Nat} {x : Rel} {G : List Pk} {v : Value} (hk : k < R.length) (he : lastOf R = G ++ lastOf (R.drop k)) (hl : G.length ≤ k) (hs : lastOf (R.drop k) = [pkR x] ++ lastOf (R.drop (k + 1))) (ho : KOwn wr w3.heap.size v (G ++ [pkR x])) (hb : Below w3.heap.size w3 wr) :
    LxRel R w3 v (.int .i64 ((k : Int) + 1)) wr :=
  ⟨k + 1, G ++ [pkR x], by omega, by go_num, by rw [he, hs, List.append_assoc], by simp; omega, ho, hb⟩
theorem lx_no {R : List Rel} {w3 wr : World} {k : Nat} {G : List Pk} {v : Value} (hk : k < R.length) (he : lastOf R = G ++ lastOf (R.drop k)) (hl : G.length ≤ k) (hs : lastOf (R.drop k) = lastOf (R.drop (k + 1))) (ho : KOwn wr w3.heap.size v G) (hb : Below w3.heap.size w3 wr) :
    LxRel R w3 v (.int .i64 ((k : Int) + 1)) wr :=
  ⟨k + 1, G, by omega, by go_num, by rw [he, hs], by omega, ho, hb⟩

set_option maxRecDepth 100000 in
set_option maxHeartbeats 8000000 in
theorem implLeast_any (v u : Value) (S : List Rel) (N : List Nd) (w : World) (hl : S.length ≤ 1048576) (hq : ∀ q ∈ S, q.2.2.2.length ≤ 1048576 ∧ ∀ p ∈ q.2.2.2, p.2.length ≤ 1048576) (hN : N.length ≤ 1048576) (hNq : ∀ q ∈ N, q.2.length ≤ 1048576) (h : RlAt w w.heap.size v S) (h' : NdAt w w.heap.size u N) :
    Calls Try.prog 24 #[v, u] w (LePost S N w) := by
  obtain ⟨i0, hi, hz0, hz1, hz2⟩ := info_parts infoPick
  obtain ⟨sa, caps, rfl, h0⟩ := id h
  obtain ⟨na, ncap, rfl, hy⟩ := id h'
  clear hy
  have KV := Lib.hid (implLeastVisit_any _ _ S N w hl hq hN hNq h h')
  have HX := Lib.hid h0
  clear h h' h0
  unfold LvPost at KV
  rcases hb : lvB S N
  · rw [hb] at KV
    have HE := Lib.hid (show leL S N = [] by unfold leL; rw [lvL_no hb]; rfl)
    have HB := Lib.hid hb
    clear hb
    go_enter Try.func24, Try.ntmps24
    go_wp2_with fail
    refine KV.out.mono ?_
    rintro e w3 ⟨v3, rfl, ib3, b3⟩
    obtain ⟨pa, pc, rfl, hx⟩ := id ib3
    clear hx ib3
    go_wp2_with fail
    refine bodyPost_ret (v := .tuple #[.slice none 0 0, .bool false]) (by simp [results, Try.results24, go_sem]) rfl ?_
    exact ⟨_, by rw [HB.out], by rw [HE.out]; exact pb_nil _ _ _, b3⟩
  have HB := Lib.hid hb
  rw [hb] at KV
  clear hb
  obtain ⟨P, hP⟩ : ∃ P, lvL S N = P := ⟨_, rfl⟩
  have HPL := Lib.hid (lv_places (S := S) (N := N))
  have hPl : P.length ≤ 30 := by rw [← hP]; exact lvL_small
  have HLE := Lib.hid (show leL S N = lastOf (relsAt S P) by unfold leL; rw [hP])
  rw [hP] at KV HPL
  clear hP
  obtain ⟨R, hR⟩ : ∃ R, relsAt S P = R := ⟨_, rfl⟩
  have HR := Lib.hid (relsAt_at P HPL.out)
  rw [hR] at HLE HR
  clear hR
  have hRl := HR.out.1
  go_enter Try.func24, Try.ntmps24
  go_wp2_with fail
  refine KV.out.mono ?_
  rintro e w3 ⟨v3, rfl, ib3, b3⟩
  obtain ⟨pa, pc, rfl, hx⟩ := id ib3
  have HPN := Lib.hid ib3.at
  have z3 := b3.size
  clear hx ib3
  go_wp2_with fail
  go_loopw [8, 21] (fun v i wr => LxRel R w3 v i wr) (fun _ i _ => P.length - (intOf i).toNat)
  case atStart => exact ⟨0, [], Nat.zero_le _, rfl, rfl, Nat.le_refl _, World.ownsRow_nil _ _ _ _, Below.refl _ _⟩
  case round =>
    obtain ⟨k, G, hk, rfl, he, hGl, hown, hb⟩ := hrel
    obtain ⟨va, vc, hv, hx⟩ := id (KOwn.pb hown).at
    subst hv
    clear hx
    have HE := Lib.hid he
    have HO := Lib.hid hown
    clear he hown
    have zb := hb.size
    have bw : Below w.heap.size w wr := b3.trans (hb.mono z3)
    by_cases hlt : k < P.length
    · obtain ⟨pb, po, hpa, hpB, hpc⟩ : ∃ b o, pa = some ⟨b, o, none⟩ ∧ b < w3.heap.size ∧ ∀ i (h : i < P.length), w3.cell? ⟨b, o + i, none⟩ = some (.int .i64 P[i]) := by
        obtain ⟨a', c', e', hh⟩ := HPN.out
        simp only [Value.slice.injEq] at e'
        obtain ⟨rfl, _, _⟩ := e'
        rcases hh with hh | hh
        · rw [hh] at hlt; simp at hlt
        · exact hh
      subst hpa
      obtain ⟨m, hm, hmS⟩ := HPL.out _ (List.getElem_mem hlt)
      have c0 := (hb.cell (p := ⟨pb, po + k, none⟩) hpB).trans (hpc k hlt)
      rw [hm] at c0
      obtain ⟨b, o, hsa, hB, hc⟩ : ∃ b o, sa = some ⟨b, o, none⟩ ∧ b < w.heap.size ∧ ∀ i (h : i < S.length), RlC w w.heap.size b (o + i * 7) S[i] := by
        rcases HX.out with hh | hh
        · rw [hh] at hmS; simp at hmS
        · exact hh
      subst hsa
      obtain ⟨x, a1, b1, c1, d1, f1, M1, hxy⟩ : ∃ x a b c d f M, S[m] = (x, (a, b, c, d), f, M) := ⟨_, _, _, _, _, _, _, rfl⟩
      have HXR := Lib.hid (show R[k]? = some (x, (a1, b1, c1, d1), f1, M1) by
        have := HR.out.2 k m (by rw [List.getElem?_eq_getElem hlt, hm])
        rw [this, List.getElem?_eq_getElem hmS, hxy])
      obtain ⟨⟨e0, e1, e2, e3, e4, _⟩, _⟩ := (hc m hmS).below bw hB
      rw [hxy] at e0 e1 e2 e3 e4
      simp only at e0 e1 e2 e3 e4
      have i1 : (0 : Int) ≤ (k : Int) := by omega
      have i2 : (k : Int) < (P.length : Int) := by omega
      have i3 : (0 : Int) ≤ (m : Int) := by omega
      have i4 : (m : Int) < (S.length : Int) := by omega
      have hBr : b < wr.heap.size := by omega
      have hkR : k < R.length := by omega
      have t0 := cell_regrown e0
      have HAPP : Hid (lastOf (R.drop k) = [pkR (x, (a1, b1, c1, d1), f1, M1)] ++ lastOf (R.drop (k + 1)) → ∀ v' w5, w5.ownsRow w3.heap.size 68 5 v' (G.length + 1) (pcl G ++ [.int .i64 x, .int .i64 a1, .int .i64 b1, .int .i64 c1, .int .i64 d1]) → Below w3.heap.size w3 w5 → LxRel R w3 v' (.int .i64 ((k : Int) + 1)) w5) :=
        Lib.hid fun hs v' w5 ho hb5 => lx_yes hkR HE.out hGl hs (KOwn.push ho) hb5
      clear hm hxy
      by_cases hend : k + 1 = P.length
      · have HS := Lib.hid (lastOf_end HXR.out (by omega))
        obtain ⟨j, hj⟩ : ∃ j, j = k + 1 := ⟨_, rfl⟩
        have kw : IntKind.i64.wrap ((k : Int) + 1) = (j : Int) := (IntWalk.i64_in _ (by omega)).trans (by omega)
        have hje : ((j : Int) == (P.length : Int)) = true := by rw [beq_iff_eq]; omega
        have HJ := Lib.hid hj
        clear hj hc hpc hend
        go_wp2_with fail
        refine wp_region_quiet_below (by kernel_rfl) (by kernel_rfl) ?_
        repeat (any_goals (first | go_big_quiet_step (fail) | quiet_step (fail)))
        refine wpQuiet_nil ?_
        intro W2 hw
        have nn := quiet_end hw
        clear hw t0
        have g0 := (nn.cell (p := ⟨b, o + m * 7, none⟩) hBr).trans e0
        have g1 := (nn.cell (p := ⟨b, o + m * 7 + 1, none⟩) hBr).trans e1
        have g2 := (nn.cell (p := ⟨b, o + m * 7 + 2, none⟩) hBr).trans e2
        have g3 := (nn.cell (p := ⟨b, o + m * 7 + 3, none⟩) hBr).trans e3
        have g4 := (nn.cell (p := ⟨b, o + m * 7 + 4, none⟩) hBr).trans e4
        have HO4 := Lib.hid (KOwn.below HO.out nn)
        have b4 := hb.trans (nn.mono zb)
        have z4 := b4.size
        have hB4 : b < W2.heap.size := by have := nn.size; omega
        have HO5 := Lib.hid (KOwn.below HO4.out ((Below.refl W2.heap.size W2).alloc (Nat.le_refl _) (.cells #[.int .i64 x, .int .i64 a1, .int .i64 b1, .int .i64 c1, .int .i64 d1] 68)))
        have HO6 := Lib.hid (KOwn.below HO4.out (((Below.refl W2.heap.size W2).alloc (Nat.le_refl _) (.cells #[.int .i64 x, .int .i64 a1, .int .i64 b1, .int .i64 c1, .int .i64 d1] 68)).drew))
        have HO7 := Lib.hid (KOwn.below HO4.out (((Below.refl W2.heap.size W2).drew).alloc (Nat.le_refl _) (.cells #[.int .i64 x, .int .i64 a1, .int .i64 b1, .int .i64 c1, .int .i64 d1] 68)))
        have hvo : ∀ j, (Value.slice va G.length vc).ownBlock = some j → j ≠ b := fun j e => by have := (World.ownsRow.lt HO4.out j e).1; omega
        have HK7 := Lib.hid (fun (x7 : World) (hg : ((W2.alloc (.cells #[.int .i64 x, .int .i64 a1, .int .i64 b1, .int .i64 c1, .int .i64 d1] 68)).drew).grownBy x7 (Value.slice va G.length vc).ownBlock) (j : Nat) => show x7.cell? ⟨b, j, none⟩ = W2.cell? ⟨b, j, none⟩ from World.cell?_of_block ((hg.block b (by show b < (W2.alloc (.cells #[.int .i64 x, .int .i64 a1, .int .i64 b1, .int .i64 c1, .int .i64 d1] 68)).heap.size; simp; omega) (fun e => hvo _ e.symm rfl)).trans (((Below.refl W2.heap.size W2).alloc (Nat.le_refl _) (.cells #[.int .i64 x, .int .i64 a1, .int .i64 b1, .int .i64 c1, .int .i64 d1] 68)).block _ hB4)))
        clear hvo hb bw nn e0 e1 e2 e3 e4
        go_wp2_with fail
        go_region_held3 (fun V => V.cell? ⟨b, o + m * 7, none⟩ = some (.int .i64 x) ∧ V.cell? ⟨b, o + m * 7 + 1, none⟩ = some (.int .i64 a1) ∧ V.cell? ⟨b, o + m * 7 + 2, none⟩ = some (.int .i64 b1) ∧ V.cell? ⟨b, o + m * 7 + 3, none⟩ = some (.int .i64 c1) ∧ V.cell? ⟨b, o + m * 7 + 4, none⟩ = some (.int .i64 d1)) (go_keep)
          (first
            | (refine step_append_rows _ rfl (.tmp 48) (.tmp 60) 40 rfl w3.heap.size 68 i0 (.agg #[.int .i64 0, .int .i64 0, .int .i64 0, .int .i64 0, .int .i64 0]) 5 40 Try.underlying40 hi hz0 hz1 hz2 rfl (by decide) (.slice va G.length vc) G.length (pcl G) (by rfl) (by first | exact HO5.out | exact HO6.out | exact HO7.out) (some ⟨W2.heap.size, 0, none⟩) 1 1 [.int .i64 x, .int .i64 a1, .int .i64 b1, .int .i64 c1, .int .i64 d1] (by rfl) rfl (fun e => by cases e) (fun ad e j u hu => by cases e; exact pick_new W2 _ a1 b1 c1 d1 j u hu) (pick_one _ _ _ _ _) (by unfold maxLen; omega) (by omega) (by first | omega | (simp; done) | (simp; omega)) ?_; intro a7 c7 x7 hown7 hgrow7 hat7; have n7 : Below w3.heap.size w3 x7 := Below.grown (by go_grown) hgrow7 (by first | omega | (simp; done) | (simp; omega)) (fun k' e => (World.ownsRow.lt HO4.out k' e).1); have r0 : x7.cell? ⟨b, o + m * 7, none⟩ = some (.int .i64 x) := (HK7.out x7 hgrow7 _).trans g0; have r1 : x7.cell? ⟨b, o + m * 7 + 1, none⟩ = some (.int .i64 a1) := (HK7.out x7 hgrow7 _).trans g1; have r2 : x7.cell? ⟨b, o + m * 7 + 2, none⟩ = some (.int .i64 b1) := (HK7.out x7 hgrow7 _).trans g2; have r3 : x7.cell? ⟨b, o + m * 7 + 3, none⟩ = some (.int .i64 c1) := (HK7.out x7 hgrow7 _).trans g3; have r4 : x7.cell? ⟨b, o + m * 7 + 4, none⟩ = some (.int .i64 d1) := (HK7.out x7 hgrow7 _).trans g4; have HN7 := Lib.hid n7; have HW7 := Lib.hid hown7; clear hown7 hgrow7 hat7 n7)
            | fail)
        all_goals
          have HQ := Lib.hid (HAPP.out HS.out _ _ HW7.out HN7.out)
          go_wp2_with fail
          go_roundw
          case rel => rw [show (j : Int) = (k : Int) + 1 by have := HJ.out; omega]; exact HQ.out
          case measure => have := HJ.out; simp [intOf]; omega
      · obtain ⟨j, hj⟩ : ∃ j, j = k + 1 := ⟨_, rfl⟩
        have hjl : j < P.length := by omega
        have kw : IntKind.i64.wrap ((k : Int) + 1) = (j : Int) := (IntWalk.i64_in _ (by omega)).trans (by omega)
        have hje : ((j : Int) == (P.length : Int)) = false := by rw [beq_eq_false_iff_ne]; omega
        obtain ⟨m', hm', hmS'⟩ := HPL.out _ (List.getElem_mem hjl)
        have c1' := (hb.cell (p := ⟨pb, po + j, none⟩) hpB).trans (hpc j hjl)
        rw [hm'] at c1'
        obtain ⟨y, a2, b2', c2, d2, f2, M2, hxy'⟩ : ∃ x a b c d f M, S[m'] = (x, (a, b, c, d), f, M) := ⟨_, _, _, _, _, _, _, rfl⟩
        have HYR := Lib.hid (show R[k + 1]? = some (y, (a2, b2', c2, d2), f2, M2) by
          have := HR.out.2 j m' (by rw [List.getElem?_eq_getElem hjl, hm'])
          rw [← hj, this, List.getElem?_eq_getElem hmS', hxy'])
        obtain ⟨⟨e0', _, _, _, _, _⟩, _⟩ := (hc m' hmS').below bw hB
        rw [hxy'] at e0'
        simp only at e0'
        have j1 : (0 : Int) ≤ (j : Int) := by omega
        have j2 : (j : Int) < (P.length : Int) := by omega
        have j3 : (0 : Int) ≤ (m' : Int) := by omega
        have j4 : (m' : Int) < (S.length : Int) := by omega
        have t1 := cell_regrown e0'
        have t2 := cell_regrown c1'
        have HST := Lib.hid (lastOf_next HXR.out HYR.out)
        have HJ := Lib.hid hj
        clear hj hc hpc hend hm' hxy' e0' c1'
        by_cases hn : y = x
        · have HQ := Lib.hid (show lastOf (R.drop k) = lastOf (R.drop (k + 1)) by rw [HST.out, if_pos hn]; rfl)
          have hz : (y != x) = false := by simp [hn]
          clear HST hn
          go_wp2_with fail
          refine wp_region_quiet_below (by kernel_rfl) (by kernel_rfl) ?_
          repeat (any_goals (first | go_big_quiet_step (fail) | quiet_step (fail)))
          refine wpQuiet_nil ?_
          intro W2 hw
          have nn := quiet_end hw
          clear hw t0 t1 t2
          have HRR := Lib.hid (lx_no hkR HE.out hGl HQ.out (KOwn.below HO.out nn) (hb.trans (nn.mono zb)))
          go_wp2_with fail
          go_roundw
          case rel => rw [show (j : Int) = (k : Int) + 1 by have := HJ.out; omega]; exact HRR.out
          case measure => have := HJ.out; simp [intOf]; omega
        · have HS := Lib.hid (show lastOf (R.drop k) = [pkR (x, (a1, b1, c1, d1), f1, M1)] ++ lastOf (R.drop (k + 1)) by rw [HST.out, if_neg hn])
          have hz : (y != x) = true := by simp [hn]
          clear HST hn
          go_wp2_with fail
          refine wp_region_quiet_below (by kernel_rfl) (by kernel_rfl) ?_
          repeat (any_goals (first | go_big_quiet_step (fail) | quiet_step (fail)))
          refine wpQuiet_nil ?_
          intro W2 hw
          have nn := quiet_end hw
          clear hw t0 t1 t2
          have g0 := (nn.cell (p := ⟨b, o + m * 7, none⟩) hBr).trans e0
          have g1 := (nn.cell (p := ⟨b, o + m * 7 + 1, none⟩) hBr).trans e1
          have g2 := (nn.cell (p := ⟨b, o + m * 7 + 2, none⟩) hBr).trans e2
          have g3 := (nn.cell (p := ⟨b, o + m * 7 + 3, none⟩) hBr).trans e3
          have g4 := (nn.cell (p := ⟨b, o + m * 7 + 4, none⟩) hBr).trans e4
          have HO4 := Lib.hid (KOwn.below HO.out nn)
          have b4 := hb.trans (nn.mono zb)
          have z4 := b4.size
          have hB4 : b < W2.heap.size := by have := nn.size; omega
          have HO5 := Lib.hid (KOwn.below HO4.out ((Below.refl W2.heap.size W2).alloc (Nat.le_refl _) (.cells #[.int .i64 x, .int .i64 a1, .int .i64 b1, .int .i64 c1, .int .i64 d1] 68)))
          have HO6 := Lib.hid (KOwn.below HO4.out (((Below.refl W2.heap.size W2).alloc (Nat.le_refl _) (.cells #[.int .i64 x, .int .i64 a1, .int .i64 b1, .int .i64 c1, .int .i64 d1] 68)).drew))
          have HO7 := Lib.hid (KOwn.below HO4.out (((Below.refl W2.heap.size W2).drew).alloc (Nat.le_refl _) (.cells #[.int .i64 x, .int .i64 a1, .int .i64 b1, .int .i64 c1, .int .i64 d1] 68)))
          have hvo : ∀ j, (Value.slice va G.length vc).ownBlock = some j → j ≠ b := fun j e => by have := (World.ownsRow.lt HO4.out j e).1; omega
          have HK7 := Lib.hid (fun (x7 : World) (hg : ((W2.alloc (.cells #[.int .i64 x, .int .i64 a1, .int .i64 b1, .int .i64 c1, .int .i64 d1] 68)).drew).grownBy x7 (Value.slice va G.length vc).ownBlock) (j : Nat) => show x7.cell? ⟨b, j, none⟩ = W2.cell? ⟨b, j, none⟩ from World.cell?_of_block ((hg.block b (by show b < (W2.alloc (.cells #[.int .i64 x, .int .i64 a1, .int .i64 b1, .int .i64 c1, .int .i64 d1] 68)).heap.size; simp; omega) (fun e => hvo _ e.symm rfl)).trans (((Below.refl W2.heap.size W2).alloc (Nat.le_refl _) (.cells #[.int .i64 x, .int .i64 a1, .int .i64 b1, .int .i64 c1, .int .i64 d1] 68)).block _ hB4)))
          clear hvo hb bw nn e0 e1 e2 e3 e4
          go_wp2_with fail
          go_region_held3 (fun V => V.cell? ⟨b, o + m * 7, none⟩ = some (.int .i64 x) ∧ V.cell? ⟨b, o + m * 7 + 1, none⟩ = some (.int .i64 a1) ∧ V.cell? ⟨b, o + m * 7 + 2, none⟩ = some (.int .i64 b1) ∧ V.cell? ⟨b, o + m * 7 + 3, none⟩ = some (.int .i64 c1) ∧ V.cell? ⟨b, o + m * 7 + 4, none⟩ = some (.int .i64 d1)) (go_keep)
            (first
              | (refine step_append_rows _ rfl (.tmp 48) (.tmp 60) 40 rfl w3.heap.size 68 i0 (.agg #[.int .i64 0, .int .i64 0, .int .i64 0, .int .i64 0, .int .i64 0]) 5 40 Try.underlying40 hi hz0 hz1 hz2 rfl (by decide) (.slice va G.length vc) G.length (pcl G) (by rfl) (by first | exact HO5.out | exact HO6.out | exact HO7.out) (some ⟨W2.heap.size, 0, none⟩) 1 1 [.int .i64 x, .int .i64 a1, .int .i64 b1, .int .i64 c1, .int .i64 d1] (by rfl) rfl (fun e => by cases e) (fun ad e j u hu => by cases e; exact pick_new W2 _ a1 b1 c1 d1 j u hu) (pick_one _ _ _ _ _) (by unfold maxLen; omega) (by omega) (by first | omega | (simp; done) | (simp; omega)) ?_; intro a7 c7 x7 hown7 hgrow7 hat7; have n7 : Below w3.heap.size w3 x7 := Below.grown (by go_grown) hgrow7 (by first | omega | (simp; done) | (simp; omega)) (fun k' e => (World.ownsRow.lt HO4.out k' e).1); have r0 : x7.cell? ⟨b, o + m * 7, none⟩ = some (.int .i64 x) := (HK7.out x7 hgrow7 _).trans g0; have r1 : x7.cell? ⟨b, o + m * 7 + 1, none⟩ = some (.int .i64 a1) := (HK7.out x7 hgrow7 _).trans g1; have r2 : x7.cell? ⟨b, o + m * 7 + 2, none⟩ = some (.int .i64 b1) := (HK7.out x7 hgrow7 _).trans g2; have r3 : x7.cell? ⟨b, o + m * 7 + 3, none⟩ = some (.int .i64 c1) := (HK7.out x7 hgrow7 _).trans g3; have r4 : x7.cell? ⟨b, o + m * 7 + 4, none⟩ = some (.int .i64 d1) := (HK7.out x7 hgrow7 _).trans g4; have HN7 := Lib.hid n7; have HW7 := Lib.hid hown7; clear hown7 hgrow7 hat7 n7)
              | fail)
          all_goals
            have HQ := Lib.hid (HAPP.out HS.out _ _ HW7.out HN7.out)
            go_wp2_with fail
            go_roundw
            case rel => rw [show (j : Int) = (k : Int) + 1 by have := HJ.out; omega]; exact HQ.out
            case measure => have := HJ.out; simp [intOf]; omega
    · obtain rfl : k = P.length := by omega
      have HQ := Lib.hid (show leL S N = G by rw [HLE.out, HE.out, ← hRl, List.drop_length]; simp [lastOf])
      go_wp2_with fail
      refine bodyPost_ret (v := .tuple #[.slice va G.length vc, .bool true]) (by simp [results, Try.results24, go_sem]) rfl ?_
      exact ⟨_, by rw [HB.out], by rw [HQ.out]; exact (KOwn.pb HO.out).mono z3, b3.trans (hb.mono z3)⟩
end Lst
end Go.Proofs.Ytgnjhmmedogcoaa
