/- Groundwork over this seat's translation: Cpn, Cpi, Cpf, Cfi, Cff, Rch, Crf, Gof, Pof in one text; the conditions stand at each part. -/
import Derived.Test.YtmhamoeibkpnpaaPkmk
import Derived.Test.YtmhamoeibkpnpaaNmi
import Derived.Test.YtmhamoeibkpnpaaGg
import Derived.Test.YtmhamoeibkpnpaaGu
import Derived.Test.YtmhamoeibkpnpaaGd
import Derived.Test.YtmhamoeibkpnpaaGh
import Derived.Test.YtmhamoeibkpnpaaHas
import Derived.Test.YtmhamoeibkpnpaaRfit
import Derived.Test.YtmhamoeibkpnpaaSpone
import Derived.Test.YtmhamoeibkpnpaaPuts

/- Contracts of the program's functions that tell which picks are needed (needsOfPick, picksNeeded, picksThatCame, ChoiceTrim, ChoiceReach), over this seat's translation, as plain functions tell them; nothing that was there before a call has changed. Condition: at most 1048576 of each row and of what is in it. -/
namespace Go.Proofs.Ytmhamoeibkpnpaa
open Go.RowKit Go.Sort

namespace Cpu
open Foot Copy Nup
/-- What the release of a pick needs. -/
def ndsOf (S : List Rel) (x : Pk) : List Nd := if 0 ≤ shFind x.1 x.2 0 S then (match S[(shFind x.1 x.2 0 S).toNat]? with | some r => r.2.2.2 | none => []) else []
theorem nds_cases (S : List Rel) (x : Pk) : (shFind x.1 x.2 0 S = -1 ∧ ndsOf S x = []) ∨ ∃ i, ∃ h : i < S.length, shFind x.1 x.2 0 S = (i : Int) ∧ ndsOf S x = S[i].2.2.2 := by
  rcases shFind_range x.1 x.2 S 0 with h | ⟨j, h, hj⟩
  · left
    refine ⟨h, ?_⟩
    unfold ndsOf
    rw [h]
    rfl
  · right
    rw [Nat.zero_add] at h
    refine ⟨j, hj, h, ?_⟩
    unfold ndsOf
    rw [h, if_pos (by omega), Int.toNat_natCast, List.getElem?_eq_getElem hj]
theorem nds_mem {S : List Rel} {x : Pk} {q : Nd} (h : q ∈ ndsOf S x) : ∃ r ∈ S, q ∈ r.2.2.2 := by
  rcases nds_cases S x with ⟨_, e⟩ | ⟨i, hi, _, e⟩
  · rw [e] at h; simp at h
  · rw [e] at h
    exact ⟨_, List.getElem_mem hi, h⟩
theorem nds_len {S : List Rel} (hS : ∀ q ∈ S, q.2.2.2.length ≤ 5) (x : Pk) : (ndsOf S x).length ≤ 5 := by
  rcases nds_cases S x with ⟨_, e⟩ | ⟨i, hi, _, e⟩
  · rw [e]; simp
  · rw [e]; exact hS _ (List.getElem_mem hi)

def hitK (S : List Rel) (nm : Int) (st : St) (j : Nat) (x : Pk) : St := if (!st.1.getD j true && decide (x.1 = nm)) = true then (st.1.set j true, st.2 ++ ndsOf S x) else st
def passK (S : List Rel) (nm : Int) : Nat → List Pk → St → St
  | _, [], st => st
  | j, x :: t, st => passK S nm (j + 1) t (hitK S nm st j x)
def runK (S : List Rel) (C : List Pk) : Nat → Nat → St → St
  | 0, _, st => st
  | f + 1, i, st => match st.2[i]? with
    | none => st
    | some n => runK S C f (i + 1) (passK S n.1 0 C st)
def startK (C : List Pk) (N : List Nd) : St := (List.replicate C.length false, N)
def endK (S : List Rel) (N : List Nd) (C : List Pk) : St := runK S C 200 0 (startK C N)
theorem passK_step {S : List Rel} {C : List Pk} {j : Nat} {x : Pk} (h : C[j]? = some x) (nm : Int) (st : St) : passK S nm j (C.drop j) st = passK S nm (j + 1) (C.drop (j + 1)) (hitK S nm st j x) := by
  have hj : j < C.length := (List.getElem?_eq_some_iff.1 h).1
  rw [List.drop_eq_getElem_cons hj, (List.getElem?_eq_some_iff.1 h).2]
  rfl
theorem runK_step {S : List Rel} {C : List Pk} {f i : Nat} {st : St} {n : Nd} (h : st.2[i]? = some n) : runK S C (f + 1) i st = runK S C f (i + 1) (passK S n.1 0 C st) := by
  show (match st.2[i]? with | none => st | some n => runK S C f (i + 1) (passK S n.1 0 C st)) = _
  rw [h]
theorem runK_end {S : List Rel} {C : List Pk} {f i : Nat} {st : St} (h : st.2.length ≤ i) : runK S C f i st = st := by
  cases f with
  | zero => rfl
  | succ f =>
    show (match st.2[i]? with | none => st | some n => runK S C f (i + 1) (passK S n.1 0 C st)) = _
    rw [List.getElem?_eq_none h]
def restK : List Bool → Nat
  | [] => 0
  | b :: c => (if b = true then 0 else 5) + restK c
theorem restK_set : ∀ (c : List Bool) (j : Nat), c.getD j true = false → restK (c.set j true) + 5 = restK c
  | [], j, h => by simp at h
  | b :: c, 0, h => by
    have hb : b = false := by simpa using h
    subst hb
    simp [restK]
    omega
  | b :: c, j + 1, h => by
    have := restK_set c j (by simpa using h)
    simp only [List.set_cons_succ, restK]
    omega
theorem restK_new : ∀ n, restK (List.replicate n false) = 5 * n
  | 0 => rfl
  | n + 1 => by
    rw [List.replicate_succ]
    simp only [restK]
    rw [restK_new n]
    simp
    omega
structure OkK (S : List Rel) (N : List Nd) (C : List Pk) (st : St) : Prop where
  flags : st.1.length = C.length
  size : st.2.length + restK st.1 ≤ N.length + 5 * C.length
  mem : ∀ q ∈ st.2, q ∈ N ∨ ∃ x ∈ S, q ∈ x.2.2.2
theorem OkK.start {S : List Rel} {N : List Nd} {C : List Pk} : OkK S N C (startK C N) :=
  ⟨by simp [startK], by show N.length + restK (List.replicate C.length false) ≤ _; rw [restK_new]; omega, fun q hq => .inl hq⟩
theorem OkK.hit {S : List Rel} {N : List Nd} {C : List Pk} {st : St} (hS : ∀ q ∈ S, q.2.2.2.length ≤ 5) (h : OkK S N C st) (nm : Int) (j : Nat) (x : Pk) : OkK S N C (hitK S nm st j x) := by
  unfold hitK
  split
  · rename_i hc
    rw [Bool.and_eq_true] at hc
    have h1 := restK_set st.1 j (by simpa using hc.1)
    have h2 := nds_len hS x
    have h3 := h.size
    refine ⟨by simpa using h.flags, ?_, fun q hq => ?_⟩
    · simp only [List.length_append]
      omega
    · rcases List.mem_append.1 hq with hq | hq
      · exact h.mem q hq
      · exact .inr (nds_mem hq)
  · exact h
theorem hitK_front {S : List Rel} {nm : Int} {st : St} {j : Nat} {x : Pk} {i : Nat} (hi : i ≤ st.2.length) : (hitK S nm st j x).2.take i = st.2.take i ∧ i ≤ (hitK S nm st j x).2.length := by
  unfold hitK
  split
  · exact ⟨List.take_append_of_le_length hi, by simp; omega⟩
  · exact ⟨rfl, hi⟩
theorem pk_few : ∀ {C : List Pk} {lo : Int}, 0 ≤ lo → lo ≤ 8 → pkFrom lo C = true → (C.length : Int) ≤ 8 - lo
  | [], lo, _, h8, _ => by simp; omega
  | x :: t, lo, h0, h8, h => by
    simp only [pkFrom, Bool.and_eq_true, decide_eq_true_eq] at h
    have := pk_few (C := t) (lo := x.1 + 1) (by omega) (by omega) h.2.2
    simp only [List.length_cons]
    omega
theorem pk_len {C : List Pk} (h : pkOk C = true) : C.length ≤ 8 := by
  have := pk_few (Int.le_refl 0) (by omega) h
  omega

/-- The picks whose flags are set. -/
def cameL : List Pk → List Bool → List Pk
  | x :: t, b :: c => (if b = true then [x] else []) ++ cameL t c
  | _, _ => []
theorem cameL_len : ∀ (C : List Pk) (c : List Bool), (cameL C c).length ≤ C.length
  | [], c => by simp [cameL]
  | x :: t, [] => by simp [cameL]
  | x :: t, b :: c => by
    have := cameL_len t c
    simp only [cameL]
    split <;> simp <;> omega
theorem cameL_step {C : List Pk} {c : List Bool} {k : Nat} {x : Pk} (hx : C[k]? = some x) (hc : k < c.length) : cameL (C.drop k) (c.drop k) = (if c.getD k true = true then [x] else []) ++ cameL (C.drop (k + 1)) (c.drop (k + 1)) := by
  have hk : k < C.length := (List.getElem?_eq_some_iff.1 hx).1
  rw [List.drop_eq_getElem_cons hk, List.drop_eq_getElem_cons hc, (List.getElem?_eq_some_iff.1 hx).2, List.getD_eq_getElem?_getD, List.getElem?_eq_getElem hc]
  rfl
def trimL (S : List Rel) (N : List Nd) (C : List Pk) : List Pk := if (shOk S && ndOk N && pkOk C) = true then cameL C (endK S N C).1 else []
def reachL (S : List Rel) (N : List Nd) (C : List Pk) : List Int := (trimL S N C).map (·.1)
theorem trimL_len (S : List Rel) (N : List Nd) (C : List Pk) : (trimL S N C).length ≤ C.length := by
  unfold trimL
  split
  · exact cameL_len _ _
  · simp

set_option maxRecDepth 100000 in
set_option maxHeartbeats 2000000 in
theorem needsOfPick_any (u : Value) (S : List Rel) (n p q r s : Int) (w : World) (B : Nat) (hB : B ≤ w.heap.size) (hl : S.length ≤ 1048576) (h : RlAt w B u S) :
    Calls Try.prog 119 #[u, pick n p q r s] w fun e w' => ∃ a cap, e = .returned (.slice a (ndsOf S (n, p, q, r, s)).length cap) ∧ NdAt w' B (.slice a (ndsOf S (n, p, q, r, s)).length cap) (ndsOf S (n, p, q, r, s)) ∧ Below w.heap.size w w' := by
  obtain ⟨sa, caps, rfl, hx⟩ := id h
  have H := Lib.hid (h.mono hB)
  have b0 := (Below.refl w.heap.size w).alloc (Nat.le_refl _) (.cells #[.int .i64 n, .int .i64 p, .int .i64 q, .int .i64 r, .int .i64 s] 71)
  have K : Hid (∀ V, RlAt V V.heap.size (.slice sa S.length caps) S → Calls Try.prog 117 #[.slice sa S.length caps, .int .i64 n, ver p q r s] V fun e w' => e = .returned (.int .i64 (shFind n (p, q, r, s) 0 S)) ∧ Below V.heap.size V w') := Lib.hid fun V g => placeOf_any _ S n p q r s V hl g
  rcases nds_cases S (n, p, q, r, s) with ⟨hf, e⟩ | ⟨i, hi, hf, e⟩
  · simp only at hf
    rw [hf] at K
    rw [e]
    clear hf e hx
    go_enter Try.func119, Try.ntmps119
    go_wp2_with fail
    refine (K.out _ (H.out.stepAt (by go_grown))).mono ?_
    rintro e w1 ⟨rfl, hb⟩
    go_wp2_with fail
    go_ret
    exact ⟨none, 0, rfl, ⟨none, 0, rfl, .inl rfl⟩, b0.trans (hb.mono b0.size)⟩
  · simp only at hf
    rw [hf] at K
    rw [e]
    obtain ⟨b, o, hsa, hbB, hc⟩ : ∃ b o, sa = some ⟨b, o, none⟩ ∧ b < B ∧ ∀ i (h : i < S.length), RlC w B b (o + i * 7) S[i] := by
      rcases hx with hh | hh
      · rw [hh] at hi; simp at hi
      · exact hh
    subst hsa
    have i0 : (0 : Int) ≤ (i : Int) := by omega
    have i1 : (i : Int) < (S.length : Int) := by omega
    have i2 : ¬ (i : Int) < 0 := by omega
    obtain ⟨M, hM⟩ : ∃ M, S[i].2.2.2 = M := ⟨_, rfl⟩
    obtain ⟨_, ad, cap, e6, hs⟩ := hc i hi
    rw [hM] at e6 hs ⊢
    have HS := Lib.hid hs
    have bw : b < w.heap.size := Nat.lt_of_lt_of_le hbB hB
    clear hf e hx hc hM hs
    go_enter Try.func119, Try.ntmps119
    go_wp2_with fail
    refine (K.out _ (H.out.stepAt (by go_grown))).mono ?_
    rintro e w1 ⟨rfl, hb⟩
    have b1 : Below w.heap.size w w1 := b0.trans (hb.mono b0.size)
    have f6 := (b1.cell (p := ⟨b, o + i * 7 + 6, none⟩) bw).trans e6
    clear hb e6
    go_wp2_with fail
    go_ret
    exact ⟨ad, cap, rfl, HS.out.below (b1.mono hB), b1⟩

set_option maxRecDepth 100000 in
set_option maxHeartbeats 4000000 in
theorem picksThatCame_any (u : Value) (C : List Pk) (g : Nat) (c : List Bool) (w : World) (hl : C.length ≤ 1048576) (hcl : c.length = C.length) (h : PkAt w w.heap.size u C) (hf : Fl w g c) :
    Calls Try.prog 120 #[u, .slice (some ⟨g, 0, none⟩) C.length C.length] w (PbPost (cameL C c) w) := by
  obtain ⟨i0, hi, hz0, hz1, hz2⟩ := info_parts infoPick
  obtain ⟨ua, uc, rfl, h0⟩ := id h
  clear h
  have HF := Lib.hid hf
  have hgl := hf.lt
  have HCL := Lib.hid hcl
  clear hcl hf
  go_enter Try.func120, Try.ntmps120
  go_wp2_with fail
  go_loopw [5, 10] (fun v i wr => ∃ (k : Nat) (L : List Pk), k ≤ C.length ∧ i = .int .i64 (k : Int) ∧ cameL C c = L ++ cameL (C.drop k) (c.drop k) ∧ L.length ≤ k ∧ KOwn wr w.heap.size v L ∧ Below w.heap.size w wr) (fun _ i _ => C.length - (intOf i).toNat)
  case atStart => exact ⟨0, [], Nat.zero_le _, rfl, rfl, Nat.le_refl _, World.ownsRow_nil _ _ _ _, Below.refl _ _⟩
  case round =>
    obtain ⟨k, L, hk, rfl, he, hL, hown, hb⟩ := hrel
    obtain ⟨va, vc, hv, hx⟩ := id (KOwn.pb hown).at
    subst hv
    clear hx
    have HE := Lib.hid he
    have HO := Lib.hid hown
    clear he hown
    have zb := hb.size
    by_cases hlt : k < C.length
    · rcases h0 with h0 | ⟨b, o, rfl, hB, hc⟩
      · subst h0
        exact absurd hlt (by simp)
      obtain ⟨x, a1, b1, c1, d1, hxy⟩ : ∃ x a b c d, C[k] = (x, a, b, c, d) := ⟨_, _, _, _, _, rfl⟩
      obtain ⟨e0, e1, e2, e3, e4⟩ := hc k hlt
      rw [hxy] at e0 e1 e2 e3 e4
      simp only at e0 e1 e2 e3 e4
      have f0 := (hb.cell (p := ⟨b, o + k * 5, none⟩) hB).trans e0
      have f1 := (hb.cell (p := ⟨b, o + k * 5 + 1, none⟩) hB).trans e1
      have f2 := (hb.cell (p := ⟨b, o + k * 5 + 2, none⟩) hB).trans e2
      have f3 := (hb.cell (p := ⟨b, o + k * 5 + 3, none⟩) hB).trans e3
      have f4 := (hb.cell (p := ⟨b, o + k * 5 + 4, none⟩) hB).trans e4
      have bl : b < wr.heap.size := by omega
      have hkc : k < c.length := by rw [HCL.out]; exact hlt
      have g0 := (hb.cell (p := ⟨g, k, none⟩) hgl).trans (HF.out.cell hkc)
      have gl : g < wr.heap.size := by omega
      have HST := Lib.hid (cameL_step (c := c) (show C[k]? = some (x, a1, b1, c1, d1) by rw [List.getElem?_eq_getElem hlt, hxy]) hkc)
      have i1 : (0 : Int) ≤ (k : Int) := by omega
      have i2 : (k : Int) < (C.length : Int) := by omega
      clear hc hxy e0 e1 e2 e3 e4 hkc
      rcases hck : c.getD k true
      · rw [hck] at g0 HST
        have HR := Lib.hid (show ∃ (k' : Nat) (L' : List Pk), k' ≤ C.length ∧ Value.int .i64 ((k : Int) + 1) = .int .i64 (k' : Int) ∧ cameL C c = L' ++ cameL (C.drop k') (c.drop k') ∧ L'.length ≤ k' ∧ KOwn (wr.alloc (.cells #[.int .i64 x, .int .i64 a1, .int .i64 b1, .int .i64 c1, .int .i64 d1] 71)) w.heap.size (.slice va L.length vc) L' ∧ Below w.heap.size w (wr.alloc (.cells #[.int .i64 x, .int .i64 a1, .int .i64 b1, .int .i64 c1, .int .i64 d1] 71)) from
          ⟨k + 1, L, by omega, by go_num, by rw [HE.out, HST.out]; simp, by omega, KOwn.below HO.out ((Below.refl _ _).alloc (Nat.le_refl _) _), hb.alloc zb _⟩)
        clear hck
        go_wp2_with fail
        go_roundw
        case rel => exact HR.out
        case measure => simp [intOf]; omega
      · rw [hck] at g0 HST
        clear hck
        have b4 : Below w.heap.size w (wr.alloc (.cells #[.int .i64 x, .int .i64 a1, .int .i64 b1, .int .i64 c1, .int .i64 d1] 71)) := hb.alloc zb _
        have o4 := KOwn.below HO.out ((Below.refl _ _).alloc (Nat.le_refl _) (.cells #[.int .i64 x, .int .i64 a1, .int .i64 b1, .int .i64 c1, .int .i64 d1] 71))
        obtain ⟨w4, hw4⟩ : ∃ V : World, V = wr.alloc (.cells #[.int .i64 x, .int .i64 a1, .int .i64 b1, .int .i64 c1, .int .i64 d1] 71) := ⟨_, rfl⟩
        have y0 : w4.cell? ⟨wr.heap.size, 0, none⟩ = some (.int .i64 x) := by rw [hw4]; go_simp
        have y1 : w4.cell? ⟨wr.heap.size, 1, none⟩ = some (.int .i64 a1) := by rw [hw4]; go_simp
        have y2 : w4.cell? ⟨wr.heap.size, 2, none⟩ = some (.int .i64 b1) := by rw [hw4]; go_simp
        have y3 : w4.cell? ⟨wr.heap.size, 3, none⟩ = some (.int .i64 c1) := by rw [hw4]; go_simp
        have y4 : w4.cell? ⟨wr.heap.size, 4, none⟩ = some (.int .i64 d1) := by rw [hw4]; go_simp
        have g4 : w4.cell? ⟨g, k, none⟩ = some (.bool true) := by
          rw [hw4]
          exact (World.cell?_of_block (a := ⟨g, k, none⟩) (Below.heap_alloc _ _ _ gl)).trans g0
        have z4 : w.heap.size ≤ w4.heap.size := by rw [hw4]; exact b4.size
        rw [← hw4] at b4 o4
        go_upto_region 5 with fail
        rw [← hw4]
        clear hw4 f0 f1 f2 f3 f4 g0
        go_wp2_with (at_builtin; refine wpList_append_own _ rfl _ _ 23 rfl w.heap.size 71 i0 (.agg #[.int .i64 0, .int .i64 0, .int .i64 0, .int .i64 0, .int .i64 0]) 5 40 Try.underlying23 hi hz0 hz1 hz2 rfl (by decide) _ _ _ rfl (KOwn.below o4 ((Below.refl w4.heap.size w4).alloc (Nat.le_refl _) (.cells #[.int .i64 x, .int .i64 a1, .int .i64 b1, .int .i64 c1, .int .i64 d1] 71))) ⟨w4.heap.size, 0, none⟩ 1 1 [.int .i64 x, .int .i64 a1, .int .i64 b1, .int .i64 c1, .int .i64 d1] rfl rfl (pick_new w4 x a1 b1 c1 d1) (pick_one _ _ _ _ _) (by unfold maxLen; omega) (by omega) (by simp; omega) ?_)
        intro v' w5 hown' hgrow hnn
        have HR := Lib.hid (show ∃ (k' : Nat) (L' : List Pk), k' ≤ C.length ∧ Value.int .i64 ((k : Int) + 1) = .int .i64 (k' : Int) ∧ cameL C c = L' ++ cameL (C.drop k') (c.drop k') ∧ L'.length ≤ k' ∧ KOwn w5 w.heap.size v' L' ∧ Below w.heap.size w w5 from
          ⟨k + 1, L ++ [(x, a1, b1, c1, d1)], by omega, by go_num, by rw [HE.out, HST.out]; simp, by simp; omega, KOwn.push hown', KOwn.gone o4 b4 z4 hgrow⟩)
        clear hown' hgrow hnn o4 b4
        go_wp2_with fail
        go_roundw
        case rel => exact HR.out
        case measure => simp [intOf]; omega
    · obtain rfl : k = C.length := by omega
      have HQ := Lib.hid (show cameL C c = L by rw [HE.out, List.drop_length]; simp [cameL])
      go_wp2_with fail
      go_ret
      exact ⟨_, rfl, by rw [HQ.out]; exact KOwn.pb HO.out, hb⟩
end Cpu
end Go.Proofs.Ytmhamoeibkpnpaa

/- Contracts of the program's picksNeeded, ChoiceTrim and ChoiceReach, over this seat's translation, as plain functions tell them; nothing that was there before a call has changed. Condition: at most 1048576 of each row and of what is in it. -/
namespace Go.Proofs.Ytmhamoeibkpnpaa
open Go.RowKit Go.Sort

namespace Cpu
open Foot Copy Nup
/-- What the outer loop keeps. -/
def KRel (S : List Rel) (N : List Nd) (C : List Pk) (w : World) (g : Nat) (v i : Value) (wr : World) : Prop :=
  ∃ (k : Nat) (st : St), i = .int .i64 (k : Int) ∧ k ≤ st.2.length ∧ OkK S N C st ∧ endK S N C = runK S C (200 - k) k st ∧ NOwn wr w.heap.size 0 v st.2 ∧ Fl wr g st.1 ∧ Below w.heap.size w wr
/-- What the inner loop keeps. -/
def KIn (S : List Rel) (N : List Nd) (C : List Pk) (w : World) (g k : Nat) (n : Nd) (st : St) (v i : Value) (wr : World) : Prop :=
  ∃ (j : Nat) (s2 : St), i = .int .i64 (j : Int) ∧ j ≤ C.length ∧ k < s2.2.length ∧ OkK S N C s2 ∧ passK S n.1 0 C st = passK S n.1 j (C.drop j) s2 ∧ s2.2[k]? = some n ∧ NOwn wr w.heap.size 0 v s2.2 ∧ Fl wr g s2.1 ∧ Below w.heap.size w wr
theorem kup_next {S : List Rel} {N : List Nd} {C : List Pk} {w wr : World} {g k : Nat} {n : Nd} {st s2 : St} {v : Value} (hk : k < 200) (hn : st.2[k]? = some n) (hu : endK S N C = runK S C (200 - k) k st) (hp : passK S n.1 0 C st = passK S n.1 C.length (C.drop C.length) s2)
    (hl : k < s2.2.length) (ho : OkK S N C s2) (hN : NOwn wr w.heap.size 0 v s2.2) (hF : Fl wr g s2.1) (hb : Below w.heap.size w wr) : KRel S N C w g v (.int .i64 ((k : Int) + 1)) wr := by
  refine ⟨k + 1, s2, by go_num, by omega, ho, ?_, hN, hF, hb⟩
  rw [hu, show 200 - k = (200 - (k + 1)) + 1 by omega, runK_step hn, hp, List.drop_length]
  rfl
theorem kin_next {S : List Rel} {N : List Nd} {C : List Pk} {w wr : World} {g k j : Nat} {n : Nd} {x : Pk} {st s2 : St} {v : Value} (hS : ∀ q ∈ S, q.2.2.2.length ≤ 5) (hj : j < C.length) (hx : C[j]? = some x) (hl : k < s2.2.length) (ho : OkK S N C s2) (hp : passK S n.1 0 C st = passK S n.1 j (C.drop j) s2) (hn : s2.2[k]? = some n)
    (hN : NOwn wr w.heap.size 0 v (hitK S n.1 s2 j x).2) (hF : Fl wr g (hitK S n.1 s2 j x).1) (hb : Below w.heap.size w wr) : KIn S N C w g k n st v (.int .i64 ((j : Int) + 1)) wr := by
  obtain ⟨h1, h2⟩ := hitK_front (S := S) (nm := n.1) (j := j) (x := x) (st := s2) (i := k + 1) hl
  refine ⟨j + 1, hitK S n.1 s2 j x, by go_num, by omega, h2, ho.hit hS n.1 j x, by rw [hp, passK_step hx], ?_, hN, hF, hb⟩
  have e : (hitK S n.1 s2 j x).2[k]? = ((hitK S n.1 s2 j x).2.take (k + 1))[k]? := by rw [List.getElem?_take, if_pos (by omega)]
  rw [e, h1, List.getElem?_take, if_pos (by omega)]
  exact hn
theorem hitK_no {S : List Rel} {nm : Int} {st : St} {j : Nat} {x : Pk} (h : st.1.getD j true = true ∨ ¬ x.1 = nm) : hitK S nm st j x = st := by
  unfold hitK
  rw [if_neg]
  rw [Bool.and_eq_true]
  rintro ⟨h1, h2⟩
  rcases h with h | h
  · rw [h] at h1; cases h1
  · exact h (of_decide_eq_true h2)
theorem hitK_yes {S : List Rel} {nm : Int} {st : St} {j : Nat} {x : Pk} (h : st.1.getD j true = false) (h' : x.1 = nm) : hitK S nm st j x = (st.1.set j true, st.2 ++ ndsOf S x) := by
  unfold hitK
  rw [if_pos]
  rw [h, decide_eq_true h']
  rfl

set_option maxRecDepth 100000 in
set_option maxHeartbeats 8000000 in
theorem picksNeeded_any (v u z : Value) (S : List Rel) (N : List Nd) (C : List Pk) (w : World) (hS : S.length ≤ 30) (hq : ∀ q ∈ S, q.2.2.2.length ≤ 5 ∧ ∀ p ∈ q.2.2.2, p.2.length ≤ 1048576) (hN : N.length ≤ 5) (hC : C.length ≤ 30) (h : RlAt w w.heap.size v S) (h' : NdAt w w.heap.size u N) (h2 : PkAt w w.heap.size z C) :
    Calls Try.prog 95 #[v, u, z] w (PbPost (cameL C (endK S N C).1) w) := by
  obtain ⟨i0, hi, hz0, hz1, hz2⟩ := info_parts infoNeed
  have hmk := make_flags C.length (by omega)
  have hq5 : ∀ q ∈ S, q.2.2.2.length ≤ 5 := fun q h => (hq q h).1
  have hle : ∀ {st : St}, OkK S N C st → st.2.length ≤ 155 := fun ho => by have := ho.size; omega
  obtain ⟨sa, caps, rfl, hx⟩ := id h
  obtain ⟨na, ncap, rfl, hx'⟩ := id h'
  obtain ⟨pa, pc, rfl, h0⟩ := id h2
  clear hx hx'
  have H := Lib.hid h
  have HZ := Lib.hid h2
  obtain ⟨news, l1, l2, l3, l4, l5⟩ := need_cells (x := (Value.slice none 0 0).ownBlock) h' (Nat.le_refl _) (fun c e => by cases e)
  have hown0 : w.ownsRow w.heap.size 110 2 (.slice none 0 0) 0 [] := World.ownsRow_nil _ _ _ _
  have HL5 := Lib.hid l5
  clear h h' h2 l5
  go_enter Try.func95, Try.ntmps95
  go_wp2_with (at_builtin; refine Ap2.wpList_append _ rfl (.tmp 12) (.tmp 13) 32 rfl w.heap.size 110 i0 (.agg #[.int .i64 0, .slice none 0 0]) 2 32 Try.underlying32 hi hz0 hz1 hz2 rfl (by decide) _ _ [] rfl hown0 na N.length ncap news (by rfl) l1 l2 l3 l4 (by unfold maxLen; omega) (by omega) (Nat.le_refl _) ?_)
  intro a1 c1 w1 hown1 hgrow1 hat1
  have n1 : Below w.heap.size w w1 := Below.grown (Below.refl _ _) hgrow1 (Nat.le_refl _) (fun k e => by cases e)
  have hO1 : NOwn w1 w.heap.size 0 (.slice a1 N.length c1) N := by
    have := grow_any (M := []) (P := N) (a' := a1) (c' := c1) hown0 (fun i hi => absurd hi (by simp)) HL5.out (by simpa using hown1) hgrow1 (by simpa using hat1)
    simpa using this
  have hst : KRel S N C w w1.heap.size (.slice a1 N.length c1) (.int .i64 0) (w1.alloc (.cells (madeCells #[.bool false] (C.length * 1)) 4)) :=
    ⟨0, startK C N, rfl, Nat.zero_le _, OkK.start, rfl, hO1.below ((Below.refl _ _).alloc (Nat.le_refl _) _), made_flags _ _, n1.alloc n1.size _⟩
  rw [Nat.mul_one] at hst
  have HST := Lib.hid hst
  have z1 := n1.size
  clear hst hO1 hown1 hgrow1 hat1 hown0
  go_wp2_with fail
  clear hmk
  go_loopw [7, 9] (fun v i wr => KRel S N C w w1.heap.size v i wr) (fun _ i _ => 200 - (intOf i).toNat)
  case atStart => exact HST.out
  case round =>
    obtain ⟨k, st, rfl, hk, hok, hu, hown, hfl, hb⟩ := hrel
    have hle1 := hle hok
    obtain ⟨va, vc, rfl, hx⟩ := id hown.at
    clear hx
    by_cases hlt : k < st.2.length
    · obtain ⟨nm, L, hn⟩ : ∃ nm L, st.2[k] = (nm, L) := ⟨_, _, rfl⟩
      have hn' : st.2[k]? = some (nm, L) := by rw [List.getElem?_eq_getElem hlt, hn]
      have HU := Lib.hid hu
      have HN' := Lib.hid hn'
      have HI := Lib.hid (show KIn S N C w w1.heap.size k (nm, L) st (.slice va st.2.length vc) (.int .i64 0) wr from ⟨0, st, rfl, Nat.zero_le _, hlt, hok, rfl, hn', hown, hfl, hb⟩)
      clear hok hown hfl hb hu hn hn'
      go_wp2_with fail
      go_loopw [7, 26] (fun v i wx => KIn S N C w w1.heap.size k (nm, L) st v i wx) (fun _ i _ => C.length - (intOf i).toNat)
      case atStart => exact HI.out
      case round =>
        rename World => wx
        obtain ⟨j, s2, rfl, hj, hks, hok, hp, hn2, hown, hfl, hb⟩ := hrel
        have hle2 := hle hok
        obtain ⟨vb, vd, rfl, hat⟩ := id hown.at
        have HP := Lib.hid hp
        have HN2 := Lib.hid hn2
        have HOK := Lib.hid hok
        have HOW := Lib.hid hown
        have HFL := Lib.hid hfl
        have hbz := hb.size
        by_cases hjl : j < C.length
        · rcases h0 with h0 | ⟨b, o, rfl, hB, hc⟩
          · subst h0
            exact absurd hjl (by simp)
          obtain ⟨x, a, b', c, d, hxy⟩ : ∃ x a b c d, C[j] = (x, a, b, c, d) := ⟨_, _, _, _, _, rfl⟩
          obtain ⟨r0, r1, r2, r3, r4⟩ := hc j hjl
          rw [hxy] at r0 r1 r2 r3 r4
          simp only at r0 r1 r2 r3 r4
          have e0 := (hb.cell (p := ⟨b, o + j * 5, none⟩) hB).trans r0
          have e1 := (hb.cell (p := ⟨b, o + j * 5 + 1, none⟩) hB).trans r1
          have e2 := (hb.cell (p := ⟨b, o + j * 5 + 2, none⟩) hB).trans r2
          have e3 := (hb.cell (p := ⟨b, o + j * 5 + 3, none⟩) hB).trans r3
          have e4 := (hb.cell (p := ⟨b, o + j * 5 + 4, none⟩) hB).trans r4
          have HXY := Lib.hid (show C[j]? = some (x, a, b', c, d) by rw [List.getElem?_eq_getElem hjl, hxy])
          obtain ⟨gn, on, hvb, hgn, hcn⟩ : ∃ b o, vb = some ⟨b, o, none⟩ ∧ b < wx.heap.size ∧ ∀ i (h : i < s2.2.length), NdC wx wx.heap.size b (o + i * 2) s2.2[i] := by
            rcases hat with hat | hat
            · rw [hat] at hks; simp at hks
            · exact hat
          subst hvb
          have hkk : s2.2[k] = (nm, L) := by
            rw [List.getElem?_eq_getElem hks] at hn2
            exact Option.some.inj hn2
          obtain ⟨p0, _⟩ := hcn k hks
          rw [hkk] at p0
          simp only at p0
          have hjc : j < s2.1.length := by rw [hok.flags]; exact hjl
          have q0 := hfl.cell hjc
          have qf := hfl.frozen (i := j)
          have hgl := hfl.lt
          have bB : b < wx.heap.size := Nat.lt_of_lt_of_le hB hb.size
          clear hxy hcn hkk hat hp hn2 hok hown hfl hjc r0 r1 r2 r3 r4
          have i0' : (0 : Int) ≤ (j : Int) := by omega
          have i1 : (j : Int) < (C.length : Int) := by omega
          have i2 : (0 : Int) ≤ (k : Int) := by omega
          have i3 : (k : Int) < (s2.2.length : Int) := by omega
          obtain ⟨w3, hw3⟩ : ∃ V : World, V = wx.alloc (.cells #[.int .i64 x, .int .i64 a, .int .i64 b', .int .i64 c, .int .i64 d] 71) := ⟨_, rfl⟩
          have b3 : Below wx.heap.size wx w3 := by rw [hw3]; exact (Below.refl _ _).alloc (Nat.le_refl _) _
          have z3 : wx.heap.size + 1 ≤ w3.heap.size := by rw [hw3]; simp
          have y0 : w3.cell? ⟨wx.heap.size, 0, none⟩ = some (.int .i64 x) := by rw [hw3]; go_simp
          have y1 : w3.cell? ⟨wx.heap.size, 1, none⟩ = some (.int .i64 a) := by rw [hw3]; go_simp
          have y2 : w3.cell? ⟨wx.heap.size, 2, none⟩ = some (.int .i64 b') := by rw [hw3]; go_simp
          have y3 : w3.cell? ⟨wx.heap.size, 3, none⟩ = some (.int .i64 c) := by rw [hw3]; go_simp
          have y4 : w3.cell? ⟨wx.heap.size, 4, none⟩ = some (.int .i64 d) := by rw [hw3]; go_simp
          go_upto_region 10 with fail
          rw [← hw3]
          clear hw3 e0 e1 e2 e3 e4
          have t0 := cell_regrown y0
          have u0 := cell_regrown ((b3.cell (p := ⟨gn, on + k * 2, none⟩) hgn).trans p0)
          have u2 := cell_regrown ((b3.cell (p := ⟨w1.heap.size, j, none⟩) hgl).trans q0)
          have HY := Lib.hid (show (w3.cell? ⟨wx.heap.size, 0, none⟩ = some (.int .i64 x) ∧ w3.cell? ⟨wx.heap.size, 1, none⟩ = some (.int .i64 a) ∧ w3.cell? ⟨wx.heap.size, 2, none⟩ = some (.int .i64 b') ∧ w3.cell? ⟨wx.heap.size, 3, none⟩ = some (.int .i64 c) ∧ w3.cell? ⟨wx.heap.size, 4, none⟩ = some (.int .i64 d)) from ⟨y0, y1, y2, y3, y4⟩)
          clear y0 y1 y2 y3 y4 p0
          rcases hcj : s2.1.getD j true
          · by_cases hxn : x = nm
            · subst hxn
              have HH := Lib.hid (hitK_yes (S := S) (nm := x) (st := s2) (j := j) (x := (x, a, b', c, d)) hcj rfl)
              rw [hcj] at u2 q0
              clear hcj
              go_wp2_with fail
              refine wp_region_quiet_below (by kernel_rfl) (by kernel_rfl) ?_
              repeat (any_goals (first | go_big_quiet_step (fail) | quiet_step (fail)))
              refine wpQuiet_nil ?_
              intro W2 hw2
              have nn := quiet_end hw2
              clear hw2 t0 u0 u2
              have bx := b3.trans (nn.mono b3.size)
              have zx := bx.size
              have zn := nn.size
              have f0 : W2.cell? ⟨w1.heap.size, j, none⟩ = some (.bool false) := (bx.cell (p := ⟨w1.heap.size, j, none⟩) hgl).trans q0
              have f1 : W2.frozen? ⟨w1.heap.size, j, none⟩ = false := (bx.frozen (p := ⟨w1.heap.size, j, none⟩) hgl).trans qf
              have ne1 : w1.heap.size ≠ wx.heap.size := by omega
              have ne2 : wx.heap.size ≠ w1.heap.size := by omega
              have m0 := (nn.cell (p := ⟨wx.heap.size, 0, none⟩) (by show wx.heap.size < w3.heap.size; omega)).trans HY.out.1
              have m1 := (nn.cell (p := ⟨wx.heap.size, 1, none⟩) (by show wx.heap.size < w3.heap.size; omega)).trans HY.out.2.1
              have m2 := (nn.cell (p := ⟨wx.heap.size, 2, none⟩) (by show wx.heap.size < w3.heap.size; omega)).trans HY.out.2.2.1
              have m3 := (nn.cell (p := ⟨wx.heap.size, 3, none⟩) (by show wx.heap.size < w3.heap.size; omega)).trans HY.out.2.2.2.1
              have m4 := (nn.cell (p := ⟨wx.heap.size, 4, none⟩) (by show wx.heap.size < w3.heap.size; omega)).trans HY.out.2.2.2.2
              have hF2 := HFL.out.below bx
              have HF3 := Lib.hid (hF2.set (i := j) true)
              have HO3 := Lib.hid (NOwn.flag (i := j) (b := true) (HOW.out.below bx) hF2)
              have HB3 := Lib.hid ((hb.trans (bx.mono hbz)).setCell (show w.heap.size ≤ (⟨w1.heap.size, j, none⟩ : Addr).block from z1) (.bool true))
              clear hF2 q0
              go_upto_region 12 with fail
              obtain ⟨w4, hw4⟩ : ∃ V : World, V = W2.setCell ⟨w1.heap.size, j, none⟩ (.bool true) := ⟨_, rfl⟩
              have far : ∀ p v, W2.cell? ⟨wx.heap.size, p, none⟩ = some v → w4.cell? ⟨wx.heap.size, p, none⟩ = some v := fun p v e => by
                rw [hw4]
                exact (World.cell?_of_block (a := ⟨wx.heap.size, p, none⟩) (Below.heap_setCell _ _ _ _ (by show wx.heap.size ≠ _; exact ne2))).trans e
              have k0 := far _ _ m0
              have k1 := far _ _ m1
              have k2 := far _ _ m2
              have k3 := far _ _ m3
              have k4 := far _ _ m4
              rw [← hw4] at HF3 HO3 HB3 ⊢
              clear hw4 far m0 m1 m2 m3 m4 f0 f1
              have hz4 : w.heap.size ≤ w4.heap.size := HB3.out.size
              go_wp2_with fail
              refine (needsOfPick_any _ S x a b' c d _ w.heap.size hz4 (by omega) (H.out.below HB3.out)).mono ?_
              rintro e w5 ⟨ad, cap, rfl, hnd, hb5⟩
              have m5 := HB3.out.trans (hb5.mono hz4)
              obtain ⟨cs, hown5, hc5⟩ := HO3.out.below hb5
              have hlt5 := World.ownsRow.lt hown5
              have HF5 := Lib.hid (HF3.out.below hb5)
              have hML := nds_len hq5 (x, a, b', c, d)
              obtain ⟨M, hM⟩ : ∃ M, ndsOf S (x, a, b', c, d) = M := ⟨_, rfl⟩
              rw [hM] at hnd hML HH ⊢
              obtain ⟨news, l1, l2, l3, l4, l5⟩ := need_cells (x := (Value.slice (some ⟨gn, on, none⟩) s2.2.length vd).ownBlock) hnd m5.size (fun c e => (hlt5 c e).1)
              have HC5 := Lib.hid hc5
              have HL5 := Lib.hid l5
              have HNE := Lib.hid (own_ne hown5 HF5.out)
              have HHM := Lib.hid hM
              clear hc5 l5 hnd hb5 hM k0 k1 k2 k3 k4
              go_wp2_with (at_builtin; refine Ap2.wpList_append _ rfl (.tmp 49) (.tmp 52) 32 rfl w.heap.size 110 i0 (.agg #[.int .i64 0, .slice none 0 0]) 2 32 Try.underlying32 hi hz0 hz1 hz2 rfl (by decide) _ _ cs rfl hown5 ad M.length cap news (by rfl) l1 l2 l3 l4 (by unfold maxLen; omega) (by omega) m5.size ?_)
              intro a7 c7 w7 hown7 hgrow7 hat7
              have n7 : Below w.heap.size w w7 := Below.grown m5 hgrow7 m5.size (fun k e => (hlt5 k e).1)
              have hO7 := grow_any hown5 HC5.out HL5.out hown7 hgrow7 hat7
              have hF7 : Fl w7 w1.heap.size (s2.1.set j true) := HF5.out.kept (hgrow7.block _ HF5.out.lt (fun e => HNE.out _ e.symm rfl))
              have HR := Lib.hid (kin_next (w := w) (N := N) hq5 hjl HXY.out hks HOK.out HP.out HN2.out (v := .slice a7 (s2.2.length + M.length) c7) (by rw [HH.out]; exact hO7) (by rw [HH.out]; exact hF7) n7)
              clear hown7 hgrow7 hat7 hown5 hO7 hF7
              go_wp2_with fail
              go_roundw
              case rel => exact HR.out
              case measure => simp [intOf]; omega
            · have HH := Lib.hid (hitK_no (S := S) (nm := nm) (st := s2) (j := j) (x := (x, a, b', c, d)) (.inr hxn))
              have hxz : (x == nm) = false := by rw [beq_eq_false_iff_ne]; exact hxn
              rw [hcj] at u2 q0
              clear hcj
              go_wp2_with fail
              refine wp_region_quiet_below (by kernel_rfl) (by kernel_rfl) ?_
              repeat (any_goals (first | go_big_quiet_step (fail) | quiet_step (fail)))
              refine wpQuiet_nil ?_
              intro W2 hw2
              have nn := quiet_end hw2
              clear hw2 t0 u0 u2 q0
              have bx := b3.trans (nn.mono b3.size)
              have HR := Lib.hid (kin_next (w := w) (N := N) hq5 hjl HXY.out hks HOK.out HP.out HN2.out (by rw [HH.out]; exact HOW.out.below bx) (by rw [HH.out]; exact HFL.out.below bx) (hb.trans (bx.mono hbz)))
              go_wp2_with fail
              go_roundw
              case rel => exact HR.out
              case measure => simp [intOf]; omega
          · have HH := Lib.hid (hitK_no (S := S) (nm := nm) (st := s2) (j := j) (x := (x, a, b', c, d)) (.inl hcj))
            rw [hcj] at u2 q0
            clear hcj
            go_wp2_with fail
            refine wp_region_quiet_below (by kernel_rfl) (by kernel_rfl) ?_
            repeat (any_goals (first | go_big_quiet_step (fail) | quiet_step (fail)))
            refine wpQuiet_nil ?_
            intro W2 hw2
            have nn := quiet_end hw2
            clear hw2 t0 u0 u2 q0
            have bx := b3.trans (nn.mono b3.size)
            have HR := Lib.hid (kin_next (w := w) (N := N) hq5 hjl HXY.out hks HOK.out HP.out HN2.out (by rw [HH.out]; exact HOW.out.below bx) (by rw [HH.out]; exact HFL.out.below bx) (hb.trans (bx.mono hbz)))
            go_wp2_with fail
            go_roundw
            case rel => exact HR.out
            case measure => simp [intOf]; omega
        · obtain rfl : j = C.length := by omega
          have HR := Lib.hid (kup_next (by omega) HN'.out HU.out HP.out hks HOK.out HOW.out HFL.out hb)
          clear hat hp hn2 hok hown hfl
          go_wp2_with fail
          go_roundw
          case rel => exact HR.out
          case measure => simp [intOf]; omega
    · obtain rfl : k = st.2.length := by omega
      have HE := Lib.hid (show endK S N C = st by rw [hu, runK_end (Nat.le_refl _)])
      have HFE := Lib.hid hfl
      have HFG := Lib.hid hok.flags
      have zb := hb.size
      clear hok hown hfl hu
      go_wp2_with fail
      refine (picksThatCame_any _ C w1.heap.size st.1 _ (by omega) HFG.out (HZ.out.stepAt hb) HFE.out).mono ?_
      rintro e w8 ⟨r, rfl, hr, hb8⟩
      have HR := Lib.hid (hr.mono zb)
      have n8 := hb.trans (hb8.mono zb)
      clear hr hb8
      go_wp2_with fail
      go_ret
      exact ⟨r, rfl, by rw [HE.out]; exact HR.out, n8⟩


end Cpu
end Go.Proofs.Ytmhamoeibkpnpaa

/- Plain facts on which picks are needed: by places (the program) and by names (the model) it is the same. No statement of the program is in it. -/
namespace Go.Proofs.Ytmhamoeibkpnpaa

namespace Cpu
open Nup Pkf
def hasP (x : Int) (L : List Pk) : Bool := L.any fun q => decide (q.1 = x)
theorem hasP_cons (x : Int) (q : Pk) (L : List Pk) : hasP x (q :: L) = (decide (q.1 = x) || hasP x L) := rfl
theorem hasP_app (x : Int) (A B : List Pk) : hasP x (A ++ B) = (hasP x A || hasP x B) := by simp [hasP]
theorem hasP_low {L : List Pk} {lo x : Int} (h : pkFrom lo L = true) (hx : x < lo) : hasP x L = false := by
  rw [← Bool.not_eq_true]
  intro hh
  unfold hasP at hh
  rw [List.any_eq_true] at hh
  obtain ⟨q, hq, e⟩ := hh
  have := from_low h q hq
  have := of_decide_eq_true e
  omega
theorem came_mem : ∀ {C : List Pk} {c : List Bool} {x : Pk}, x ∈ cameL C c → x ∈ C
  | [], c, x, h => by simp [cameL] at h
  | y :: t, [], x, h => by simp [cameL] at h
  | y :: t, b :: c, x, h => by
    simp only [cameL] at h
    rcases List.mem_append.1 h with h | h
    · split at h
      · have : x = y := by simpa using h
        rw [this]
        simp
      · simp at h
    · exact List.mem_cons_of_mem _ (came_mem h)
theorem from_mono {L : List Pk} {lo lo' : Int} (h : pkFrom lo L = true) (hl : lo' ≤ lo) : pkFrom lo' L = true := by
  cases L with
  | nil => rfl
  | cons x t =>
    simp only [pkFrom, Bool.and_eq_true, decide_eq_true_eq] at h ⊢
    exact ⟨⟨by omega, h.1.2⟩, h.2⟩
theorem came_from : ∀ {C : List Pk} {c : List Bool} {lo : Int}, pkFrom lo C = true → pkFrom lo (cameL C c) = true
  | [], c, lo, _ => by simp [cameL, pkFrom]
  | y :: t, [], lo, _ => by simp [cameL, pkFrom]
  | y :: t, b :: c, lo, h => by
    simp only [pkFrom, Bool.and_eq_true, decide_eq_true_eq] at h
    have ih := came_from (c := c) h.2.2
    cases b
    · show pkFrom lo ([] ++ cameL t c) = true
      rw [List.nil_append]
      exact from_mono ih (by omega)
    · show pkFrom lo ([y] ++ cameL t c) = true
      simp only [List.singleton_append, pkFrom, Bool.and_eq_true, decide_eq_true_eq]
      exact ⟨h.1, h.2.1, ih⟩

theorem passK_none {S : List Rel} {nm : Int} : ∀ {t : List Pk} {i : Nat} {st : St}, (∀ x ∈ t, ¬ x.1 = nm) → passK S nm i t st = st
  | [], _, _, _ => rfl
  | x :: t, i, st, h => by
    show passK S nm (i + 1) t (hitK S nm st i x) = st
    rw [hitK_no (.inr (h x (by simp)))]
    exact passK_none fun y hy => h y (List.mem_cons_of_mem _ hy)
theorem get_no : ∀ {t : List Pk} {n : Int}, pkGet n t = none → ∀ x ∈ t, ¬ x.1 = n
  | [], _, _, x, h => by simp at h
  | y :: t, n, h, x, hx => by
    unfold pkGet at h
    split at h
    · cases h
    · rename_i hne
      rcases List.mem_cons.1 hx with rfl | hx
      · exact hne
      · exact get_no h x hx
theorem passK_get {S : List Rel} {n : Int} {v : V4} : ∀ {t : List Pk} {lo : Int} (i : Nat), pkFrom lo t = true → pkGet n t = some v → ∃ j, t[j]? = some (n, v) ∧ ∀ st, passK S n i t st = hitK S n st (i + j) (n, v)
  | [], _, _, _, h => by simp [pkGet] at h
  | x :: t, lo, i, hf, h => by
    simp only [pkFrom, Bool.and_eq_true, decide_eq_true_eq] at hf
    unfold pkGet at h
    split at h
    · rename_i e
      have hx : x = (n, v) := by
        cases h
        rw [← e]
      subst hx
      refine ⟨0, rfl, fun st => ?_⟩
      show passK S n (i + 1) t (hitK S n st i (n, v)) = _
      rw [passK_none fun y hy e => by have := from_low hf.2.2 y hy; simp only at this; omega, Nat.add_zero]
    · rename_i hne
      obtain ⟨j, h1, h2⟩ := passK_get (i + 1) hf.2.2 h
      refine ⟨j + 1, by simpa using h1, fun st => ?_⟩
      show passK S n (i + 1) t (hitK S n st i x) = _
      rw [hitK_no (.inr hne), h2, show i + 1 + j = i + (j + 1) by omega]

theorem came_flag : ∀ {C : List Pk} {c : List Bool} {lo : Int} {j : Nat} {x : Pk}, pkFrom lo C = true → C[j]? = some x → j < c.length → hasP x.1 (cameL C c) = c.getD j true
  | [], c, _, j, x, _, h, _ => by simp at h
  | y :: t, [], _, j, x, _, _, hc => by simp at hc
  | y :: t, b :: c, lo, 0, x, hf, h, _ => by
    obtain rfl : y = x := by simpa using h
    simp only [pkFrom, Bool.and_eq_true, decide_eq_true_eq] at hf
    have hn := hasP_low (x := y.1) (came_from (c := c) hf.2.2) (by omega)
    show hasP y.1 ((if b = true then [y] else []) ++ cameL t c) = b
    rw [hasP_app, hn]
    cases b <;> simp [hasP]
  | y :: t, b :: c, lo, j + 1, x, hf, h, hc => by
    simp only [pkFrom, Bool.and_eq_true, decide_eq_true_eq] at hf
    have hx : t[j]? = some x := by simpa using h
    have hl := from_low hf.2.2 x (List.mem_of_getElem? hx)
    have ih := came_flag hf.2.2 hx (c := c) (by simpa using hc)
    show hasP x.1 ((if b = true then [y] else []) ++ cameL t c) = _
    rw [hasP_app, ih]
    have hne : decide (y.1 = x.1) = false := decide_eq_false (by omega)
    cases b <;> simp [hasP, hne]
theorem came_other : ∀ {C : List Pk} {c : List Bool} {j : Nat} {x : Pk} {i : Int}, C[j]? = some x → ¬ x.1 = i → ∀ b, hasP i (cameL C (c.set j b)) = hasP i (cameL C c)
  | [], c, j, x, i, h, _, b => by simp at h
  | y :: t, [], j, x, i, _, _, b => by simp
  | y :: t, d :: c, 0, x, i, h, hne, b => by
    obtain rfl : y = x := by simpa using h
    have hz : decide (y.1 = i) = false := decide_eq_false hne
    show hasP i ((if b = true then [y] else []) ++ cameL t c) = hasP i ((if d = true then [y] else []) ++ cameL t c)
    rw [hasP_app, hasP_app]
    cases b <;> cases d <;> simp [hasP, hz]
  | y :: t, d :: c, j + 1, x, i, h, hne, b => by
    show hasP i ((if d = true then [y] else []) ++ cameL t (c.set j b)) = hasP i ((if d = true then [y] else []) ++ cameL t c)
    rw [hasP_app, hasP_app, came_other (show t[j]? = some x by simpa using h) hne b]

/-- Which names below 8 picks have. -/
def seenK (L : List Pk) : List Bool := (List.range 8).map fun (m : Nat) => hasP (m : Int) L
theorem seenK_len (L : List Pk) : (seenK L).length = 8 := by simp [seenK]
theorem seenK_at (L : List Pk) {m : Nat} (h : m < 8) : (seenK L).getD m true = hasP (m : Int) L := by
  rw [List.getD_eq_getElem?_getD]
  simp [seenK, h]
theorem seenK_next {C : List Pk} {c : List Bool} {lo : Int} {j m : Nat} {v : V4} (hf : pkFrom lo C = true) (h : C[j]? = some ((m : Int), v)) (hm : m < 8) (hc : j < c.length) : (seenK (cameL C c)).set m true = seenK (cameL C (c.set j true)) := by
  apply List.ext_getElem?
  intro i
  by_cases hi : i < 8
  · by_cases him : i = m
    · subst him
      rw [List.getElem?_set_self (by rw [seenK_len]; exact hi)]
      have := came_flag (c := c.set j true) hf h (by simpa using hc)
      simp only at this
      have e : (c.set j true).getD j true = true := by rw [List.getD_eq_getElem?_getD, List.getElem?_set_self hc]; rfl
      rw [e] at this
      simp [seenK, hi, this]
    · rw [List.getElem?_set_ne (by omega)]
      have := came_other (c := c) h (i := (i : Int)) (show ¬ (m : Int) = (i : Int) by omega) true
      simp [seenK, hi, this]
  · rw [List.getElem?_eq_none (by rw [List.length_set, seenK_len]; omega), List.getElem?_eq_none (by rw [seenK_len]; omega)]

/-- The names below a number that picks have. -/
def npTo (L : List Pk) : Nat → List Int
  | 0 => []
  | k + 1 => npTo L k ++ (if hasP (k : Int) L = true then [(k : Int)] else [])
theorem npTo_len (L : List Pk) : ∀ k, (npTo L k).length ≤ k
  | 0 => Nat.le_refl _
  | k + 1 => by
    have := npTo_len L k
    unfold npTo
    split <;> simp <;> omega
theorem low_none : ∀ {L : List Pk} {lo k : Int}, pkFrom lo L = true → k ≤ lo → L.filter (fun q => decide (q.1 < k)) = [] := fun {L lo k} h hk => by
  rw [List.filter_eq_nil_iff]
  intro q hq
  have := from_low h q hq
  simp
  omega
theorem np_step : ∀ {L : List Pk} {lo k : Int}, pkFrom lo L = true → (L.filter (fun q => decide (q.1 < k + 1))).map (·.1) = (L.filter (fun q => decide (q.1 < k))).map (·.1) ++ (if hasP k L = true then [k] else [])
  | [], _, _, _ => rfl
  | x :: t, lo, k, h => by
    simp only [pkFrom, Bool.and_eq_true, decide_eq_true_eq] at h
    have ih := np_step (k := k) h.2.2
    rw [List.filter_cons, List.filter_cons, hasP_cons]
    by_cases h1 : x.1 < k
    · rw [if_pos (decide_eq_true (by omega)), if_pos (decide_eq_true h1), decide_eq_false (show ¬ x.1 = k by omega), Bool.false_or, List.map_cons, List.map_cons, ih]
      rfl
    · by_cases h2 : x.1 = k
      · rw [if_pos (decide_eq_true (by omega)), if_neg (by simp; omega), decide_eq_true h2, Bool.true_or, if_pos rfl, low_none h.2.2 (show k + 1 ≤ x.1 + 1 by omega), low_none h.2.2 (show k ≤ x.1 + 1 by omega)]
        simp [h2]
      · rw [if_neg (by simp; omega), if_neg (by simp; omega), decide_eq_false h2, Bool.false_or]
        exact ih
theorem np_filter {L : List Pk} {lo : Int} (h : pkFrom lo L = true) (h0 : 0 ≤ lo) : ∀ k : Nat, npTo L k = (L.filter (fun q => decide (q.1 < (k : Int)))).map (·.1)
  | 0 => by
    rw [low_none h (show ((0 : Nat) : Int) ≤ lo by omega)]
    rfl
  | k + 1 => by
    show npTo L k ++ _ = _
    rw [np_filter h h0 k, show ((k + 1 : Nat) : Int) = (k : Int) + 1 by omega, np_step h]
theorem np_all {L : List Pk} (h : pkFrom 0 L = true) : npTo L 8 = L.map (·.1) := by
  rw [np_filter h (Int.le_refl 0) 8]
  congr 1
  rw [List.filter_eq_self]
  intro q hq
  have := (from_top h q hq).1
  simp
  omega

/-- What the model's loop over names leaves of a pick, and of all. -/
def repK (x : Pk) : List Int → List Pk
  | [] => []
  | m :: t => (if m = x.1 then [x] else []) ++ repK x t
def selK (names : List Int) : List Pk → List Pk
  | [] => []
  | x :: t => repK x names ++ selK names t
theorem repK_none {x : Pk} : ∀ {names : List Int}, (∀ m ∈ names, ¬ m = x.1) → repK x names = []
  | [], _ => rfl
  | m :: t, h => by
    show (if m = x.1 then [x] else []) ++ repK x t = []
    rw [if_neg (h m (by simp)), repK_none fun y hy => h y (List.mem_cons_of_mem _ hy)]
    rfl
theorem repK_step {x : Pk} {names : List Int} {j : Nat} {m : Int} (h : names[j]? = some m) : repK x (names.drop j) = (if m = x.1 then [x] else []) ++ repK x (names.drop (j + 1)) := by
  have hj : j < names.length := (List.getElem?_eq_some_iff.1 h).1
  rw [List.drop_eq_getElem_cons hj, (List.getElem?_eq_some_iff.1 h).2]
  rfl
theorem repK_len {x : Pk} : ∀ names : List Int, (repK x names).length ≤ names.length
  | [] => Nat.le_refl _
  | m :: t => by
    have := repK_len (x := x) t
    unfold repK
    split <;> simp <;> omega
theorem selK_step {names : List Int} {C : List Pk} {k : Nat} {x : Pk} (h : C[k]? = some x) : selK names (C.drop k) = repK x names ++ selK names (C.drop (k + 1)) := by
  have hj : k < C.length := (List.getElem?_eq_some_iff.1 h).1
  rw [List.drop_eq_getElem_cons hj, (List.getElem?_eq_some_iff.1 h).2]
  rfl
theorem selK_nil : ∀ C : List Pk, selK [] C = []
  | [] => rfl
  | x :: t => by show repK x [] ++ selK [] t = []; rw [selK_nil t]; rfl
theorem selK_skip {y : Int} {names : List Int} : ∀ {t : List Pk}, (∀ x ∈ t, ¬ y = x.1) → selK (y :: names) t = selK names t
  | [], _ => rfl
  | x :: t, h => by
    show ((if y = x.1 then [x] else []) ++ repK x names) ++ selK (y :: names) t = repK x names ++ selK names t
    rw [if_neg (h x (by simp)), selK_skip fun z hz => h z (List.mem_cons_of_mem _ hz)]
    rfl
theorem sel_came : ∀ {C : List Pk} {c : List Bool} {lo : Int}, pkFrom lo C = true → selK ((cameL C c).map (·.1)) C = cameL C c
  | [], c, _, _ => by simp [cameL, selK]
  | x :: t, [], _, _ => by show selK [] _ = []; exact selK_nil _
  | x :: t, b :: c, lo, h => by
    simp only [pkFrom, Bool.and_eq_true, decide_eq_true_eq] at h
    have ih := sel_came (c := c) h.2.2
    have hno : ∀ m ∈ (cameL t c).map (·.1), ¬ m = x.1 := fun m hm e => by
      obtain ⟨q, hq, rfl⟩ := List.mem_map.1 hm
      have := from_low h.2.2 q (came_mem hq)
      omega
    have hnt : ∀ y ∈ t, ¬ x.1 = y.1 := fun y hy e => by
      have := from_low h.2.2 y hy
      omega
    cases b
    · show repK x ((cameL t c).map (·.1)) ++ selK ((cameL t c).map (·.1)) t = [] ++ cameL t c
      rw [repK_none hno, ih]
    · show ((if x.1 = x.1 then [x] else []) ++ repK x ((cameL t c).map (·.1))) ++ selK (x.1 :: (cameL t c).map (·.1)) t = [x] ++ cameL t c
      rw [if_pos rfl, repK_none hno, selK_skip hnt, ih]
      rfl
theorem sel_trim (S : List Rel) (N : List Nd) (C : List Pk) : selK (reachL S N C) C = trimL S N C := by
  unfold reachL trimL
  split
  · rename_i h
    rw [Bool.and_eq_true] at h
    exact sel_came (lo := 0) h.2
  · exact selK_nil C
theorem reach_names {S : List Rel} {N : List Nd} {C : List Pk} (hS : shOk S = true) (hN : ndOk N = true) (hC : pkOk C = true) : reachL S N C = npTo (cameL C (endK S N C).1) 8 := by
  have h0 : pkFrom 0 C = true := hC
  rw [np_all (came_from h0)]
  unfold reachL trimL
  rw [hS, hN, hC]
  rfl
end Cpu
end Go.Proofs.Ytmhamoeibkpnpaa

/- Contracts of the program's ChoiceFault and of what it calls, over this seat's translation, as plain functions tell them; nothing that was there before a call has changed. Condition: at most 1048576 of each row and of what is in it. -/
namespace Go.Proofs.Ytmhamoeibkpnpaa
open Go.RowKit Go.Sort

namespace Cfa
open Foot Copy Nup Cpu
theorem all_step {α : Type} {L : List α} {k : Nat} {x : α} (p : α → Bool) (h : L[k]? = some x) : (L.drop k).all p = (p x && (L.drop (k + 1)).all p) := by
  have hk : k < L.length := (List.getElem?_eq_some_iff.1 h).1
  rw [List.drop_eq_getElem_cons hk, (List.getElem?_eq_some_iff.1 h).2]
  rfl
def thereP (S : List Rel) (x : Pk) : Bool := decide (0 ≤ shFind x.1 x.2 0 S)
def goneAt (S : List Rel) (x : Pk) : Bool := if 0 ≤ shFind x.1 x.2 0 S then (match S[(shFind x.1 x.2 0 S).toNat]? with | some r => r.2.2.1 | none => false) else false
def heldP (H : List Pk) (x : Pk) : Bool := decide (pkGet x.1 H = some x.2)
def allowP (S : List Rel) (H : List Pk) (x : Pk) : Bool := !(goneAt S x && !heldP H x)
def metP (C : List Pk) (n : Nd) : Bool := match pkGet n.1 C with
  | some (a, b, c, d) => hasL n.2 a b c d
  | none => false
def innerP (S : List Rel) (C : List Pk) (x : Pk) : Bool := (ndsOf S x).all (metP C)
def faultF (S : List Rel) (N : List Nd) (H C : List Pk) : Int :=
  if (shOk S && (ndOk N && (pkOk H && pkOk C))) = true then
    (if C.all (thereP S) = true then
      (if C.all (allowP S H) = true then
        (if N.all (metP C) = true then
          (if C.all (innerP S C) = true then
            (if (cameL C (endK S N C).1).length < C.length then 6 else 0)
          else 5)
        else 4)
      else 3)
    else 2)
  else 1
theorem gone_cases (S : List Rel) (x : Pk) : (shFind x.1 x.2 0 S = -1 ∧ goneAt S x = false) ∨ ∃ i, ∃ h : i < S.length, shFind x.1 x.2 0 S = (i : Int) ∧ goneAt S x = S[i].2.2.1 := by
  rcases shFind_range x.1 x.2 S 0 with h | ⟨j, h, hj⟩
  · left
    refine ⟨h, ?_⟩
    unfold goneAt
    rw [h]
    rfl
  · right
    rw [Nat.zero_add] at h
    refine ⟨j, hj, h, ?_⟩
    unfold goneAt
    rw [h, if_pos (by omega), Int.toNat_natCast, List.getElem?_eq_getElem hj]

theorem shFind_hit {n : Int} {v : Int × Int × Int × Int} : ∀ {S : List Rel} {k j : Nat}, shFind n v k S = ((k + j : Nat) : Int) → ∀ h : j < S.length, S[j].1 = n ∧ S[j].2.1 = v
  | [], _, _, _, h => absurd h (by simp)
  | q :: t, k, j, hf, h => by
    unfold shFind at hf
    split at hf
    · rename_i hq
      obtain rfl : j = 0 := by omega
      exact hq
    · cases j with
      | zero =>
        rcases shFind_range n v t (k + 1) with e | ⟨m, e, _⟩
        · omega
        · omega
      | succ j =>
        exact shFind_hit (k := k + 1) (j := j) (by rw [hf]; congr 1; omega) (by simpa using h)

set_option maxRecDepth 100000 in
set_option maxHeartbeats 4000000 in
theorem picksThere_any (u z : Value) (S : List Rel) (C : List Pk) (w : World) (hl : S.length ≤ 1048576) (hC : C.length ≤ 1048576) (h : RlAt w w.heap.size u S) (h2 : PkAt w w.heap.size z C) :
    Calls Try.prog 91 #[u, z] w fun e w' => e = .returned (.bool (C.all (thereP S))) ∧ Below w.heap.size w w' := by
  obtain ⟨sa, caps, rfl, hx⟩ := id h
  obtain ⟨pa, pc, rfl, h0⟩ := id h2
  clear hx
  have H := Lib.hid h
  clear h h2
  go_enter Try.func91, Try.ntmps91
  go_wp2_with fail
  go_loopw [9] (fun i wr => ∃ k : Nat, k ≤ C.length ∧ i = .int .i64 (k : Int) ∧ C.all (thereP S) = (C.drop k).all (thereP S) ∧ Below w.heap.size w wr) (fun i _ => C.length - (intOf i).toNat)
  case atStart => exact ⟨0, Nat.zero_le _, rfl, rfl, Below.refl _ _⟩
  case round =>
    obtain ⟨k, hk, rfl, he, hb⟩ := hrel
    have HE := Lib.hid he
    clear he
    by_cases hlt : k < C.length
    · rcases h0 with h0 | ⟨b, o, rfl, hB, hc⟩
      · subst h0
        exact absurd hlt (by simp)
      obtain ⟨x, a, b', c, d, hxy⟩ : ∃ x a b c d, C[k] = (x, a, b, c, d) := ⟨_, _, _, _, _, rfl⟩
      obtain ⟨r0, r1, r2, r3, r4⟩ := hc k hlt
      rw [hxy] at r0 r1 r2 r3 r4
      simp only at r0 r1 r2 r3 r4
      have e0 := (hb.cell (p := ⟨b, o + k * 5, none⟩) hB).trans r0
      have e1 := (hb.cell (p := ⟨b, o + k * 5 + 1, none⟩) hB).trans r1
      have e2 := (hb.cell (p := ⟨b, o + k * 5 + 2, none⟩) hB).trans r2
      have e3 := (hb.cell (p := ⟨b, o + k * 5 + 3, none⟩) hB).trans r3
      have e4 := (hb.cell (p := ⟨b, o + k * 5 + 4, none⟩) hB).trans r4
      have HXY := Lib.hid (show C[k]? = some (x, a, b', c, d) by rw [List.getElem?_eq_getElem hlt, hxy])
      have bB : b < wr.heap.size := Nat.lt_of_lt_of_le hB hb.size
      have i0 : (0 : Int) ≤ (k : Int) := by omega
      have i1 : (k : Int) < (C.length : Int) := by omega
      obtain ⟨w3, hw3⟩ : ∃ V : World, V = wr.alloc (.cells #[.int .i64 x, .int .i64 a, .int .i64 b', .int .i64 c, .int .i64 d] 71) := ⟨_, rfl⟩
      have b3 : Below wr.heap.size wr w3 := by rw [hw3]; exact (Below.refl _ _).alloc (Nat.le_refl _) _
      have z3 : wr.heap.size + 1 ≤ w3.heap.size := by rw [hw3]; simp
      have y0 : w3.cell? ⟨wr.heap.size, 0, none⟩ = some (.int .i64 x) := by rw [hw3]; go_simp
      have y1 : w3.cell? ⟨wr.heap.size, 1, none⟩ = some (.int .i64 a) := by rw [hw3]; go_simp
      have y2 : w3.cell? ⟨wr.heap.size, 2, none⟩ = some (.int .i64 b') := by rw [hw3]; go_simp
      have y3 : w3.cell? ⟨wr.heap.size, 3, none⟩ = some (.int .i64 c) := by rw [hw3]; go_simp
      have y4 : w3.cell? ⟨wr.heap.size, 4, none⟩ = some (.int .i64 d) := by rw [hw3]; go_simp
      have n3 : Below w.heap.size w w3 := hb.trans (b3.mono hb.size)
      clear hxy r0 r1 r2 r3 r4
      go_upto_region 4 with fail
      rw [← hw3]
      clear hw3 e0 e1 e2 e3 e4
      have K : Hid (∀ V, RlAt V V.heap.size (.slice sa S.length caps) S → Calls Try.prog 117 #[.slice sa S.length caps, .int .i64 x, ver a b' c d] V fun e w' => e = .returned (.int .i64 (shFind x (a, b', c, d) 0 S)) ∧ Below V.heap.size V w') := Lib.hid fun V g => placeOf_any _ S x a b' c d V hl g
      have HST := Lib.hid (all_step (thereP S) HXY.out)
      rcases shFind_range x (a, b', c, d) S 0 with hf | ⟨j, hf, hj⟩
      · have HT := Lib.hid (show thereP S (x, a, b', c, d) = false by unfold thereP; simp only; rw [hf]; rfl)
        rw [hf] at K
        clear hf
        go_wp2_with fail
        refine (K.out _ (H.out.stepAt n3)).mono ?_
        rintro e w4 ⟨rfl, hb4⟩
        go_wp2_with fail
        go_ret
        exact ⟨by rw [HE.out, HST.out, HT.out]; rfl, n3.trans (hb4.mono n3.size)⟩
      · rw [Nat.zero_add] at hf
        have HT := Lib.hid (show thereP S (x, a, b', c, d) = true by unfold thereP; simp only; rw [hf]; exact decide_eq_true (by omega))
        rw [hf] at K
        have jn : ¬ (j : Int) < 0 := by omega
        clear hf hj
        go_wp2_with fail
        refine (K.out _ (H.out.stepAt n3)).mono ?_
        rintro e w4 ⟨rfl, hb4⟩
        have HR := Lib.hid (show ∃ k' : Nat, k' ≤ C.length ∧ Value.int .i64 ((k : Int) + 1) = .int .i64 (k' : Int) ∧ C.all (thereP S) = (C.drop k').all (thereP S) ∧ Below w.heap.size w w4 from ⟨k + 1, by omega, by go_num, by rw [HE.out, HST.out, HT.out]; rfl, n3.trans (hb4.mono n3.size)⟩)
        clear hb4
        go_wp2_with fail
        go_roundw
        case rel => exact HR.out
        case measure => simp [intOf]; omega
    · obtain rfl : k = C.length := by omega
      have HQ := Lib.hid (show C.all (thereP S) = true by rw [HE.out, List.drop_length]; rfl)
      go_wp2_with fail
      go_ret
      exact ⟨by rw [HQ.out]; rfl, hb⟩

set_option maxRecDepth 100000 in
set_option maxHeartbeats 4000000 in
theorem picked_any (z : Value) (C : List Pk) (x p q r s : Int) (w : World) (hC : C.length ≤ 1048576) (h2 : PkAt w w.heap.size z C) :
    Calls Try.prog 113 #[z, pick x p q r s] w fun e w' => e = .returned (.bool (heldP C (x, p, q, r, s))) ∧ Below w.heap.size w w' := by
  obtain ⟨pa, pc, rfl, hx⟩ := id h2
  clear hx
  have H := Lib.hid h2
  have K : Hid (∀ V, PkAt V V.heap.size (.slice pa C.length pc) C → Calls Try.prog 56 #[.slice pa C.length pc, .int .i64 x] V fun e w' => e = .returned (got (pkGet x C)) ∧ Below V.heap.size V w') := Lib.hid fun V g => versionPicked_any _ C x V hC g
  clear h2
  obtain ⟨w1, hw1⟩ : ∃ V : World, V = w.alloc (.cells #[.int .i64 x, .int .i64 p, .int .i64 q, .int .i64 r, .int .i64 s] 71) := ⟨_, rfl⟩
  have b1 : Below w.heap.size w w1 := by rw [hw1]; exact (Below.refl _ _).alloc (Nat.le_refl _) _
  have z1 : w.heap.size + 1 ≤ w1.heap.size := by rw [hw1]; simp
  have y0 : w1.cell? ⟨w.heap.size, 0, none⟩ = some (.int .i64 x) := by rw [hw1]; go_simp
  have y1 : w1.cell? ⟨w.heap.size, 1, none⟩ = some (.int .i64 p) := by rw [hw1]; go_simp
  have y2 : w1.cell? ⟨w.heap.size, 2, none⟩ = some (.int .i64 q) := by rw [hw1]; go_simp
  have y3 : w1.cell? ⟨w.heap.size, 3, none⟩ = some (.int .i64 r) := by rw [hw1]; go_simp
  have y4 : w1.cell? ⟨w.heap.size, 4, none⟩ = some (.int .i64 s) := by rw [hw1]; go_simp
  go_enter Try.func113, Try.ntmps113
  go_upto_region 1 with fail
  rw [← hw1]
  clear hw1
  rcases hg : pkGet x C with _ | ⟨va, vb, vc, vd⟩
  · rw [hg] at K
    simp only [got] at K
    have HT := Lib.hid (show heldP C (x, p, q, r, s) = false by unfold heldP; simp only; rw [hg]; rfl)
    clear hg
    go_wp2_with fail
    refine (K.out _ (H.out.stepAt b1)).mono ?_
    rintro e w2 ⟨rfl, hb⟩
    have b2 := b1.trans (hb.mono b1.size)
    go_wp2_with fail
    go_ret
    exact ⟨by rw [HT.out]; rfl, b2.alloc b2.size _⟩
  · rw [hg] at K
    simp only [got] at K
    go_wp2_with fail
    refine (K.out _ (H.out.stepAt b1)).mono ?_
    rintro e w2 ⟨rfl, hb⟩
    have b2 := b1.trans (hb.mono b1.size)
    have z2 := hb.size
    have x1 := (hb.cell (p := ⟨w.heap.size, 1, none⟩) (by show w.heap.size < w1.heap.size; omega)).trans y1
    have x2 := (hb.cell (p := ⟨w.heap.size, 2, none⟩) (by show w.heap.size < w1.heap.size; omega)).trans y2
    have x3 := (hb.cell (p := ⟨w.heap.size, 3, none⟩) (by show w.heap.size < w1.heap.size; omega)).trans y3
    have x4 := (hb.cell (p := ⟨w.heap.size, 4, none⟩) (by show w.heap.size < w1.heap.size; omega)).trans y4
    have zl : w.heap.size < w2.heap.size := by omega
    clear hb y0 y1 y2 y3 y4
    by_cases hv : va = p ∧ vb = q ∧ vc = r ∧ vd = s
    · have HT := Lib.hid (show heldP C (x, p, q, r, s) = true by unfold heldP; simp only; rw [hg]; exact decide_eq_true (by obtain ⟨rfl, rfl, rfl, rfl⟩ := hv; rfl))
      have hva := ver_alike' hv
      clear hg hv
      go_wp2_with fail
      go_ret
      exact ⟨by rw [HT.out]; rfl, b2.alloc b2.size _⟩
    · have HT := Lib.hid (show heldP C (x, p, q, r, s) = false by unfold heldP; simp only; rw [hg]; exact decide_eq_false (by intro e; injection e with e; simp only [Prod.mk.injEq] at e; exact hv e))
      have hva := ver_differ' hv
      clear hg hv
      go_wp2_with fail
      go_ret
      exact ⟨by rw [HT.out]; rfl, b2.alloc b2.size _⟩

set_option maxRecDepth 100000 in
set_option maxHeartbeats 4000000 in
theorem releaseAllowed_any (z v : Value) (D : List Pk) (x a b c d : Int) (f : Bool) (w : World) (hD : D.length ≤ 1048576) (h2 : PkAt w w.heap.size z D) :
    Calls Try.prog 85 #[rels x a b c d f v, z] w fun e w' => e = .returned (.bool (!f || heldP D (x, a, b, c, d))) ∧ Below w.heap.size w w' := by
  obtain ⟨pa, pc, rfl, hx⟩ := id h2
  clear hx
  have H := Lib.hid h2
  have KP : Hid (∀ V, PkAt V V.heap.size (.slice pa D.length pc) D → Calls Try.prog 113 #[.slice pa D.length pc, pick x a b c d] V fun e w' => e = .returned (.bool (heldP D (x, a, b, c, d))) ∧ Below V.heap.size V w') := Lib.hid fun V g => picked_any _ D x a b c d V hD g
  clear h2
  obtain ⟨w1, hw1⟩ : ∃ V : World, V = w.alloc (.cells #[.int .i64 x, .int .i64 a, .int .i64 b, .int .i64 c, .int .i64 d, .bool f, v] 104) := ⟨_, rfl⟩
  have b1 : Below w.heap.size w w1 := by rw [hw1]; exact (Below.refl _ _).alloc (Nat.le_refl _) _
  have z1 : w.heap.size + 1 ≤ w1.heap.size := by rw [hw1]; simp
  have y0 : w1.cell? ⟨w.heap.size, 0, none⟩ = some (.int .i64 x) := by rw [hw1]; go_simp
  have y1 : w1.cell? ⟨w.heap.size, 1, none⟩ = some (.int .i64 a) := by rw [hw1]; go_simp
  have y2 : w1.cell? ⟨w.heap.size, 2, none⟩ = some (.int .i64 b) := by rw [hw1]; go_simp
  have y3 : w1.cell? ⟨w.heap.size, 3, none⟩ = some (.int .i64 c) := by rw [hw1]; go_simp
  have y4 : w1.cell? ⟨w.heap.size, 4, none⟩ = some (.int .i64 d) := by rw [hw1]; go_simp
  have y5 : w1.cell? ⟨w.heap.size, 5, none⟩ = some (.bool f) := by rw [hw1]; go_simp
  go_enter Try.func85, Try.ntmps85
  go_upto_region 1 with fail
  rw [← hw1]
  clear hw1
  cases f
  · clear KP
    go_wp2_with fail
    go_ret
    exact ⟨rfl, b1⟩
  · obtain ⟨hd, hhd⟩ : ∃ hd : Bool, heldP D (x, a, b, c, d) = hd := ⟨_, rfl⟩
    rw [hhd] at KP
    have HH := Lib.hid hhd
    clear hhd
    go_wp2_with fail
    refine (KP.out _ (H.out.stepAt b1)).mono ?_
    rintro e w2 ⟨rfl, hb⟩
    have b2 := b1.trans (hb.mono b1.size)
    clear hb
    go_wp2_with fail
    go_ret
    exact ⟨by rw [HH.out]; cases hd <;> rfl, b2⟩

set_option maxRecDepth 100000 in
set_option maxHeartbeats 8000000 in
theorem picksAllowed_any (u y z : Value) (S : List Rel) (D C : List Pk) (w : World) (hl : S.length ≤ 1048576) (hD : D.length ≤ 1048576) (hC : C.length ≤ 1048576) (h : RlAt w w.heap.size u S) (h1 : PkAt w w.heap.size y D) (h2 : PkAt w w.heap.size z C) :
    Calls Try.prog 92 #[u, y, z] w fun e w' => e = .returned (.bool (C.all (allowP S D))) ∧ Below w.heap.size w w' := by
  obtain ⟨sa, caps, rfl, hx⟩ := id h
  obtain ⟨da, dc, rfl, hx'⟩ := id h1
  obtain ⟨pa, pc, rfl, h0⟩ := id h2
  clear hx'
  have H := Lib.hid h
  have HX := Lib.hid hx
  have H1 := Lib.hid h1
  clear h h1 h2 hx
  go_enter Try.func92, Try.ntmps92
  go_wp2_with fail
  go_loopw [12] (fun i wr => ∃ k : Nat, k ≤ C.length ∧ i = .int .i64 (k : Int) ∧ C.all (allowP S D) = (C.drop k).all (allowP S D) ∧ Below w.heap.size w wr) (fun i _ => C.length - (intOf i).toNat)
  case atStart => exact ⟨0, Nat.zero_le _, rfl, rfl, Below.refl _ _⟩
  case round =>
    obtain ⟨k, hk, rfl, he, hb⟩ := hrel
    have HE := Lib.hid he
    clear he
    by_cases hlt : k < C.length
    · rcases h0 with h0 | ⟨b, o, rfl, hB, hc⟩
      · subst h0
        exact absurd hlt (by simp)
      obtain ⟨x, a, b', c, d, hxy⟩ : ∃ x a b c d, C[k] = (x, a, b, c, d) := ⟨_, _, _, _, _, rfl⟩
      obtain ⟨r0, r1, r2, r3, r4⟩ := hc k hlt
      rw [hxy] at r0 r1 r2 r3 r4
      simp only at r0 r1 r2 r3 r4
      have e0 := (hb.cell (p := ⟨b, o + k * 5, none⟩) hB).trans r0
      have e1 := (hb.cell (p := ⟨b, o + k * 5 + 1, none⟩) hB).trans r1
      have e2 := (hb.cell (p := ⟨b, o + k * 5 + 2, none⟩) hB).trans r2
      have e3 := (hb.cell (p := ⟨b, o + k * 5 + 3, none⟩) hB).trans r3
      have e4 := (hb.cell (p := ⟨b, o + k * 5 + 4, none⟩) hB).trans r4
      have HXY := Lib.hid (show C[k]? = some (x, a, b', c, d) by rw [List.getElem?_eq_getElem hlt, hxy])
      have bB : b < wr.heap.size := Nat.lt_of_lt_of_le hB hb.size
      have i0 : (0 : Int) ≤ (k : Int) := by omega
      have i1 : (k : Int) < (C.length : Int) := by omega
      obtain ⟨w3, hw3⟩ : ∃ V : World, V = wr.alloc (.cells #[.int .i64 x, .int .i64 a, .int .i64 b', .int .i64 c, .int .i64 d] 71) := ⟨_, rfl⟩
      have b3 : Below wr.heap.size wr w3 := by rw [hw3]; exact (Below.refl _ _).alloc (Nat.le_refl _) _
      have z3 : wr.heap.size + 1 ≤ w3.heap.size := by rw [hw3]; simp
      have y0 : w3.cell? ⟨wr.heap.size, 0, none⟩ = some (.int .i64 x) := by rw [hw3]; go_simp
      have y1 : w3.cell? ⟨wr.heap.size, 1, none⟩ = some (.int .i64 a) := by rw [hw3]; go_simp
      have y2 : w3.cell? ⟨wr.heap.size, 2, none⟩ = some (.int .i64 b') := by rw [hw3]; go_simp
      have y3 : w3.cell? ⟨wr.heap.size, 3, none⟩ = some (.int .i64 c) := by rw [hw3]; go_simp
      have y4 : w3.cell? ⟨wr.heap.size, 4, none⟩ = some (.int .i64 d) := by rw [hw3]; go_simp
      have n3 : Below w.heap.size w w3 := hb.trans (b3.mono hb.size)
      clear hxy r0 r1 r2 r3 r4
      go_upto_region 4 with fail
      rw [← hw3]
      clear hw3 e0 e1 e2 e3 e4
      have K : Hid (∀ V, RlAt V V.heap.size (.slice sa S.length caps) S → Calls Try.prog 117 #[.slice sa S.length caps, .int .i64 x, ver a b' c d] V fun e w' => e = .returned (.int .i64 (shFind x (a, b', c, d) 0 S)) ∧ Below V.heap.size V w') := Lib.hid fun V g => placeOf_any _ S x a b' c d V hl g
      have KP : Hid (∀ V, PkAt V V.heap.size (.slice da D.length dc) D → Calls Try.prog 113 #[.slice da D.length dc, pick x a b' c d] V fun e w' => e = .returned (.bool (heldP D (x, a, b', c, d))) ∧ Below V.heap.size V w') := Lib.hid fun V g => picked_any _ D x a b' c d V hD g
      have HST := Lib.hid (all_step (allowP S D) HXY.out)
      rcases gone_cases S (x, a, b', c, d) with ⟨hf, hg⟩ | ⟨j, hj, hf, hg⟩
      · have HT := Lib.hid (show allowP S D (x, a, b', c, d) = true by unfold allowP; rw [hg]; rfl)
        simp only at hf
        rw [hf] at K
        clear hf hg KP
        go_wp2_with fail
        refine (K.out _ (H.out.stepAt n3)).mono ?_
        rintro e w4 ⟨rfl, hb4⟩
        have HR := Lib.hid (show ∃ k' : Nat, k' ≤ C.length ∧ Value.int .i64 ((k : Int) + 1) = .int .i64 (k' : Int) ∧ C.all (allowP S D) = (C.drop k').all (allowP S D) ∧ Below w.heap.size w w4 from ⟨k + 1, by omega, by go_num, by rw [HE.out, HST.out, HT.out]; rfl, n3.trans (hb4.mono n3.size)⟩)
        clear hb4
        go_wp2_with fail
        go_roundw
        case rel => exact HR.out
        case measure => simp [intOf]; omega
      · simp only at hf
        rw [hf] at K
        obtain ⟨sb, so, hsa, hsB, hsc⟩ : ∃ b o, sa = some ⟨b, o, none⟩ ∧ b < w.heap.size ∧ ∀ i (h : i < S.length), RlC w w.heap.size b (o + i * 7) S[i] := by
          rcases HX.out with hh | hh
          · rw [hh] at hj; simp at hj
          · exact hh
        subst hsa
        obtain ⟨⟨c0, c1, c2, c3, c4, c5⟩, na, nc, c6, _⟩ := hsc j hj
        have j0 : (0 : Int) ≤ (j : Int) := by omega
        have j1 : (j : Int) < (S.length : Int) := by omega
        obtain ⟨hk0, hk1⟩ := shFind_hit (k := 0) (by rw [hf, Nat.zero_add]) hj
        have HT := Lib.hid (show allowP S D (x, a, b', c, d) = (!S[j].2.2.1 || heldP D (x, a, b', c, d)) by unfold allowP; rw [hg]; cases S[j].2.2.1 <;> simp)
        obtain ⟨rx, ra, rb, rc, rd, rf, rM, hrj⟩ : ∃ x a b c d f M, S[j] = (x, (a, b, c, d), f, M) := ⟨_, _, _, _, _, _, _, rfl⟩
        rw [hrj] at c0 c1 c2 c3 c4 c5 c6 hk0 hk1 HT
        simp only at c0 c1 c2 c3 c4 c5 c6 hk0 hk1
        simp only [Prod.mk.injEq] at hk1
        obtain ⟨rfl, rfl, rfl, rfl⟩ := hk1
        subst hk0
        clear hf hsc hrj hg KP
        have KR : Hid (∀ V, PkAt V V.heap.size (.slice da D.length dc) D → Calls Try.prog 85 #[rels rx ra rb rc rd rf (.slice na rM.length nc), .slice da D.length dc] V fun e w' => e = .returned (.bool (!rf || heldP D (rx, ra, rb, rc, rd))) ∧ Below V.heap.size V w') := Lib.hid fun V g => releaseAllowed_any _ _ D rx ra rb rc rd rf V hD g
        obtain ⟨al, hal⟩ : ∃ al : Bool, (!rf || heldP D (rx, ra, rb, rc, rd)) = al := ⟨_, rfl⟩
        have HT2 := Lib.hid (HT.out.trans hal)
        rw [hal] at KR
        clear HT hal
        go_wp2_with fail
        refine (K.out _ (H.out.stepAt n3)).mono ?_
        rintro e w4 ⟨rfl, hb4⟩
        have m4 := n3.trans (hb4.mono n3.size)
        have q0 := (m4.cell (p := ⟨sb, so + j * 7, none⟩) hsB).trans c0
        have q1 := (m4.cell (p := ⟨sb, so + j * 7 + 1, none⟩) hsB).trans c1
        have q2 := (m4.cell (p := ⟨sb, so + j * 7 + 2, none⟩) hsB).trans c2
        have q3 := (m4.cell (p := ⟨sb, so + j * 7 + 3, none⟩) hsB).trans c3
        have q4 := (m4.cell (p := ⟨sb, so + j * 7 + 4, none⟩) hsB).trans c4
        have q5 := (m4.cell (p := ⟨sb, so + j * 7 + 5, none⟩) hsB).trans c5
        have q6 := (m4.cell (p := ⟨sb, so + j * 7 + 6, none⟩) hsB).trans c6
        clear hb4 c0 c1 c2 c3 c4 c5 c6
        cases al
        · go_wp2_with fail
          refine (KR.out _ (H1.out.stepAt m4)).mono ?_
          rintro e w5 ⟨rfl, hb5⟩
          go_wp2_with fail
          go_ret
          exact ⟨by rw [HE.out, HST.out, HT2.out]; rfl, m4.trans (hb5.mono m4.size)⟩
        · go_wp2_with fail
          refine (KR.out _ (H1.out.stepAt m4)).mono ?_
          rintro e w5 ⟨rfl, hb5⟩
          have HR := Lib.hid (show ∃ k' : Nat, k' ≤ C.length ∧ Value.int .i64 ((k : Int) + 1) = .int .i64 (k' : Int) ∧ C.all (allowP S D) = (C.drop k').all (allowP S D) ∧ Below w.heap.size w w5 from ⟨k + 1, by omega, by go_num, by rw [HE.out, HST.out, HT2.out]; rfl, m4.trans (hb5.mono m4.size)⟩)
          clear hb5
          go_wp2_with fail
          go_roundw
          case rel => exact HR.out
          case measure => simp [intOf]; omega
    · obtain rfl : k = C.length := by omega
      have HQ := Lib.hid (show C.all (allowP S D) = true by rw [HE.out, List.drop_length]; rfl)
      go_wp2_with fail
      go_ret
      exact ⟨by rw [HQ.out]; rfl, hb⟩

set_option maxRecDepth 100000 in
set_option maxHeartbeats 8000000 in
theorem needsMet_any (u z : Value) (N : List Nd) (C : List Pk) (w : World) (hN : N.length ≤ 1048576) (hq : ∀ q ∈ N, q.2.length ≤ 1048576) (hC : C.length ≤ 1048576) (h : NdAt w w.heap.size u N) (h2 : PkAt w w.heap.size z C) :
    Calls Try.prog 93 #[u, z] w fun e w' => e = .returned (.bool (N.all (metP C))) ∧ Below w.heap.size w w' := by
  obtain ⟨na, ncap, rfl, h0⟩ := id h
  obtain ⟨pa, pc, rfl, hx⟩ := id h2
  clear hx
  have H := Lib.hid h2
  clear h h2
  go_enter Try.func93, Try.ntmps93
  go_wp2_with fail
  go_loopw [11] (fun i wr => ∃ k : Nat, k ≤ N.length ∧ i = .int .i64 (k : Int) ∧ N.all (metP C) = (N.drop k).all (metP C) ∧ Below w.heap.size w wr) (fun i _ => N.length - (intOf i).toNat)
  case atStart => exact ⟨0, Nat.zero_le _, rfl, rfl, Below.refl _ _⟩
  case round =>
    obtain ⟨k, hk, rfl, he, hb⟩ := hrel
    have HE := Lib.hid he
    clear he
    by_cases hlt : k < N.length
    · rcases h0 with h0 | ⟨b, o, rfl, hB, hc⟩
      · subst h0
        exact absurd hlt (by simp)
      obtain ⟨nm, L, hxy⟩ : ∃ nm L, N[k] = (nm, L) := ⟨_, _, rfl⟩
      obtain ⟨r0, la, lc, r1, hs⟩ := (hc k hlt).below hb hB
      rw [hxy] at r0 r1 hs
      simp only at r0 r1 hs
      have hL : L.length ≤ 1048576 := by have := hq _ (List.getElem_mem hlt); rwa [hxy] at this
      have HXY := Lib.hid (show N[k]? = some (nm, L) by rw [List.getElem?_eq_getElem hlt, hxy])
      have HS := Lib.hid (hs.mono hb.size)
      have bB : b < wr.heap.size := Nat.lt_of_lt_of_le hB hb.size
      have i0 : (0 : Int) ≤ (k : Int) := by omega
      have i1 : (k : Int) < (N.length : Int) := by omega
      obtain ⟨w3, hw3⟩ : ∃ V : World, V = wr.alloc (.cells #[.int .i64 nm, .slice la L.length lc] 110) := ⟨_, rfl⟩
      have b3 : Below wr.heap.size wr w3 := by rw [hw3]; exact (Below.refl _ _).alloc (Nat.le_refl _) _
      have z3 : wr.heap.size + 1 ≤ w3.heap.size := by rw [hw3]; simp
      have y0 : w3.cell? ⟨wr.heap.size, 0, none⟩ = some (.int .i64 nm) := by rw [hw3]; go_simp
      have y1 : w3.cell? ⟨wr.heap.size, 1, none⟩ = some (.slice la L.length lc) := by rw [hw3]; go_simp
      have n3 : Below w.heap.size w w3 := hb.trans (b3.mono hb.size)
      clear hxy hc hs
      go_upto_region 4 with fail
      rw [← hw3]
      clear hw3 r0 r1
      have K : Hid (∀ V, PkAt V V.heap.size (.slice pa C.length pc) C → Calls Try.prog 56 #[.slice pa C.length pc, .int .i64 nm] V fun e w' => e = .returned (got (pkGet nm C)) ∧ Below V.heap.size V w') := Lib.hid fun V g => versionPicked_any _ C nm V hC g
      have HST := Lib.hid (all_step (metP C) HXY.out)
      rcases hg : pkGet nm C with _ | ⟨va, vb, vc, vd⟩
      · rw [hg] at K
        simp only [got] at K
        have HT := Lib.hid (show metP C (nm, L) = false by unfold metP; simp only; rw [hg])
        clear hg
        go_wp2_with fail
        refine (K.out _ (H.out.stepAt n3)).mono ?_
        rintro e w4 ⟨rfl, hb4⟩
        have m4 := n3.trans (hb4.mono n3.size)
        go_wp2_with fail
        go_ret
        exact ⟨by rw [HE.out, HST.out, HT.out]; rfl, m4.alloc m4.size _⟩
      · rw [hg] at K
        simp only [got] at K
        have HT := Lib.hid (show metP C (nm, L) = hasL L va vb vc vd by unfold metP; simp only; rw [hg])
        have KH : Hid (∀ V, SpAt V V.heap.size (.slice la L.length lc) L → Calls Try.prog 118 #[.agg #[.slice la L.length lc], ver va vb vc vd] V fun e w' => e = .returned (.bool (hasL L va vb vc vd)) ∧ Below V.heap.size V w') := Lib.hid fun V g => implHas_any _ L va vb vc vd V hL g
        clear hg
        go_wp2_with fail
        refine (K.out _ (H.out.stepAt n3)).mono ?_
        rintro e w4 ⟨rfl, hb4⟩
        have m4 := n3.trans (hb4.mono n3.size)
        have z4 := hb4.size
        have v0 := (hb4.cell (p := ⟨wr.heap.size, 0, none⟩) (by show wr.heap.size < w3.heap.size; omega)).trans y0
        have v1 := (hb4.cell (p := ⟨wr.heap.size, 1, none⟩) (by show wr.heap.size < w3.heap.size; omega)).trans y1
        obtain ⟨w5, hw5⟩ : ∃ V : World, V = w4.alloc (.cells #[.int .i64 va, .int .i64 vb, .int .i64 vc, .int .i64 vd] 69) := ⟨_, rfl⟩
        have b5 : Below w4.heap.size w4 w5 := by rw [hw5]; exact (Below.refl _ _).alloc (Nat.le_refl _) _
        have wl : wr.heap.size < w4.heap.size := by omega
        have u0 := (b5.cell (p := ⟨wr.heap.size, 0, none⟩) wl).trans v0
        have u1 := (b5.cell (p := ⟨wr.heap.size, 1, none⟩) wl).trans v1
        have x0 : w5.cell? ⟨w4.heap.size, 0, none⟩ = some (.int .i64 va) := by rw [hw5]; go_simp
        have x1 : w5.cell? ⟨w4.heap.size, 1, none⟩ = some (.int .i64 vb) := by rw [hw5]; go_simp
        have x2 : w5.cell? ⟨w4.heap.size, 2, none⟩ = some (.int .i64 vc) := by rw [hw5]; go_simp
        have x3 : w5.cell? ⟨w4.heap.size, 3, none⟩ = some (.int .i64 vd) := by rw [hw5]; go_simp
        have m5 := m4.trans (b5.mono m4.size)
        have HS5 := Lib.hid (HS.out.stepAt (show Below wr.heap.size wr w5 from b3.trans ((hb4.trans (b5.mono z4)).mono b3.size)))
        clear y0 y1 hb4 v0 v1
        go_upto_region 5 with fail
        rw [← hw5]
        clear hw5
        rcases hh : hasL L va vb vc vd
        · rw [hh] at KH HT
          clear hh
          go_wp2_with fail
          refine (KH.out _ (HS5.out.stepAt (by go_grown))).mono ?_
          rintro e w6 ⟨rfl, hb6⟩
          have m6 := m5.trans ((show Below w5.heap.size w5 w6 from Below.step (by go_grown) hb6).mono m5.size)
          go_wp2_with fail
          go_ret
          exact ⟨by rw [HE.out, HST.out, HT.out]; rfl, m6⟩
        · rw [hh] at KH HT
          clear hh
          go_wp2_with fail
          refine (KH.out _ (HS5.out.stepAt (by go_grown))).mono ?_
          rintro e w6 ⟨rfl, hb6⟩
          have m6 := m5.trans ((show Below w5.heap.size w5 w6 from Below.step (by go_grown) hb6).mono m5.size)
          have HR := Lib.hid (show ∃ k' : Nat, k' ≤ N.length ∧ Value.int .i64 ((k : Int) + 1) = .int .i64 (k' : Int) ∧ N.all (metP C) = (N.drop k').all (metP C) ∧ Below w.heap.size w w6 from ⟨k + 1, by omega, by go_num, by rw [HE.out, HST.out, HT.out]; rfl, m6⟩)
          clear hb6
          go_wp2_with fail
          go_roundw
          case rel => exact HR.out
          case measure => simp [intOf]; omega
    · obtain rfl : k = N.length := by omega
      have HQ := Lib.hid (show N.all (metP C) = true by rw [HE.out, List.drop_length]; rfl)
      go_wp2_with fail
      go_ret
      exact ⟨by rw [HQ.out]; rfl, hb⟩

set_option maxRecDepth 100000 in
set_option maxHeartbeats 4000000 in
theorem innerMet_any (u z : Value) (S : List Rel) (C : List Pk) (w : World) (hl : S.length ≤ 1048576) (hq : ∀ q ∈ S, q.2.2.2.length ≤ 1048576 ∧ ∀ p ∈ q.2.2.2, p.2.length ≤ 1048576) (hC : C.length ≤ 1048576) (h : RlAt w w.heap.size u S) (h2 : PkAt w w.heap.size z C) :
    Calls Try.prog 94 #[u, z] w fun e w' => e = .returned (.bool (C.all (innerP S C))) ∧ Below w.heap.size w w' := by
  obtain ⟨sa, caps, rfl, hx⟩ := id h
  obtain ⟨pa, pc, rfl, h0⟩ := id h2
  clear hx
  have H := Lib.hid h
  have H2 := Lib.hid h2
  clear h h2
  have hnl : ∀ x : Pk, (ndsOf S x).length ≤ 1048576 ∧ ∀ q ∈ ndsOf S x, q.2.length ≤ 1048576 := fun x => by
    rcases nds_cases S x with ⟨_, e⟩ | ⟨i, hi, _, e⟩
    · rw [e]; simp
    · rw [e]; exact hq _ (List.getElem_mem hi)
  go_enter Try.func94, Try.ntmps94
  go_wp2_with fail
  go_loopw [9] (fun i wr => ∃ k : Nat, k ≤ C.length ∧ i = .int .i64 (k : Int) ∧ C.all (innerP S C) = (C.drop k).all (innerP S C) ∧ Below w.heap.size w wr) (fun i _ => C.length - (intOf i).toNat)
  case atStart => exact ⟨0, Nat.zero_le _, rfl, rfl, Below.refl _ _⟩
  case round =>
    obtain ⟨k, hk, rfl, he, hb⟩ := hrel
    have HE := Lib.hid he
    clear he
    by_cases hlt : k < C.length
    · rcases h0 with h0 | ⟨b, o, rfl, hB, hc⟩
      · subst h0
        exact absurd hlt (by simp)
      obtain ⟨x, a, b', c, d, hxy⟩ : ∃ x a b c d, C[k] = (x, a, b, c, d) := ⟨_, _, _, _, _, rfl⟩
      obtain ⟨r0, r1, r2, r3, r4⟩ := hc k hlt
      rw [hxy] at r0 r1 r2 r3 r4
      simp only at r0 r1 r2 r3 r4
      have e0 := (hb.cell (p := ⟨b, o + k * 5, none⟩) hB).trans r0
      have e1 := (hb.cell (p := ⟨b, o + k * 5 + 1, none⟩) hB).trans r1
      have e2 := (hb.cell (p := ⟨b, o + k * 5 + 2, none⟩) hB).trans r2
      have e3 := (hb.cell (p := ⟨b, o + k * 5 + 3, none⟩) hB).trans r3
      have e4 := (hb.cell (p := ⟨b, o + k * 5 + 4, none⟩) hB).trans r4
      have HXY := Lib.hid (show C[k]? = some (x, a, b', c, d) by rw [List.getElem?_eq_getElem hlt, hxy])
      have bB : b < wr.heap.size := Nat.lt_of_lt_of_le hB hb.size
      have i0 : (0 : Int) ≤ (k : Int) := by omega
      have i1 : (k : Int) < (C.length : Int) := by omega
      obtain ⟨w3, hw3⟩ : ∃ V : World, V = wr.alloc (.cells #[.int .i64 x, .int .i64 a, .int .i64 b', .int .i64 c, .int .i64 d] 71) := ⟨_, rfl⟩
      have b3 : Below wr.heap.size wr w3 := by rw [hw3]; exact (Below.refl _ _).alloc (Nat.le_refl _) _
      have z3 : wr.heap.size + 1 ≤ w3.heap.size := by rw [hw3]; simp
      have y0 : w3.cell? ⟨wr.heap.size, 0, none⟩ = some (.int .i64 x) := by rw [hw3]; go_simp
      have y1 : w3.cell? ⟨wr.heap.size, 1, none⟩ = some (.int .i64 a) := by rw [hw3]; go_simp
      have y2 : w3.cell? ⟨wr.heap.size, 2, none⟩ = some (.int .i64 b') := by rw [hw3]; go_simp
      have y3 : w3.cell? ⟨wr.heap.size, 3, none⟩ = some (.int .i64 c) := by rw [hw3]; go_simp
      have y4 : w3.cell? ⟨wr.heap.size, 4, none⟩ = some (.int .i64 d) := by rw [hw3]; go_simp
      have n3 : Below w.heap.size w w3 := hb.trans (b3.mono hb.size)
      clear hxy r0 r1 r2 r3 r4
      go_upto_region 4 with fail
      rw [← hw3]
      clear hw3 e0 e1 e2 e3 e4
      have HST := Lib.hid (all_step (innerP S C) HXY.out)
      have hM := hnl (x, a, b', c, d)
      go_wp2_with fail
      refine (needsOfPick_any _ S x a b' c d _ _ (Nat.le_refl _) hl (H.out.stepAt n3)).mono ?_
      rintro e w4 ⟨ad, cap, rfl, hnd, hb4⟩
      have m4 := n3.trans (hb4.mono n3.size)
      have HND := Lib.hid (hnd.mono hb4.size)
      have HIN := Lib.hid (show innerP S C (x, a, b', c, d) = (ndsOf S (x, a, b', c, d)).all (metP C) from rfl)
      obtain ⟨M, hMM⟩ : ∃ M, ndsOf S (x, a, b', c, d) = M := ⟨_, rfl⟩
      rw [hMM] at HND hM HIN ⊢
      have K : Hid (∀ V, NdAt V V.heap.size (.slice ad M.length cap) M → PkAt V V.heap.size (.slice (some ⟨b, o, none⟩) C.length pc) C → Calls Try.prog 93 #[.slice ad M.length cap, .slice (some ⟨b, o, none⟩) C.length pc] V fun e w' => e = .returned (.bool (M.all (metP C))) ∧ Below V.heap.size V w') := Lib.hid fun V g g' => needsMet_any _ _ M C V hM.1 hM.2 hC g g'
      clear hnd hb4 hMM
      rcases hh : M.all (metP C)
      · rw [hh] at K HIN
        clear hh
        go_wp2_with fail
        refine (K.out _ HND.out (H2.out.stepAt m4)).mono ?_
        rintro e w5 ⟨rfl, hb5⟩
        go_wp2_with fail
        go_ret
        exact ⟨by rw [HE.out, HST.out, HIN.out]; rfl, m4.trans (hb5.mono m4.size)⟩
      · rw [hh] at K HIN
        clear hh
        go_wp2_with fail
        refine (K.out _ HND.out (H2.out.stepAt m4)).mono ?_
        rintro e w5 ⟨rfl, hb5⟩
        have HR := Lib.hid (show ∃ k' : Nat, k' ≤ C.length ∧ Value.int .i64 ((k : Int) + 1) = .int .i64 (k' : Int) ∧ C.all (innerP S C) = (C.drop k').all (innerP S C) ∧ Below w.heap.size w w5 from ⟨k + 1, by omega, by go_num, by rw [HE.out, HST.out, HIN.out]; rfl, m4.trans (hb5.mono m4.size)⟩)
        clear hb5
        go_wp2_with fail
        go_roundw
        case rel => exact HR.out
        case measure => simp [intOf]; omega
    · obtain rfl : k = C.length := by omega
      have HQ := Lib.hid (show C.all (innerP S C) = true by rw [HE.out, List.drop_length]; rfl)
      go_wp2_with fail
      go_ret
      exact ⟨by rw [HQ.out]; rfl, hb⟩
end Cfa
end Go.Proofs.Ytmhamoeibkpnpaa

/- Contracts of the program's faultOf and ChoiceFault, over this seat's translation, as the plain function faultF tells them; nothing that was there before a call has changed. Condition: at most 1048576 of each row and of what is in it. -/
namespace Go.Proofs.Ytmhamoeibkpnpaa
open Go.RowKit Go.Sort

namespace Cfa
open Foot Copy Nup Cpu
def restF (S : List Rel) (N : List Nd) (H C : List Pk) : Int :=
  if C.all (thereP S) = true then
    (if C.all (allowP S H) = true then
      (if N.all (metP C) = true then
        (if C.all (innerP S C) = true then
          (if (cameL C (endK S N C).1).length < C.length then 6 else 0)
        else 5)
      else 4)
    else 3)
  else 2
theorem fault_rest {S : List Rel} {N : List Nd} {H C : List Pk} (h1 : shOk S = true) (h2 : ndOk N = true) (h3 : pkOk H = true) (h4 : pkOk C = true) : faultF S N H C = restF S N H C := by
  unfold faultF
  rw [h1, h2, h3, h4]
  rfl

set_option maxRecDepth 100000 in
set_option maxHeartbeats 8000000 in
theorem faultOf_any (v u y z : Value) (S : List Rel) (N : List Nd) (D C : List Pk) (w : World) (hs : shOk S = true) (hq : ∀ q ∈ S, q.2.2.2.length ≤ 1048576 ∧ ∀ p ∈ q.2.2.2, p.2.length ≤ 1048576) (hn : ndOk N = true) (hNq : ∀ q ∈ N, q.2.length ≤ 1048576) (hD : D.length ≤ 1048576) (hc : pkOk C = true) (h : RlAt w w.heap.size v S) (h' : NdAt w w.heap.size u N) (h1 : PkAt w w.heap.size y D) (h2 : PkAt w w.heap.size z C) :
    Calls Try.prog 54 #[v, u, y, z] w fun e w' => e = .returned (.int .i64 (restF S N D C)) ∧ Below w.heap.size w w' := by
  obtain ⟨sa, caps, rfl, hx⟩ := id h
  obtain ⟨na, ncap, rfl, hx'⟩ := id h'
  obtain ⟨da, dc, rfl, hx1⟩ := id h1
  obtain ⟨pa, pc, rfl, hx2⟩ := id h2
  clear hx hx' hx1 hx2
  have H := Lib.hid h
  have H' := Lib.hid h'
  have H1 := Lib.hid h1
  have H2 := Lib.hid h2
  clear h h' h1 h2
  have hS30 := sh_len hs
  have hN5 := nd_len hn
  have hC8 := pk_len hc
  have hS5 : ∀ q ∈ S, q.2.2.2.length ≤ 5 ∧ ∀ p ∈ q.2.2.2, p.2.length ≤ 1048576 := fun q h => ⟨nd_len (sh_needs hs q h), (hq q h).2⟩
  have K1 : Hid (∀ V, RlAt V V.heap.size (.slice sa S.length caps) S → PkAt V V.heap.size (.slice pa C.length pc) C → Calls Try.prog 91 #[.slice sa S.length caps, .slice pa C.length pc] V fun e w' => e = .returned (.bool (C.all (thereP S))) ∧ Below V.heap.size V w') := Lib.hid fun V g g' => picksThere_any _ _ S C V (by omega) (by omega) g g'
  have K2 : Hid (∀ V, RlAt V V.heap.size (.slice sa S.length caps) S → PkAt V V.heap.size (.slice da D.length dc) D → PkAt V V.heap.size (.slice pa C.length pc) C → Calls Try.prog 92 #[.slice sa S.length caps, .slice da D.length dc, .slice pa C.length pc] V fun e w' => e = .returned (.bool (C.all (allowP S D))) ∧ Below V.heap.size V w') := Lib.hid fun V g g1 g' => picksAllowed_any _ _ _ S D C V (by omega) hD (by omega) g g1 g'
  have K3 : Hid (∀ V, NdAt V V.heap.size (.slice na N.length ncap) N → PkAt V V.heap.size (.slice pa C.length pc) C → Calls Try.prog 93 #[.slice na N.length ncap, .slice pa C.length pc] V fun e w' => e = .returned (.bool (N.all (metP C))) ∧ Below V.heap.size V w') := Lib.hid fun V g g' => needsMet_any _ _ N C V (by omega) hNq (by omega) g g'
  have K4 : Hid (∀ V, RlAt V V.heap.size (.slice sa S.length caps) S → PkAt V V.heap.size (.slice pa C.length pc) C → Calls Try.prog 94 #[.slice sa S.length caps, .slice pa C.length pc] V fun e w' => e = .returned (.bool (C.all (innerP S C))) ∧ Below V.heap.size V w') := Lib.hid fun V g g' => innerMet_any _ _ S C V (by omega) hq (by omega) g g'
  have K5 : Hid (∀ V, RlAt V V.heap.size (.slice sa S.length caps) S → NdAt V V.heap.size (.slice na N.length ncap) N → PkAt V V.heap.size (.slice pa C.length pc) C → Calls Try.prog 95 #[.slice sa S.length caps, .slice na N.length ncap, .slice pa C.length pc] V (PbPost (cameL C (endK S N C).1) V)) := Lib.hid fun V g g' g2 => picksNeeded_any _ _ _ S N C V hS30 hS5 hN5 (by omega) g g' g2
  clear hs hn hc hS5 hq hNq
  rcases g0 : C.all (thereP S)
  · rw [g0] at K1
    have HE := Lib.hid (show restF S N D C = 2 by unfold restF; rw [g0]; rfl)
    clear g0
    go_enter Try.func54, Try.ntmps54
    go_wp2_with fail
    refine (K1.out _ (H.out.stepAt (by go_grown)) (H2.out.stepAt (by go_grown))).mono ?_
    rintro e w1 ⟨rfl, hb⟩
    have b1 := hb
    clear hb
    go_wp2_with fail
    go_ret
    exact ⟨by rw [HE.out]; rfl, b1⟩
  rw [g0] at K1
  rcases g1 : C.all (allowP S D)
  · rw [g1] at K2
    have HE := Lib.hid (show restF S N D C = 3 by unfold restF; rw [g0, g1]; rfl)
    clear g0 g1
    go_enter Try.func54, Try.ntmps54
    go_wp2_with fail
    refine (K1.out _ (H.out.stepAt (by go_grown)) (H2.out.stepAt (by go_grown))).mono ?_
    rintro e w1 ⟨rfl, hb⟩
    have b1 := hb
    clear hb
    go_wp2_with fail
    refine (K2.out _ (H.out.stepAt b1) (H1.out.stepAt b1) (H2.out.stepAt b1)).mono ?_
    rintro e w2 ⟨rfl, hb⟩
    have b2 := b1.trans (hb.mono b1.size)
    clear hb
    go_wp2_with fail
    go_ret
    exact ⟨by rw [HE.out]; rfl, b2⟩
  rw [g1] at K2
  rcases g2 : N.all (metP C)
  · rw [g2] at K3
    have HE := Lib.hid (show restF S N D C = 4 by unfold restF; rw [g0, g1, g2]; rfl)
    clear g0 g1 g2
    go_enter Try.func54, Try.ntmps54
    go_wp2_with fail
    refine (K1.out _ (H.out.stepAt (by go_grown)) (H2.out.stepAt (by go_grown))).mono ?_
    rintro e w1 ⟨rfl, hb⟩
    have b1 := hb
    clear hb
    go_wp2_with fail
    refine (K2.out _ (H.out.stepAt b1) (H1.out.stepAt b1) (H2.out.stepAt b1)).mono ?_
    rintro e w2 ⟨rfl, hb⟩
    have b2 := b1.trans (hb.mono b1.size)
    clear hb
    go_wp2_with fail
    refine (K3.out _ (H'.out.stepAt b2) (H2.out.stepAt b2)).mono ?_
    rintro e w3 ⟨rfl, hb⟩
    have b3 := b2.trans (hb.mono b2.size)
    clear hb
    go_wp2_with fail
    go_ret
    exact ⟨by rw [HE.out]; rfl, b3⟩
  rw [g2] at K3
  rcases g3 : C.all (innerP S C)
  · rw [g3] at K4
    have HE := Lib.hid (show restF S N D C = 5 by unfold restF; rw [g0, g1, g2, g3]; rfl)
    clear g0 g1 g2 g3
    go_enter Try.func54, Try.ntmps54
    go_wp2_with fail
    refine (K1.out _ (H.out.stepAt (by go_grown)) (H2.out.stepAt (by go_grown))).mono ?_
    rintro e w1 ⟨rfl, hb⟩
    have b1 := hb
    clear hb
    go_wp2_with fail
    refine (K2.out _ (H.out.stepAt b1) (H1.out.stepAt b1) (H2.out.stepAt b1)).mono ?_
    rintro e w2 ⟨rfl, hb⟩
    have b2 := b1.trans (hb.mono b1.size)
    clear hb
    go_wp2_with fail
    refine (K3.out _ (H'.out.stepAt b2) (H2.out.stepAt b2)).mono ?_
    rintro e w3 ⟨rfl, hb⟩
    have b3 := b2.trans (hb.mono b2.size)
    clear hb
    go_wp2_with fail
    refine (K4.out _ (H.out.stepAt b3) (H2.out.stepAt b3)).mono ?_
    rintro e w4 ⟨rfl, hb⟩
    have b4 := b3.trans (hb.mono b3.size)
    clear hb
    go_wp2_with fail
    go_ret
    exact ⟨by rw [HE.out]; rfl, b4⟩
  rw [g3] at K4
  have HE := Lib.hid (show restF S N D C = if (cameL C (endK S N C).1).length < C.length then 6 else 0 by unfold restF; rw [g0, g1, g2, g3]; rfl)
  clear g0 g1 g2 g3
  generalize cameL C (endK S N C).1 = T at *
  go_enter Try.func54, Try.ntmps54
  go_wp2_with fail
  refine (K1.out _ (H.out.stepAt (by go_grown)) (H2.out.stepAt (by go_grown))).mono ?_
  rintro e w1 ⟨rfl, hb⟩
  have b1 := hb
  clear hb
  go_wp2_with fail
  refine (K2.out _ (H.out.stepAt b1) (H1.out.stepAt b1) (H2.out.stepAt b1)).mono ?_
  rintro e w2 ⟨rfl, hb⟩
  have b2 := b1.trans (hb.mono b1.size)
  clear hb
  go_wp2_with fail
  refine (K3.out _ (H'.out.stepAt b2) (H2.out.stepAt b2)).mono ?_
  rintro e w3 ⟨rfl, hb⟩
  have b3 := b2.trans (hb.mono b2.size)
  clear hb
  go_wp2_with fail
  refine (K4.out _ (H.out.stepAt b3) (H2.out.stepAt b3)).mono ?_
  rintro e w4 ⟨rfl, hb⟩
  have b4 := b3.trans (hb.mono b3.size)
  clear hb
  go_wp2_with fail
  refine (K5.out _ (H.out.stepAt b4) (H'.out.stepAt b4) (H2.out.stepAt b4)).mono ?_
  rintro e w5 ⟨r, rfl, hr, hb⟩
  have b5 := b4.trans (hb.mono b4.size)
  obtain ⟨ra, rc, rfl, hrx⟩ := id hr.at
  clear hb hr hrx
  by_cases hlt : T.length < C.length
  · have hz : ((T.length : Int) < (C.length : Int)) := by omega
    have HQ := Lib.hid (HE.out.trans (if_pos hlt))
    clear hlt
    go_wp2_with fail
    go_ret
    exact ⟨by rw [HQ.out]; rfl, b5⟩
  · have hz : ¬ ((T.length : Int) < (C.length : Int)) := by omega
    have HQ := Lib.hid (HE.out.trans (if_neg hlt))
    clear hlt
    go_wp2_with fail
    go_ret
    exact ⟨by rw [HQ.out]; rfl, b5⟩

set_option maxRecDepth 100000 in
set_option maxHeartbeats 8000000 in
theorem implFault_any (v u y z : Value) (S : List Rel) (N : List Nd) (D C : List Pk) (w : World) (hl : S.length ≤ 1048576) (hq : ∀ q ∈ S, q.2.2.2.length ≤ 1048576 ∧ ∀ p ∈ q.2.2.2, p.2.length ≤ 1048576) (hN : N.length ≤ 1048576) (hNq : ∀ q ∈ N, q.2.length ≤ 1048576) (hD : D.length ≤ 1048576) (hC : C.length ≤ 1048576) (h : RlAt w w.heap.size v S) (h' : NdAt w w.heap.size u N) (h1 : PkAt w w.heap.size y D) (h2 : PkAt w w.heap.size z C) :
    Calls Try.prog 17 #[v, u, y, z] w fun e w' => e = .returned (.int .i64 (faultF S N D C)) ∧ Below w.heap.size w w' := by
  obtain ⟨sa, caps, rfl, hx⟩ := id h
  obtain ⟨na, ncap, rfl, hx'⟩ := id h'
  obtain ⟨da, dc, rfl, hx1⟩ := id h1
  obtain ⟨pa, pc, rfl, hx2⟩ := id h2
  clear hx hx' hx1 hx2
  have H := Lib.hid h
  have H' := Lib.hid h'
  have H1 := Lib.hid h1
  have H2 := Lib.hid h2
  clear h h' h1 h2
  have K1 : Hid (∀ V, RlAt V V.heap.size (.slice sa S.length caps) S → Calls Try.prog 47 #[.slice sa S.length caps] V fun e w' => e = .returned (.bool (shOk S)) ∧ Below V.heap.size V w') := Lib.hid fun V g => implShelfOk_any _ S V hl hq g
  have K2 : Hid (∀ V, NdAt V V.heap.size (.slice na N.length ncap) N → Calls Try.prog 48 #[.slice na N.length ncap] V fun e w' => e = .returned (.bool (ndOk N)) ∧ Below V.heap.size V w') := Lib.hid fun V g => implNeedsOk_any _ N V hN hNq g
  have K3 : Hid (∀ V, PkAt V V.heap.size (.slice da D.length dc) D → Calls Try.prog 11 #[.slice da D.length dc] V fun e w' => e = .returned (.bool (pkOk D)) ∧ Below V.heap.size V w') := Lib.hid fun V g => implPicksOk_any _ D V hD g
  have K4 : Hid (∀ V, PkAt V V.heap.size (.slice pa C.length pc) C → Calls Try.prog 11 #[.slice pa C.length pc] V fun e w' => e = .returned (.bool (pkOk C)) ∧ Below V.heap.size V w') := Lib.hid fun V g => implPicksOk_any _ C V hC g
  rcases g0 : shOk S
  · rw [g0] at K1
    have HE := Lib.hid (show faultF S N D C = 1 by unfold faultF; rw [g0]; rfl)
    clear g0
    go_enter Try.func17, Try.ntmps17
    go_wp2_with fail
    refine (K1.out _ (H.out.stepAt (by go_grown))).mono ?_
    rintro e w1 ⟨rfl, hb⟩
    have b1 := hb
    clear hb
    go_wp2_with fail
    go_ret
    exact ⟨by rw [HE.out]; rfl, b1⟩
  rw [g0] at K1
  rcases g1 : ndOk N
  · rw [g1] at K2
    have HE := Lib.hid (show faultF S N D C = 1 by unfold faultF; rw [g0, g1]; rfl)
    clear g0 g1
    go_enter Try.func17, Try.ntmps17
    go_wp2_with fail
    refine (K1.out _ (H.out.stepAt (by go_grown))).mono ?_
    rintro e w1 ⟨rfl, hb⟩
    have b1 := hb
    clear hb
    go_wp2_with fail
    refine (K2.out _ (H'.out.stepAt b1)).mono ?_
    rintro e w2 ⟨rfl, hb⟩
    have b2 := b1.trans (hb.mono b1.size)
    clear hb
    go_wp2_with fail
    go_ret
    exact ⟨by rw [HE.out]; rfl, b2⟩
  rw [g1] at K2
  rcases g2 : pkOk D
  · rw [g2] at K3
    have HE := Lib.hid (show faultF S N D C = 1 by unfold faultF; rw [g0, g1, g2]; rfl)
    clear g0 g1 g2
    go_enter Try.func17, Try.ntmps17
    go_wp2_with fail
    refine (K1.out _ (H.out.stepAt (by go_grown))).mono ?_
    rintro e w1 ⟨rfl, hb⟩
    have b1 := hb
    clear hb
    go_wp2_with fail
    refine (K2.out _ (H'.out.stepAt b1)).mono ?_
    rintro e w2 ⟨rfl, hb⟩
    have b2 := b1.trans (hb.mono b1.size)
    clear hb
    go_wp2_with fail
    refine (K3.out _ (H1.out.stepAt b2)).mono ?_
    rintro e w3 ⟨rfl, hb⟩
    have b3 := b2.trans (hb.mono b2.size)
    clear hb
    go_wp2_with fail
    go_ret
    exact ⟨by rw [HE.out]; rfl, b3⟩
  rw [g2] at K3
  rcases g3 : pkOk C
  · rw [g3] at K4
    have HE := Lib.hid (show faultF S N D C = 1 by unfold faultF; rw [g0, g1, g2, g3]; rfl)
    clear g0 g1 g2 g3
    go_enter Try.func17, Try.ntmps17
    go_wp2_with fail
    refine (K1.out _ (H.out.stepAt (by go_grown))).mono ?_
    rintro e w1 ⟨rfl, hb⟩
    have b1 := hb
    clear hb
    go_wp2_with fail
    refine (K2.out _ (H'.out.stepAt b1)).mono ?_
    rintro e w2 ⟨rfl, hb⟩
    have b2 := b1.trans (hb.mono b1.size)
    clear hb
    go_wp2_with fail
    refine (K3.out _ (H1.out.stepAt b2)).mono ?_
    rintro e w3 ⟨rfl, hb⟩
    have b3 := b2.trans (hb.mono b2.size)
    clear hb
    go_wp2_with fail
    refine (K4.out _ (H2.out.stepAt b3)).mono ?_
    rintro e w4 ⟨rfl, hb⟩
    have b4 := b3.trans (hb.mono b3.size)
    clear hb
    go_wp2_with fail
    go_ret
    exact ⟨by rw [HE.out]; rfl, b4⟩
  rw [g3] at K4
  have HE := Lib.hid (fault_rest g0 g1 g2 g3)
  have KF : Hid (∀ V, RlAt V V.heap.size (.slice sa S.length caps) S → NdAt V V.heap.size (.slice na N.length ncap) N → PkAt V V.heap.size (.slice da D.length dc) D → PkAt V V.heap.size (.slice pa C.length pc) C → Calls Try.prog 54 #[.slice sa S.length caps, .slice na N.length ncap, .slice da D.length dc, .slice pa C.length pc] V fun e w' => e = .returned (.int .i64 (restF S N D C)) ∧ Below V.heap.size V w') := Lib.hid fun V g g' h1 h2 => faultOf_any _ _ _ _ S N D C V g0 hq g1 hNq hD g3 g g' h1 h2
  clear g0 g1 g2 g3
  go_enter Try.func17, Try.ntmps17
  go_wp2_with fail
  refine (K1.out _ (H.out.stepAt (by go_grown))).mono ?_
  rintro e w1 ⟨rfl, hb⟩
  have b1 := hb
  clear hb
  go_wp2_with fail
  refine (K2.out _ (H'.out.stepAt b1)).mono ?_
  rintro e w2 ⟨rfl, hb⟩
  have b2 := b1.trans (hb.mono b1.size)
  clear hb
  go_wp2_with fail
  refine (K3.out _ (H1.out.stepAt b2)).mono ?_
  rintro e w3 ⟨rfl, hb⟩
  have b3 := b2.trans (hb.mono b2.size)
  clear hb
  go_wp2_with fail
  refine (K4.out _ (H2.out.stepAt b3)).mono ?_
  rintro e w4 ⟨rfl, hb⟩
  have b4 := b3.trans (hb.mono b3.size)
  clear hb
  go_wp2_with fail
  refine (KF.out _ (H.out.stepAt b4) (H'.out.stepAt b4) (H1.out.stepAt b4) (H2.out.stepAt b4)).mono ?_
  rintro e w5 ⟨rfl, hb⟩
  have b5 := b4.trans (hb.mono b4.size)
  clear hb
  go_wp2_with fail
  go_ret
  exact ⟨by rw [HE.out]; rfl, b5⟩
end Cfa
end Go.Proofs.Ytmhamoeibkpnpaa

/- Which picks are needed, told by induction: those of needs, and those that what is needed needs; the program's and the model's walk finds just these. Condition: at most 30 picks, 5 needs, 5 needs of a release. -/
namespace Go.Proofs.Ytmhamoeibkpnpaa
open Go.RowKit Go.Sort

namespace Rch
open Foot Copy Nup Cpu
theorem flag_set (c : List Bool) (j k : Nat) : (c.set j true).getD k true = if j = k then true else c.getD k true := by
  rw [List.getD_eq_getElem?_getD, List.getD_eq_getElem?_getD, List.getElem?_set]
  by_cases h : j = k
  · rw [if_pos h, if_pos h]
    split <;> rfl
  · rw [if_neg h, if_neg h]
/-- A pick that is needed. -/
inductive Up (S : List Rel) (N : List Nd) (C : List Pk) : Pk → Prop
  | own {n : Nd} {x : Pk} : n ∈ N → x ∈ C → x.1 = n.1 → Up S N C x
  | dep {y : Pk} {n : Nd} {x : Pk} : Up S N C y → n ∈ ndsOf S y → x ∈ C → x.1 = n.1 → Up S N C x
theorem Up.mem {S : List Rel} {N : List Nd} {C : List Pk} {x : Pk} (h : Up S N C x) : x ∈ C := by
  cases h with
  | own _ h _ => exact h
  | dep _ _ h _ => exact h
/-- More needs and more picks: not less is needed. -/
theorem Up.more {S : List Rel} {N N' : List Nd} {C C' : List Pk} (hN : ∀ n ∈ N, n ∈ N') (hC : ∀ x ∈ C, x ∈ C') {x : Pk} (h : Up S N C x) : Up S N' C' x := by
  induction h with
  | own h1 h2 h3 => exact .own (hN _ h1) (hC _ h2) h3
  | dep _ h2 h3 h4 ih => exact .dep ih h2 (hC _ h3) h4
/-- What is needed among picks is needed among those that are. -/
theorem Up.less {S : List Rel} {N : List Nd} {C C' : List Pk} (hC : ∀ x, Up S N C x → x ∈ C') {x : Pk} (h : Up S N C x) : Up S N C' x := by
  induction h with
  | own h1 h2 h3 => exact .own h1 (hC _ (.own h1 h2 h3)) h3
  | dep h1 h2 h3 h4 ih => exact .dep ih h2 (hC _ (.dep h1 h2 h3 h4)) h4
def By (S : List Rel) (N : List Nd) (C : List Pk) (q : Nd) : Prop := q ∈ N ∨ ∃ y, Up S N C y ∧ q ∈ ndsOf S y
theorem By.up {S : List Rel} {N : List Nd} {C : List Pk} {q : Nd} {x : Pk} (h : By S N C q) (hx : x ∈ C) (he : x.1 = q.1) : Up S N C x := by
  rcases h with h | ⟨y, h1, h2⟩
  · exact .own h hx he
  · exact .dep h1 h2 hx he
structure ClK (S : List Rel) (N : List Nd) (C : List Pk) (i : Nat) (st : St) : Prop where
  came : ∀ j x, C[j]? = some x → st.1.getD j true = true → ∀ q ∈ ndsOf S x, q ∈ st.2
  seen : ∀ k n, k < i → st.2[k]? = some n → ∀ j x, C[j]? = some x → x.1 = n.1 → st.1.getD j true = true
  first : ∀ q ∈ N, q ∈ st.2
  sound : ∀ j x, C[j]? = some x → st.1.getD j true = true → Up S N C x
  by' : ∀ q ∈ st.2, By S N C q
theorem ClK.hit {S : List Rel} {N : List Nd} {C : List Pk} {i : Nat} {st : St} {j : Nat} {x : Pk} (h : ClK S N C i st) (n : Nd) (hn : By S N C n) (hx : C[j]? = some x) (hi : i ≤ st.2.length) :
    ClK S N C i (hitK S n.1 st j x) ∧ (∀ k, st.1.getD k true = true → (hitK S n.1 st j x).1.getD k true = true) ∧ (x.1 = n.1 → (hitK S n.1 st j x).1.getD j true = true) := by
  unfold hitK
  by_cases hc : (!st.1.getD j true && decide (x.1 = n.1)) = true
  · rw [if_pos hc]
    rw [Bool.and_eq_true, decide_eq_true_eq] at hc
    have hup : Up S N C x := hn.up (List.mem_of_getElem? hx) hc.2
    have up : ∀ k, st.1.getD k true = true → (st.1.set j true).getD k true = true := fun k hk => by
      rw [flag_set]
      split
      · rfl
      · exact hk
    refine ⟨⟨fun j' x' hx' hf q hq => ?_, fun k m hk hm j' x' hx' hf => ?_, fun q hq => List.mem_append_left _ (h.first q hq), fun j' x' hx' hf => ?_, fun q hq => ?_⟩, up, fun _ => by rw [flag_set, if_pos rfl]⟩
    · by_cases hj : j = j'
      · subst hj
        rw [hx] at hx'
        injection hx' with hx'
        subst hx'
        exact List.mem_append_right _ hq
      · replace hf : (st.1.set j true).getD j' true = true := hf
        rw [flag_set, if_neg hj] at hf
        exact List.mem_append_left _ (h.came j' x' hx' hf q hq)
    · replace hm : (st.2 ++ ndsOf S x)[k]? = some m := hm
      rw [List.getElem?_append_left (by omega)] at hm
      exact up _ (h.seen k m hk hm j' x' hx' hf)
    · by_cases hj : j = j'
      · subst hj
        rw [hx] at hx'
        injection hx' with hx'
        subst hx'
        exact hup
      · replace hf : (st.1.set j true).getD j' true = true := hf
        rw [flag_set, if_neg hj] at hf
        exact h.sound j' x' hx' hf
    · rcases List.mem_append.1 hq with hq | hq
      · exact h.by' q hq
      · exact .inr ⟨x, hup, hq⟩
  · rw [if_neg hc]
    refine ⟨h, fun _ hk => hk, fun hf => ?_⟩
    rw [decide_eq_true hf, Bool.and_true] at hc
    simpa using hc
theorem ClK.pass {S : List Rel} {N : List Nd} {C : List Pk} {i : Nat} (n : Nd) (hn : By S N C n) : ∀ (t : List Pk) (j : Nat) (st : St), C.drop j = t → ClK S N C i st → i ≤ st.2.length → (∀ k x, k < j → C[k]? = some x → x.1 = n.1 → st.1.getD k true = true) →
    ClK S N C i (passK S n.1 j t st) ∧ ∀ k x, C[k]? = some x → x.1 = n.1 → (passK S n.1 j t st).1.getD k true = true
  | [], j, st, ht, h, hi, hk => ⟨h, fun k x hx hf => by
      have h1 : C.length ≤ j := by
        have := congrArg List.length ht
        rw [List.length_drop] at this
        simp only [List.length_nil] at this
        omega
      have h2 := (List.getElem?_eq_some_iff.1 hx).1
      exact hk k x (by omega) hx hf⟩
  | x :: t, j, st, ht, h, hi, hk => by
    have hx : C[j]? = some x := by
      have : (C.drop j)[0]? = some x := by rw [ht]; rfl
      simpa using this
    have ht' : C.drop (j + 1) = t := by
      have := congrArg (fun l => l.drop 1) ht
      simpa using this
    obtain ⟨c1, c2, c3⟩ := h.hit n hn hx hi
    obtain ⟨_, f2⟩ := hitK_front (S := S) (nm := n.1) (j := j) (x := x) hi
    exact ClK.pass n hn t (j + 1) (hitK S n.1 st j x) ht' c1 f2 (fun k y hkj hy hf => by
      by_cases he : k = j
      · subst he
        rw [hx] at hy
        injection hy with hy
        subst hy
        exact c3 hf
      · exact c2 k (hk k y (by omega) hy hf))
theorem passK_ok {S : List Rel} {N : List Nd} {C : List Pk} (hS : ∀ q ∈ S, q.2.2.2.length ≤ 5) (nm : Int) : ∀ (t : List Pk) (j : Nat) (st : St), OkK S N C st → OkK S N C (passK S nm j t st)
  | [], _, _, h => h
  | x :: t, j, _, h => passK_ok hS nm t (j + 1) _ (h.hit hS nm j x)
theorem passK_front {S : List Rel} {nm : Int} {i : Nat} : ∀ (t : List Pk) (j : Nat) (st : St), i ≤ st.2.length → (passK S nm j t st).2.take i = st.2.take i ∧ i ≤ (passK S nm j t st).2.length
  | [], _, _, h => ⟨rfl, h⟩
  | x :: t, j, st, h => by
    obtain ⟨f1, f2⟩ := hitK_front (S := S) (nm := nm) (j := j) (x := x) h
    obtain ⟨g1, g2⟩ := passK_front t (j + 1) (hitK S nm st j x) f2
    exact ⟨g1.trans f1, g2⟩
theorem runK_closed {S : List Rel} {N : List Nd} {C : List Pk} (hS : ∀ q ∈ S, q.2.2.2.length ≤ 5) (hN : N.length ≤ 5) (hC : C.length ≤ 30) : ∀ (f i : Nat) (st : St), OkK S N C st → ClK S N C i st → i ≤ st.2.length → 155 < i + f →
    OkK S N C (runK S C f i st) ∧ ClK S N C (runK S C f i st).2.length (runK S C f i st)
  | 0, i, st, ho, _, hi, hf => by
    have := ho.size
    omega
  | f + 1, i, st, ho, hc, hi, hf => by
    rcases hn : st.2[i]? with _ | n
    · have hl : st.2.length ≤ i := List.getElem?_eq_none_iff.1 hn
      obtain rfl : i = st.2.length := by omega
      rw [runK_end (Nat.le_refl _)]
      exact ⟨ho, hc⟩
    · have hl := (List.getElem?_eq_some_iff.1 hn).1
      rw [runK_step hn]
      have hb := hc.by' n (List.mem_of_getElem? hn)
      obtain ⟨p1, p4⟩ := hc.pass n hb C 0 st rfl hi (fun k x hk => by omega)
      obtain ⟨e1, e2⟩ := passK_front (S := S) (nm := n.1) (i := i + 1) C 0 st (by omega)
      have hni : (passK S n.1 0 C st).2[i]? = some n := by
        have h1 := congrArg (fun l => l[i]?) e1
        simp only [List.getElem?_take, if_pos (Nat.lt_succ_self i)] at h1
        rw [h1, hn]
      refine runK_closed hS hN hC f (i + 1) _ (passK_ok hS n.1 C 0 st ho) ⟨p1.came, fun k m hk hm => ?_, p1.first, p1.sound, p1.by'⟩ e2 (by omega)
      by_cases hki : k = i
      · subst hki
        rw [hni] at hm
        injection hm with hm
        subst hm
        exact p4
      · exact p1.seen k m (by omega) hm
theorem mem_came : ∀ {C : List Pk} {c : List Bool} {x : Pk}, c.length = C.length → (x ∈ cameL C c ↔ ∃ j, C[j]? = some x ∧ c.getD j true = true)
  | [], c, x, h => by simp [cameL]
  | y :: t, [], x, h => by simp at h
  | y :: t, b :: c, x, h => by
    have ih := mem_came (C := t) (c := c) (x := x) (by simpa using h)
    show x ∈ (if b = true then [y] else []) ++ cameL t c ↔ _
    rw [List.mem_append, ih]
    constructor
    · rintro (h1 | ⟨j, h1, h2⟩)
      · split at h1
        · rename_i hb
          exact ⟨0, by simpa using (List.mem_singleton.1 h1).symm, by simpa using hb⟩
        · simp at h1
      · exact ⟨j + 1, by simpa using h1, by simpa using h2⟩
    · rintro ⟨j, h1, h2⟩
      cases j with
      | zero =>
        left
        have hb : b = true := by simpa using h2
        have hy : y = x := by simpa using h1
        rw [if_pos hb, hy]
        exact List.mem_singleton.2 rfl
      | succ j => exact .inr ⟨j, by simpa using h1, by simpa using h2⟩
/-- What the walk finds is what is needed. -/
theorem came_up {S : List Rel} {N : List Nd} {C : List Pk} (hS : ∀ q ∈ S, q.2.2.2.length ≤ 5) (hN : N.length ≤ 5) (hC : C.length ≤ 30) (x : Pk) : x ∈ cameL C (endK S N C).1 ↔ Up S N C x := by
  have hc : ClK S N C 0 (startK C N) := by
    have hno : ∀ j (y : Pk), C[j]? = some y → (startK C N).1.getD j true = true → False := fun j y hy hf => by
      have hj := (List.getElem?_eq_some_iff.1 hy).1
      replace hf : (List.replicate C.length false).getD j true = true := hf
      rw [List.getD_eq_getElem?_getD, List.getElem?_replicate, if_pos hj] at hf
      exact absurd hf (by decide)
    exact ⟨fun j y hy hf => (hno j y hy hf).elim, fun k m hk => by omega, fun q hq => hq, fun j y hy hf => (hno j y hy hf).elim, fun q hq => .inl hq⟩
  obtain ⟨ho, h2⟩ := runK_closed hS hN hC 200 0 (startK C N) OkK.start hc (Nat.zero_le _) (by omega)
  have hrun : runK S C 200 0 (startK C N) = endK S N C := rfl
  rw [hrun] at ho h2
  rw [mem_came ho.flags]
  constructor
  · rintro ⟨j, h1, h3⟩
    exact h2.sound j x h1 h3
  · intro h
    have fl : ∀ {q : Nd} {z : Pk}, q ∈ (endK S N C).2 → z ∈ C → z.1 = q.1 → ∃ j, C[j]? = some z ∧ (endK S N C).1.getD j true = true := fun {q z} hq hz he => by
      obtain ⟨k, hk, rfl⟩ := List.getElem_of_mem hq
      obtain ⟨j, hj, rfl⟩ := List.getElem_of_mem hz
      exact ⟨j, List.getElem?_eq_getElem hj, h2.seen k _ hk (List.getElem?_eq_getElem hk) j _ (List.getElem?_eq_getElem hj) he⟩
    induction h with
    | own h1 h3 h4 => exact fl (h2.first _ h1) h3 h4
    | dep _ h3 h4 h5 ih =>
      obtain ⟨j, h6, h7⟩ := ih
      exact fl (h2.came j _ h6 h7 _ h3) h4 h5
end Rch
end Go.Proofs.Ytmhamoeibkpnpaa

/- Which names are needed, as plain facts: each of them is picked; fewer needs need no more; what is left of a choice that meets all needs, without what is not needed, is fine, and nothing more can be left out. No condition. -/
namespace Go.Proofs.Ytmhamoeibkpnpaa
open Go.RowKit Go.Sort

namespace Rch
open Foot Copy Nup Cpu Cfa
theorem sh_five {S : List Rel} (h : shOk S = true) : ∀ q ∈ S, q.2.2.2.length ≤ 5 := fun q hq => nd_len (sh_needs h q hq)
theorem get_mem {n : Int} {v : V4} : ∀ {C : List Pk}, pkGet n C = some v → (n, v) ∈ C
  | [], h => by simp [pkGet] at h
  | q :: t, h => by
    unfold pkGet at h
    split at h
    · rename_i hq
      injection h with h
      obtain ⟨q1, q2⟩ := q
      simp only at hq h
      subst hq
      subst h
      exact List.mem_cons_self
    · exact List.mem_cons_of_mem _ (get_mem h)
theorem pk_low : ∀ {M : List Pk} {lo : Int}, pkFrom lo M = true → ∀ q ∈ M, lo ≤ q.1
  | [], _, _, q, hq => by simp at hq
  | x :: t, lo, h, q, hq => by
    simp only [pkFrom, Bool.and_eq_true, decide_eq_true_eq] at h
    rcases List.mem_cons.1 hq with rfl | hq
    · exact h.1.1
    · have := pk_low h.2.2 q hq
      omega
theorem get_some {n : Int} {v : V4} : ∀ {C : List Pk} {lo : Int}, pkFrom lo C = true → (n, v) ∈ C → pkGet n C = some v
  | [], _, _, h => by simp at h
  | q :: t, lo, hf, h => by
    simp only [pkFrom, Bool.and_eq_true, decide_eq_true_eq] at hf
    unfold pkGet
    rcases List.mem_cons.1 h with h | h
    · rw [← h, if_pos rfl]
    · have := pk_low hf.2.2 _ h
      rw [if_neg (by simp only at this; omega)]
      exact get_some hf.2.2 h
theorem reach_mem {S : List Rel} {N : List Nd} {C : List Pk} (hS : shOk S = true) (hN : ndOk N = true) (hC : pkOk C = true) (z : Int) : z ∈ reachL S N C ↔ ∃ x, Up S N C x ∧ x.1 = z := by
  unfold reachL trimL
  rw [hS, hN, hC, if_pos (by rfl), List.mem_map]
  constructor
  · rintro ⟨x, h1, h2⟩
    exact ⟨x, (came_up (sh_five hS) (nd_len hN) (by have := pk_len hC; omega) x).1 h1, h2⟩
  · rintro ⟨x, h1, h2⟩
    exact ⟨x, (came_up (sh_five hS) (nd_len hN) (by have := pk_len hC; omega) x).2 h1, h2⟩
theorem reach_ok {S : List Rel} {N : List Nd} {C : List Pk} {z : Int} (h : z ∈ reachL S N C) : shOk S = true ∧ ndOk N = true ∧ pkOk C = true := by
  unfold reachL trimL at h
  split at h
  · rename_i hh
    rw [Bool.and_eq_true, Bool.and_eq_true] at hh
    exact ⟨hh.1.1, hh.1.2, hh.2⟩
  · simp at h
/-- Each name that is needed is picked. -/
theorem reach_picked {S : List Rel} {N : List Nd} {C : List Pk} {z : Int} (h : z ∈ reachL S N C) : ∃ a b c d, pkOf C z = some (a, b, c, d) := by
  obtain ⟨hS, hN, hC⟩ := reach_ok h
  obtain ⟨x, h1, rfl⟩ := (reach_mem hS hN hC z).1 h
  obtain ⟨x1, a, b, c, d⟩ := x
  refine ⟨a, b, c, d, ?_⟩
  unfold pkOf
  rw [if_pos hC]
  exact get_some (lo := 0) hC h1.mem
/-- Fewer needs need no more. -/
theorem reach_less {S : List Rel} {N : List Nd} {C : List Pk} {z : Int} (k : Nat) (hN : ndOk N = true) (h : z ∈ reachL S (N.take k) C) : z ∈ reachL S N C := by
  obtain ⟨hS, hN', hC⟩ := reach_ok h
  obtain ⟨x, h1, h2⟩ := (reach_mem hS hN' hC z).1 h
  exact (reach_mem hS hN hC z).2 ⟨x, h1.more (fun n hn => List.mem_of_mem_take hn) (fun x hx => hx), h2⟩
theorem end_ok {S : List Rel} {N : List Nd} {C : List Pk} (hS : ∀ q ∈ S, q.2.2.2.length ≤ 5) : ∀ (f i : Nat) (st : St), OkK S N C st → OkK S N C (runK S C f i st)
  | 0, _, _, h => h
  | f + 1, i, st, h => by
    rcases hn : st.2[i]? with _ | n
    · rw [runK_end (List.getElem?_eq_none_iff.1 hn)]
      exact h
    · rw [runK_step hn]
      exact end_ok hS f (i + 1) _ (passK_ok hS n.1 C 0 st h)
theorem end_flags {S : List Rel} {N : List Nd} {C : List Pk} (hS : ∀ q ∈ S, q.2.2.2.length ≤ 5) : (endK S N C).1.length = C.length := (end_ok hS 200 0 (startK C N) OkK.start).flags
theorem came_whole : ∀ {C : List Pk} {c : List Bool}, c.length = C.length → (∀ j, j < C.length → c.getD j true = true) → cameL C c = C
  | [], _, _, _ => by simp [cameL]
  | x :: t, [], h, _ => by simp at h
  | x :: t, b :: c, h, hf => by
    have hb : b = true := by simpa using hf 0 (by simp)
    have ih := came_whole (C := t) (c := c) (by simpa using h) (fun j hj => by simpa using hf (j + 1) (by simpa using hj))
    show (if b = true then [x] else []) ++ cameL t c = x :: t
    rw [if_pos hb, ih]
    rfl
/-- Where all picks are needed, the walk finds them all. -/
theorem came_all {S : List Rel} {N : List Nd} {C : List Pk} (hS : shOk S = true) (hN : ndOk N = true) (hC : pkOk C = true) (h : ∀ x ∈ C, Up S N C x) : cameL C (endK S N C).1 = C := by
  refine came_whole (end_flags (sh_five hS)) fun j hj => ?_
  have hm := (came_up (sh_five hS) (nd_len hN) (by have := pk_len hC; omega) C[j]).2 (h _ (List.getElem_mem hj))
  have hf := came_flag (c := (endK S N C).1) (lo := 0) hC (List.getElem?_eq_getElem hj) (by rw [end_flags (sh_five hS)]; exact hj)
  rw [← hf]
  unfold hasP
  rw [List.any_eq_true]
  exact ⟨_, hm, by simp⟩
/-- A name is picked once. -/
theorem pk_one {n : Int} : ∀ {C : List Pk} {lo : Int} {u v : V4}, pkFrom lo C = true → (n, u) ∈ C → (n, v) ∈ C → u = v := fun {C lo u v} h h1 h2 => by
  have e1 := get_some h h1
  rw [get_some h h2] at e1
  injection e1 with e1
  exact e1.symm
theorem met_mem {C : List Pk} {n : Nd} (h : metP C n = true) : ∃ v : V4, (n.1, v) ∈ C ∧ hasL n.2 v.1 v.2.1 v.2.2.1 v.2.2.2 = true := by
  unfold metP at h
  rcases hg : pkGet n.1 C with _ | v
  · rw [hg] at h; simp at h
  · rw [hg] at h
    exact ⟨v, get_mem hg, h⟩
theorem met_of {C : List Pk} {n : Nd} {v : V4} {lo : Int} (hC : pkFrom lo C = true) (hm : (n.1, v) ∈ C) (h : hasL n.2 v.1 v.2.1 v.2.2.1 v.2.2.2 = true) : metP C n = true := by
  unfold metP
  rw [get_some hC hm]
  exact h
/-- What is left of a choice without what is not needed. -/
structure Fine (S : List Rel) (N : List Nd) (H C : List Pk) : Prop where
  sh : shOk S = true
  nd : ndOk N = true
  held : pkOk H = true
  pk : pkOk C = true
  there : ∀ x ∈ C, thereP S x = true
  allow : ∀ x ∈ C, allowP S H x = true
  met : ∀ n ∈ N, metP C n = true
  inner : ∀ x ∈ C, ∀ n ∈ ndsOf S x, metP C n = true
theorem Fine.of {S : List Rel} {N : List Nd} {H C : List Pk} (h : faultF S N H C = 6 ∨ faultF S N H C = 0) : Fine S N H C := by
  unfold faultF at h
  by_cases h0 : (shOk S && (ndOk N && (pkOk H && pkOk C))) = true
  · rw [if_pos h0] at h
    by_cases h1 : C.all (thereP S) = true
    · rw [if_pos h1] at h
      by_cases h2 : C.all (allowP S H) = true
      · rw [if_pos h2] at h
        by_cases h3 : N.all (metP C) = true
        · rw [if_pos h3] at h
          by_cases h4 : C.all (innerP S C) = true
          · simp only [Bool.and_eq_true] at h0
            exact ⟨h0.1, h0.2.1, h0.2.2.1, h0.2.2.2, List.all_eq_true.1 h1, List.all_eq_true.1 h2, List.all_eq_true.1 h3, fun x hx => List.all_eq_true.1 (List.all_eq_true.1 h4 x hx)⟩
          · rw [if_neg h4] at h; rcases h with h | h <;> cases h
        · rw [if_neg h3] at h; rcases h with h | h <;> cases h
      · rw [if_neg h2] at h; rcases h with h | h <;> cases h
    · rw [if_neg h1] at h; rcases h with h | h <;> cases h
  · rw [if_neg h0] at h; rcases h with h | h <;> cases h
theorem Fine.fault {S : List Rel} {N : List Nd} {H C : List Pk} (h : Fine S N H C) : faultF S N H C = if (cameL C (endK S N C).1).length < C.length then 6 else 0 := by
  unfold faultF
  rw [if_pos (by rw [h.sh, h.nd, h.held, h.pk]; rfl), if_pos (List.all_eq_true.2 h.there), if_pos (List.all_eq_true.2 h.allow), if_pos (List.all_eq_true.2 h.met),
    if_pos (List.all_eq_true.2 fun x hx => by unfold innerP; exact List.all_eq_true.2 (h.inner x hx))]
theorem Fine.needed {S : List Rel} {N : List Nd} {H C : List Pk} (h : Fine S N H C) (h0 : faultF S N H C = 0) : ∀ x ∈ C, Up S N C x := by
  rw [h.fault] at h0
  split at h0
  · cases h0
  · rename_i hn
    intro x hx
    refine (came_up (sh_five h.sh) (nd_len h.nd) (by have := pk_len h.pk; omega) x).1 ?_
    have hl := cameL_len C (endK S N C).1
    have hfl := end_flags (N := N) (C := C) (sh_five h.sh)
    have key : ∀ {C : List Pk} {c : List Bool}, c.length = C.length → ¬ (cameL C c).length < C.length → cameL C c = C := by
      intro C
      induction C with
      | nil => intro c _ _; simp [cameL]
      | cons y t ih =>
        intro c hc hlt
        cases c with
        | nil => simp at hc
        | cons b c =>
          have hl := cameL_len t c
          have hlt' : ¬ ((if b = true then [y] else []) ++ cameL t c).length < (y :: t).length := hlt
          show (if b = true then [y] else []) ++ cameL t c = y :: t
          by_cases hb : b = true
          · rw [if_pos hb] at hlt' ⊢
            rw [ih (by simpa using hc) (by simp at hlt'; omega)]
            rfl
          · rw [if_neg hb] at hlt'
            simp at hlt'
            omega
    rw [key hfl hn]
    exact hx
theorem Fine.zero {S : List Rel} {N : List Nd} {H C : List Pk} (h : Fine S N H C) (hu : ∀ x ∈ C, Up S N C x) : faultF S N H C = 0 := by
  rw [h.fault, came_all h.sh h.nd h.pk hu, if_neg (Nat.lt_irrefl _)]
theorem trim_came {S : List Rel} {N : List Nd} {C : List Pk} (hS : shOk S = true) (hN : ndOk N = true) (hC : pkOk C = true) : trimL S N C = cameL C (endK S N C).1 := by
  unfold trimL
  rw [hS, hN, hC, if_pos (by rfl)]
theorem trim_mem {S : List Rel} {N : List Nd} {C : List Pk} (hS : shOk S = true) (hN : ndOk N = true) (hC : pkOk C = true) (x : Pk) : x ∈ trimL S N C ↔ Up S N C x := by
  rw [trim_came hS hN hC]
  exact came_up (sh_five hS) (nd_len hN) (by have := pk_len hC; omega) x
theorem trim_ok {S : List Rel} {N : List Nd} {C : List Pk} : pkOk (trimL S N C) = true := by
  unfold trimL
  split
  · rename_i h
    rw [Bool.and_eq_true] at h
    exact came_from (lo := 0) h.2
  · rfl
/-- Trimmed twice is trimmed once. -/
theorem trim_twice (S : List Rel) (N : List Nd) (C : List Pk) : trimL S N (trimL S N C) = trimL S N C := by
  by_cases h : (shOk S && ndOk N && pkOk C) = true
  · rw [Bool.and_eq_true, Bool.and_eq_true] at h
    rw [trim_came h.1.1 h.1.2 trim_ok]
    refine came_all h.1.1 h.1.2 trim_ok fun x hx => ?_
    exact ((trim_mem h.1.1 h.1.2 h.2 x).1 hx).less fun y hy => (trim_mem h.1.1 h.1.2 h.2 y).2 hy
  · have e : trimL S N C = [] := by unfold trimL; rw [if_neg h]
    rw [e]
    unfold trimL
    split <;> simp [cameL]
/-- Picks that meet all needs but are not all needed are a choice when these are left out. -/
theorem trim_fine {S : List Rel} {N : List Nd} {H C : List Pk} (h6 : faultF S N H C = 6) : faultF S N H (trimL S N C) = 0 := by
  have h := Fine.of (.inl h6)
  have hm := trim_mem h.sh h.nd h.pk
  have hsub : ∀ x ∈ trimL S N C, x ∈ C := fun x hx => ((hm x).1 hx).mem
  refine Fine.zero ⟨h.sh, h.nd, h.held, trim_ok, fun x hx => h.there x (hsub x hx), fun x hx => h.allow x (hsub x hx), fun n hn => ?_, fun x hx n hn => ?_⟩ fun x hx => ((hm x).1 hx).less fun y hy => (hm y).2 hy
  · obtain ⟨v, h1, h2⟩ := met_mem (h.met n hn)
    exact met_of (lo := 0) trim_ok ((hm _).2 (.own hn h1 rfl)) h2
  · obtain ⟨v, h1, h2⟩ := met_mem (h.inner x (hsub x hx) n hn)
    exact met_of (lo := 0) trim_ok ((hm _).2 (.dep ((hm x).1 hx) hn h1 rfl)) h2
/-- One pick less is not fine. -/
theorem less_fault {S : List Rel} {N : List Nd} {H C : List Pk} {k : Nat} (hk : k < C.length) (h0 : faultF S N H C = 0) : ¬ faultF S N H (C.take k ++ C.drop (k + 1)) = 0 := by
  intro h1
  have h := Fine.of (.inr h0)
  have g := Fine.of (.inr h1)
  have hsub : ∀ x ∈ C.take k ++ C.drop (k + 1), x ∈ C := fun x hx => by
    rcases List.mem_append.1 hx with hx | hx
    · exact List.mem_of_mem_take hx
    · exact List.mem_of_mem_drop hx
  have same : ∀ {n : Nd} {y : Pk}, metP (C.take k ++ C.drop (k + 1)) n = true → y ∈ C → y.1 = n.1 → y ∈ C.take k ++ C.drop (k + 1) := fun {n y} hm hy he => by
    obtain ⟨v, h2, _⟩ := met_mem hm
    obtain ⟨y1, y2⟩ := y
    simp only at he
    subst he
    rw [pk_one (lo := 0) h.pk hy (hsub _ h2)]
    exact h2
  have all : ∀ y, Up S N C y → y ∈ C.take k ++ C.drop (k + 1) := fun y hy => by
    induction hy with
    | own h2 h3 h4 => exact same (g.met _ h2) h3 h4
    | dep _ h3 h4 h5 ih => exact same (g.inner _ ih _ h3) h4 h5
  have hx := all C[k] (h.needed h0 _ (List.getElem_mem hk))
  have asc : ∀ {C : List Pk} {lo : Int} (i j : Nat) (hi : i < C.length) (hj : j < C.length), pkFrom lo C = true → C[i].1 = C[j].1 → i = j := by
    intro C
    induction C with
    | nil => intro lo i j hi; simp at hi
    | cons x t ih =>
      intro lo i j hi hj hf he
      simp only [pkFrom, Bool.and_eq_true, decide_eq_true_eq] at hf
      cases i with
      | zero =>
        cases j with
        | zero => rfl
        | succ j =>
          have := pk_low hf.2.2 _ (List.getElem_mem (by simpa using hj : j < t.length))
          simp only [List.getElem_cons_zero, List.getElem_cons_succ] at he
          omega
      | succ i =>
        cases j with
        | zero =>
          have := pk_low hf.2.2 _ (List.getElem_mem (by simpa using hi : i < t.length))
          simp only [List.getElem_cons_zero, List.getElem_cons_succ] at he
          omega
        | succ j => rw [ih i j (by simpa using hi) (by simpa using hj) hf.2.2 (by simpa using he)]
  rcases List.mem_append.1 hx with hx | hx
  · obtain ⟨i, hi, he⟩ := List.getElem_of_mem hx
    rw [List.getElem_take] at he
    have hi' : i < k := by simp at hi; omega
    have := asc (lo := 0) i k (by omega) hk h.pk (by rw [he])
    omega
  · obtain ⟨i, hi, he⟩ := List.getElem_of_mem hx
    rw [List.getElem_drop] at he
    have hi' : k + 1 + i < C.length := by simp at hi; omega
    have := asc (lo := 0) (k + 1 + i) k hi' hk h.pk (by rw [he])
    omega
/-- All of a choice that is fine is needed; and it is fine where it is held itself. -/
theorem fine_all {S : List Rel} {N : List Nd} {H C : List Pk} (h0 : faultF S N H C = 0) : (reachL S N C).length = C.length ∧ faultF S N C C = 0 := by
  have h := Fine.of (.inr h0)
  refine ⟨?_, Fine.zero ⟨h.sh, h.nd, h.pk, h.pk, h.there, fun x hx => ?_, h.met, h.inner⟩ (h.needed h0)⟩
  · unfold reachL
    rw [List.length_map, trim_came h.sh h.nd h.pk, came_all h.sh h.nd h.pk (h.needed h0)]
  · unfold allowP heldP
    obtain ⟨x1, x2⟩ := x
    rw [decide_eq_true (get_some (lo := 0) h.pk hx)]
    simp
end Rch
end Go.Proofs.Ytmhamoeibkpnpaa

/- A shelf on which one release is withdrawn, as plain facts: it is as fine as before, each place is found as before, and the withdrawn version fits nothing. No condition. -/
namespace Go.Proofs.Ytmhamoeibkpnpaa
open Go.RowKit Go.Sort

namespace Gof
open Copy Nup
/-- A release without its flag. -/
def er (q : Rel) : Int × (Int × Int × Int × Int) × List Nd := (q.1, q.2.1, q.2.2.2)
theorem relOk_er {p q : Rel} (h : er p = er q) : relOk p = relOk q := by
  obtain ⟨x, v, f, M⟩ := p
  obtain ⟨x', v', f', M'⟩ := q
  simp only [er, Prod.mk.injEq] at h
  obtain ⟨rfl, rfl, rfl⟩ := h
  rfl
theorem relLess_er {p q p' q' : Rel} (h : er p = er p') (h' : er q = er q') : relLess p q = relLess p' q' := by
  obtain ⟨x, v, f, M⟩ := p
  obtain ⟨x', v', f', M'⟩ := q
  obtain ⟨y, u, g, N⟩ := p'
  obtain ⟨y', u', g', N'⟩ := q'
  simp only [er, Prod.mk.injEq] at h h'
  obtain ⟨rfl, rfl, rfl⟩ := h
  obtain ⟨rfl, rfl, rfl⟩ := h'
  rfl
theorem shFrom_er : ∀ (S T : List Rel) (p p' : Option Rel), S.map er = T.map er → p.map er = p'.map er → shFrom p S = shFrom p' T
  | [], [], _, _, _, _ => rfl
  | [], _ :: _, _, _, h, _ => by simp at h
  | _ :: _, [], _, _, h, _ => by simp at h
  | x :: S, y :: T, p, p', h, hp => by
    simp only [List.map_cons, List.cons.injEq] at h
    have ih := shFrom_er S T (some x) (some y) h.2 (by simp [h.1])
    unfold shFrom
    rw [ih, relOk_er h.1]
    rcases p with _ | p
    · rcases p' with _ | p'
      · rfl
      · simp at hp
    · rcases p' with _ | p'
      · simp at hp
      · simp only [Option.map_some, Option.some.injEq] at hp
        show (relOk y && (relLess p x && _)) = (relOk y && (relLess p' y && _))
        rw [relLess_er hp h.1]
theorem shOk_er {S T : List Rel} (h : S.map er = T.map er) : shOk S = shOk T := by
  unfold shOk
  rw [shFrom_er S T none none h rfl]
  have := congrArg List.length h
  simp only [List.length_map] at this
  rw [this]
theorem shFind_er (n : Int) (v : Int × Int × Int × Int) : ∀ (S T : List Rel) (k : Nat), S.map er = T.map er → shFind n v k S = shFind n v k T
  | [], [], _, _ => rfl
  | [], _ :: _, _, h => by simp at h
  | _ :: _, [], _, h => by simp at h
  | x :: S, y :: T, k, h => by
    simp only [List.map_cons, List.cons.injEq] at h
    have ih := shFind_er n v S T (k + 1) h.2
    have e1 : x.1 = y.1 := congrArg (fun z => z.1) h.1
    have e2 : x.2.1 = y.2.1 := congrArg (fun z => z.2.1) h.1
    unfold shFind
    rw [ih, e1, e2]
theorem gone_er {S : List Rel} {j : Nat} (hj : j < S.length) : (goneL S j).map er = S.map er := by
  unfold goneL
  rw [List.getElem?_eq_getElem hj]
  apply List.ext_getElem?
  intro i
  simp only [List.getElem?_map, List.getElem?_set]
  by_cases h : j = i
  · subst h
    rw [if_pos rfl, if_pos hj, List.getElem?_eq_getElem hj]
    rfl
  · rw [if_neg h]
/-- The order of releases by one number. -/
def key (q : Rel) : Int := q.1 * 20000000 + rk q.2.1.1 q.2.1.2.1 q.2.1.2.2.1 q.2.1.2.2.2
theorem rk_few {a b c d : Int} (h : vOk a b c d = true) : 0 ≤ rk a b c d ∧ rk a b c d ≤ 9999999 := by
  have := vOk_iff.1 h
  unfold rk
  omega
theorem ok_ver {q : Rel} (h : relOk q = true) : vOk q.2.1.1 q.2.1.2.1 q.2.1.2.2.1 q.2.1.2.2.2 = true := by
  unfold relOk at h
  simp only [Bool.and_eq_true] at h
  exact h.2.1
theorem less_key {p q : Rel} (hp : relOk p = true) (hq : relOk q = true) (h : relLess p q = true) : key p < key q := by
  have h1 := rk_few (ok_ver hp)
  have h2 := rk_few (ok_ver hq)
  unfold relLess at h
  unfold key
  split at h
  · rename_i e
    unfold vLess at h
    simp only [Bool.and_eq_true, decide_eq_true_eq] at h
    have h3 := h.2.2
    unfold vRank at h3
    rw [if_pos (ok_ver hp), if_pos (ok_ver hq)] at h3
    rw [e]
    omega
  · have h3 := of_decide_eq_true h
    omega
theorem after_key : ∀ (S : List Rel) (p : Rel), relOk p = true → shFrom (some p) S = true → ∀ q ∈ S, key p < key q
  | [], _, _, _, q, hq => by simp at hq
  | x :: S, p, hp, h, q, hq => by
    unfold shFrom at h
    simp only [Bool.and_eq_true] at h
    have h1 := less_key hp h.1 h.2.1
    rcases List.mem_cons.1 hq with rfl | hq
    · exact h1
    · have := after_key S x h.1 h.2.2 q hq
      omega
theorem keys_differ : ∀ (S : List Rel) (p : Option Rel), shFrom p S = true → ∀ i j (hi : i < S.length) (hj : j < S.length), key S[i] = key S[j] → i = j
  | [], _, _, i, _, hi, _, _ => by simp at hi
  | x :: S, p, h, i, j, hi, hj, e => by
    unfold shFrom at h
    simp only [Bool.and_eq_true] at h
    have ha := after_key S x h.1 h.2.2
    rcases i with _ | i
    · rcases j with _ | j
      · rfl
      · have := ha (S[j]'(by simpa using hj)) (List.getElem_mem _)
        simp only [List.getElem_cons_zero, List.getElem_cons_succ] at e
        omega
    · rcases j with _ | j
      · have := ha (S[i]'(by simpa using hi)) (List.getElem_mem _)
        simp only [List.getElem_cons_zero, List.getElem_cons_succ] at e
        omega
      · have := keys_differ S (some x) h.2.2 i j (by simpa using hi) (by simpa using hj) (by simpa using e)
        omega
theorem one_rank {a b c d a' b' c' d' : Int} (h : hasL (oneL a b c d) a' b' c' d' = true) : vOk a b c d = true ∧ rk a' b' c' d' = rk a b c d := by
  unfold hasL at h
  simp only [Bool.and_eq_true] at h
  have h1 := h.2.2
  unfold oneL at h1
  split at h1
  · rename_i hv
    simp only [inL, List.any_cons, List.any_nil, Bool.or_false] at h1
    have := inB_iff.1 h1
    exact ⟨hv, by omega⟩
  · simp [inL] at h1
theorem fit_nil {n : Int} {L : Sps} : ∀ (S : List Rel) (k : Nat), (∀ q ∈ S, fitB n L q = false) → fitFrom n L k S = []
  | [], _, _ => rfl
  | x :: S, k, h => by
    unfold fitFrom
    rw [if_neg (by rw [h x (List.mem_cons_self ..)]; decide), fit_nil S (k + 1) fun q hq => h q (List.mem_cons_of_mem _ hq)]
    rfl
/-- What the law asks of a shelf on which the release of a name and a version is withdrawn. -/
theorem gone_law {S : List Rel} {n a b c d : Int} {j : Nat} (hj : j < S.length) (h : shAt S n (a, b, c, d) = (j : Int)) :
    shOk (goneL S j) = true ∧ shAt (goneL S j) n (a, b, c, d) = (j : Int) ∧ shFits (goneL S j) n (oneL a b c d) = [] := by
  have hS : shOk S = true := by
    rw [← Bool.not_eq_false]
    intro hf
    unfold shAt at h
    rw [hf, if_neg (by decide)] at h
    omega
  have he := gone_er hj
  have hG : shOk (goneL S j) = true := by rw [shOk_er he, hS]
  have hf : shFind n (a, b, c, d) 0 S = (j : Int) := by
    unfold shAt at h
    rwa [if_pos hS] at h
  refine ⟨hG, by unfold shAt; rw [if_pos hG, shFind_er n _ _ _ 0 he, hf], ?_⟩
  have hat : ∀ (S : List Rel) (k : Nat) (j : Nat), shFind n (a, b, c, d) k S = (j : Int) → ∃ i, ∃ h : i < S.length, j = k + i ∧ S[i].1 = n ∧ S[i].2.1 = (a, b, c, d) := by
    intro S
    induction S with
    | nil => intro k j h; unfold shFind at h; omega
    | cons x S ih =>
      intro k j h
      unfold shFind at h
      split at h
      · rename_i e
        exact ⟨0, by simp, by omega, e.1, e.2⟩
      · obtain ⟨i, hi, e, h1, h2⟩ := ih (k + 1) j h
        exact ⟨i + 1, by simpa using hi, by omega, by simpa using h1, by simpa using h2⟩
  obtain ⟨i0, hi0, e0, hn, hv⟩ := hat S 0 j hf
  obtain rfl : j = i0 := by omega
  unfold shFits
  split
  · refine fit_nil _ _ fun q hq => ?_
    obtain ⟨i, hi, rfl⟩ := List.getElem_of_mem hq
    by_cases hij : j = i
    · subst hij
      have e : (goneL S j)[j] = (S[j].1, S[j].2.1, true, S[j].2.2.2) := by
        have h1 : (goneL S j)[j]? = some (S[j].1, S[j].2.1, true, S[j].2.2.2) := by
          unfold goneL
          rw [List.getElem?_eq_getElem hj]
          exact List.getElem?_set_self hj
        exact (List.getElem?_eq_some_iff.1 h1).2
      rw [e]
      simp [fitB]
    · have hlen : (goneL S j).length = S.length := by
        have := congrArg List.length he
        simpa using this
      have hiS : i < S.length := by omega
      have e : (goneL S j)[i] = S[i] := by
        have h1 : (goneL S j)[i]? = some S[i] := by
          unfold goneL
          rw [List.getElem?_eq_getElem hj]
          exact (List.getElem?_set_ne hij).trans (List.getElem?_eq_getElem hiS)
        exact (List.getElem?_eq_some_iff.1 h1).2
      rw [e, ← Bool.not_eq_true]
      intro hf'
      unfold fitB at hf'
      simp only [Bool.and_eq_true, decide_eq_true_eq] at hf'
      obtain ⟨_, hr⟩ := one_rank hf'.2.2
      have hk : key S[i] = key S[j] := by
        unfold key
        rw [hf'.1, hn, hr, hv]
      have h1 := hS
      unfold shOk at h1
      rw [Bool.and_eq_true] at h1
      exact hij (keys_differ S none h1.1 i j hiS hj hk).symm
  · rfl
end Gof
end Go.Proofs.Ytmhamoeibkpnpaa

/- A shelf to which one release is put, as plain facts: the release is found at the place at which it was put, and without it the shelf is as before. No condition. -/
namespace Go.Proofs.Ytmhamoeibkpnpaa
open Go.RowKit Go.Sort

namespace Pof
open Copy Gof
theorem put_len (x : Rel) (S : List Rel) : (putL x S).length = S.length + 1 := by
  have := befL_le x S
  unfold putL
  simp
  omega
theorem put_at (x : Rel) (S : List Rel) : (putL x S)[befL x S]? = some x := by
  have h := befL_le x S
  unfold putL
  rw [List.append_assoc, List.getElem?_append_right (by simp; omega)]
  simp [Nat.min_eq_left h]
theorem put_take (x : Rel) (S : List Rel) : (putL x S).take (befL x S) = S.take (befL x S) := by
  have h := befL_le x S
  unfold putL
  rw [List.append_assoc, List.take_append_of_le_length (by simp; omega), List.take_take, Nat.min_self]
theorem put_drop (x : Rel) (S : List Rel) : (putL x S).drop (befL x S + 1) = S.drop (befL x S) := by
  have h := befL_le x S
  have e : (S.take (befL x S) ++ [x]).length = befL x S + 1 := by simp; omega
  unfold putL
  rw [← e, List.drop_left]
theorem find_at (n : Int) (v : Int × Int × Int × Int) : ∀ (S : List Rel) (k i : Nat) (hi : i < S.length), S[i].1 = n → S[i].2.1 = v → ∃ j, ∃ h : j < S.length, shFind n v k S = ((k + j : Nat) : Int) ∧ S[j].1 = n ∧ S[j].2.1 = v
  | [], _, i, hi, _, _ => by simp at hi
  | x :: S, k, i, hi, h1, h2 => by
    unfold shFind
    by_cases e : x.1 = n ∧ x.2.1 = v
    · rw [if_pos e]
      exact ⟨0, by simp, by simp, e.1, e.2⟩
    · rw [if_neg e]
      rcases i with _ | i
      · exact absurd ⟨by simpa using h1, by simpa using h2⟩ e
      · obtain ⟨j, hj, hf, g1, g2⟩ := find_at n v S (k + 1) i (by simpa using hi) (by simpa using h1) (by simpa using h2)
        exact ⟨j + 1, by simpa using hj, by rw [hf]; omega, by simpa using g1, by simpa using g2⟩
/-- What the law asks of a shelf to which a release was put. -/
theorem put_law {x : Rel} {S : List Rel} (h : putOk x S = true) : shOk (putL x S) = true ∧ shAt (putL x S) x.1 x.2.1 = ((befL x S : Nat) : Int) ∧ befL x S < (putL x S).length ∧
    ((putL x S).drop (befL x S)).take 1 = [x] ∧ (putL x S).take (befL x S) ++ (putL x S).drop (befL x S + 1) = S := by
  unfold putOk at h
  rw [Bool.and_eq_true] at h
  have hG := h.2
  have hk := befL_le x S
  have hlt : befL x S < (putL x S).length := by rw [put_len]; omega
  have hx : (putL x S)[befL x S] = x := (List.getElem?_eq_some_iff.1 (put_at x S)).2
  refine ⟨hG, ?_, hlt, ?_, by rw [put_take, put_drop, List.take_append_drop]⟩
  · obtain ⟨j, hj, hf, h1, h2⟩ := find_at x.1 x.2.1 (putL x S) 0 (befL x S) hlt (by rw [hx]) (by rw [hx])
    unfold shAt
    rw [if_pos hG, hf, Nat.zero_add]
    have hS := hG
    unfold shOk at hS
    rw [Bool.and_eq_true] at hS
    have := keys_differ (putL x S) none hS.1 j (befL x S) hj hlt (by unfold key; rw [h1, h2, hx])
    rw [this]
  · rw [List.drop_eq_getElem_cons hlt, hx]
    rfl
end Pof
end Go.Proofs.Ytmhamoeibkpnpaa
