/- Contracts of the program's functions that tell which picks are needed (needsOfPick, picksNeeded, picksThatCame, ChoiceTrim, ChoiceReach), over this seat's translation, as plain functions tell them; nothing that was there before a call has changed. Condition: at most 1048576 of each row and of what is in it. -/
import Derived.Test.YtgenjbeamlffmaaPkmk
import Derived.Test.YtgenjbeamlffmaaNmi
import Derived.Test.YtgenjbeamlffmaaGg
import Derived.Test.YtgenjbeamlffmaaPkof
import Derived.Test.YtgenjbeamlffmaaGd
import Derived.Test.YtgenjbeamlffmaaGh
namespace Go.Proofs.Ytgenjbeamlffmaa
open Go.RowKit Go.Sort

namespace Cpu
open Foot Copy Nup
/-- What the release of a pick needs. -/
def ndsOf (S : List Rel) (x : Pk) : List Nd := if 0 ≤ shFind x.1 x.2 0 S then (match S[(shFind x.1 x.2 0 S).toNat]? with | some r => r.2.2.2 | none => []) else []
theorem nds_cases (S : List Rel) (x : Pk) : (shFind x.1 x.2 0 S = -1 ∧ ndsOf S x = []) ∨ ∃ i, ∃ h : i < S.length, shFind x.1 x.2 0 S = (i : Int) ∧ ndsOf S x = S[i].2.2.2 := by
  rcases shFind_range x.1 x.2 S 0 with h | ⟨j, h, hj⟩
  · left
    refine ⟨h, ?_⟩
    unfold ndsOf
    rw [h]
    rfl
  · right
    rw [Nat.zero_add] at h
    refine ⟨j, hj, h, ?_⟩
    unfold ndsOf
    rw [h, if_pos (by omega), Int.toNat_natCast, List.getElem?_eq_getElem hj]
theorem nds_mem {S : List Rel} {x : Pk} {q : Nd} (h : q ∈ ndsOf S x) : ∃ r ∈ S, q ∈ r.2.2.2 := by
  rcases nds_cases S x with ⟨_, e⟩ | ⟨i, hi, _, e⟩
  · rw [e] at h; simp at h
  · rw [e] at h
    exact ⟨_, List.getElem_mem hi, h⟩
theorem nds_len {S : List Rel} (hS : ∀ q ∈ S, q.2.2.2.length ≤ 5) (x : Pk) : (ndsOf S x).length ≤ 5 := by
  rcases nds_cases S x with ⟨_, e⟩ | ⟨i, hi, _, e⟩
  · rw [e]; simp
  · rw [e]; exact hS _ (List.getElem_mem hi)

def hitK (S : List Rel) (nm : Int) (st : St) (j : Nat) (x : Pk) : St := if (!st.1.getD j true && decide (x.1 = nm)) = true then (st.1.set j true, st.2 ++ ndsOf S x) else st
def passK (S : List Rel) (nm : Int) : Nat → List Pk → St → St
  | _, [], st => st
  | j, x :: t, st => passK S nm (j + 1) t (hitK S nm st j x)
def runK (S : List Rel) (C : List Pk) : Nat → Nat → St → St
  | 0, _, st => st
  | f + 1, i, st => match st.2[i]? with
    | none => st
    | some n => runK S C f (i + 1) (passK S n.1 0 C st)
def startK (C : List Pk) (N : List Nd) : St := (List.replicate C.length false, N)
def endK (S : List Rel) (N : List Nd) (C : List Pk) : St := runK S C 200 0 (startK C N)
theorem passK_step {S : List Rel} {C : List Pk} {j : Nat} {x : Pk} (h : C[j]? = some x) (nm : Int) (st : St) : passK S nm j (C.drop j) st = passK S nm (j + 1) (C.drop (j + 1)) (hitK S nm st j x) := by
  have hj : j < C.length := (List.getElem?_eq_some_iff.1 h).1
  rw [List.drop_eq_getElem_cons hj, (List.getElem?_eq_some_iff.1 h).2]
  rfl
theorem runK_step {S : List Rel} {C : List Pk} {f i : Nat} {st : St} {n : Nd} (h : st.2[i]? = some n) : runK S C (f + 1) i st = runK S C f (i + 1) (passK S n.1 0 C st) := by
  show (match st.2[i]? with | none => st | some n => runK S C f (i + 1) (passK S n.1 0 C st)) = _
  rw [h]
theorem runK_end {S : List Rel} {C : List Pk} {f i : Nat} {st : St} (h : st.2.length ≤ i) : runK S C f i st = st := by
  cases f with
  | zero => rfl
  | succ f =>
    show (match st.2[i]? with | none => st | some n => runK S C f (i + 1) (passK S n.1 0 C st)) = _
    rw [List.getElem?_eq_none h]
def restK : List Bool → Nat
  | [] => 0
  | b :: c => (if b = true then 0 else 5) + restK c
theorem restK_set : ∀ (c : List Bool) (j : Nat), c.getD j true = false → restK (c.set j true) + 5 = restK c
  | [], j, h => by simp at h
  | b :: c, 0, h => by
    have hb : b = false := by simpa using h
    subst hb
    simp [restK]
    omega
  | b :: c, j + 1, h => by
    have := restK_set c j (by simpa using h)
    simp only [List.set_cons_succ, restK]
    omega
theorem restK_new : ∀ n, restK (List.replicate n false) = 5 * n
  | 0 => rfl
  | n + 1 => by
    rw [List.replicate_succ]
    simp only [restK]
    rw [restK_new n]
    simp
    omega
structure OkK (S : List Rel) (N : List Nd) (C : List Pk) (st : St) : Prop where
  flags : st.1.length = C.length
  size : st.2.length + restK st.1 ≤ N.length + 5 * C.length
  mem : ∀ q ∈ st.2, q ∈ N ∨ ∃ x ∈ S, q ∈ x.2.2.2
theorem OkK.start {S : List Rel} {N : List Nd} {C : List Pk} : OkK S N C (startK C N) :=
  ⟨by simp [startK], by show N.length + restK (List.replicate C.length false) ≤ _; rw [restK_new]; omega, fun q hq => .inl hq⟩
theorem OkK.hit {S : List Rel} {N : List Nd} {C : List Pk} {st : St} (hS : ∀ q ∈ S, q.2.2.2.length ≤ 5) (h : OkK S N C st) (nm : Int) (j : Nat) (x : Pk) : OkK S N C (hitK S nm st j x) := by
  unfold hitK
  split
  · rename_i hc
    rw [Bool.and_eq_true] at hc
    have h1 := restK_set st.1 j (by simpa using hc.1)
    have h2 := nds_len hS x
    have h3 := h.size
    refine ⟨by simpa using h.flags, ?_, fun q hq => ?_⟩
    · simp only [List.length_append]
      omega
    · rcases List.mem_append.1 hq with hq | hq
      · exact h.mem q hq
      · exact .inr (nds_mem hq)
  · exact h
theorem hitK_front {S : List Rel} {nm : Int} {st : St} {j : Nat} {x : Pk} {i : Nat} (hi : i ≤ st.2.length) : (hitK S nm st j x).2.take i = st.2.take i ∧ i ≤ (hitK S nm st j x).2.length := by
  unfold hitK
  split
  · exact ⟨List.take_append_of_le_length hi, by simp; omega⟩
  · exact ⟨rfl, hi⟩
theorem pk_few : ∀ {C : List Pk} {lo : Int}, 0 ≤ lo → lo ≤ 8 → pkFrom lo C = true → (C.length : Int) ≤ 8 - lo
  | [], lo, _, h8, _ => by simp; omega
  | x :: t, lo, h0, h8, h => by
    simp only [pkFrom, Bool.and_eq_true, decide_eq_true_eq] at h
    have := pk_few (C := t) (lo := x.1 + 1) (by omega) (by omega) h.2.2
    simp only [List.length_cons]
    omega
theorem pk_len {C : List Pk} (h : pkOk C = true) : C.length ≤ 8 := by
  have := pk_few (Int.le_refl 0) (by omega) h
  omega

/-- The picks whose flags are set. -/
def cameL : List Pk → List Bool → List Pk
  | x :: t, b :: c => (if b = true then [x] else []) ++ cameL t c
  | _, _ => []
theorem cameL_len : ∀ (C : List Pk) (c : List Bool), (cameL C c).length ≤ C.length
  | [], c => by simp [cameL]
  | x :: t, [] => by simp [cameL]
  | x :: t, b :: c => by
    have := cameL_len t c
    simp only [cameL]
    split <;> simp <;> omega
theorem cameL_step {C : List Pk} {c : List Bool} {k : Nat} {x : Pk} (hx : C[k]? = some x) (hc : k < c.length) : cameL (C.drop k) (c.drop k) = (if c.getD k true = true then [x] else []) ++ cameL (C.drop (k + 1)) (c.drop (k + 1)) := by
  have hk : k < C.length := (List.getElem?_eq_some_iff.1 hx).1
  rw [List.drop_eq_getElem_cons hk, List.drop_eq_getElem_cons hc, (List.getElem?_eq_some_iff.1 hx).2, List.getD_eq_getElem?_getD, List.getElem?_eq_getElem hc]
  rfl
def trimL (S : List Rel) (N : List Nd) (C : List Pk) : List Pk := if (shOk S && ndOk N && pkOk C) = true then cameL C (endK S N C).1 else []
def reachL (S : List Rel) (N : List Nd) (C : List Pk) : List Int := (trimL S N C).map (·.1)
theorem trimL_len (S : List Rel) (N : List Nd) (C : List Pk) : (trimL S N C).length ≤ C.length := by
  unfold trimL
  split
  · exact cameL_len _ _
  · simp

set_option maxRecDepth 100000 in
set_option maxHeartbeats 2000000 in
theorem needsOfPick_any (u : Value) (S : List Rel) (n p q r s : Int) (w : World) (B : Nat) (hB : B ≤ w.heap.size) (hl : S.length ≤ 1048576) (h : RlAt w B u S) :
    Calls Try.prog 184 #[u, pick n p q r s] w fun e w' => ∃ a cap, e = .returned (.slice a (ndsOf S (n, p, q, r, s)).length cap) ∧ NdAt w' B (.slice a (ndsOf S (n, p, q, r, s)).length cap) (ndsOf S (n, p, q, r, s)) ∧ Below w.heap.size w w' := by
  obtain ⟨sa, caps, rfl, hx⟩ := id h
  have H := Lib.hid (h.mono hB)
  have b0 := (Below.refl w.heap.size w).alloc (Nat.le_refl _) (.cells #[.int .i64 n, .int .i64 p, .int .i64 q, .int .i64 r, .int .i64 s] 114)
  have K : Hid (∀ V, RlAt V V.heap.size (.slice sa S.length caps) S → Calls Try.prog 151 #[.slice sa S.length caps, .int .i64 n, ver p q r s] V fun e w' => e = .returned (.int .i64 (shFind n (p, q, r, s) 0 S)) ∧ Below V.heap.size V w') := Lib.hid fun V g => placeOf_any _ S n p q r s V hl g
  rcases nds_cases S (n, p, q, r, s) with ⟨hf, e⟩ | ⟨i, hi, hf, e⟩
  · simp only at hf
    rw [hf] at K
    rw [e]
    clear hf e hx
    go_enter Try.func184, Try.ntmps184
    go_wp2_with fail
    refine (K.out _ (H.out.stepAt (by go_grown))).mono ?_
    rintro e w1 ⟨rfl, hb⟩
    go_wp2_with fail
    go_ret
    exact ⟨none, 0, rfl, ⟨none, 0, rfl, .inl rfl⟩, b0.trans (hb.mono b0.size)⟩
  · simp only at hf
    rw [hf] at K
    rw [e]
    obtain ⟨b, o, hsa, hbB, hc⟩ : ∃ b o, sa = some ⟨b, o, none⟩ ∧ b < B ∧ ∀ i (h : i < S.length), RlC w B b (o + i * 7) S[i] := by
      rcases hx with hh | hh
      · rw [hh] at hi; simp at hi
      · exact hh
    subst hsa
    have i0 : (0 : Int) ≤ (i : Int) := by omega
    have i1 : (i : Int) < (S.length : Int) := by omega
    have i2 : ¬ (i : Int) < 0 := by omega
    obtain ⟨M, hM⟩ : ∃ M, S[i].2.2.2 = M := ⟨_, rfl⟩
    obtain ⟨_, ad, cap, e6, hs⟩ := hc i hi
    rw [hM] at e6 hs ⊢
    have HS := Lib.hid hs
    have bw : b < w.heap.size := Nat.lt_of_lt_of_le hbB hB
    clear hf e hx hc hM hs
    go_enter Try.func184, Try.ntmps184
    go_wp2_with fail
    refine (K.out _ (H.out.stepAt (by go_grown))).mono ?_
    rintro e w1 ⟨rfl, hb⟩
    have b1 : Below w.heap.size w w1 := b0.trans (hb.mono b0.size)
    have f6 := (b1.cell (p := ⟨b, o + i * 7 + 6, none⟩) bw).trans e6
    clear hb e6
    go_wp2_with fail
    go_ret
    exact ⟨ad, cap, rfl, HS.out.below (b1.mono hB), b1⟩

set_option maxRecDepth 100000 in
set_option maxHeartbeats 4000000 in
theorem picksThatCame_any (u : Value) (C : List Pk) (g : Nat) (c : List Bool) (w : World) (hl : C.length ≤ 1048576) (hcl : c.length = C.length) (h : PkAt w w.heap.size u C) (hf : Fl w g c) :
    Calls Try.prog 185 #[u, .slice (some ⟨g, 0, none⟩) C.length C.length] w (PbPost (cameL C c) w) := by
  obtain ⟨i0, hi, hz0, hz1, hz2⟩ := info_parts infoPick
  obtain ⟨ua, uc, rfl, h0⟩ := id h
  clear h
  have HF := Lib.hid hf
  have hgl := hf.lt
  have HCL := Lib.hid hcl
  clear hcl hf
  go_enter Try.func185, Try.ntmps185
  go_wp2_with fail
  go_loopw [5, 10] (fun v i wr => ∃ (k : Nat) (L : List Pk), k ≤ C.length ∧ i = .int .i64 (k : Int) ∧ cameL C c = L ++ cameL (C.drop k) (c.drop k) ∧ L.length ≤ k ∧ KOwn wr w.heap.size v L ∧ Below w.heap.size w wr) (fun _ i _ => C.length - (intOf i).toNat)
  case atStart => exact ⟨0, [], Nat.zero_le _, rfl, rfl, Nat.le_refl _, World.ownsRow_nil _ _ _ _, Below.refl _ _⟩
  case round =>
    obtain ⟨k, L, hk, rfl, he, hL, hown, hb⟩ := hrel
    obtain ⟨va, vc, hv, hx⟩ := id (KOwn.pb hown).at
    subst hv
    clear hx
    have HE := Lib.hid he
    have HO := Lib.hid hown
    clear he hown
    have zb := hb.size
    by_cases hlt : k < C.length
    · rcases h0 with h0 | ⟨b, o, rfl, hB, hc⟩
      · subst h0
        exact absurd hlt (by simp)
      obtain ⟨x, a1, b1, c1, d1, hxy⟩ : ∃ x a b c d, C[k] = (x, a, b, c, d) := ⟨_, _, _, _, _, rfl⟩
      obtain ⟨e0, e1, e2, e3, e4⟩ := hc k hlt
      rw [hxy] at e0 e1 e2 e3 e4
      simp only at e0 e1 e2 e3 e4
      have f0 := (hb.cell (p := ⟨b, o + k * 5, none⟩) hB).trans e0
      have f1 := (hb.cell (p := ⟨b, o + k * 5 + 1, none⟩) hB).trans e1
      have f2 := (hb.cell (p := ⟨b, o + k * 5 + 2, none⟩) hB).trans e2
      have f3 := (hb.cell (p := ⟨b, o + k * 5 + 3, none⟩) hB).trans e3
      have f4 := (hb.cell (p := ⟨b, o + k * 5 + 4, none⟩) hB).trans e4
      have bl : b < wr.heap.size := by omega
      have hkc : k < c.length := by rw [HCL.out]; exact hlt
      have g0 := (hb.cell (p := ⟨g, k, none⟩) hgl).trans (HF.out.cell hkc)
      have gl : g < wr.heap.size := by omega
      have HST := Lib.hid (cameL_step (c := c) (show C[k]? = some (x, a1, b1, c1, d1) by rw [List.getElem?_eq_getElem hlt, hxy]) hkc)
      have i1 : (0 : Int) ≤ (k : Int) := by omega
      have i2 : (k : Int) < (C.length : Int) := by omega
      clear hc hxy e0 e1 e2 e3 e4 hkc
      rcases hck : c.getD k true
      · rw [hck] at g0 HST
        have HR := Lib.hid (show ∃ (k' : Nat) (L' : List Pk), k' ≤ C.length ∧ Value.int .i64 ((k : Int) + 1) = .int .i64 (k' : Int) ∧ cameL C c = L' ++ cameL (C.drop k') (c.drop k') ∧ L'.length ≤ k' ∧ KOwn (wr.alloc (.cells #[.int .i64 x, .int .i64 a1, .int .i64 b1, .int .i64 c1, .int .i64 d1] 114)) w.heap.size (.slice va L.length vc) L' ∧ Below w.heap.size w (wr.alloc (.cells #[.int .i64 x, .int .i64 a1, .int .i64 b1, .int .i64 c1, .int .i64 d1] 114)) from
          ⟨k + 1, L, by omega, by go_num, by rw [HE.out, HST.out]; simp, by omega, KOwn.below HO.out ((Below.refl _ _).alloc (Nat.le_refl _) _), hb.alloc zb _⟩)
        clear hck
        go_wp2_with fail
        go_roundw
        case rel => exact HR.out
        case measure => simp [intOf]; omega
      · rw [hck] at g0 HST
        clear hck
        have b4 : Below w.heap.size w (wr.alloc (.cells #[.int .i64 x, .int .i64 a1, .int .i64 b1, .int .i64 c1, .int .i64 d1] 114)) := hb.alloc zb _
        have o4 := KOwn.below HO.out ((Below.refl _ _).alloc (Nat.le_refl _) (.cells #[.int .i64 x, .int .i64 a1, .int .i64 b1, .int .i64 c1, .int .i64 d1] 114))
        obtain ⟨w4, hw4⟩ : ∃ V : World, V = wr.alloc (.cells #[.int .i64 x, .int .i64 a1, .int .i64 b1, .int .i64 c1, .int .i64 d1] 114) := ⟨_, rfl⟩
        have y0 : w4.cell? ⟨wr.heap.size, 0, none⟩ = some (.int .i64 x) := by rw [hw4]; go_simp
        have y1 : w4.cell? ⟨wr.heap.size, 1, none⟩ = some (.int .i64 a1) := by rw [hw4]; go_simp
        have y2 : w4.cell? ⟨wr.heap.size, 2, none⟩ = some (.int .i64 b1) := by rw [hw4]; go_simp
        have y3 : w4.cell? ⟨wr.heap.size, 3, none⟩ = some (.int .i64 c1) := by rw [hw4]; go_simp
        have y4 : w4.cell? ⟨wr.heap.size, 4, none⟩ = some (.int .i64 d1) := by rw [hw4]; go_simp
        have g4 : w4.cell? ⟨g, k, none⟩ = some (.bool true) := by
          rw [hw4]
          exact (World.cell?_of_block (a := ⟨g, k, none⟩) (Below.heap_alloc _ _ _ gl)).trans g0
        have z4 : w.heap.size ≤ w4.heap.size := by rw [hw4]; exact b4.size
        rw [← hw4] at b4 o4
        go_upto_region 5 with fail
        rw [← hw4]
        clear hw4 f0 f1 f2 f3 f4 g0
        go_wp2_with (at_builtin; refine wpList_append_own _ rfl _ _ 28 rfl w.heap.size 114 i0 (.agg #[.int .i64 0, .int .i64 0, .int .i64 0, .int .i64 0, .int .i64 0]) 5 40 Try.underlying28 hi hz0 hz1 hz2 rfl (by decide) _ _ _ rfl (KOwn.below o4 ((Below.refl w4.heap.size w4).alloc (Nat.le_refl _) (.cells #[.int .i64 x, .int .i64 a1, .int .i64 b1, .int .i64 c1, .int .i64 d1] 114))) ⟨w4.heap.size, 0, none⟩ 1 1 [.int .i64 x, .int .i64 a1, .int .i64 b1, .int .i64 c1, .int .i64 d1] rfl rfl (pick_new w4 x a1 b1 c1 d1) (pick_one _ _ _ _ _) (by unfold maxLen; omega) (by omega) (by simp; omega) ?_)
        intro v' w5 hown' hgrow hnn
        have HR := Lib.hid (show ∃ (k' : Nat) (L' : List Pk), k' ≤ C.length ∧ Value.int .i64 ((k : Int) + 1) = .int .i64 (k' : Int) ∧ cameL C c = L' ++ cameL (C.drop k') (c.drop k') ∧ L'.length ≤ k' ∧ KOwn w5 w.heap.size v' L' ∧ Below w.heap.size w w5 from
          ⟨k + 1, L ++ [(x, a1, b1, c1, d1)], by omega, by go_num, by rw [HE.out, HST.out]; simp, by simp; omega, KOwn.push hown', KOwn.gone o4 b4 z4 hgrow⟩)
        clear hown' hgrow hnn o4 b4
        go_wp2_with fail
        go_roundw
        case rel => exact HR.out
        case measure => simp [intOf]; omega
    · obtain rfl : k = C.length := by omega
      have HQ := Lib.hid (show cameL C c = L by rw [HE.out, List.drop_length]; simp [cameL])
      go_wp2_with fail
      go_ret
      exact ⟨_, rfl, by rw [HQ.out]; exact KOwn.pb HO.out, hb⟩
end Cpu
end Go.Proofs.Ytgenjbeamlffmaa
