/- At every argument the law FnExactShelfPut returns true: ShelfPut of the program answers as ShelfPut of the model, leaves its arguments, and its answer owns its memory. No condition. -/
import Derived.Test.YtigkfhgmnenplaaGc
import Derived.Test.YtigkfhgmnenplaaPuts
import Derived.Test.YtigkfhgmnenplaaPuti
import Derived.Test.YtigkfhgmnenplaaMarkr
import Derived.Test.YtigkfhgmnenplaaMkh
import Derived.Test.YtigkfhgmnenplaaGa
import Derived.Deep.RegionHeld3
namespace Go.Proofs.Ytigkfhgmnenplaa
open Go.ChangeShapes Go.WideShapes Go.ChangeAt Go.RowKit Go.Joins Go.Sort

namespace Lsp
open Foot Copy
set_option maxRecDepth 100000 in
theorem open_rel {H : Type} {enc : TypeId × Value → H} {w : World} {held : Bool} {b0 : Nat} {v : Value} {d : DataW H} {p : List MemPlace} (hv : Value.okWide Try.prog w .any b0 27 v)
    (h : DataW.Trod enc Try.prog w 0 (fun _ => true) held 27 v d p) : ∃ (n a b c e : Int) (f : Bool) (ad : Option Addr) (cap : Nat) (M : List Nd), v = rels n a b c e f (.slice ad M.length cap) ∧ NdAt w w.heap.size (.slice ad M.length cap) M ∧ M.length ≤ maxLen ∧ ∀ p ∈ M, p.2.length ≤ maxLen := by
  obtain ⟨cs, rfl, hsz⟩ := okWide_struct Try.underlying27 hv
  obtain ⟨l⟩ := cs
  obtain ⟨fuel, hf⟩ := h
  simp only [Value.cells] at hf
  obtain ⟨⟨n, ⟨a, b, c, e⟩, f, M⟩, ad, cap, hc, hs, hm, hq⟩ := open_rel_trod hf
  subst hc
  exact ⟨n, a, b, c, e, f, ad, cap, M, rfl, hs, hm, hq⟩
set_option maxRecDepth 100000 in
theorem NIn.out {M : List Nd} {lo hi lo' hi' : Nat} {v : Value} {w w' : World} (h : NIn M lo hi v w) (ho : Out lo' hi' w w') (hd : hi' ≤ lo) : NIn M lo hi v w' := h.kept fun k k1 k2 => ho.block k k2 (.inr (by omega))
set_option maxRecDepth 100000 in
theorem eqRelease_same {x a b c d : Int} {f : Bool} {v v' : Value} {M : List Nd} {w : World} (hl : M.length ≤ 1048576) (hq : ∀ q ∈ M, q.2.length ≤ 1048576) (h : NdAt w w.heap.size v M) (h' : NdAt w w.heap.size v' M) :
    Calls Try.prog 22 #[rels x a b c d f v, rels x a b c d f v'] w fun e w' => e = .returned (.bool true) ∧ Below w.heap.size w w' := by
  have := eqRelease_any x a b c d x a b c d f f v v' M M w hl hl hq hq h h'
  rwa [decide_eq_true rfl] at this
set_option maxRecDepth 100000 in
theorem toRelease_in (n a b c d : Int) (f : Bool) (v : Value) (M : List Nd) (w : World) (h : NdAt w w.heap.size v M) (hl : M.length ≤ 1048576) (hq : ∀ q ∈ M, q.2.length ≤ 1048576) :
    Calls Try.prog 19 #[rels n a b c d f v] w fun e w' => ∃ ad cp, e = .returned (rels n a b c d f (.slice ad M.length cp)) ∧ NIn M w.heap.size w'.heap.size (.slice ad M.length cp) w' ∧ Below w.heap.size w w' :=
  (toRelease_ord n a b c d f v M w h hl hq).mono fun _ _ ⟨g, he, hk, hg, ho, hb⟩ => ⟨_, _, he, ⟨_, _, rfl, .inr ⟨g, _, rfl, hk, hg, ho⟩⟩, hb⟩
set_option maxRecDepth 100000 in
set_option maxHeartbeats 1000000 in
theorem markRelease_in {n a b c d : Int} {f : Bool} {u : Value} {M : List Nd} {lo hi : Nat} {w : World} (hl : M.length ≤ 1048576) (hsz : ndSz M ≤ 1048576) (h : NIn M lo hi u w) (k : Int) (hk0 : 0 ≤ k) (hk1 : k ≤ 500000000) :
    Calls Try.prog 24 #[rels n a b c d f u, .int .i64 k] w fun e w' => (∃ y : Int, e = .returned (.int .i64 y) ∧ k ≤ y) ∧ Out lo hi w w' := by
  obtain ⟨ad, cap, rfl, hx⟩ := id h
  clear hx
  have b0 := (Below.refl w.heap.size w).alloc (Nat.le_refl _) (.cells #[.int .i64 n, .int .i64 a, .int .i64 b, .int .i64 c, .int .i64 d, .bool f, .slice ad M.length cap] 37)
  have K := Lib.hid (markNIn hl hsz (h.below b0) k hk0 hk1)
  have HO := Lib.hid (Out.ofBelow (lo := lo) (hi := hi) b0)
  clear h b0
  go_enter Try.func24, Try.ntmps24
  go_wp2_with fail
  refine K.out.mono ?_
  rintro e w1 ⟨⟨y, rfl, hy, _⟩, ho⟩
  go_wp2_with fail
  go_ret
  exact ⟨⟨y, rfl, hy⟩, HO.out.trans ho⟩
def putG (x : Rel) (S : List Rel) : List Rel := if putOk x S = true then putL x S else []
theorem rlSz_app : ∀ A B : List Rel, rlSz (A ++ B) = rlSz A + rlSz B
  | [], B => by simp [rlSz]
  | q :: t, B => by simp only [List.cons_append, rlSz]; rw [rlSz_app t B]; omega
theorem putG_sz (x : Rel) (S : List Rel) : (putG x S).length ≤ S.length + 1 ∧ rlSz (putG x S) ≤ rlSz S + (x.2.2.2.length + ndSz x.2.2.2) := by
  unfold putG
  split
  · have hk := befL_le x S
    have e := rlSz_app (S.take (befL x S)) (S.drop (befL x S))
    rw [List.take_append_drop] at e
    unfold putL
    rw [rlSz_app, rlSz_app]
    simp [rlSz]
    omega
  · simp [rlSz]
theorem putG_len (x : Rel) (S : List Rel) : (putG x S).length ≤ 30 := by
  unfold putG putOk
  split
  · rename_i h
    rw [Bool.and_eq_true] at h
    exact shOk_len h.2
  · simp
theorem put_post {x : Rel} {S : List Rel} {w w' : World} {e : Ending} (h : PutPost x S w e w') : SbPost (putG x S) (putOk x S) w e w' := by
  obtain ⟨v, fs, rfl, h1, h2⟩ := h
  exact ⟨v, rfl, .of h1, h2⟩
set_option maxRecDepth 100000 in
set_option maxHeartbeats 2000000 in
theorem long (v : Value) (S : List Rel) (n p q r s : Int) (f : Bool) (u : Value) (M : List Nd) (w : World) (hm : S.length ≤ maxLen) (hq : ∀ q ∈ S, q.2.2.2.length ≤ maxLen ∧ ∀ p ∈ q.2.2.2, p.2.length ≤ maxLen) (hM : M.length ≤ maxLen) (hMq : ∀ p ∈ M, p.2.length ≤ maxLen) (h : RlAt w w.heap.size v S) (h' : NdAt w w.heap.size u M) (hl : 1048576 < S.length + rlSz S + (M.length + ndSz M)) :
    Calls Try.prog 3 #[v, rels n p q r s f u] w fun e w' => e = .returned (.bool true) ∧ Below w.heap.size w w' := by
  obtain ⟨sa, caps, rfl, hx⟩ := id h
  obtain ⟨na, ncap, rfl, hy⟩ := id h'
  clear hx hy
  have H := Lib.hid h
  have H' := Lib.hid h'
  have b0 := (Below.refl w.heap.size w).alloc (Nat.le_refl _) (.cells #[.int .i64 n, .int .i64 p, .int .i64 q, .int .i64 r, .int .i64 s, .bool f, .slice na M.length ncap] 27)
  have K : Hid (∀ V, RlAt V V.heap.size (.slice sa S.length caps) S → Calls Try.prog 15 #[.slice sa S.length caps, .int .i64 1048576] V fun e w' => e = .returned (.int .i64 (leftOf 1048576 (S.length + rlSz S))) ∧ Below V.heap.size V w') := Lib.hid fun V g => szReleaseS_any _ S 1048576 V (by omega) (by omega) hm hq g
  clear h h'
  by_cases h1 : 1048576 < S.length + rlSz S
  · rw [show leftOf 1048576 (S.length + rlSz S) = -1 by unfold leftOf; rw [if_pos (by omega)]] at K
    go_enter Try.func3, Try.ntmps3
    go_wp2_with fail
    refine (K.out _ (H.out.stepAt (by go_grown))).mono ?_
    rintro e w1 ⟨rfl, hb⟩
    go_wp2_with fail
    go_ret
    exact ⟨rfl, b0.trans (hb.mono b0.size)⟩
  · obtain ⟨y, hy, hy0, hy1, hy2⟩ : ∃ y : Int, leftOf 1048576 (S.length + rlSz S) = y ∧ ¬ y < 0 ∧ y ≤ 1048576 ∧ y < ((M.length + ndSz M : Nat) : Int) := ⟨_, rfl, by unfold leftOf; rw [if_neg (by omega)]; omega, by unfold leftOf; rw [if_neg (by omega)]; omega, by unfold leftOf; rw [if_neg (by omega)]; omega⟩
    rw [hy] at K
    have K2 : Hid (∀ V, NdAt V V.heap.size (.slice na M.length ncap) M → Calls Try.prog 16 #[rels n p q r s f (.slice na M.length ncap), .int .i64 y] V fun e w' => e = .returned (.int .i64 (-1)) ∧ Below V.heap.size V w') := Lib.hid fun V g => by
      have := szRelease_any n p q r s f _ M y V (by omega) hy1 hM hMq g
      rwa [show leftOf y (M.length + ndSz M) = -1 by unfold leftOf; rw [if_pos hy2]] at this
    have c0 : (w.alloc (.cells #[.int .i64 n, .int .i64 p, .int .i64 q, .int .i64 r, .int .i64 s, .bool f, .slice na M.length ncap] 27)).cell? ⟨w.heap.size, 0, none⟩ = some (.int .i64 n) := by go_simp
    have c1 : (w.alloc (.cells #[.int .i64 n, .int .i64 p, .int .i64 q, .int .i64 r, .int .i64 s, .bool f, .slice na M.length ncap] 27)).cell? ⟨w.heap.size, 1, none⟩ = some (.int .i64 p) := by go_simp
    have c2 : (w.alloc (.cells #[.int .i64 n, .int .i64 p, .int .i64 q, .int .i64 r, .int .i64 s, .bool f, .slice na M.length ncap] 27)).cell? ⟨w.heap.size, 2, none⟩ = some (.int .i64 q) := by go_simp
    have c3 : (w.alloc (.cells #[.int .i64 n, .int .i64 p, .int .i64 q, .int .i64 r, .int .i64 s, .bool f, .slice na M.length ncap] 27)).cell? ⟨w.heap.size, 3, none⟩ = some (.int .i64 r) := by go_simp
    have c4 : (w.alloc (.cells #[.int .i64 n, .int .i64 p, .int .i64 q, .int .i64 r, .int .i64 s, .bool f, .slice na M.length ncap] 27)).cell? ⟨w.heap.size, 4, none⟩ = some (.int .i64 s) := by go_simp
    have c5 : (w.alloc (.cells #[.int .i64 n, .int .i64 p, .int .i64 q, .int .i64 r, .int .i64 s, .bool f, .slice na M.length ncap] 27)).cell? ⟨w.heap.size, 5, none⟩ = some (.bool f) := by go_simp
    have c6 : (w.alloc (.cells #[.int .i64 n, .int .i64 p, .int .i64 q, .int .i64 r, .int .i64 s, .bool f, .slice na M.length ncap] 27)).cell? ⟨w.heap.size, 6, none⟩ = some (.slice na M.length ncap) := by go_simp
    clear hy hy2 hM
    go_enter Try.func3, Try.ntmps3
    go_wp2_with fail
    refine (K.out _ (H.out.stepAt (by go_grown))).mono ?_
    rintro e w1 ⟨rfl, hb⟩
    have b1 := b0.trans (hb.mono b0.size)
    have d0 := (hb.cell (p := ⟨w.heap.size, 0, none⟩) (by simp)).trans c0
    have d1 := (hb.cell (p := ⟨w.heap.size, 1, none⟩) (by simp)).trans c1
    have d2 := (hb.cell (p := ⟨w.heap.size, 2, none⟩) (by simp)).trans c2
    have d3 := (hb.cell (p := ⟨w.heap.size, 3, none⟩) (by simp)).trans c3
    have d4 := (hb.cell (p := ⟨w.heap.size, 4, none⟩) (by simp)).trans c4
    have d5 := (hb.cell (p := ⟨w.heap.size, 5, none⟩) (by simp)).trans c5
    have d6 := (hb.cell (p := ⟨w.heap.size, 6, none⟩) (by simp)).trans c6
    clear hb c0 c1 c2 c3 c4 c5 c6 b0
    go_wp2_with fail
    refine (K2.out _ (H'.out.stepAt b1)).mono ?_
    rintro e w2 ⟨rfl, hb⟩
    go_wp2_with fail
    go_ret
    exact ⟨rfl, b1.trans (hb.mono b1.size)⟩

set_option maxRecDepth 100000 in
set_option maxHeartbeats 16000000 in
theorem short (v : Value) (S : List Rel) (n p q r s : Int) (f : Bool) (u : Value) (M : List Nd) (w : World) (h : RlAt w w.heap.size v S) (h' : NdAt w w.heap.size u M) (hl : S.length + rlSz S + (M.length + ndSz M) ≤ 1048576) :
    Calls Try.prog 3 #[v, rels n p q r s f u] w fun e w' => e = .returned (.bool true) ∧ Below w.heap.size w w' := by
  have hm : S.length ≤ 1048576 := by omega
  have hz : rlSz S ≤ 1048576 := by omega
  have hM : M.length ≤ 1048576 := by omega
  have hMz : ndSz M ≤ 1048576 := by omega
  have hq := rl_each (M := S) hz
  have hMq : ∀ p ∈ M, p.2.length ≤ 1048576 := fun p hp => by
    obtain ⟨j, hj, rfl⟩ := List.getElem_of_mem hp
    have := ndSz_mem M j _ (List.getElem?_eq_getElem hj)
    omega
  obtain ⟨sa, caps, rfl, hx⟩ := id h
  obtain ⟨na, ncap, rfl, hy⟩ := id h'
  clear hx hy
  have H := Lib.hid h
  have H' := Lib.hid h'
  clear h h'
  obtain ⟨y, hy, hy0, hy1, hy2⟩ : ∃ y : Int, leftOf 1048576 (S.length + rlSz S) = y ∧ ¬ y < 0 ∧ y ≤ 1048576 ∧ ¬ y < ((M.length + ndSz M : Nat) : Int) := ⟨_, rfl, by unfold leftOf; rw [if_neg (by omega)]; omega, by unfold leftOf; rw [if_neg (by omega)]; omega, by unfold leftOf; rw [if_neg (by omega)]; omega⟩
  have K : Hid (∀ V, RlAt V V.heap.size (.slice sa S.length caps) S → Calls Try.prog 15 #[.slice sa S.length caps, .int .i64 1048576] V fun e w' => e = .returned (.int .i64 y) ∧ Below V.heap.size V w') := Lib.hid fun V g => by
    have := szReleaseS_any _ S 1048576 V (by omega) (by omega) (by unfold maxLen; omega) (fun q hq' => ⟨by have := (hq q hq').1; unfold maxLen; omega, fun p hp => by have := (hq q hq').2 p hp; unfold maxLen; omega⟩) g
    rwa [hy] at this
  obtain ⟨y2, hyy, hyy0⟩ : ∃ y2 : Int, leftOf y (M.length + ndSz M) = y2 ∧ ¬ y2 < 0 := ⟨_, rfl, by unfold leftOf; rw [if_neg hy2]; omega⟩
  have K2 : Hid (∀ V, NdAt V V.heap.size (.slice na M.length ncap) M → Calls Try.prog 16 #[rels n p q r s f (.slice na M.length ncap), .int .i64 y] V fun e w' => e = .returned (.int .i64 y2) ∧ Below V.heap.size V w') := Lib.hid fun V g => by
    have := szRelease_any n p q r s f _ M y V (by omega) hy1 (by unfold maxLen; omega) (fun p hp => by have := hMq p hp; unfold maxLen; omega) g
    rwa [hyy] at this
  clear hy hy2 hyy
  have hGz := (putG_sz (n, (p, q, r, s), f, M) S).2
  have hGl := putG_len (n, (p, q, r, s), f, M) S
  simp only at hGz
  have KS : Hid (∀ V g c nd nc, c = S.length → RlAt V V.heap.size (.slice (some ⟨g, 0, none⟩) S.length c) S → NdAt V V.heap.size (.slice nd M.length nc) M → Calls Try.prog 17 #[.slice (some ⟨g, 0, none⟩) S.length c, rels n p q r s f (.slice nd M.length nc)] V (SbPost (putG (n, (p, q, r, s), f, M) S) (putOk (n, (p, q, r, s), f, M) S) V)) := Lib.hid fun V g c nd nc hc k k' => (specShelfPut_any _ _ S n p q r s f nd nc M V k (.inr ⟨_, _, rfl⟩) (by omega) hm hq k' ⟨hM, hMq⟩).mono fun _ _ k => put_post k
  have KI : Hid (∀ V g c nd nc, c = S.length → RlAt V V.heap.size (.slice (some ⟨g, 0, none⟩) S.length c) S → NdAt V V.heap.size (.slice nd M.length nc) M → Calls Try.prog 20 #[.slice (some ⟨g, 0, none⟩) S.length c, rels n p q r s f (.slice nd M.length nc)] V (SbPost (putG (n, (p, q, r, s), f, M) S) (putOk (n, (p, q, r, s), f, M) S) V)) := Lib.hid fun V g c nd nc hc k k' => (implShelfPut_any _ _ S n p q r s f nd nc M V k (.inr ⟨_, _, rfl⟩) (by omega) hm hq k' ⟨hM, hMq⟩).mono fun _ _ k => put_post k
  generalize putOk (n, (p, q, r, s), f, M) S = ok at *
  generalize putG (n, (p, q, r, s), f, M) S = G at *
  have hmG : G.length ≤ 1048576 := by omega
  have hzG : rlSz G ≤ 1048576 := by omega
  have hqG := rl_each (M := G) hzG
  clear hGl hGz
  have hok : (ok != ok) = false := by simp
  obtain ⟨mm, hmm, hm0⟩ : ∃ mm : Int, rmkE 1 G = mm ∧ ¬ mm < 0 := ⟨_, rfl, by have := (rmkE_le G 1).1; omega⟩
  have hm2 : (mm != mm) = false := by simp
  have KM : Hid (∀ V u lo hi, RlB G lo hi u V → Calls Try.prog 23 #[u, .int .i64 1] V fun e w' => e = .returned (.int .i64 mm) ∧ RlB (rmk 1 G) lo hi u w' ∧ Out lo hi V w') := Lib.hid fun V u lo hi g => by
    have := markRlB hmG hzG g 1 (by omega) (by omega)
    rwa [hmm] at this
  have KH : Hid (∀ V u lo hi, RlB (rmk 1 G) lo hi u V → Calls Try.prog 25 #[u, .int .i64 1] V fun e w' => e = .returned (.int .i64 mm) ∧ Below V.heap.size V w') := Lib.hid fun V u lo hi g => by
    have := heldRlB hmG hzG 1 (by omega) (by omega) g
    rwa [hmm] at this
  clear hmm
  obtain ⟨w1, hw1⟩ : ∃ V : World, V = w.alloc (.cells #[.int .i64 n, .int .i64 p, .int .i64 q, .int .i64 r, .int .i64 s, .bool f, .slice na M.length ncap] 27) := ⟨_, rfl⟩
  have b1 : Below w.heap.size w w1 := by
    rw [hw1]
    exact (Below.refl w.heap.size w).alloc (Nat.le_refl _) _
  have z1 : w.heap.size + 1 ≤ w1.heap.size := by rw [hw1]; simp
  have c1_0_0 : w1.cell? ⟨w.heap.size, 0, none⟩ = some (.int .i64 n) := by rw [hw1]; go_simp
  have c1_0_1 : w1.cell? ⟨w.heap.size, 1, none⟩ = some (.int .i64 p) := by rw [hw1]; go_simp
  have c1_0_2 : w1.cell? ⟨w.heap.size, 2, none⟩ = some (.int .i64 q) := by rw [hw1]; go_simp
  have c1_0_3 : w1.cell? ⟨w.heap.size, 3, none⟩ = some (.int .i64 r) := by rw [hw1]; go_simp
  have c1_0_4 : w1.cell? ⟨w.heap.size, 4, none⟩ = some (.int .i64 s) := by rw [hw1]; go_simp
  have c1_0_5 : w1.cell? ⟨w.heap.size, 5, none⟩ = some (.bool f) := by rw [hw1]; go_simp
  have c1_0_6 : w1.cell? ⟨w.heap.size, 6, none⟩ = some (.slice na M.length ncap) := by rw [hw1]; go_simp
  go_enter Try.func3, Try.ntmps3
  go_upto_region 1 with fail
  rw [← hw1]
  clear hw1
  go_wp2_with fail
  refine (K.out _ (H.out.stepAt b1)).mono ?_
  rintro e w2 ⟨rfl, hb⟩
  have zw2 : w1.heap.size ≤ w2.heap.size := hb.size
  have bw2 := b1.trans (hb.mono b1.size)
  have cw2_0_0 := (hb.cell (p := ⟨w.heap.size, 0, none⟩) (by show w.heap.size < w1.heap.size; omega)).trans c1_0_0
  have cw2_0_1 := (hb.cell (p := ⟨w.heap.size, 1, none⟩) (by show w.heap.size < w1.heap.size; omega)).trans c1_0_1
  have cw2_0_2 := (hb.cell (p := ⟨w.heap.size, 2, none⟩) (by show w.heap.size < w1.heap.size; omega)).trans c1_0_2
  have cw2_0_3 := (hb.cell (p := ⟨w.heap.size, 3, none⟩) (by show w.heap.size < w1.heap.size; omega)).trans c1_0_3
  have cw2_0_4 := (hb.cell (p := ⟨w.heap.size, 4, none⟩) (by show w.heap.size < w1.heap.size; omega)).trans c1_0_4
  have cw2_0_5 := (hb.cell (p := ⟨w.heap.size, 5, none⟩) (by show w.heap.size < w1.heap.size; omega)).trans c1_0_5
  have cw2_0_6 := (hb.cell (p := ⟨w.heap.size, 6, none⟩) (by show w.heap.size < w1.heap.size; omega)).trans c1_0_6
  clear hb b1 c1_0_0 c1_0_1 c1_0_2 c1_0_3 c1_0_4 c1_0_5 c1_0_6
  go_wp2_with fail
  refine (K2.out _ (H'.out.stepAt bw2)).mono ?_
  rintro e w3 ⟨rfl, hb⟩
  have zw3 : w2.heap.size ≤ w3.heap.size := hb.size
  have bw3 := bw2.trans (hb.mono bw2.size)
  have cw3_0_0 := (hb.cell (p := ⟨w.heap.size, 0, none⟩) (by show w.heap.size < w2.heap.size; omega)).trans cw2_0_0
  have cw3_0_1 := (hb.cell (p := ⟨w.heap.size, 1, none⟩) (by show w.heap.size < w2.heap.size; omega)).trans cw2_0_1
  have cw3_0_2 := (hb.cell (p := ⟨w.heap.size, 2, none⟩) (by show w.heap.size < w2.heap.size; omega)).trans cw2_0_2
  have cw3_0_3 := (hb.cell (p := ⟨w.heap.size, 3, none⟩) (by show w.heap.size < w2.heap.size; omega)).trans cw2_0_3
  have cw3_0_4 := (hb.cell (p := ⟨w.heap.size, 4, none⟩) (by show w.heap.size < w2.heap.size; omega)).trans cw2_0_4
  have cw3_0_5 := (hb.cell (p := ⟨w.heap.size, 5, none⟩) (by show w.heap.size < w2.heap.size; omega)).trans cw2_0_5
  have cw3_0_6 := (hb.cell (p := ⟨w.heap.size, 6, none⟩) (by show w.heap.size < w2.heap.size; omega)).trans cw2_0_6
  clear hb bw2 cw2_0_0 cw2_0_1 cw2_0_2 cw2_0_3 cw2_0_4 cw2_0_5 cw2_0_6
  go_wp2_with fail
  go_cut [6, 7] from 27 (fun t b wx => b = .bool ok ∧ RlB G w3.heap.size wx.heap.size t wx ∧ Below w3.heap.size w3 wx)
  case first =>
    go_region_held3 (fun V => V.cell? ⟨w.heap.size, 0, none⟩ = some (.int .i64 n) ∧ V.cell? ⟨w.heap.size, 1, none⟩ = some (.int .i64 p) ∧ V.cell? ⟨w.heap.size, 2, none⟩ = some (.int .i64 q) ∧ V.cell? ⟨w.heap.size, 3, none⟩ = some (.int .i64 r) ∧ V.cell? ⟨w.heap.size, 4, none⟩ = some (.int .i64 s) ∧ V.cell? ⟨w.heap.size, 5, none⟩ = some (.bool f) ∧ V.cell? ⟨w.heap.size, 6, none⟩ = some (.slice na M.length ncap)) (go_keep)
      (first
      | (go_at_call 18; refine (toReleaseS_any _ S _ (((H.out.stepAt bw3)).stepAt (by go_grown)) hm hq).mono ?_; rintro e wu ⟨gu, rfl, ku, hgu, hbu⟩; have nn : Below w3.heap.size w3 wu := Below.step (by go_grown) hbu; clear hgu; have ku_0_0 := (nn.cell (p := ⟨w.heap.size, 0, none⟩) (by show w.heap.size < w3.heap.size; omega)).trans cw3_0_0; have ku_0_1 := (nn.cell (p := ⟨w.heap.size, 1, none⟩) (by show w.heap.size < w3.heap.size; omega)).trans cw3_0_1; have ku_0_2 := (nn.cell (p := ⟨w.heap.size, 2, none⟩) (by show w.heap.size < w3.heap.size; omega)).trans cw3_0_2; have ku_0_3 := (nn.cell (p := ⟨w.heap.size, 3, none⟩) (by show w.heap.size < w3.heap.size; omega)).trans cw3_0_3; have ku_0_4 := (nn.cell (p := ⟨w.heap.size, 4, none⟩) (by show w.heap.size < w3.heap.size; omega)).trans cw3_0_4; have ku_0_5 := (nn.cell (p := ⟨w.heap.size, 5, none⟩) (by show w.heap.size < w3.heap.size; omega)).trans cw3_0_5; have ku_0_6 := (nn.cell (p := ⟨w.heap.size, 6, none⟩) (by show w.heap.size < w3.heap.size; omega)).trans cw3_0_6)
      | (go_at_call 19; refine (toRelease_in n p q r s f _ M _ (((H'.out.stepAt bw3)).stepAt (by go_grown)) hM hMq).mono ?_; rintro e wv ⟨av, cv, rfl, kv, hbv⟩; have nn : Below w3.heap.size w3 wv := Below.step (by go_grown) hbv; have kv_0_0 := (nn.cell (p := ⟨w.heap.size, 0, none⟩) (by show w.heap.size < w3.heap.size; omega)).trans cw3_0_0; have kv_0_1 := (nn.cell (p := ⟨w.heap.size, 1, none⟩) (by show w.heap.size < w3.heap.size; omega)).trans cw3_0_1; have kv_0_2 := (nn.cell (p := ⟨w.heap.size, 2, none⟩) (by show w.heap.size < w3.heap.size; omega)).trans cw3_0_2; have kv_0_3 := (nn.cell (p := ⟨w.heap.size, 3, none⟩) (by show w.heap.size < w3.heap.size; omega)).trans cw3_0_3; have kv_0_4 := (nn.cell (p := ⟨w.heap.size, 4, none⟩) (by show w.heap.size < w3.heap.size; omega)).trans cw3_0_4; have kv_0_5 := (nn.cell (p := ⟨w.heap.size, 5, none⟩) (by show w.heap.size < w3.heap.size; omega)).trans cw3_0_5; have kv_0_6 := (nn.cell (p := ⟨w.heap.size, 6, none⟩) (by show w.heap.size < w3.heap.size; omega)).trans cw3_0_6)
      | (go_at_call 17; refine (KS.out _ _ _ _ _ rfl (ku.at.stepAt (by go_grown)) (kv.at.stepAt (by go_grown))).mono ?_; rintro e wx ⟨vx, rfl, kx, hbx⟩; have nn : Below w3.heap.size w3 wx := Below.step (by go_grown) hbx; have jx := kx.mono (show w3.heap.size ≤ _ from Below.size (by go_grown)); have kx_0_0 := (nn.cell (p := ⟨w.heap.size, 0, none⟩) (by show w.heap.size < w3.heap.size; omega)).trans cw3_0_0; have kx_0_1 := (nn.cell (p := ⟨w.heap.size, 1, none⟩) (by show w.heap.size < w3.heap.size; omega)).trans cw3_0_1; have kx_0_2 := (nn.cell (p := ⟨w.heap.size, 2, none⟩) (by show w.heap.size < w3.heap.size; omega)).trans cw3_0_2; have kx_0_3 := (nn.cell (p := ⟨w.heap.size, 3, none⟩) (by show w.heap.size < w3.heap.size; omega)).trans cw3_0_3; have kx_0_4 := (nn.cell (p := ⟨w.heap.size, 4, none⟩) (by show w.heap.size < w3.heap.size; omega)).trans cw3_0_4; have kx_0_5 := (nn.cell (p := ⟨w.heap.size, 5, none⟩) (by show w.heap.size < w3.heap.size; omega)).trans cw3_0_5; have kx_0_6 := (nn.cell (p := ⟨w.heap.size, 6, none⟩) (by show w.heap.size < w3.heap.size; omega)).trans cw3_0_6))
    all_goals
      go_wp2_with fail
      go_meet
      case rel => exact ⟨rfl, jx, nn⟩
  case rest =>
    rename World => w4
    obtain ⟨rfl, hia, hb⟩ := hcut
    have zw4 : w3.heap.size ≤ w4.heap.size := hb.size
    have bw4 := bw3.trans (hb.mono bw3.size)
    have cw4_0_0 := (hb.cell (p := ⟨w.heap.size, 0, none⟩) (by show w.heap.size < w3.heap.size; omega)).trans cw3_0_0
    have cw4_0_1 := (hb.cell (p := ⟨w.heap.size, 1, none⟩) (by show w.heap.size < w3.heap.size; omega)).trans cw3_0_1
    have cw4_0_2 := (hb.cell (p := ⟨w.heap.size, 2, none⟩) (by show w.heap.size < w3.heap.size; omega)).trans cw3_0_2
    have cw4_0_3 := (hb.cell (p := ⟨w.heap.size, 3, none⟩) (by show w.heap.size < w3.heap.size; omega)).trans cw3_0_3
    have cw4_0_4 := (hb.cell (p := ⟨w.heap.size, 4, none⟩) (by show w.heap.size < w3.heap.size; omega)).trans cw3_0_4
    have cw4_0_5 := (hb.cell (p := ⟨w.heap.size, 5, none⟩) (by show w.heap.size < w3.heap.size; omega)).trans cw3_0_5
    have cw4_0_6 := (hb.cell (p := ⟨w.heap.size, 6, none⟩) (by show w.heap.size < w3.heap.size; omega)).trans cw3_0_6
    clear hb bw3 cw3_0_0 cw3_0_1 cw3_0_2 cw3_0_3 cw3_0_4 cw3_0_5 cw3_0_6
    obtain ⟨xa, ya, rfl⟩ := hia.shape
    go_wp2_with fail
    refine (toReleaseS_box _ S _ (H.out.stepAt bw4) hm hq).mono ?_
    rintro e w5 ⟨gx, rfl, hx0, hb⟩
    have zw5 : w4.heap.size ≤ w5.heap.size := hb.size
    have bw5 := bw4.trans (hb.mono bw4.size)
    have cw5_0_0 := (hb.cell (p := ⟨w.heap.size, 0, none⟩) (by show w.heap.size < w4.heap.size; omega)).trans cw4_0_0
    have cw5_0_1 := (hb.cell (p := ⟨w.heap.size, 1, none⟩) (by show w.heap.size < w4.heap.size; omega)).trans cw4_0_1
    have cw5_0_2 := (hb.cell (p := ⟨w.heap.size, 2, none⟩) (by show w.heap.size < w4.heap.size; omega)).trans cw4_0_2
    have cw5_0_3 := (hb.cell (p := ⟨w.heap.size, 3, none⟩) (by show w.heap.size < w4.heap.size; omega)).trans cw4_0_3
    have cw5_0_4 := (hb.cell (p := ⟨w.heap.size, 4, none⟩) (by show w.heap.size < w4.heap.size; omega)).trans cw4_0_4
    have cw5_0_5 := (hb.cell (p := ⟨w.heap.size, 5, none⟩) (by show w.heap.size < w4.heap.size; omega)).trans cw4_0_5
    have cw5_0_6 := (hb.cell (p := ⟨w.heap.size, 6, none⟩) (by show w.heap.size < w4.heap.size; omega)).trans cw4_0_6
    have rw5_a := hia.below hb
    clear hb bw4 cw4_0_0 cw4_0_1 cw4_0_2 cw4_0_3 cw4_0_4 cw4_0_5 cw4_0_6 hia
    go_wp2_with fail
    refine (toRelease_in n p q r s f _ M _ (H'.out.stepAt bw5) hM hMq).mono ?_
    rintro e w6 ⟨ay, cy, rfl, hy0, hb⟩
    have zw6 : w5.heap.size ≤ w6.heap.size := hb.size
    have bw6 := bw5.trans (hb.mono bw5.size)
    have cw6_0_0 := (hb.cell (p := ⟨w.heap.size, 0, none⟩) (by show w.heap.size < w5.heap.size; omega)).trans cw5_0_0
    have cw6_0_1 := (hb.cell (p := ⟨w.heap.size, 1, none⟩) (by show w.heap.size < w5.heap.size; omega)).trans cw5_0_1
    have cw6_0_2 := (hb.cell (p := ⟨w.heap.size, 2, none⟩) (by show w.heap.size < w5.heap.size; omega)).trans cw5_0_2
    have cw6_0_3 := (hb.cell (p := ⟨w.heap.size, 3, none⟩) (by show w.heap.size < w5.heap.size; omega)).trans cw5_0_3
    have cw6_0_4 := (hb.cell (p := ⟨w.heap.size, 4, none⟩) (by show w.heap.size < w5.heap.size; omega)).trans cw5_0_4
    have cw6_0_5 := (hb.cell (p := ⟨w.heap.size, 5, none⟩) (by show w.heap.size < w5.heap.size; omega)).trans cw5_0_5
    have cw6_0_6 := (hb.cell (p := ⟨w.heap.size, 6, none⟩) (by show w.heap.size < w5.heap.size; omega)).trans cw5_0_6
    have rw6_a := rw5_a.below hb
    have rw6_x := hx0.below hb
    clear hb bw5 cw5_0_0 cw5_0_1 cw5_0_2 cw5_0_3 cw5_0_4 cw5_0_5 cw5_0_6 rw5_a hx0
    go_upto_region 11 with fail
    obtain ⟨w7, hw⟩ : ∃ V : World, V = w6.alloc (.cells #[.int .i64 n, .int .i64 p, .int .i64 q, .int .i64 r, .int .i64 s, .bool f, .slice ay M.length cy] 37) := ⟨_, rfl⟩
    have hb : Below w6.heap.size w6 w7 := by
      rw [hw]
      exact (Below.refl _ _).alloc (Nat.le_refl _) _
    have cb_0 : w7.cell? ⟨w6.heap.size, 0, none⟩ = some (.int .i64 n) := by rw [hw]; go_simp
    have cb_1 : w7.cell? ⟨w6.heap.size, 1, none⟩ = some (.int .i64 p) := by rw [hw]; go_simp
    have cb_2 : w7.cell? ⟨w6.heap.size, 2, none⟩ = some (.int .i64 q) := by rw [hw]; go_simp
    have cb_3 : w7.cell? ⟨w6.heap.size, 3, none⟩ = some (.int .i64 r) := by rw [hw]; go_simp
    have cb_4 : w7.cell? ⟨w6.heap.size, 4, none⟩ = some (.int .i64 s) := by rw [hw]; go_simp
    have cb_5 : w7.cell? ⟨w6.heap.size, 5, none⟩ = some (.bool f) := by rw [hw]; go_simp
    have cb_6 : w7.cell? ⟨w6.heap.size, 6, none⟩ = some (.slice ay M.length cy) := by rw [hw]; go_simp
    have zb : w6.heap.size + 1 ≤ w7.heap.size := by rw [hw]; simp
    rw [← hw]
    clear hw
    have zw7 : w6.heap.size ≤ w7.heap.size := hb.size
    have bw7 := bw6.trans (hb.mono bw6.size)
    have cw7_0_0 := (hb.cell (p := ⟨w.heap.size, 0, none⟩) (by show w.heap.size < w6.heap.size; omega)).trans cw6_0_0
    have cw7_0_1 := (hb.cell (p := ⟨w.heap.size, 1, none⟩) (by show w.heap.size < w6.heap.size; omega)).trans cw6_0_1
    have cw7_0_2 := (hb.cell (p := ⟨w.heap.size, 2, none⟩) (by show w.heap.size < w6.heap.size; omega)).trans cw6_0_2
    have cw7_0_3 := (hb.cell (p := ⟨w.heap.size, 3, none⟩) (by show w.heap.size < w6.heap.size; omega)).trans cw6_0_3
    have cw7_0_4 := (hb.cell (p := ⟨w.heap.size, 4, none⟩) (by show w.heap.size < w6.heap.size; omega)).trans cw6_0_4
    have cw7_0_5 := (hb.cell (p := ⟨w.heap.size, 5, none⟩) (by show w.heap.size < w6.heap.size; omega)).trans cw6_0_5
    have cw7_0_6 := (hb.cell (p := ⟨w.heap.size, 6, none⟩) (by show w.heap.size < w6.heap.size; omega)).trans cw6_0_6
    have rw7_a := rw6_a.below hb
    have rw7_x := rw6_x.below hb
    have rw7_y := hy0.below hb
    clear hb bw6 cw6_0_0 cw6_0_1 cw6_0_2 cw6_0_3 cw6_0_4 cw6_0_5 cw6_0_6 rw6_a rw6_x hy0
    go_wp2_with fail
    refine (KI.out _ _ _ _ _ rfl rw7_x.at rw7_y.at).mono ?_
    rintro e w8 ⟨ug, rfl, hg0, hb⟩
    have zw8 : w7.heap.size ≤ w8.heap.size := hb.size
    have bw8 := bw7.trans (hb.mono bw7.size)
    have cw8_0_0 := (hb.cell (p := ⟨w.heap.size, 0, none⟩) (by show w.heap.size < w7.heap.size; omega)).trans cw7_0_0
    have cw8_0_1 := (hb.cell (p := ⟨w.heap.size, 1, none⟩) (by show w.heap.size < w7.heap.size; omega)).trans cw7_0_1
    have cw8_0_2 := (hb.cell (p := ⟨w.heap.size, 2, none⟩) (by show w.heap.size < w7.heap.size; omega)).trans cw7_0_2
    have cw8_0_3 := (hb.cell (p := ⟨w.heap.size, 3, none⟩) (by show w.heap.size < w7.heap.size; omega)).trans cw7_0_3
    have cw8_0_4 := (hb.cell (p := ⟨w.heap.size, 4, none⟩) (by show w.heap.size < w7.heap.size; omega)).trans cw7_0_4
    have cw8_0_5 := (hb.cell (p := ⟨w.heap.size, 5, none⟩) (by show w.heap.size < w7.heap.size; omega)).trans cw7_0_5
    have cw8_0_6 := (hb.cell (p := ⟨w.heap.size, 6, none⟩) (by show w.heap.size < w7.heap.size; omega)).trans cw7_0_6
    have cw8_1_0 := (hb.cell (p := ⟨w6.heap.size, 0, none⟩) (by show w6.heap.size < w7.heap.size; omega)).trans cb_0
    have cw8_1_1 := (hb.cell (p := ⟨w6.heap.size, 1, none⟩) (by show w6.heap.size < w7.heap.size; omega)).trans cb_1
    have cw8_1_2 := (hb.cell (p := ⟨w6.heap.size, 2, none⟩) (by show w6.heap.size < w7.heap.size; omega)).trans cb_2
    have cw8_1_3 := (hb.cell (p := ⟨w6.heap.size, 3, none⟩) (by show w6.heap.size < w7.heap.size; omega)).trans cb_3
    have cw8_1_4 := (hb.cell (p := ⟨w6.heap.size, 4, none⟩) (by show w6.heap.size < w7.heap.size; omega)).trans cb_4
    have cw8_1_5 := (hb.cell (p := ⟨w6.heap.size, 5, none⟩) (by show w6.heap.size < w7.heap.size; omega)).trans cb_5
    have cw8_1_6 := (hb.cell (p := ⟨w6.heap.size, 6, none⟩) (by show w6.heap.size < w7.heap.size; omega)).trans cb_6
    have rw8_a := rw7_a.below hb
    have rw8_x := rw7_x.below hb
    have rw8_y := rw7_y.below hb
    clear hb bw7 cw7_0_0 cw7_0_1 cw7_0_2 cw7_0_3 cw7_0_4 cw7_0_5 cw7_0_6 cb_0 cb_1 cb_2 cb_3 cb_4 cb_5 cb_6 rw7_a rw7_x rw7_y
    obtain ⟨ag, cg, rfl⟩ := hg0.shape
    go_wp2_with fail
    refine (eqReleaseS_same hmG hqG hg0.at rw8_a.at).mono ?_
    rintro e w9 ⟨rfl, hb⟩
    have zw9 : w8.heap.size ≤ w9.heap.size := hb.size
    have bw9 := bw8.trans (hb.mono bw8.size)
    have cw9_0_0 := (hb.cell (p := ⟨w.heap.size, 0, none⟩) (by show w.heap.size < w8.heap.size; omega)).trans cw8_0_0
    have cw9_0_1 := (hb.cell (p := ⟨w.heap.size, 1, none⟩) (by show w.heap.size < w8.heap.size; omega)).trans cw8_0_1
    have cw9_0_2 := (hb.cell (p := ⟨w.heap.size, 2, none⟩) (by show w.heap.size < w8.heap.size; omega)).trans cw8_0_2
    have cw9_0_3 := (hb.cell (p := ⟨w.heap.size, 3, none⟩) (by show w.heap.size < w8.heap.size; omega)).trans cw8_0_3
    have cw9_0_4 := (hb.cell (p := ⟨w.heap.size, 4, none⟩) (by show w.heap.size < w8.heap.size; omega)).trans cw8_0_4
    have cw9_0_5 := (hb.cell (p := ⟨w.heap.size, 5, none⟩) (by show w.heap.size < w8.heap.size; omega)).trans cw8_0_5
    have cw9_0_6 := (hb.cell (p := ⟨w.heap.size, 6, none⟩) (by show w.heap.size < w8.heap.size; omega)).trans cw8_0_6
    have cw9_1_0 := (hb.cell (p := ⟨w6.heap.size, 0, none⟩) (by show w6.heap.size < w8.heap.size; omega)).trans cw8_1_0
    have cw9_1_1 := (hb.cell (p := ⟨w6.heap.size, 1, none⟩) (by show w6.heap.size < w8.heap.size; omega)).trans cw8_1_1
    have cw9_1_2 := (hb.cell (p := ⟨w6.heap.size, 2, none⟩) (by show w6.heap.size < w8.heap.size; omega)).trans cw8_1_2
    have cw9_1_3 := (hb.cell (p := ⟨w6.heap.size, 3, none⟩) (by show w6.heap.size < w8.heap.size; omega)).trans cw8_1_3
    have cw9_1_4 := (hb.cell (p := ⟨w6.heap.size, 4, none⟩) (by show w6.heap.size < w8.heap.size; omega)).trans cw8_1_4
    have cw9_1_5 := (hb.cell (p := ⟨w6.heap.size, 5, none⟩) (by show w6.heap.size < w8.heap.size; omega)).trans cw8_1_5
    have cw9_1_6 := (hb.cell (p := ⟨w6.heap.size, 6, none⟩) (by show w6.heap.size < w8.heap.size; omega)).trans cw8_1_6
    have rw9_a := rw8_a.below hb
    have rw9_x := rw8_x.below hb
    have rw9_y := rw8_y.below hb
    have rw9_g := hg0.below hb
    clear hb bw8 cw8_0_0 cw8_0_1 cw8_0_2 cw8_0_3 cw8_0_4 cw8_0_5 cw8_0_6 cw8_1_0 cw8_1_1 cw8_1_2 cw8_1_3 cw8_1_4 cw8_1_5 cw8_1_6 rw8_a rw8_x rw8_y hg0
    go_wp2_with fail
    refine (toReleaseS_any _ S _ (H.out.stepAt bw9) hm hq).mono ?_
    rintro e w10 ⟨gz, rfl, kz, hgz, hb⟩
    clear hgz
    have zw10 : w9.heap.size ≤ w10.heap.size := hb.size
    have bw10 := bw9.trans (hb.mono bw9.size)
    have cw10_0_0 := (hb.cell (p := ⟨w.heap.size, 0, none⟩) (by show w.heap.size < w9.heap.size; omega)).trans cw9_0_0
    have cw10_0_1 := (hb.cell (p := ⟨w.heap.size, 1, none⟩) (by show w.heap.size < w9.heap.size; omega)).trans cw9_0_1
    have cw10_0_2 := (hb.cell (p := ⟨w.heap.size, 2, none⟩) (by show w.heap.size < w9.heap.size; omega)).trans cw9_0_2
    have cw10_0_3 := (hb.cell (p := ⟨w.heap.size, 3, none⟩) (by show w.heap.size < w9.heap.size; omega)).trans cw9_0_3
    have cw10_0_4 := (hb.cell (p := ⟨w.heap.size, 4, none⟩) (by show w.heap.size < w9.heap.size; omega)).trans cw9_0_4
    have cw10_0_5 := (hb.cell (p := ⟨w.heap.size, 5, none⟩) (by show w.heap.size < w9.heap.size; omega)).trans cw9_0_5
    have cw10_0_6 := (hb.cell (p := ⟨w.heap.size, 6, none⟩) (by show w.heap.size < w9.heap.size; omega)).trans cw9_0_6
    have cw10_1_0 := (hb.cell (p := ⟨w6.heap.size, 0, none⟩) (by show w6.heap.size < w9.heap.size; omega)).trans cw9_1_0
    have cw10_1_1 := (hb.cell (p := ⟨w6.heap.size, 1, none⟩) (by show w6.heap.size < w9.heap.size; omega)).trans cw9_1_1
    have cw10_1_2 := (hb.cell (p := ⟨w6.heap.size, 2, none⟩) (by show w6.heap.size < w9.heap.size; omega)).trans cw9_1_2
    have cw10_1_3 := (hb.cell (p := ⟨w6.heap.size, 3, none⟩) (by show w6.heap.size < w9.heap.size; omega)).trans cw9_1_3
    have cw10_1_4 := (hb.cell (p := ⟨w6.heap.size, 4, none⟩) (by show w6.heap.size < w9.heap.size; omega)).trans cw9_1_4
    have cw10_1_5 := (hb.cell (p := ⟨w6.heap.size, 5, none⟩) (by show w6.heap.size < w9.heap.size; omega)).trans cw9_1_5
    have cw10_1_6 := (hb.cell (p := ⟨w6.heap.size, 6, none⟩) (by show w6.heap.size < w9.heap.size; omega)).trans cw9_1_6
    have rw10_a := rw9_a.below hb
    have rw10_x := rw9_x.below hb
    have rw10_y := rw9_y.below hb
    have rw10_g := rw9_g.below hb
    clear hb bw9 cw9_0_0 cw9_0_1 cw9_0_2 cw9_0_3 cw9_0_4 cw9_0_5 cw9_0_6 cw9_1_0 cw9_1_1 cw9_1_2 cw9_1_3 cw9_1_4 cw9_1_5 cw9_1_6 rw9_a rw9_x rw9_y rw9_g
    go_wp2_with fail
    refine (eqReleaseS_same hm hq rw10_x.at kz.at).mono ?_
    rintro e w11 ⟨rfl, hb⟩
    have zw11 : w10.heap.size ≤ w11.heap.size := hb.size
    have bw11 := bw10.trans (hb.mono bw10.size)
    have cw11_0_0 := (hb.cell (p := ⟨w.heap.size, 0, none⟩) (by show w.heap.size < w10.heap.size; omega)).trans cw10_0_0
    have cw11_0_1 := (hb.cell (p := ⟨w.heap.size, 1, none⟩) (by show w.heap.size < w10.heap.size; omega)).trans cw10_0_1
    have cw11_0_2 := (hb.cell (p := ⟨w.heap.size, 2, none⟩) (by show w.heap.size < w10.heap.size; omega)).trans cw10_0_2
    have cw11_0_3 := (hb.cell (p := ⟨w.heap.size, 3, none⟩) (by show w.heap.size < w10.heap.size; omega)).trans cw10_0_3
    have cw11_0_4 := (hb.cell (p := ⟨w.heap.size, 4, none⟩) (by show w.heap.size < w10.heap.size; omega)).trans cw10_0_4
    have cw11_0_5 := (hb.cell (p := ⟨w.heap.size, 5, none⟩) (by show w.heap.size < w10.heap.size; omega)).trans cw10_0_5
    have cw11_0_6 := (hb.cell (p := ⟨w.heap.size, 6, none⟩) (by show w.heap.size < w10.heap.size; omega)).trans cw10_0_6
    have cw11_1_0 := (hb.cell (p := ⟨w6.heap.size, 0, none⟩) (by show w6.heap.size < w10.heap.size; omega)).trans cw10_1_0
    have cw11_1_1 := (hb.cell (p := ⟨w6.heap.size, 1, none⟩) (by show w6.heap.size < w10.heap.size; omega)).trans cw10_1_1
    have cw11_1_2 := (hb.cell (p := ⟨w6.heap.size, 2, none⟩) (by show w6.heap.size < w10.heap.size; omega)).trans cw10_1_2
    have cw11_1_3 := (hb.cell (p := ⟨w6.heap.size, 3, none⟩) (by show w6.heap.size < w10.heap.size; omega)).trans cw10_1_3
    have cw11_1_4 := (hb.cell (p := ⟨w6.heap.size, 4, none⟩) (by show w6.heap.size < w10.heap.size; omega)).trans cw10_1_4
    have cw11_1_5 := (hb.cell (p := ⟨w6.heap.size, 5, none⟩) (by show w6.heap.size < w10.heap.size; omega)).trans cw10_1_5
    have cw11_1_6 := (hb.cell (p := ⟨w6.heap.size, 6, none⟩) (by show w6.heap.size < w10.heap.size; omega)).trans cw10_1_6
    have rw11_a := rw10_a.below hb
    have rw11_x := rw10_x.below hb
    have rw11_y := rw10_y.below hb
    have rw11_g := rw10_g.below hb
    clear hb bw10 cw10_0_0 cw10_0_1 cw10_0_2 cw10_0_3 cw10_0_4 cw10_0_5 cw10_0_6 cw10_1_0 cw10_1_1 cw10_1_2 cw10_1_3 cw10_1_4 cw10_1_5 cw10_1_6 rw10_a rw10_x rw10_y rw10_g
    clear kz
    go_wp2_with fail
    go_cut [63] from 59 (fun t wx => t = .bool false ∧ Below w11.heap.size w11 wx)
    case first =>
      go_region_held3 (fun V => (V.cell? ⟨w.heap.size, 0, none⟩ = some (.int .i64 n) ∧ V.cell? ⟨w.heap.size, 1, none⟩ = some (.int .i64 p) ∧ V.cell? ⟨w.heap.size, 2, none⟩ = some (.int .i64 q) ∧ V.cell? ⟨w.heap.size, 3, none⟩ = some (.int .i64 r) ∧ V.cell? ⟨w.heap.size, 4, none⟩ = some (.int .i64 s) ∧ V.cell? ⟨w.heap.size, 5, none⟩ = some (.bool f) ∧ V.cell? ⟨w.heap.size, 6, none⟩ = some (.slice na M.length ncap)) ∧ (V.cell? ⟨w6.heap.size, 0, none⟩ = some (.int .i64 n) ∧ V.cell? ⟨w6.heap.size, 1, none⟩ = some (.int .i64 p) ∧ V.cell? ⟨w6.heap.size, 2, none⟩ = some (.int .i64 q) ∧ V.cell? ⟨w6.heap.size, 3, none⟩ = some (.int .i64 r) ∧ V.cell? ⟨w6.heap.size, 4, none⟩ = some (.int .i64 s) ∧ V.cell? ⟨w6.heap.size, 5, none⟩ = some (.bool f) ∧ V.cell? ⟨w6.heap.size, 6, none⟩ = some (.slice ay M.length cy))) (go_keep)
        (first
        | (go_at_call 19; refine (toRelease_in n p q r s f _ M _ (((H'.out.stepAt bw11)).stepAt (by go_grown)) hM hMq).mono ?_; rintro e wv ⟨av, cv, rfl, kv, hbv⟩; have nn : Below w11.heap.size w11 wv := Below.step (by go_grown) hbv; have kv_0_0 := (nn.cell (p := ⟨w.heap.size, 0, none⟩) (by show w.heap.size < w11.heap.size; omega)).trans cw11_0_0; have kv_0_1 := (nn.cell (p := ⟨w.heap.size, 1, none⟩) (by show w.heap.size < w11.heap.size; omega)).trans cw11_0_1; have kv_0_2 := (nn.cell (p := ⟨w.heap.size, 2, none⟩) (by show w.heap.size < w11.heap.size; omega)).trans cw11_0_2; have kv_0_3 := (nn.cell (p := ⟨w.heap.size, 3, none⟩) (by show w.heap.size < w11.heap.size; omega)).trans cw11_0_3; have kv_0_4 := (nn.cell (p := ⟨w.heap.size, 4, none⟩) (by show w.heap.size < w11.heap.size; omega)).trans cw11_0_4; have kv_0_5 := (nn.cell (p := ⟨w.heap.size, 5, none⟩) (by show w.heap.size < w11.heap.size; omega)).trans cw11_0_5; have kv_0_6 := (nn.cell (p := ⟨w.heap.size, 6, none⟩) (by show w.heap.size < w11.heap.size; omega)).trans cw11_0_6; have kv_1_0 := (nn.cell (p := ⟨w6.heap.size, 0, none⟩) (by show w6.heap.size < w11.heap.size; omega)).trans cw11_1_0; have kv_1_1 := (nn.cell (p := ⟨w6.heap.size, 1, none⟩) (by show w6.heap.size < w11.heap.size; omega)).trans cw11_1_1; have kv_1_2 := (nn.cell (p := ⟨w6.heap.size, 2, none⟩) (by show w6.heap.size < w11.heap.size; omega)).trans cw11_1_2; have kv_1_3 := (nn.cell (p := ⟨w6.heap.size, 3, none⟩) (by show w6.heap.size < w11.heap.size; omega)).trans cw11_1_3; have kv_1_4 := (nn.cell (p := ⟨w6.heap.size, 4, none⟩) (by show w6.heap.size < w11.heap.size; omega)).trans cw11_1_4; have kv_1_5 := (nn.cell (p := ⟨w6.heap.size, 5, none⟩) (by show w6.heap.size < w11.heap.size; omega)).trans cw11_1_5; have kv_1_6 := (nn.cell (p := ⟨w6.heap.size, 6, none⟩) (by show w6.heap.size < w11.heap.size; omega)).trans cw11_1_6)
        | (go_at_call 22; refine (eqRelease_same hM hMq (rw11_y.at.stepAt (by go_grown)) (kv.at.stepAt (by go_grown))).mono ?_; rintro e wx ⟨rfl, hbx⟩; have nn : Below w11.heap.size w11 wx := Below.step (by go_grown) hbx; have kx_0_0 := (nn.cell (p := ⟨w.heap.size, 0, none⟩) (by show w.heap.size < w11.heap.size; omega)).trans cw11_0_0; have kx_0_1 := (nn.cell (p := ⟨w.heap.size, 1, none⟩) (by show w.heap.size < w11.heap.size; omega)).trans cw11_0_1; have kx_0_2 := (nn.cell (p := ⟨w.heap.size, 2, none⟩) (by show w.heap.size < w11.heap.size; omega)).trans cw11_0_2; have kx_0_3 := (nn.cell (p := ⟨w.heap.size, 3, none⟩) (by show w.heap.size < w11.heap.size; omega)).trans cw11_0_3; have kx_0_4 := (nn.cell (p := ⟨w.heap.size, 4, none⟩) (by show w.heap.size < w11.heap.size; omega)).trans cw11_0_4; have kx_0_5 := (nn.cell (p := ⟨w.heap.size, 5, none⟩) (by show w.heap.size < w11.heap.size; omega)).trans cw11_0_5; have kx_0_6 := (nn.cell (p := ⟨w.heap.size, 6, none⟩) (by show w.heap.size < w11.heap.size; omega)).trans cw11_0_6; have kx_1_0 := (nn.cell (p := ⟨w6.heap.size, 0, none⟩) (by show w6.heap.size < w11.heap.size; omega)).trans cw11_1_0; have kx_1_1 := (nn.cell (p := ⟨w6.heap.size, 1, none⟩) (by show w6.heap.size < w11.heap.size; omega)).trans cw11_1_1; have kx_1_2 := (nn.cell (p := ⟨w6.heap.size, 2, none⟩) (by show w6.heap.size < w11.heap.size; omega)).trans cw11_1_2; have kx_1_3 := (nn.cell (p := ⟨w6.heap.size, 3, none⟩) (by show w6.heap.size < w11.heap.size; omega)).trans cw11_1_3; have kx_1_4 := (nn.cell (p := ⟨w6.heap.size, 4, none⟩) (by show w6.heap.size < w11.heap.size; omega)).trans cw11_1_4; have kx_1_5 := (nn.cell (p := ⟨w6.heap.size, 5, none⟩) (by show w6.heap.size < w11.heap.size; omega)).trans cw11_1_5; have kx_1_6 := (nn.cell (p := ⟨w6.heap.size, 6, none⟩) (by show w6.heap.size < w11.heap.size; omega)).trans cw11_1_6))
      all_goals
        go_wp2_with fail
        go_meet
        case rel => exact ⟨rfl, nn⟩
    case rest =>
      rename World => w12
      obtain ⟨rfl, hb⟩ := hcut
      have zw12 : w11.heap.size ≤ w12.heap.size := hb.size
      have bw12 := bw11.trans (hb.mono bw11.size)
      have cw12_0_0 := (hb.cell (p := ⟨w.heap.size, 0, none⟩) (by show w.heap.size < w11.heap.size; omega)).trans cw11_0_0
      have cw12_0_1 := (hb.cell (p := ⟨w.heap.size, 1, none⟩) (by show w.heap.size < w11.heap.size; omega)).trans cw11_0_1
      have cw12_0_2 := (hb.cell (p := ⟨w.heap.size, 2, none⟩) (by show w.heap.size < w11.heap.size; omega)).trans cw11_0_2
      have cw12_0_3 := (hb.cell (p := ⟨w.heap.size, 3, none⟩) (by show w.heap.size < w11.heap.size; omega)).trans cw11_0_3
      have cw12_0_4 := (hb.cell (p := ⟨w.heap.size, 4, none⟩) (by show w.heap.size < w11.heap.size; omega)).trans cw11_0_4
      have cw12_0_5 := (hb.cell (p := ⟨w.heap.size, 5, none⟩) (by show w.heap.size < w11.heap.size; omega)).trans cw11_0_5
      have cw12_0_6 := (hb.cell (p := ⟨w.heap.size, 6, none⟩) (by show w.heap.size < w11.heap.size; omega)).trans cw11_0_6
      have cw12_1_0 := (hb.cell (p := ⟨w6.heap.size, 0, none⟩) (by show w6.heap.size < w11.heap.size; omega)).trans cw11_1_0
      have cw12_1_1 := (hb.cell (p := ⟨w6.heap.size, 1, none⟩) (by show w6.heap.size < w11.heap.size; omega)).trans cw11_1_1
      have cw12_1_2 := (hb.cell (p := ⟨w6.heap.size, 2, none⟩) (by show w6.heap.size < w11.heap.size; omega)).trans cw11_1_2
      have cw12_1_3 := (hb.cell (p := ⟨w6.heap.size, 3, none⟩) (by show w6.heap.size < w11.heap.size; omega)).trans cw11_1_3
      have cw12_1_4 := (hb.cell (p := ⟨w6.heap.size, 4, none⟩) (by show w6.heap.size < w11.heap.size; omega)).trans cw11_1_4
      have cw12_1_5 := (hb.cell (p := ⟨w6.heap.size, 5, none⟩) (by show w6.heap.size < w11.heap.size; omega)).trans cw11_1_5
      have cw12_1_6 := (hb.cell (p := ⟨w6.heap.size, 6, none⟩) (by show w6.heap.size < w11.heap.size; omega)).trans cw11_1_6
      have rw12_a := rw11_a.below hb
      have rw12_x := rw11_x.below hb
      have rw12_y := rw11_y.below hb
      have rw12_g := rw11_g.below hb
      clear hb bw11 cw11_0_0 cw11_0_1 cw11_0_2 cw11_0_3 cw11_0_4 cw11_0_5 cw11_0_6 cw11_1_0 cw11_1_1 cw11_1_2 cw11_1_3 cw11_1_4 cw11_1_5 cw11_1_6 rw11_a rw11_x rw11_y rw11_g
      go_wp2_with fail
      refine (markReleaseS_out hm hz rw12_x 1 (by omega) (by omega)).mono ?_
      rintro e w13 ⟨⟨k1, rfl, k10, k11⟩, ho⟩
      clear rw12_x
      have ry := NIn.out rw12_y ho (by omega)
      clear rw12_y
      have zw13 : w12.heap.size ≤ w13.heap.size := ho.size
      have bw13 := ho.below bw12 (by omega) (by omega)
      have cw13_0_0 := ho.cell cw12_0_0 (by omega)
      have cw13_0_1 := ho.cell cw12_0_1 (by omega)
      have cw13_0_2 := ho.cell cw12_0_2 (by omega)
      have cw13_0_3 := ho.cell cw12_0_3 (by omega)
      have cw13_0_4 := ho.cell cw12_0_4 (by omega)
      have cw13_0_5 := ho.cell cw12_0_5 (by omega)
      have cw13_0_6 := ho.cell cw12_0_6 (by omega)
      have cw13_1_0 := ho.cell cw12_1_0 (by omega)
      have cw13_1_1 := ho.cell cw12_1_1 (by omega)
      have cw13_1_2 := ho.cell cw12_1_2 (by omega)
      have cw13_1_3 := ho.cell cw12_1_3 (by omega)
      have cw13_1_4 := ho.cell cw12_1_4 (by omega)
      have cw13_1_5 := ho.cell cw12_1_5 (by omega)
      have cw13_1_6 := ho.cell cw12_1_6 (by omega)
      have rw13_a := rw12_a.out ho (by omega)
      have rw13_g := rw12_g.out ho (by omega)
      clear ho bw12 cw12_0_0 cw12_0_1 cw12_0_2 cw12_0_3 cw12_0_4 cw12_0_5 cw12_0_6 cw12_1_0 cw12_1_1 cw12_1_2 cw12_1_3 cw12_1_4 cw12_1_5 cw12_1_6 rw12_a rw12_g
      go_wp2_with fail
      refine (markRelease_in hM hMz ry k1 (by omega) (by omega)).mono ?_
      rintro e w14 ⟨⟨k2, rfl, k20⟩, ho⟩
      clear ry
      have zw14 : w13.heap.size ≤ w14.heap.size := ho.size
      have bw14 := ho.below bw13 (by omega) (by omega)
      have cw14_0_0 := ho.cell cw13_0_0 (by omega)
      have cw14_0_1 := ho.cell cw13_0_1 (by omega)
      have cw14_0_2 := ho.cell cw13_0_2 (by omega)
      have cw14_0_3 := ho.cell cw13_0_3 (by omega)
      have cw14_0_4 := ho.cell cw13_0_4 (by omega)
      have cw14_0_5 := ho.cell cw13_0_5 (by omega)
      have cw14_0_6 := ho.cell cw13_0_6 (by omega)
      have cw14_1_0 := ho.cell cw13_1_0 (by omega)
      have cw14_1_1 := ho.cell cw13_1_1 (by omega)
      have cw14_1_2 := ho.cell cw13_1_2 (by omega)
      have cw14_1_3 := ho.cell cw13_1_3 (by omega)
      have cw14_1_4 := ho.cell cw13_1_4 (by omega)
      have cw14_1_5 := ho.cell cw13_1_5 (by omega)
      have cw14_1_6 := ho.cell cw13_1_6 (by omega)
      have rw14_a := rw13_a.out ho (by omega)
      have rw14_g := rw13_g.out ho (by omega)
      clear ho bw13 cw13_0_0 cw13_0_1 cw13_0_2 cw13_0_3 cw13_0_4 cw13_0_5 cw13_0_6 cw13_1_0 cw13_1_1 cw13_1_2 cw13_1_3 cw13_1_4 cw13_1_5 cw13_1_6 rw13_a rw13_g
      have hk2 : ¬ (k2 < 0) := by omega
      go_wp2_with fail
      refine (eqReleaseS_same hmG hqG rw14_g.at rw14_a.at).mono ?_
      rintro e w15 ⟨rfl, hb⟩
      have zw15 : w14.heap.size ≤ w15.heap.size := hb.size
      have bw15 := bw14.trans (hb.mono bw14.size)
      have cw15_0_0 := (hb.cell (p := ⟨w.heap.size, 0, none⟩) (by show w.heap.size < w14.heap.size; omega)).trans cw14_0_0
      have cw15_0_1 := (hb.cell (p := ⟨w.heap.size, 1, none⟩) (by show w.heap.size < w14.heap.size; omega)).trans cw14_0_1
      have cw15_0_2 := (hb.cell (p := ⟨w.heap.size, 2, none⟩) (by show w.heap.size < w14.heap.size; omega)).trans cw14_0_2
      have cw15_0_3 := (hb.cell (p := ⟨w.heap.size, 3, none⟩) (by show w.heap.size < w14.heap.size; omega)).trans cw14_0_3
      have cw15_0_4 := (hb.cell (p := ⟨w.heap.size, 4, none⟩) (by show w.heap.size < w14.heap.size; omega)).trans cw14_0_4
      have cw15_0_5 := (hb.cell (p := ⟨w.heap.size, 5, none⟩) (by show w.heap.size < w14.heap.size; omega)).trans cw14_0_5
      have cw15_0_6 := (hb.cell (p := ⟨w.heap.size, 6, none⟩) (by show w.heap.size < w14.heap.size; omega)).trans cw14_0_6
      have cw15_1_0 := (hb.cell (p := ⟨w6.heap.size, 0, none⟩) (by show w6.heap.size < w14.heap.size; omega)).trans cw14_1_0
      have cw15_1_1 := (hb.cell (p := ⟨w6.heap.size, 1, none⟩) (by show w6.heap.size < w14.heap.size; omega)).trans cw14_1_1
      have cw15_1_2 := (hb.cell (p := ⟨w6.heap.size, 2, none⟩) (by show w6.heap.size < w14.heap.size; omega)).trans cw14_1_2
      have cw15_1_3 := (hb.cell (p := ⟨w6.heap.size, 3, none⟩) (by show w6.heap.size < w14.heap.size; omega)).trans cw14_1_3
      have cw15_1_4 := (hb.cell (p := ⟨w6.heap.size, 4, none⟩) (by show w6.heap.size < w14.heap.size; omega)).trans cw14_1_4
      have cw15_1_5 := (hb.cell (p := ⟨w6.heap.size, 5, none⟩) (by show w6.heap.size < w14.heap.size; omega)).trans cw14_1_5
      have cw15_1_6 := (hb.cell (p := ⟨w6.heap.size, 6, none⟩) (by show w6.heap.size < w14.heap.size; omega)).trans cw14_1_6
      have rw15_a := rw14_a.below hb
      have rw15_g := rw14_g.below hb
      clear hb bw14 cw14_0_0 cw14_0_1 cw14_0_2 cw14_0_3 cw14_0_4 cw14_0_5 cw14_0_6 cw14_1_0 cw14_1_1 cw14_1_2 cw14_1_3 cw14_1_4 cw14_1_5 cw14_1_6 rw14_a rw14_g
      go_wp2_with fail
      refine (KM.out _ _ _ _ rw15_g).mono ?_
      rintro e w16 ⟨rfl, hg1, ho⟩
      clear rw15_g
      have zw16 : w15.heap.size ≤ w16.heap.size := ho.size
      have bw16 := ho.below bw15 (by omega) (by omega)
      have cw16_0_0 := ho.cell cw15_0_0 (by omega)
      have cw16_0_1 := ho.cell cw15_0_1 (by omega)
      have cw16_0_2 := ho.cell cw15_0_2 (by omega)
      have cw16_0_3 := ho.cell cw15_0_3 (by omega)
      have cw16_0_4 := ho.cell cw15_0_4 (by omega)
      have cw16_0_5 := ho.cell cw15_0_5 (by omega)
      have cw16_0_6 := ho.cell cw15_0_6 (by omega)
      have cw16_1_0 := ho.cell cw15_1_0 (by omega)
      have cw16_1_1 := ho.cell cw15_1_1 (by omega)
      have cw16_1_2 := ho.cell cw15_1_2 (by omega)
      have cw16_1_3 := ho.cell cw15_1_3 (by omega)
      have cw16_1_4 := ho.cell cw15_1_4 (by omega)
      have cw16_1_5 := ho.cell cw15_1_5 (by omega)
      have cw16_1_6 := ho.cell cw15_1_6 (by omega)
      have rw16_a := rw15_a.out ho (by omega)
      clear ho bw15 cw15_0_0 cw15_0_1 cw15_0_2 cw15_0_3 cw15_0_4 cw15_0_5 cw15_0_6 cw15_1_0 cw15_1_1 cw15_1_2 cw15_1_3 cw15_1_4 cw15_1_5 cw15_1_6 rw15_a
      go_wp2_with fail
      refine (KH.out _ _ _ _ hg1).mono ?_
      rintro e w17 ⟨rfl, hb⟩
      have zw17 : w16.heap.size ≤ w17.heap.size := hb.size
      have bw17 := bw16.trans (hb.mono bw16.size)
      have cw17_0_0 := (hb.cell (p := ⟨w.heap.size, 0, none⟩) (by show w.heap.size < w16.heap.size; omega)).trans cw16_0_0
      have cw17_0_1 := (hb.cell (p := ⟨w.heap.size, 1, none⟩) (by show w.heap.size < w16.heap.size; omega)).trans cw16_0_1
      have cw17_0_2 := (hb.cell (p := ⟨w.heap.size, 2, none⟩) (by show w.heap.size < w16.heap.size; omega)).trans cw16_0_2
      have cw17_0_3 := (hb.cell (p := ⟨w.heap.size, 3, none⟩) (by show w.heap.size < w16.heap.size; omega)).trans cw16_0_3
      have cw17_0_4 := (hb.cell (p := ⟨w.heap.size, 4, none⟩) (by show w.heap.size < w16.heap.size; omega)).trans cw16_0_4
      have cw17_0_5 := (hb.cell (p := ⟨w.heap.size, 5, none⟩) (by show w.heap.size < w16.heap.size; omega)).trans cw16_0_5
      have cw17_0_6 := (hb.cell (p := ⟨w.heap.size, 6, none⟩) (by show w.heap.size < w16.heap.size; omega)).trans cw16_0_6
      have cw17_1_0 := (hb.cell (p := ⟨w6.heap.size, 0, none⟩) (by show w6.heap.size < w16.heap.size; omega)).trans cw16_1_0
      have cw17_1_1 := (hb.cell (p := ⟨w6.heap.size, 1, none⟩) (by show w6.heap.size < w16.heap.size; omega)).trans cw16_1_1
      have cw17_1_2 := (hb.cell (p := ⟨w6.heap.size, 2, none⟩) (by show w6.heap.size < w16.heap.size; omega)).trans cw16_1_2
      have cw17_1_3 := (hb.cell (p := ⟨w6.heap.size, 3, none⟩) (by show w6.heap.size < w16.heap.size; omega)).trans cw16_1_3
      have cw17_1_4 := (hb.cell (p := ⟨w6.heap.size, 4, none⟩) (by show w6.heap.size < w16.heap.size; omega)).trans cw16_1_4
      have cw17_1_5 := (hb.cell (p := ⟨w6.heap.size, 5, none⟩) (by show w6.heap.size < w16.heap.size; omega)).trans cw16_1_5
      have cw17_1_6 := (hb.cell (p := ⟨w6.heap.size, 6, none⟩) (by show w6.heap.size < w16.heap.size; omega)).trans cw16_1_6
      have rw17_a := rw16_a.below hb
      have rw17_g := hg1.below hb
      clear hb bw16 cw16_0_0 cw16_0_1 cw16_0_2 cw16_0_3 cw16_0_4 cw16_0_5 cw16_0_6 cw16_1_0 cw16_1_1 cw16_1_2 cw16_1_3 cw16_1_4 cw16_1_5 cw16_1_6 rw16_a hg1
      go_wp2_with fail
      go_cut [15, 16] from 94 (fun t b wx => b = .bool ok ∧ RlB G w17.heap.size wx.heap.size t wx ∧ Below w17.heap.size w17 wx)
      case first =>
        go_region_held3 (fun V => V.cell? ⟨w.heap.size, 0, none⟩ = some (.int .i64 n) ∧ V.cell? ⟨w.heap.size, 1, none⟩ = some (.int .i64 p) ∧ V.cell? ⟨w.heap.size, 2, none⟩ = some (.int .i64 q) ∧ V.cell? ⟨w.heap.size, 3, none⟩ = some (.int .i64 r) ∧ V.cell? ⟨w.heap.size, 4, none⟩ = some (.int .i64 s) ∧ V.cell? ⟨w.heap.size, 5, none⟩ = some (.bool f) ∧ V.cell? ⟨w.heap.size, 6, none⟩ = some (.slice na M.length ncap)) (go_keep)
          (first
          | (go_at_call 18; refine (toReleaseS_any _ S _ (((H.out.stepAt bw17)).stepAt (by go_grown)) hm hq).mono ?_; rintro e wu ⟨gu, rfl, ku, hgu, hbu⟩; have nn : Below w17.heap.size w17 wu := Below.step (by go_grown) hbu; clear hgu; have ku_0_0 := (nn.cell (p := ⟨w.heap.size, 0, none⟩) (by show w.heap.size < w17.heap.size; omega)).trans cw17_0_0; have ku_0_1 := (nn.cell (p := ⟨w.heap.size, 1, none⟩) (by show w.heap.size < w17.heap.size; omega)).trans cw17_0_1; have ku_0_2 := (nn.cell (p := ⟨w.heap.size, 2, none⟩) (by show w.heap.size < w17.heap.size; omega)).trans cw17_0_2; have ku_0_3 := (nn.cell (p := ⟨w.heap.size, 3, none⟩) (by show w.heap.size < w17.heap.size; omega)).trans cw17_0_3; have ku_0_4 := (nn.cell (p := ⟨w.heap.size, 4, none⟩) (by show w.heap.size < w17.heap.size; omega)).trans cw17_0_4; have ku_0_5 := (nn.cell (p := ⟨w.heap.size, 5, none⟩) (by show w.heap.size < w17.heap.size; omega)).trans cw17_0_5; have ku_0_6 := (nn.cell (p := ⟨w.heap.size, 6, none⟩) (by show w.heap.size < w17.heap.size; omega)).trans cw17_0_6)
          | (go_at_call 19; refine (toRelease_in n p q r s f _ M _ (((H'.out.stepAt bw17)).stepAt (by go_grown)) hM hMq).mono ?_; rintro e wv ⟨av, cv, rfl, kv, hbv⟩; have nn : Below w17.heap.size w17 wv := Below.step (by go_grown) hbv; have kv_0_0 := (nn.cell (p := ⟨w.heap.size, 0, none⟩) (by show w.heap.size < w17.heap.size; omega)).trans cw17_0_0; have kv_0_1 := (nn.cell (p := ⟨w.heap.size, 1, none⟩) (by show w.heap.size < w17.heap.size; omega)).trans cw17_0_1; have kv_0_2 := (nn.cell (p := ⟨w.heap.size, 2, none⟩) (by show w.heap.size < w17.heap.size; omega)).trans cw17_0_2; have kv_0_3 := (nn.cell (p := ⟨w.heap.size, 3, none⟩) (by show w.heap.size < w17.heap.size; omega)).trans cw17_0_3; have kv_0_4 := (nn.cell (p := ⟨w.heap.size, 4, none⟩) (by show w.heap.size < w17.heap.size; omega)).trans cw17_0_4; have kv_0_5 := (nn.cell (p := ⟨w.heap.size, 5, none⟩) (by show w.heap.size < w17.heap.size; omega)).trans cw17_0_5; have kv_0_6 := (nn.cell (p := ⟨w.heap.size, 6, none⟩) (by show w.heap.size < w17.heap.size; omega)).trans cw17_0_6)
          | (go_at_call 20; refine (KI.out _ _ _ _ _ rfl (ku.at.stepAt (by go_grown)) (kv.at.stepAt (by go_grown))).mono ?_; rintro e wx ⟨vx, rfl, kx, hbx⟩; have nn : Below w17.heap.size w17 wx := Below.step (by go_grown) hbx; have jx := kx.mono (show w17.heap.size ≤ _ from Below.size (by go_grown)); have kx_0_0 := (nn.cell (p := ⟨w.heap.size, 0, none⟩) (by show w.heap.size < w17.heap.size; omega)).trans cw17_0_0; have kx_0_1 := (nn.cell (p := ⟨w.heap.size, 1, none⟩) (by show w.heap.size < w17.heap.size; omega)).trans cw17_0_1; have kx_0_2 := (nn.cell (p := ⟨w.heap.size, 2, none⟩) (by show w.heap.size < w17.heap.size; omega)).trans cw17_0_2; have kx_0_3 := (nn.cell (p := ⟨w.heap.size, 3, none⟩) (by show w.heap.size < w17.heap.size; omega)).trans cw17_0_3; have kx_0_4 := (nn.cell (p := ⟨w.heap.size, 4, none⟩) (by show w.heap.size < w17.heap.size; omega)).trans cw17_0_4; have kx_0_5 := (nn.cell (p := ⟨w.heap.size, 5, none⟩) (by show w.heap.size < w17.heap.size; omega)).trans cw17_0_5; have kx_0_6 := (nn.cell (p := ⟨w.heap.size, 6, none⟩) (by show w.heap.size < w17.heap.size; omega)).trans cw17_0_6))
        all_goals
          go_wp2_with fail
          go_meet
          case rel => exact ⟨rfl, jx, nn⟩
      case rest =>
        rename World => w18
        obtain ⟨rfl, hib, hb⟩ := hcut
        have zw18 : w17.heap.size ≤ w18.heap.size := hb.size
        have bw18 := bw17.trans (hb.mono bw17.size)
        have cw18_0_0 := (hb.cell (p := ⟨w.heap.size, 0, none⟩) (by show w.heap.size < w17.heap.size; omega)).trans cw17_0_0
        have cw18_0_1 := (hb.cell (p := ⟨w.heap.size, 1, none⟩) (by show w.heap.size < w17.heap.size; omega)).trans cw17_0_1
        have cw18_0_2 := (hb.cell (p := ⟨w.heap.size, 2, none⟩) (by show w.heap.size < w17.heap.size; omega)).trans cw17_0_2
        have cw18_0_3 := (hb.cell (p := ⟨w.heap.size, 3, none⟩) (by show w.heap.size < w17.heap.size; omega)).trans cw17_0_3
        have cw18_0_4 := (hb.cell (p := ⟨w.heap.size, 4, none⟩) (by show w.heap.size < w17.heap.size; omega)).trans cw17_0_4
        have cw18_0_5 := (hb.cell (p := ⟨w.heap.size, 5, none⟩) (by show w.heap.size < w17.heap.size; omega)).trans cw17_0_5
        have cw18_0_6 := (hb.cell (p := ⟨w.heap.size, 6, none⟩) (by show w.heap.size < w17.heap.size; omega)).trans cw17_0_6
        have cw18_1_0 := (hb.cell (p := ⟨w6.heap.size, 0, none⟩) (by show w6.heap.size < w17.heap.size; omega)).trans cw17_1_0
        have cw18_1_1 := (hb.cell (p := ⟨w6.heap.size, 1, none⟩) (by show w6.heap.size < w17.heap.size; omega)).trans cw17_1_1
        have cw18_1_2 := (hb.cell (p := ⟨w6.heap.size, 2, none⟩) (by show w6.heap.size < w17.heap.size; omega)).trans cw17_1_2
        have cw18_1_3 := (hb.cell (p := ⟨w6.heap.size, 3, none⟩) (by show w6.heap.size < w17.heap.size; omega)).trans cw17_1_3
        have cw18_1_4 := (hb.cell (p := ⟨w6.heap.size, 4, none⟩) (by show w6.heap.size < w17.heap.size; omega)).trans cw17_1_4
        have cw18_1_5 := (hb.cell (p := ⟨w6.heap.size, 5, none⟩) (by show w6.heap.size < w17.heap.size; omega)).trans cw17_1_5
        have cw18_1_6 := (hb.cell (p := ⟨w6.heap.size, 6, none⟩) (by show w6.heap.size < w17.heap.size; omega)).trans cw17_1_6
        have rw18_a := rw17_a.below hb
        have rw18_g := rw17_g.below hb
        clear hb bw17 cw17_0_0 cw17_0_1 cw17_0_2 cw17_0_3 cw17_0_4 cw17_0_5 cw17_0_6 cw17_1_0 cw17_1_1 cw17_1_2 cw17_1_3 cw17_1_4 cw17_1_5 cw17_1_6 rw17_a rw17_g
        obtain ⟨xb, yb, rfl⟩ := hib.shape
        go_wp2_with fail
        refine (eqReleaseS_same hmG hqG hib.at rw18_a.at).mono ?_
        rintro e w19 ⟨rfl, hb⟩
        have zw19 : w18.heap.size ≤ w19.heap.size := hb.size
        have bw19 := bw18.trans (hb.mono bw18.size)
        have cw19_0_0 := (hb.cell (p := ⟨w.heap.size, 0, none⟩) (by show w.heap.size < w18.heap.size; omega)).trans cw18_0_0
        have cw19_0_1 := (hb.cell (p := ⟨w.heap.size, 1, none⟩) (by show w.heap.size < w18.heap.size; omega)).trans cw18_0_1
        have cw19_0_2 := (hb.cell (p := ⟨w.heap.size, 2, none⟩) (by show w.heap.size < w18.heap.size; omega)).trans cw18_0_2
        have cw19_0_3 := (hb.cell (p := ⟨w.heap.size, 3, none⟩) (by show w.heap.size < w18.heap.size; omega)).trans cw18_0_3
        have cw19_0_4 := (hb.cell (p := ⟨w.heap.size, 4, none⟩) (by show w.heap.size < w18.heap.size; omega)).trans cw18_0_4
        have cw19_0_5 := (hb.cell (p := ⟨w.heap.size, 5, none⟩) (by show w.heap.size < w18.heap.size; omega)).trans cw18_0_5
        have cw19_0_6 := (hb.cell (p := ⟨w.heap.size, 6, none⟩) (by show w.heap.size < w18.heap.size; omega)).trans cw18_0_6
        have cw19_1_0 := (hb.cell (p := ⟨w6.heap.size, 0, none⟩) (by show w6.heap.size < w18.heap.size; omega)).trans cw18_1_0
        have cw19_1_1 := (hb.cell (p := ⟨w6.heap.size, 1, none⟩) (by show w6.heap.size < w18.heap.size; omega)).trans cw18_1_1
        have cw19_1_2 := (hb.cell (p := ⟨w6.heap.size, 2, none⟩) (by show w6.heap.size < w18.heap.size; omega)).trans cw18_1_2
        have cw19_1_3 := (hb.cell (p := ⟨w6.heap.size, 3, none⟩) (by show w6.heap.size < w18.heap.size; omega)).trans cw18_1_3
        have cw19_1_4 := (hb.cell (p := ⟨w6.heap.size, 4, none⟩) (by show w6.heap.size < w18.heap.size; omega)).trans cw18_1_4
        have cw19_1_5 := (hb.cell (p := ⟨w6.heap.size, 5, none⟩) (by show w6.heap.size < w18.heap.size; omega)).trans cw18_1_5
        have cw19_1_6 := (hb.cell (p := ⟨w6.heap.size, 6, none⟩) (by show w6.heap.size < w18.heap.size; omega)).trans cw18_1_6
        have rw19_a := rw18_a.below hb
        have rw19_g := rw18_g.below hb
        have rw19_b := hib.below hb
        clear hb bw18 cw18_0_0 cw18_0_1 cw18_0_2 cw18_0_3 cw18_0_4 cw18_0_5 cw18_0_6 cw18_1_0 cw18_1_1 cw18_1_2 cw18_1_3 cw18_1_4 cw18_1_5 cw18_1_6 rw18_a rw18_g hib
        go_wp2_with fail
        refine (KH.out _ _ _ _ rw19_g).mono ?_
        rintro e w20 ⟨rfl, hb⟩
        have zw20 : w19.heap.size ≤ w20.heap.size := hb.size
        have bw20 := bw19.trans (hb.mono bw19.size)
        have cw20_0_0 := (hb.cell (p := ⟨w.heap.size, 0, none⟩) (by show w.heap.size < w19.heap.size; omega)).trans cw19_0_0
        have cw20_0_1 := (hb.cell (p := ⟨w.heap.size, 1, none⟩) (by show w.heap.size < w19.heap.size; omega)).trans cw19_0_1
        have cw20_0_2 := (hb.cell (p := ⟨w.heap.size, 2, none⟩) (by show w.heap.size < w19.heap.size; omega)).trans cw19_0_2
        have cw20_0_3 := (hb.cell (p := ⟨w.heap.size, 3, none⟩) (by show w.heap.size < w19.heap.size; omega)).trans cw19_0_3
        have cw20_0_4 := (hb.cell (p := ⟨w.heap.size, 4, none⟩) (by show w.heap.size < w19.heap.size; omega)).trans cw19_0_4
        have cw20_0_5 := (hb.cell (p := ⟨w.heap.size, 5, none⟩) (by show w.heap.size < w19.heap.size; omega)).trans cw19_0_5
        have cw20_0_6 := (hb.cell (p := ⟨w.heap.size, 6, none⟩) (by show w.heap.size < w19.heap.size; omega)).trans cw19_0_6
        have cw20_1_0 := (hb.cell (p := ⟨w6.heap.size, 0, none⟩) (by show w6.heap.size < w19.heap.size; omega)).trans cw19_1_0
        have cw20_1_1 := (hb.cell (p := ⟨w6.heap.size, 1, none⟩) (by show w6.heap.size < w19.heap.size; omega)).trans cw19_1_1
        have cw20_1_2 := (hb.cell (p := ⟨w6.heap.size, 2, none⟩) (by show w6.heap.size < w19.heap.size; omega)).trans cw19_1_2
        have cw20_1_3 := (hb.cell (p := ⟨w6.heap.size, 3, none⟩) (by show w6.heap.size < w19.heap.size; omega)).trans cw19_1_3
        have cw20_1_4 := (hb.cell (p := ⟨w6.heap.size, 4, none⟩) (by show w6.heap.size < w19.heap.size; omega)).trans cw19_1_4
        have cw20_1_5 := (hb.cell (p := ⟨w6.heap.size, 5, none⟩) (by show w6.heap.size < w19.heap.size; omega)).trans cw19_1_5
        have cw20_1_6 := (hb.cell (p := ⟨w6.heap.size, 6, none⟩) (by show w6.heap.size < w19.heap.size; omega)).trans cw19_1_6
        have rw20_a := rw19_a.below hb
        have rw20_g := rw19_g.below hb
        have rw20_b := rw19_b.below hb
        clear hb bw19 cw19_0_0 cw19_0_1 cw19_0_2 cw19_0_3 cw19_0_4 cw19_0_5 cw19_0_6 cw19_1_0 cw19_1_1 cw19_1_2 cw19_1_3 cw19_1_4 cw19_1_5 cw19_1_6 rw19_a rw19_g rw19_b
        go_wp2_with fail
        go_ret
        exact ⟨rfl, bw20⟩

set_option maxRecDepth 100000 in
theorem law : LawWalk Try.prog 3 Try.f3 := by
  intro H enc W base args ds ps hval hA
  rw [Try.params3] at hA hval
  obtain ⟨v0, vs0, d0, es0, p0, q0, hargs, rfl, rfl, h0, r0⟩ := trodAll_cons hA
  obtain ⟨v1, vs1, d1, es1, p1, q1, rfl, rfl, rfl, h1, r1⟩ := trodAll_cons r0
  obtain ⟨rfl, rfl, rfl⟩ := trodAll_nil r1
  obtain rfl : args = #[v0, v1] := by cases args; simp_all
  obtain ⟨a, cap, S, rfl, hs, hm, hq⟩ := open_rels (hval 0 _ v0 rfl rfl) h0
  obtain ⟨n, x, y, z, u, f, na, ncap, M, rfl, hs', hM, hMq⟩ := open_rel (hval 1 _ v1 rfl rfl) h1
  by_cases hl : S.length + rlSz S + (M.length + ndSz M) ≤ 1048576
  · exact short _ S n x y z u f _ M W hs hs' hl
  · exact long _ S n x y z u f _ M W hm hq hM hMq hs hs' (by omega)
end Lsp

set_option maxRecDepth 100000 in
theorem exactShelfPut_holds : Rows.FnExactShelfPutSaid :=
  OpenClaim.holds_of_wide 3 Try.f3 rfl rfl rfl rfl rfl rfl rfl ⟨rfl, rfl, rfl, rfl, rfl⟩ rfl rfl rfl rfl rfl (by kernel_rfl) Try.func3 (by kernel_rfl)
    (of_decide_eq_true (by kernel_rfl)) (by unfold Func.isWrapper; rw [if_neg (by decide +kernel)]; exact ⟨rfl, rfl⟩)
    (fun os started H enc _ => law_lifted (s := Rows.fnExactShelfPutSpec) (tb := 4) own started laid (by kernel_rfl) Try.func3 rfl (by kernel_rfl) Try.underlying4 (by kernel_rfl)
      (fun ds h => by rw [Try.params3] at h; match ds, h with | [_, _], _ => rfl)
      (ChangeSpec.witness6 (enc := enc) (C := Try.checked) false ⟨#[], #[.slice none 0 0, .agg #[.int .i64 0, .int .i64 0, .int .i64 0, .int .i64 0, .int .i64 0, .bool false, .slice none 0 0]], []⟩ 8 (by kernel_rfl) (by kernel_rfl) (by kernel_rfl) (by kernel_rfl))
      Lsp.law)
#print axioms exactShelfPut_holds
end Go.Proofs.Ytigkfhgmnenplaa
