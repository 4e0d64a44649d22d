/- Contracts of the program's ChoiceFault and of what it calls, over this seat's translation, as plain functions tell them; nothing that was there before a call has changed. Condition: at most 1048576 of each row and of what is in it. -/
import Derived.Test.YtgenjbeamlffmaaCpi
import Derived.Test.YtgenjbeamlffmaaHas
import Derived.Test.YtgenjbeamlffmaaPkofs
namespace Go.Proofs.Ytgenjbeamlffmaa
open Go.RowKit Go.Sort

namespace Cfa
open Foot Copy Nup Cpu
theorem all_step {α : Type} {L : List α} {k : Nat} {x : α} (p : α → Bool) (h : L[k]? = some x) : (L.drop k).all p = (p x && (L.drop (k + 1)).all p) := by
  have hk : k < L.length := (List.getElem?_eq_some_iff.1 h).1
  rw [List.drop_eq_getElem_cons hk, (List.getElem?_eq_some_iff.1 h).2]
  rfl
def thereP (S : List Rel) (x : Pk) : Bool := decide (0 ≤ shFind x.1 x.2 0 S)
def goneAt (S : List Rel) (x : Pk) : Bool := if 0 ≤ shFind x.1 x.2 0 S then (match S[(shFind x.1 x.2 0 S).toNat]? with | some r => r.2.2.1 | none => false) else false
def heldP (H : List Pk) (x : Pk) : Bool := decide (pkGet x.1 H = some x.2)
def allowP (S : List Rel) (H : List Pk) (x : Pk) : Bool := !(goneAt S x && !heldP H x)
def metP (C : List Pk) (n : Nd) : Bool := match pkGet n.1 C with
  | some (a, b, c, d) => hasL n.2 a b c d
  | none => false
def innerP (S : List Rel) (C : List Pk) (x : Pk) : Bool := (ndsOf S x).all (metP C)
def faultF (S : List Rel) (N : List Nd) (H C : List Pk) : Int :=
  if (shOk S && (ndOk N && (pkOk H && pkOk C))) = true then
    (if C.all (thereP S) = true then
      (if C.all (allowP S H) = true then
        (if N.all (metP C) = true then
          (if C.all (innerP S C) = true then
            (if (cameL C (endK S N C).1).length < C.length then 6 else 0)
          else 5)
        else 4)
      else 3)
    else 2)
  else 1
theorem gone_cases (S : List Rel) (x : Pk) : (shFind x.1 x.2 0 S = -1 ∧ goneAt S x = false) ∨ ∃ i, ∃ h : i < S.length, shFind x.1 x.2 0 S = (i : Int) ∧ goneAt S x = S[i].2.2.1 := by
  rcases shFind_range x.1 x.2 S 0 with h | ⟨j, h, hj⟩
  · left
    refine ⟨h, ?_⟩
    unfold goneAt
    rw [h]
    rfl
  · right
    rw [Nat.zero_add] at h
    refine ⟨j, hj, h, ?_⟩
    unfold goneAt
    rw [h, if_pos (by omega), Int.toNat_natCast, List.getElem?_eq_getElem hj]

theorem shFind_hit {n : Int} {v : Int × Int × Int × Int} : ∀ {S : List Rel} {k j : Nat}, shFind n v k S = ((k + j : Nat) : Int) → ∀ h : j < S.length, S[j].1 = n ∧ S[j].2.1 = v
  | [], _, _, _, h => absurd h (by simp)
  | q :: t, k, j, hf, h => by
    unfold shFind at hf
    split at hf
    · rename_i hq
      obtain rfl : j = 0 := by omega
      exact hq
    · cases j with
      | zero =>
        rcases shFind_range n v t (k + 1) with e | ⟨m, e, _⟩
        · omega
        · omega
      | succ j =>
        exact shFind_hit (k := k + 1) (j := j) (by rw [hf]; congr 1; omega) (by simpa using h)

set_option maxRecDepth 100000 in
set_option maxHeartbeats 4000000 in
theorem picksThere_any (u z : Value) (S : List Rel) (C : List Pk) (w : World) (hl : S.length ≤ 1048576) (hC : C.length ≤ 1048576) (h : RlAt w w.heap.size u S) (h2 : PkAt w w.heap.size z C) :
    Calls Try.prog 153 #[u, z] w fun e w' => e = .returned (.bool (C.all (thereP S))) ∧ Below w.heap.size w w' := by
  obtain ⟨sa, caps, rfl, hx⟩ := id h
  obtain ⟨pa, pc, rfl, h0⟩ := id h2
  clear hx
  have H := Lib.hid h
  clear h h2
  go_enter Try.func153, Try.ntmps153
  go_wp2_with fail
  go_loopw [9] (fun i wr => ∃ k : Nat, k ≤ C.length ∧ i = .int .i64 (k : Int) ∧ C.all (thereP S) = (C.drop k).all (thereP S) ∧ Below w.heap.size w wr) (fun i _ => C.length - (intOf i).toNat)
  case atStart => exact ⟨0, Nat.zero_le _, rfl, rfl, Below.refl _ _⟩
  case round =>
    obtain ⟨k, hk, rfl, he, hb⟩ := hrel
    have HE := Lib.hid he
    clear he
    by_cases hlt : k < C.length
    · rcases h0 with h0 | ⟨b, o, rfl, hB, hc⟩
      · subst h0
        exact absurd hlt (by simp)
      obtain ⟨x, a, b', c, d, hxy⟩ : ∃ x a b c d, C[k] = (x, a, b, c, d) := ⟨_, _, _, _, _, rfl⟩
      obtain ⟨r0, r1, r2, r3, r4⟩ := hc k hlt
      rw [hxy] at r0 r1 r2 r3 r4
      simp only at r0 r1 r2 r3 r4
      have e0 := (hb.cell (p := ⟨b, o + k * 5, none⟩) hB).trans r0
      have e1 := (hb.cell (p := ⟨b, o + k * 5 + 1, none⟩) hB).trans r1
      have e2 := (hb.cell (p := ⟨b, o + k * 5 + 2, none⟩) hB).trans r2
      have e3 := (hb.cell (p := ⟨b, o + k * 5 + 3, none⟩) hB).trans r3
      have e4 := (hb.cell (p := ⟨b, o + k * 5 + 4, none⟩) hB).trans r4
      have HXY := Lib.hid (show C[k]? = some (x, a, b', c, d) by rw [List.getElem?_eq_getElem hlt, hxy])
      have bB : b < wr.heap.size := Nat.lt_of_lt_of_le hB hb.size
      have i0 : (0 : Int) ≤ (k : Int) := by omega
      have i1 : (k : Int) < (C.length : Int) := by omega
      obtain ⟨w3, hw3⟩ : ∃ V : World, V = wr.alloc (.cells #[.int .i64 x, .int .i64 a, .int .i64 b', .int .i64 c, .int .i64 d] 114) := ⟨_, rfl⟩
      have b3 : Below wr.heap.size wr w3 := by rw [hw3]; exact (Below.refl _ _).alloc (Nat.le_refl _) _
      have z3 : wr.heap.size + 1 ≤ w3.heap.size := by rw [hw3]; simp
      have y0 : w3.cell? ⟨wr.heap.size, 0, none⟩ = some (.int .i64 x) := by rw [hw3]; go_simp
      have y1 : w3.cell? ⟨wr.heap.size, 1, none⟩ = some (.int .i64 a) := by rw [hw3]; go_simp
      have y2 : w3.cell? ⟨wr.heap.size, 2, none⟩ = some (.int .i64 b') := by rw [hw3]; go_simp
      have y3 : w3.cell? ⟨wr.heap.size, 3, none⟩ = some (.int .i64 c) := by rw [hw3]; go_simp
      have y4 : w3.cell? ⟨wr.heap.size, 4, none⟩ = some (.int .i64 d) := by rw [hw3]; go_simp
      have n3 : Below w.heap.size w w3 := hb.trans (b3.mono hb.size)
      clear hxy r0 r1 r2 r3 r4
      go_upto_region 4 with fail
      rw [← hw3]
      clear hw3 e0 e1 e2 e3 e4
      have K : Hid (∀ V, RlAt V V.heap.size (.slice sa S.length caps) S → Calls Try.prog 151 #[.slice sa S.length caps, .int .i64 x, ver a b' c d] V fun e w' => e = .returned (.int .i64 (shFind x (a, b', c, d) 0 S)) ∧ Below V.heap.size V w') := Lib.hid fun V g => placeOf_any _ S x a b' c d V hl g
      have HST := Lib.hid (all_step (thereP S) HXY.out)
      rcases shFind_range x (a, b', c, d) S 0 with hf | ⟨j, hf, hj⟩
      · have HT := Lib.hid (show thereP S (x, a, b', c, d) = false by unfold thereP; simp only; rw [hf]; rfl)
        rw [hf] at K
        clear hf
        go_wp2_with fail
        refine (K.out _ (H.out.stepAt n3)).mono ?_
        rintro e w4 ⟨rfl, hb4⟩
        go_wp2_with fail
        go_ret
        exact ⟨by rw [HE.out, HST.out, HT.out]; rfl, n3.trans (hb4.mono n3.size)⟩
      · rw [Nat.zero_add] at hf
        have HT := Lib.hid (show thereP S (x, a, b', c, d) = true by unfold thereP; simp only; rw [hf]; exact decide_eq_true (by omega))
        rw [hf] at K
        have jn : ¬ (j : Int) < 0 := by omega
        clear hf hj
        go_wp2_with fail
        refine (K.out _ (H.out.stepAt n3)).mono ?_
        rintro e w4 ⟨rfl, hb4⟩
        have HR := Lib.hid (show ∃ k' : Nat, k' ≤ C.length ∧ Value.int .i64 ((k : Int) + 1) = .int .i64 (k' : Int) ∧ C.all (thereP S) = (C.drop k').all (thereP S) ∧ Below w.heap.size w w4 from ⟨k + 1, by omega, by go_num, by rw [HE.out, HST.out, HT.out]; rfl, n3.trans (hb4.mono n3.size)⟩)
        clear hb4
        go_wp2_with fail
        go_roundw
        case rel => exact HR.out
        case measure => simp [intOf]; omega
    · obtain rfl : k = C.length := by omega
      have HQ := Lib.hid (show C.all (thereP S) = true by rw [HE.out, List.drop_length]; rfl)
      go_wp2_with fail
      go_ret
      exact ⟨by rw [HQ.out]; rfl, hb⟩

set_option maxRecDepth 100000 in
set_option maxHeartbeats 4000000 in
theorem picked_any (z : Value) (C : List Pk) (x p q r s : Int) (w : World) (hC : C.length ≤ 1048576) (h2 : PkAt w w.heap.size z C) :
    Calls Try.prog 171 #[z, pick x p q r s] w fun e w' => e = .returned (.bool (heldP C (x, p, q, r, s))) ∧ Below w.heap.size w w' := by
  obtain ⟨pa, pc, rfl, hx⟩ := id h2
  clear hx
  have H := Lib.hid h2
  have K : Hid (∀ V, PkAt V V.heap.size (.slice pa C.length pc) C → Calls Try.prog 110 #[.slice pa C.length pc, .int .i64 x] V fun e w' => e = .returned (got (pkGet x C)) ∧ Below V.heap.size V w') := Lib.hid fun V g => versionPicked_any _ C x V hC g
  clear h2
  obtain ⟨w1, hw1⟩ : ∃ V : World, V = w.alloc (.cells #[.int .i64 x, .int .i64 p, .int .i64 q, .int .i64 r, .int .i64 s] 114) := ⟨_, rfl⟩
  have b1 : Below w.heap.size w w1 := by rw [hw1]; exact (Below.refl _ _).alloc (Nat.le_refl _) _
  have z1 : w.heap.size + 1 ≤ w1.heap.size := by rw [hw1]; simp
  have y0 : w1.cell? ⟨w.heap.size, 0, none⟩ = some (.int .i64 x) := by rw [hw1]; go_simp
  have y1 : w1.cell? ⟨w.heap.size, 1, none⟩ = some (.int .i64 p) := by rw [hw1]; go_simp
  have y2 : w1.cell? ⟨w.heap.size, 2, none⟩ = some (.int .i64 q) := by rw [hw1]; go_simp
  have y3 : w1.cell? ⟨w.heap.size, 3, none⟩ = some (.int .i64 r) := by rw [hw1]; go_simp
  have y4 : w1.cell? ⟨w.heap.size, 4, none⟩ = some (.int .i64 s) := by rw [hw1]; go_simp
  go_enter Try.func171, Try.ntmps171
  go_upto_region 1 with fail
  rw [← hw1]
  clear hw1
  rcases hg : pkGet x C with _ | ⟨va, vb, vc, vd⟩
  · rw [hg] at K
    simp only [got] at K
    have HT := Lib.hid (show heldP C (x, p, q, r, s) = false by unfold heldP; simp only; rw [hg]; rfl)
    clear hg
    go_wp2_with fail
    refine (K.out _ (H.out.stepAt b1)).mono ?_
    rintro e w2 ⟨rfl, hb⟩
    have b2 := b1.trans (hb.mono b1.size)
    go_wp2_with fail
    go_ret
    exact ⟨by rw [HT.out]; rfl, b2.alloc b2.size _⟩
  · rw [hg] at K
    simp only [got] at K
    go_wp2_with fail
    refine (K.out _ (H.out.stepAt b1)).mono ?_
    rintro e w2 ⟨rfl, hb⟩
    have b2 := b1.trans (hb.mono b1.size)
    have z2 := hb.size
    have x1 := (hb.cell (p := ⟨w.heap.size, 1, none⟩) (by show w.heap.size < w1.heap.size; omega)).trans y1
    have x2 := (hb.cell (p := ⟨w.heap.size, 2, none⟩) (by show w.heap.size < w1.heap.size; omega)).trans y2
    have x3 := (hb.cell (p := ⟨w.heap.size, 3, none⟩) (by show w.heap.size < w1.heap.size; omega)).trans y3
    have x4 := (hb.cell (p := ⟨w.heap.size, 4, none⟩) (by show w.heap.size < w1.heap.size; omega)).trans y4
    have zl : w.heap.size < w2.heap.size := by omega
    clear hb y0 y1 y2 y3 y4
    by_cases hv : va = p ∧ vb = q ∧ vc = r ∧ vd = s
    · have HT := Lib.hid (show heldP C (x, p, q, r, s) = true by unfold heldP; simp only; rw [hg]; exact decide_eq_true (by obtain ⟨rfl, rfl, rfl, rfl⟩ := hv; rfl))
      have hva := ver_alike' hv
      clear hg hv
      go_wp2_with fail
      go_ret
      exact ⟨by rw [HT.out]; rfl, b2.alloc b2.size _⟩
    · have HT := Lib.hid (show heldP C (x, p, q, r, s) = false by unfold heldP; simp only; rw [hg]; exact decide_eq_false (by intro e; injection e with e; simp only [Prod.mk.injEq] at e; exact hv e))
      have hva := ver_differ' hv
      clear hg hv
      go_wp2_with fail
      go_ret
      exact ⟨by rw [HT.out]; rfl, b2.alloc b2.size _⟩

set_option maxRecDepth 100000 in
set_option maxHeartbeats 4000000 in
theorem releaseAllowed_any (z v : Value) (D : List Pk) (x a b c d : Int) (f : Bool) (w : World) (hD : D.length ≤ 1048576) (h2 : PkAt w w.heap.size z D) :
    Calls Try.prog 129 #[rels x a b c d f v, z] w fun e w' => e = .returned (.bool (!f || heldP D (x, a, b, c, d))) ∧ Below w.heap.size w w' := by
  obtain ⟨pa, pc, rfl, hx⟩ := id h2
  clear hx
  have H := Lib.hid h2
  have KP : Hid (∀ V, PkAt V V.heap.size (.slice pa D.length pc) D → Calls Try.prog 171 #[.slice pa D.length pc, pick x a b c d] V fun e w' => e = .returned (.bool (heldP D (x, a, b, c, d))) ∧ Below V.heap.size V w') := Lib.hid fun V g => picked_any _ D x a b c d V hD g
  clear h2
  obtain ⟨w1, hw1⟩ : ∃ V : World, V = w.alloc (.cells #[.int .i64 x, .int .i64 a, .int .i64 b, .int .i64 c, .int .i64 d, .bool f, v] 83) := ⟨_, rfl⟩
  have b1 : Below w.heap.size w w1 := by rw [hw1]; exact (Below.refl _ _).alloc (Nat.le_refl _) _
  have z1 : w.heap.size + 1 ≤ w1.heap.size := by rw [hw1]; simp
  have y0 : w1.cell? ⟨w.heap.size, 0, none⟩ = some (.int .i64 x) := by rw [hw1]; go_simp
  have y1 : w1.cell? ⟨w.heap.size, 1, none⟩ = some (.int .i64 a) := by rw [hw1]; go_simp
  have y2 : w1.cell? ⟨w.heap.size, 2, none⟩ = some (.int .i64 b) := by rw [hw1]; go_simp
  have y3 : w1.cell? ⟨w.heap.size, 3, none⟩ = some (.int .i64 c) := by rw [hw1]; go_simp
  have y4 : w1.cell? ⟨w.heap.size, 4, none⟩ = some (.int .i64 d) := by rw [hw1]; go_simp
  have y5 : w1.cell? ⟨w.heap.size, 5, none⟩ = some (.bool f) := by rw [hw1]; go_simp
  go_enter Try.func129, Try.ntmps129
  go_upto_region 1 with fail
  rw [← hw1]
  clear hw1
  cases f
  · clear KP
    go_wp2_with fail
    go_ret
    exact ⟨rfl, b1⟩
  · obtain ⟨hd, hhd⟩ : ∃ hd : Bool, heldP D (x, a, b, c, d) = hd := ⟨_, rfl⟩
    rw [hhd] at KP
    have HH := Lib.hid hhd
    clear hhd
    go_wp2_with fail
    refine (KP.out _ (H.out.stepAt b1)).mono ?_
    rintro e w2 ⟨rfl, hb⟩
    have b2 := b1.trans (hb.mono b1.size)
    clear hb
    go_wp2_with fail
    go_ret
    exact ⟨by rw [HH.out]; cases hd <;> rfl, b2⟩

set_option maxRecDepth 100000 in
set_option maxHeartbeats 8000000 in
theorem picksAllowed_any (u y z : Value) (S : List Rel) (D C : List Pk) (w : World) (hl : S.length ≤ 1048576) (hD : D.length ≤ 1048576) (hC : C.length ≤ 1048576) (h : RlAt w w.heap.size u S) (h1 : PkAt w w.heap.size y D) (h2 : PkAt w w.heap.size z C) :
    Calls Try.prog 154 #[u, y, z] w fun e w' => e = .returned (.bool (C.all (allowP S D))) ∧ Below w.heap.size w w' := by
  obtain ⟨sa, caps, rfl, hx⟩ := id h
  obtain ⟨da, dc, rfl, hx'⟩ := id h1
  obtain ⟨pa, pc, rfl, h0⟩ := id h2
  clear hx'
  have H := Lib.hid h
  have HX := Lib.hid hx
  have H1 := Lib.hid h1
  clear h h1 h2 hx
  go_enter Try.func154, Try.ntmps154
  go_wp2_with fail
  go_loopw [12] (fun i wr => ∃ k : Nat, k ≤ C.length ∧ i = .int .i64 (k : Int) ∧ C.all (allowP S D) = (C.drop k).all (allowP S D) ∧ Below w.heap.size w wr) (fun i _ => C.length - (intOf i).toNat)
  case atStart => exact ⟨0, Nat.zero_le _, rfl, rfl, Below.refl _ _⟩
  case round =>
    obtain ⟨k, hk, rfl, he, hb⟩ := hrel
    have HE := Lib.hid he
    clear he
    by_cases hlt : k < C.length
    · rcases h0 with h0 | ⟨b, o, rfl, hB, hc⟩
      · subst h0
        exact absurd hlt (by simp)
      obtain ⟨x, a, b', c, d, hxy⟩ : ∃ x a b c d, C[k] = (x, a, b, c, d) := ⟨_, _, _, _, _, rfl⟩
      obtain ⟨r0, r1, r2, r3, r4⟩ := hc k hlt
      rw [hxy] at r0 r1 r2 r3 r4
      simp only at r0 r1 r2 r3 r4
      have e0 := (hb.cell (p := ⟨b, o + k * 5, none⟩) hB).trans r0
      have e1 := (hb.cell (p := ⟨b, o + k * 5 + 1, none⟩) hB).trans r1
      have e2 := (hb.cell (p := ⟨b, o + k * 5 + 2, none⟩) hB).trans r2
      have e3 := (hb.cell (p := ⟨b, o + k * 5 + 3, none⟩) hB).trans r3
      have e4 := (hb.cell (p := ⟨b, o + k * 5 + 4, none⟩) hB).trans r4
      have HXY := Lib.hid (show C[k]? = some (x, a, b', c, d) by rw [List.getElem?_eq_getElem hlt, hxy])
      have bB : b < wr.heap.size := Nat.lt_of_lt_of_le hB hb.size
      have i0 : (0 : Int) ≤ (k : Int) := by omega
      have i1 : (k : Int) < (C.length : Int) := by omega
      obtain ⟨w3, hw3⟩ : ∃ V : World, V = wr.alloc (.cells #[.int .i64 x, .int .i64 a, .int .i64 b', .int .i64 c, .int .i64 d] 114) := ⟨_, rfl⟩
      have b3 : Below wr.heap.size wr w3 := by rw [hw3]; exact (Below.refl _ _).alloc (Nat.le_refl _) _
      have z3 : wr.heap.size + 1 ≤ w3.heap.size := by rw [hw3]; simp
      have y0 : w3.cell? ⟨wr.heap.size, 0, none⟩ = some (.int .i64 x) := by rw [hw3]; go_simp
      have y1 : w3.cell? ⟨wr.heap.size, 1, none⟩ = some (.int .i64 a) := by rw [hw3]; go_simp
      have y2 : w3.cell? ⟨wr.heap.size, 2, none⟩ = some (.int .i64 b') := by rw [hw3]; go_simp
      have y3 : w3.cell? ⟨wr.heap.size, 3, none⟩ = some (.int .i64 c) := by rw [hw3]; go_simp
      have y4 : w3.cell? ⟨wr.heap.size, 4, none⟩ = some (.int .i64 d) := by rw [hw3]; go_simp
      have n3 : Below w.heap.size w w3 := hb.trans (b3.mono hb.size)
      clear hxy r0 r1 r2 r3 r4
      go_upto_region 4 with fail
      rw [← hw3]
      clear hw3 e0 e1 e2 e3 e4
      have K : Hid (∀ V, RlAt V V.heap.size (.slice sa S.length caps) S → Calls Try.prog 151 #[.slice sa S.length caps, .int .i64 x, ver a b' c d] V fun e w' => e = .returned (.int .i64 (shFind x (a, b', c, d) 0 S)) ∧ Below V.heap.size V w') := Lib.hid fun V g => placeOf_any _ S x a b' c d V hl g
      have KP : Hid (∀ V, PkAt V V.heap.size (.slice da D.length dc) D → Calls Try.prog 171 #[.slice da D.length dc, pick x a b' c d] V fun e w' => e = .returned (.bool (heldP D (x, a, b', c, d))) ∧ Below V.heap.size V w') := Lib.hid fun V g => picked_any _ D x a b' c d V hD g
      have HST := Lib.hid (all_step (allowP S D) HXY.out)
      rcases gone_cases S (x, a, b', c, d) with ⟨hf, hg⟩ | ⟨j, hj, hf, hg⟩
      · have HT := Lib.hid (show allowP S D (x, a, b', c, d) = true by unfold allowP; rw [hg]; rfl)
        simp only at hf
        rw [hf] at K
        clear hf hg KP
        go_wp2_with fail
        refine (K.out _ (H.out.stepAt n3)).mono ?_
        rintro e w4 ⟨rfl, hb4⟩
        have HR := Lib.hid (show ∃ k' : Nat, k' ≤ C.length ∧ Value.int .i64 ((k : Int) + 1) = .int .i64 (k' : Int) ∧ C.all (allowP S D) = (C.drop k').all (allowP S D) ∧ Below w.heap.size w w4 from ⟨k + 1, by omega, by go_num, by rw [HE.out, HST.out, HT.out]; rfl, n3.trans (hb4.mono n3.size)⟩)
        clear hb4
        go_wp2_with fail
        go_roundw
        case rel => exact HR.out
        case measure => simp [intOf]; omega
      · simp only at hf
        rw [hf] at K
        obtain ⟨sb, so, hsa, hsB, hsc⟩ : ∃ b o, sa = some ⟨b, o, none⟩ ∧ b < w.heap.size ∧ ∀ i (h : i < S.length), RlC w w.heap.size b (o + i * 7) S[i] := by
          rcases HX.out with hh | hh
          · rw [hh] at hj; simp at hj
          · exact hh
        subst hsa
        obtain ⟨⟨c0, c1, c2, c3, c4, c5⟩, na, nc, c6, _⟩ := hsc j hj
        have j0 : (0 : Int) ≤ (j : Int) := by omega
        have j1 : (j : Int) < (S.length : Int) := by omega
        obtain ⟨hk0, hk1⟩ := shFind_hit (k := 0) (by rw [hf, Nat.zero_add]) hj
        have HT := Lib.hid (show allowP S D (x, a, b', c, d) = (!S[j].2.2.1 || heldP D (x, a, b', c, d)) by unfold allowP; rw [hg]; cases S[j].2.2.1 <;> simp)
        obtain ⟨rx, ra, rb, rc, rd, rf, rM, hrj⟩ : ∃ x a b c d f M, S[j] = (x, (a, b, c, d), f, M) := ⟨_, _, _, _, _, _, _, rfl⟩
        rw [hrj] at c0 c1 c2 c3 c4 c5 c6 hk0 hk1 HT
        simp only at c0 c1 c2 c3 c4 c5 c6 hk0 hk1
        simp only [Prod.mk.injEq] at hk1
        obtain ⟨rfl, rfl, rfl, rfl⟩ := hk1
        subst hk0
        clear hf hsc hrj hg KP
        have KR : Hid (∀ V, PkAt V V.heap.size (.slice da D.length dc) D → Calls Try.prog 129 #[rels rx ra rb rc rd rf (.slice na rM.length nc), .slice da D.length dc] V fun e w' => e = .returned (.bool (!rf || heldP D (rx, ra, rb, rc, rd))) ∧ Below V.heap.size V w') := Lib.hid fun V g => releaseAllowed_any _ _ D rx ra rb rc rd rf V hD g
        obtain ⟨al, hal⟩ : ∃ al : Bool, (!rf || heldP D (rx, ra, rb, rc, rd)) = al := ⟨_, rfl⟩
        have HT2 := Lib.hid (HT.out.trans hal)
        rw [hal] at KR
        clear HT hal
        go_wp2_with fail
        refine (K.out _ (H.out.stepAt n3)).mono ?_
        rintro e w4 ⟨rfl, hb4⟩
        have m4 := n3.trans (hb4.mono n3.size)
        have q0 := (m4.cell (p := ⟨sb, so + j * 7, none⟩) hsB).trans c0
        have q1 := (m4.cell (p := ⟨sb, so + j * 7 + 1, none⟩) hsB).trans c1
        have q2 := (m4.cell (p := ⟨sb, so + j * 7 + 2, none⟩) hsB).trans c2
        have q3 := (m4.cell (p := ⟨sb, so + j * 7 + 3, none⟩) hsB).trans c3
        have q4 := (m4.cell (p := ⟨sb, so + j * 7 + 4, none⟩) hsB).trans c4
        have q5 := (m4.cell (p := ⟨sb, so + j * 7 + 5, none⟩) hsB).trans c5
        have q6 := (m4.cell (p := ⟨sb, so + j * 7 + 6, none⟩) hsB).trans c6
        clear hb4 c0 c1 c2 c3 c4 c5 c6
        cases al
        · go_wp2_with fail
          refine (KR.out _ (H1.out.stepAt m4)).mono ?_
          rintro e w5 ⟨rfl, hb5⟩
          go_wp2_with fail
          go_ret
          exact ⟨by rw [HE.out, HST.out, HT2.out]; rfl, m4.trans (hb5.mono m4.size)⟩
        · go_wp2_with fail
          refine (KR.out _ (H1.out.stepAt m4)).mono ?_
          rintro e w5 ⟨rfl, hb5⟩
          have HR := Lib.hid (show ∃ k' : Nat, k' ≤ C.length ∧ Value.int .i64 ((k : Int) + 1) = .int .i64 (k' : Int) ∧ C.all (allowP S D) = (C.drop k').all (allowP S D) ∧ Below w.heap.size w w5 from ⟨k + 1, by omega, by go_num, by rw [HE.out, HST.out, HT2.out]; rfl, m4.trans (hb5.mono m4.size)⟩)
          clear hb5
          go_wp2_with fail
          go_roundw
          case rel => exact HR.out
          case measure => simp [intOf]; omega
    · obtain rfl : k = C.length := by omega
      have HQ := Lib.hid (show C.all (allowP S D) = true by rw [HE.out, List.drop_length]; rfl)
      go_wp2_with fail
      go_ret
      exact ⟨by rw [HQ.out]; rfl, hb⟩

set_option maxRecDepth 100000 in
set_option maxHeartbeats 8000000 in
theorem needsMet_any (u z : Value) (N : List Nd) (C : List Pk) (w : World) (hN : N.length ≤ 1048576) (hq : ∀ q ∈ N, q.2.length ≤ 1048576) (hC : C.length ≤ 1048576) (h : NdAt w w.heap.size u N) (h2 : PkAt w w.heap.size z C) :
    Calls Try.prog 155 #[u, z] w fun e w' => e = .returned (.bool (N.all (metP C))) ∧ Below w.heap.size w w' := by
  obtain ⟨na, ncap, rfl, h0⟩ := id h
  obtain ⟨pa, pc, rfl, hx⟩ := id h2
  clear hx
  have H := Lib.hid h2
  clear h h2
  go_enter Try.func155, Try.ntmps155
  go_wp2_with fail
  go_loopw [11] (fun i wr => ∃ k : Nat, k ≤ N.length ∧ i = .int .i64 (k : Int) ∧ N.all (metP C) = (N.drop k).all (metP C) ∧ Below w.heap.size w wr) (fun i _ => N.length - (intOf i).toNat)
  case atStart => exact ⟨0, Nat.zero_le _, rfl, rfl, Below.refl _ _⟩
  case round =>
    obtain ⟨k, hk, rfl, he, hb⟩ := hrel
    have HE := Lib.hid he
    clear he
    by_cases hlt : k < N.length
    · rcases h0 with h0 | ⟨b, o, rfl, hB, hc⟩
      · subst h0
        exact absurd hlt (by simp)
      obtain ⟨nm, L, hxy⟩ : ∃ nm L, N[k] = (nm, L) := ⟨_, _, rfl⟩
      obtain ⟨r0, la, lc, r1, hs⟩ := (hc k hlt).below hb hB
      rw [hxy] at r0 r1 hs
      simp only at r0 r1 hs
      have hL : L.length ≤ 1048576 := by have := hq _ (List.getElem_mem hlt); rwa [hxy] at this
      have HXY := Lib.hid (show N[k]? = some (nm, L) by rw [List.getElem?_eq_getElem hlt, hxy])
      have HS := Lib.hid (hs.mono hb.size)
      have bB : b < wr.heap.size := Nat.lt_of_lt_of_le hB hb.size
      have i0 : (0 : Int) ≤ (k : Int) := by omega
      have i1 : (k : Int) < (N.length : Int) := by omega
      obtain ⟨w3, hw3⟩ : ∃ V : World, V = wr.alloc (.cells #[.int .i64 nm, .slice la L.length lc] 111) := ⟨_, rfl⟩
      have b3 : Below wr.heap.size wr w3 := by rw [hw3]; exact (Below.refl _ _).alloc (Nat.le_refl _) _
      have z3 : wr.heap.size + 1 ≤ w3.heap.size := by rw [hw3]; simp
      have y0 : w3.cell? ⟨wr.heap.size, 0, none⟩ = some (.int .i64 nm) := by rw [hw3]; go_simp
      have y1 : w3.cell? ⟨wr.heap.size, 1, none⟩ = some (.slice la L.length lc) := by rw [hw3]; go_simp
      have n3 : Below w.heap.size w w3 := hb.trans (b3.mono hb.size)
      clear hxy hc hs
      go_upto_region 4 with fail
      rw [← hw3]
      clear hw3 r0 r1
      have K : Hid (∀ V, PkAt V V.heap.size (.slice pa C.length pc) C → Calls Try.prog 110 #[.slice pa C.length pc, .int .i64 nm] V fun e w' => e = .returned (got (pkGet nm C)) ∧ Below V.heap.size V w') := Lib.hid fun V g => versionPicked_any _ C nm V hC g
      have HST := Lib.hid (all_step (metP C) HXY.out)
      rcases hg : pkGet nm C with _ | ⟨va, vb, vc, vd⟩
      · rw [hg] at K
        simp only [got] at K
        have HT := Lib.hid (show metP C (nm, L) = false by unfold metP; simp only; rw [hg])
        clear hg
        go_wp2_with fail
        refine (K.out _ (H.out.stepAt n3)).mono ?_
        rintro e w4 ⟨rfl, hb4⟩
        have m4 := n3.trans (hb4.mono n3.size)
        go_wp2_with fail
        go_ret
        exact ⟨by rw [HE.out, HST.out, HT.out]; rfl, m4.alloc m4.size _⟩
      · rw [hg] at K
        simp only [got] at K
        have HT := Lib.hid (show metP C (nm, L) = hasL L va vb vc vd by unfold metP; simp only; rw [hg])
        have KH : Hid (∀ V, SpAt V V.heap.size (.slice la L.length lc) L → Calls Try.prog 133 #[.agg #[.slice la L.length lc], ver va vb vc vd] V fun e w' => e = .returned (.bool (hasL L va vb vc vd)) ∧ Below V.heap.size V w') := Lib.hid fun V g => implHas_any _ L va vb vc vd V hL g
        clear hg
        go_wp2_with fail
        refine (K.out _ (H.out.stepAt n3)).mono ?_
        rintro e w4 ⟨rfl, hb4⟩
        have m4 := n3.trans (hb4.mono n3.size)
        have z4 := hb4.size
        have v0 := (hb4.cell (p := ⟨wr.heap.size, 0, none⟩) (by show wr.heap.size < w3.heap.size; omega)).trans y0
        have v1 := (hb4.cell (p := ⟨wr.heap.size, 1, none⟩) (by show wr.heap.size < w3.heap.size; omega)).trans y1
        obtain ⟨w5, hw5⟩ : ∃ V : World, V = w4.alloc (.cells #[.int .i64 va, .int .i64 vb, .int .i64 vc, .int .i64 vd] 79) := ⟨_, rfl⟩
        have b5 : Below w4.heap.size w4 w5 := by rw [hw5]; exact (Below.refl _ _).alloc (Nat.le_refl _) _
        have wl : wr.heap.size < w4.heap.size := by omega
        have u0 := (b5.cell (p := ⟨wr.heap.size, 0, none⟩) wl).trans v0
        have u1 := (b5.cell (p := ⟨wr.heap.size, 1, none⟩) wl).trans v1
        have x0 : w5.cell? ⟨w4.heap.size, 0, none⟩ = some (.int .i64 va) := by rw [hw5]; go_simp
        have x1 : w5.cell? ⟨w4.heap.size, 1, none⟩ = some (.int .i64 vb) := by rw [hw5]; go_simp
        have x2 : w5.cell? ⟨w4.heap.size, 2, none⟩ = some (.int .i64 vc) := by rw [hw5]; go_simp
        have x3 : w5.cell? ⟨w4.heap.size, 3, none⟩ = some (.int .i64 vd) := by rw [hw5]; go_simp
        have m5 := m4.trans (b5.mono m4.size)
        have HS5 := Lib.hid (HS.out.stepAt (show Below wr.heap.size wr w5 from b3.trans ((hb4.trans (b5.mono z4)).mono b3.size)))
        clear y0 y1 hb4 v0 v1
        go_upto_region 5 with fail
        rw [← hw5]
        clear hw5
        rcases hh : hasL L va vb vc vd
        · rw [hh] at KH HT
          clear hh
          go_wp2_with fail
          refine (KH.out _ (HS5.out.stepAt (by go_grown))).mono ?_
          rintro e w6 ⟨rfl, hb6⟩
          have m6 := m5.trans ((show Below w5.heap.size w5 w6 from Below.step (by go_grown) hb6).mono m5.size)
          go_wp2_with fail
          go_ret
          exact ⟨by rw [HE.out, HST.out, HT.out]; rfl, m6⟩
        · rw [hh] at KH HT
          clear hh
          go_wp2_with fail
          refine (KH.out _ (HS5.out.stepAt (by go_grown))).mono ?_
          rintro e w6 ⟨rfl, hb6⟩
          have m6 := m5.trans ((show Below w5.heap.size w5 w6 from Below.step (by go_grown) hb6).mono m5.size)
          have HR := Lib.hid (show ∃ k' : Nat, k' ≤ N.length ∧ Value.int .i64 ((k : Int) + 1) = .int .i64 (k' : Int) ∧ N.all (metP C) = (N.drop k').all (metP C) ∧ Below w.heap.size w w6 from ⟨k + 1, by omega, by go_num, by rw [HE.out, HST.out, HT.out]; rfl, m6⟩)
          clear hb6
          go_wp2_with fail
          go_roundw
          case rel => exact HR.out
          case measure => simp [intOf]; omega
    · obtain rfl : k = N.length := by omega
      have HQ := Lib.hid (show N.all (metP C) = true by rw [HE.out, List.drop_length]; rfl)
      go_wp2_with fail
      go_ret
      exact ⟨by rw [HQ.out]; rfl, hb⟩

set_option maxRecDepth 100000 in
set_option maxHeartbeats 4000000 in
theorem innerMet_any (u z : Value) (S : List Rel) (C : List Pk) (w : World) (hl : S.length ≤ 1048576) (hq : ∀ q ∈ S, q.2.2.2.length ≤ 1048576 ∧ ∀ p ∈ q.2.2.2, p.2.length ≤ 1048576) (hC : C.length ≤ 1048576) (h : RlAt w w.heap.size u S) (h2 : PkAt w w.heap.size z C) :
    Calls Try.prog 156 #[u, z] w fun e w' => e = .returned (.bool (C.all (innerP S C))) ∧ Below w.heap.size w w' := by
  obtain ⟨sa, caps, rfl, hx⟩ := id h
  obtain ⟨pa, pc, rfl, h0⟩ := id h2
  clear hx
  have H := Lib.hid h
  have H2 := Lib.hid h2
  clear h h2
  have hnl : ∀ x : Pk, (ndsOf S x).length ≤ 1048576 ∧ ∀ q ∈ ndsOf S x, q.2.length ≤ 1048576 := fun x => by
    rcases nds_cases S x with ⟨_, e⟩ | ⟨i, hi, _, e⟩
    · rw [e]; simp
    · rw [e]; exact hq _ (List.getElem_mem hi)
  go_enter Try.func156, Try.ntmps156
  go_wp2_with fail
  go_loopw [9] (fun i wr => ∃ k : Nat, k ≤ C.length ∧ i = .int .i64 (k : Int) ∧ C.all (innerP S C) = (C.drop k).all (innerP S C) ∧ Below w.heap.size w wr) (fun i _ => C.length - (intOf i).toNat)
  case atStart => exact ⟨0, Nat.zero_le _, rfl, rfl, Below.refl _ _⟩
  case round =>
    obtain ⟨k, hk, rfl, he, hb⟩ := hrel
    have HE := Lib.hid he
    clear he
    by_cases hlt : k < C.length
    · rcases h0 with h0 | ⟨b, o, rfl, hB, hc⟩
      · subst h0
        exact absurd hlt (by simp)
      obtain ⟨x, a, b', c, d, hxy⟩ : ∃ x a b c d, C[k] = (x, a, b, c, d) := ⟨_, _, _, _, _, rfl⟩
      obtain ⟨r0, r1, r2, r3, r4⟩ := hc k hlt
      rw [hxy] at r0 r1 r2 r3 r4
      simp only at r0 r1 r2 r3 r4
      have e0 := (hb.cell (p := ⟨b, o + k * 5, none⟩) hB).trans r0
      have e1 := (hb.cell (p := ⟨b, o + k * 5 + 1, none⟩) hB).trans r1
      have e2 := (hb.cell (p := ⟨b, o + k * 5 + 2, none⟩) hB).trans r2
      have e3 := (hb.cell (p := ⟨b, o + k * 5 + 3, none⟩) hB).trans r3
      have e4 := (hb.cell (p := ⟨b, o + k * 5 + 4, none⟩) hB).trans r4
      have HXY := Lib.hid (show C[k]? = some (x, a, b', c, d) by rw [List.getElem?_eq_getElem hlt, hxy])
      have bB : b < wr.heap.size := Nat.lt_of_lt_of_le hB hb.size
      have i0 : (0 : Int) ≤ (k : Int) := by omega
      have i1 : (k : Int) < (C.length : Int) := by omega
      obtain ⟨w3, hw3⟩ : ∃ V : World, V = wr.alloc (.cells #[.int .i64 x, .int .i64 a, .int .i64 b', .int .i64 c, .int .i64 d] 114) := ⟨_, rfl⟩
      have b3 : Below wr.heap.size wr w3 := by rw [hw3]; exact (Below.refl _ _).alloc (Nat.le_refl _) _
      have z3 : wr.heap.size + 1 ≤ w3.heap.size := by rw [hw3]; simp
      have y0 : w3.cell? ⟨wr.heap.size, 0, none⟩ = some (.int .i64 x) := by rw [hw3]; go_simp
      have y1 : w3.cell? ⟨wr.heap.size, 1, none⟩ = some (.int .i64 a) := by rw [hw3]; go_simp
      have y2 : w3.cell? ⟨wr.heap.size, 2, none⟩ = some (.int .i64 b') := by rw [hw3]; go_simp
      have y3 : w3.cell? ⟨wr.heap.size, 3, none⟩ = some (.int .i64 c) := by rw [hw3]; go_simp
      have y4 : w3.cell? ⟨wr.heap.size, 4, none⟩ = some (.int .i64 d) := by rw [hw3]; go_simp
      have n3 : Below w.heap.size w w3 := hb.trans (b3.mono hb.size)
      clear hxy r0 r1 r2 r3 r4
      go_upto_region 4 with fail
      rw [← hw3]
      clear hw3 e0 e1 e2 e3 e4
      have HST := Lib.hid (all_step (innerP S C) HXY.out)
      have hM := hnl (x, a, b', c, d)
      go_wp2_with fail
      refine (needsOfPick_any _ S x a b' c d _ _ (Nat.le_refl _) hl (H.out.stepAt n3)).mono ?_
      rintro e w4 ⟨ad, cap, rfl, hnd, hb4⟩
      have m4 := n3.trans (hb4.mono n3.size)
      have HND := Lib.hid (hnd.mono hb4.size)
      have HIN := Lib.hid (show innerP S C (x, a, b', c, d) = (ndsOf S (x, a, b', c, d)).all (metP C) from rfl)
      obtain ⟨M, hMM⟩ : ∃ M, ndsOf S (x, a, b', c, d) = M := ⟨_, rfl⟩
      rw [hMM] at HND hM HIN ⊢
      have K : Hid (∀ V, NdAt V V.heap.size (.slice ad M.length cap) M → PkAt V V.heap.size (.slice (some ⟨b, o, none⟩) C.length pc) C → Calls Try.prog 155 #[.slice ad M.length cap, .slice (some ⟨b, o, none⟩) C.length pc] V fun e w' => e = .returned (.bool (M.all (metP C))) ∧ Below V.heap.size V w') := Lib.hid fun V g g' => needsMet_any _ _ M C V hM.1 hM.2 hC g g'
      clear hnd hb4 hMM
      rcases hh : M.all (metP C)
      · rw [hh] at K HIN
        clear hh
        go_wp2_with fail
        refine (K.out _ HND.out (H2.out.stepAt m4)).mono ?_
        rintro e w5 ⟨rfl, hb5⟩
        go_wp2_with fail
        go_ret
        exact ⟨by rw [HE.out, HST.out, HIN.out]; rfl, m4.trans (hb5.mono m4.size)⟩
      · rw [hh] at K HIN
        clear hh
        go_wp2_with fail
        refine (K.out _ HND.out (H2.out.stepAt m4)).mono ?_
        rintro e w5 ⟨rfl, hb5⟩
        have HR := Lib.hid (show ∃ k' : Nat, k' ≤ C.length ∧ Value.int .i64 ((k : Int) + 1) = .int .i64 (k' : Int) ∧ C.all (innerP S C) = (C.drop k').all (innerP S C) ∧ Below w.heap.size w w5 from ⟨k + 1, by omega, by go_num, by rw [HE.out, HST.out, HIN.out]; rfl, m4.trans (hb5.mono m4.size)⟩)
        clear hb5
        go_wp2_with fail
        go_roundw
        case rel => exact HR.out
        case measure => simp [intOf]; omega
    · obtain rfl : k = C.length := by omega
      have HQ := Lib.hid (show C.all (innerP S C) = true by rw [HE.out, List.drop_length]; rfl)
      go_wp2_with fail
      go_ret
      exact ⟨by rw [HQ.out]; rfl, hb⟩
end Cfa
end Go.Proofs.Ytgenjbeamlffmaa
