/- Contracts of the laws' functions that mark rows of targets and that say whether marks are held, over this seat's translation: behind marking each target bears just the marks, and nothing but the row's own blocks has changed; what bears them is held. Condition: at most 1048576 of all together. -/
import Derived.Test.YtopplljilmjjgaaTgto
import Derived.Test.YtopplljilmjjgaaMtx
import Derived.BigQuiet
namespace Go.Proofs.Ytopplljilmjjgaa
open Go.ChangeShapes Go.WideShapes Go.ChangeAt Go.RowKit Go.Sort Go.Joins Go.Deep

namespace Tgm
open Tg Mtx
/-- Nothing has changed but blocks between two numbers, and not a certain one of these. -/
structure OX (g lo hi : Nat) (a b : World) : Prop where
  os : b.os = a.os
  tape : b.tape = a.tape
  output : b.output = a.output
  size : a.heap.size ≤ b.heap.size
  block : ∀ i, i < a.heap.size → (i < lo ∨ hi ≤ i ∨ i = g) → b.heap[i]? = a.heap[i]?
theorem OX.refl (g lo hi : Nat) (w : World) : OX g lo hi w w := ⟨rfl, rfl, rfl, Nat.le_refl _, fun _ _ _ => rfl⟩

/-- The marks of lines. -/
def lmk (k : Int) : Nat → List Ln
  | 0 => []
  | n + 1 => (k, k + 1, k + 1 + 1, mkT (k + 1 + 1 + 1)) :: lmk (k + 1 + 1 + 1 + 1) n
theorem lmk_len : ∀ (n : Nat) (k : Int), (lmk k n).length = n
  | 0, _ => rfl
  | n + 1, k => by simp [lmk, lmk_len n]
theorem lmk_at : ∀ (n i : Nat) (k : Int), i < n → (lmk k n)[i]? = some (k + 4 * i, k + 4 * i + 1, k + 4 * i + 1 + 1, mkT (k + 4 * i + 1 + 1 + 1))
  | n + 1, 0, k, _ => by simp [lmk]
  | n + 1, i + 1, k, h => by
    simp only [lmk, List.getElem?_cons_succ]
    rw [lmk_at n i (k + 1 + 1 + 1 + 1) (by omega)]
    rw [show k + 1 + 1 + 1 + 1 + 4 * (i : Int) = k + 4 * ((i + 1 : Nat) : Int) by omega]
/-- One line is marked: three numbers, and, behind a call, the text. -/
theorem ln_mark {W W2 : World} {g n j : Nat} {M : List Ln} {a b c : Int} {t : ByteArray} (h : LnBlk W g n M) (hj : j < M.length)
    (hb : Below (((W.setCell ⟨g, j * 4, none⟩ (.int .i64 a)).setCell ⟨g, j * 4 + 1, none⟩ (.int .i64 b)).setCell ⟨g, j * 4 + 2, none⟩ (.int .i64 c)).heap.size (((W.setCell ⟨g, j * 4, none⟩ (.int .i64 a)).setCell ⟨g, j * 4 + 1, none⟩ (.int .i64 b)).setCell ⟨g, j * 4 + 2, none⟩ (.int .i64 c)) W2) :
    LnBlk (W2.setCell ⟨g, j * 4 + 3, none⟩ (.string t)) g n (M.set j (a, b, c, t)) := by
  obtain ⟨hr, hl, hc⟩ := h
  have hg := hr.lt
  have hr2 : LnRow W2 g n := hr.set.set.set.below hb
  have e2 : ∀ o, W2.cell? ⟨g, o, none⟩ = (((W.setCell ⟨g, j * 4, none⟩ (.int .i64 a)).setCell ⟨g, j * 4 + 1, none⟩ (.int .i64 b)).setCell ⟨g, j * 4 + 2, none⟩ (.int .i64 c)).cell? ⟨g, o, none⟩ := fun o => hb.cell (p := ⟨g, o, none⟩) (by simpa using hg)
  refine ⟨hr2.set, by simpa using hl, fun i hi => ?_⟩
  simp only [List.length_set] at hi
  obtain ⟨h0, h1, h2, h3⟩ := hc i hi
  by_cases e : i = j
  · subst e
    rw [List.getElem_set_self]
    refine ⟨?_, ?_, ?_, ?_⟩
    · rw [cell_set_ne (by omega), e2, cell_set_ne (by omega), cell_set_ne (by omega), cell_set_eq hr (by omega)]
    · rw [cell_set_ne (by omega), e2, cell_set_ne (by omega), cell_set_eq hr.set (by omega)]
    · rw [cell_set_ne (by omega), e2, cell_set_eq hr.set.set (by omega)]
    · rw [cell_set_eq hr2 (by omega)]
  · rw [List.getElem_set_ne (fun e' => e e'.symm)]
    refine ⟨?_, ?_, ?_, ?_⟩
    · rw [cell_set_ne (by omega), e2, cell_set_ne (by omega), cell_set_ne (by omega), cell_set_ne (by omega)]; exact h0
    · rw [cell_set_ne (by omega), e2, cell_set_ne (by omega), cell_set_ne (by omega), cell_set_ne (by omega)]; exact h1
    · rw [cell_set_ne (by omega), e2, cell_set_ne (by omega), cell_set_ne (by omega), cell_set_ne (by omega)]; exact h2
    · rw [cell_set_ne (by omega), e2, cell_set_ne (by omega), cell_set_ne (by omega), cell_set_ne (by omega)]; exact h3
def LkRel (k : Int) (m g n : Nat) (w : World) (s1 i : Value) (wr : World) : Prop :=
  ∃ (j : Nat) (M : List Ln), j ≤ m ∧ i = .int .i64 (j : Int) ∧ s1 = .int .i64 (k + 4 * j) ∧ M.length = m ∧ (∀ q, q < j → M[q]? = (lmk k m)[q]?) ∧ LnBlk wr g n M ∧ Out g (g + 1) w wr

set_option maxRecDepth 100000 in
set_option maxHeartbeats 2000000 in
theorem markLineS_def (g n cap : Nat) (D : List Ln) (k : Int) (w : World) (hl : D.length ≤ 1048576) (hk0 : 0 < k) (hk1 : k ≤ 1000000000) (h : LnBlk w g n D) :
    Calls Try.prog 96 #[.slice (some ⟨g, 0, none⟩) D.length cap, .int .i64 k] w fun e w' => e = .returned (.int .i64 (k + 4 * D.length)) ∧ LnBlk w' g n (lmk k D.length) ∧ Out g (g + 1) w w' := by
  have hln := h.2.1
  have HS := Lib.hid (show LkRel k D.length g n w (.int .i64 k) (.int .i64 0) w from ⟨0, D, Nat.zero_le _, rfl, by simp, rfl, fun q hq => absurd hq (by omega), h, out_refl _ _ _⟩)
  clear h
  generalize D.length = m at *
  go_enter Try.func96, Try.ntmps96
  go_wp2
  go_loopw [1, 5] (fun s1 i wr => LkRel k m g n w s1 i wr) (fun _ i _ => m - (intOf i).toNat)
  case atStart => exact HS.out
  case round =>
    obtain ⟨j, M, hj, rfl, rfl, hM, hpre, hblk, ho⟩ := hrel
    by_cases hlt : j < m
    · obtain ⟨⟨p0, hp0⟩, ⟨p1, hp1⟩, ⟨p2, hp2⟩, ⟨p3, hp3⟩, f0, f1, f2, f3⟩ := hblk.1.place (show j < n by omega)
      obtain ⟨y, hy⟩ : ∃ y : Int, k + 4 * (j : Int) = y := ⟨_, rfl⟩
      have hy1 : y ≤ 1006000000 ∧ 0 < y := by omega
      have HY := Lib.hid hy
      have hjM : j < M.length := by omega
      have HPRE := Lib.hid hpre
      have HBK := Lib.hid hblk
      have HO1 := Lib.hid (((ho.set (o := j * 4) (v := .int .i64 y) (Nat.le_refl _) (by omega)).set (o := j * 4 + 1) (v := .int .i64 (y + 1)) (Nat.le_refl _) (by omega)).set (o := j * 4 + 2) (v := .int .i64 (y + 1 + 1)) (Nat.le_refl _) (by omega))
      rw [hy]
      clear hblk ho hy hpre
      go_wp2_with fail
      refine (markText_def (y + 1 + 1 + 1) _ (by omega) (by omega)).mono ?_
      rintro e w2 ⟨rfl, hb⟩
      have HB3 := Lib.hid (ln_mark (t := mkT (y + 1 + 1 + 1)) HBK.out hjM hb)
      have ho2 := HO1.out.trans' (Out.ofBelow (lo := g) (hi := g + 1) hb)
      have hr2 := HBK.out.1.set.set.set.below hb
      clear hb hp0 hp1 hp2 hp3 f0 f1 f2 f3 HO1
      obtain ⟨⟨p3, hp3⟩, f3⟩ := hr2.one (show j * 4 + 3 < n * 4 by omega)
      have HO3 := Lib.hid (ho2.set (o := j * 4 + 3) (v := .string (mkT (y + 1 + 1 + 1))) (Nat.le_refl _) (by omega))
      have HP := Lib.hid (show ∀ q, q < j + 1 → (M.set j (y, y + 1, y + 1 + 1, mkT (y + 1 + 1 + 1)))[q]? = (lmk k m)[q]? from fun q hq => by
        by_cases e : q = j
        · subst e
          rw [List.getElem?_set_self hjM, lmk_at m q k hlt, HY.out]
        · rw [List.getElem?_set_ne (fun e' => e e'.symm)]
          exact HPRE.out q (by omega))
      generalize hM3 : M.set j (y, y + 1, y + 1 + 1, mkT (y + 1 + 1 + 1)) = M3 at *
      have hML3 : M3.length = m := by rw [← hM3]; simpa using hM
      clear hr2 ho2 hM3
      go_wp2_with fail
      go_roundw
      case rel => exact ⟨j + 1, M3, by omega, by go_num, by have := HY.out; congr 1; omega, hML3, HP.out, HB3.out, HO3.out⟩
      case measure => simp [intOf]; omega
    · obtain rfl : j = m := by omega
      have HO := Lib.hid ho
      have HB := Lib.hid (show LnBlk wr g n (lmk k j) by
        have e : M = lmk k j := List.ext_getElem? fun q => by
          by_cases hq : q < j
          · exact hpre q hq
          · rw [List.getElem?_eq_none (by omega), List.getElem?_eq_none (by rw [lmk_len]; omega)]
        rw [← e]; exact hblk)
      clear hblk ho hpre
      go_wp2_with fail
      go_ret
      exact ⟨rfl, HB.out, HO.out⟩
theorem markLX {g lo hi : Nat} {L : List Ln} {u : Value} {w : World} (hl : L.length ≤ 1048576) (h : LX g lo hi L u w) (k : Int) (hk0 : 0 < k) (hk1 : k ≤ 1000000000) :
    Calls Try.prog 96 #[u, .int .i64 k] w fun e w' => e = .returned (.int .i64 (k + 4 * L.length)) ∧ LX g lo hi (lmk k L.length) u w' ∧ OX g lo hi w w' := by
  obtain ⟨a, cap, rfl, h⟩ := h
  rcases h with rfl | ⟨b, n, rfl, hb, h1, h2⟩
  · refine (Lnt.markLineS_nil a cap k w).mono ?_
    rintro e w' ⟨rfl, rfl⟩
    exact ⟨by simp, ⟨a, cap, rfl, .inl rfl⟩, OX.refl _ _ _ _⟩
  · refine (markLineS_def b n cap L k w hl hk0 hk1 hb).mono ?_
    rintro e w' ⟨rfl, hb', ho⟩
    exact ⟨rfl, ⟨some ⟨b, 0, none⟩, cap, by rw [lmk_len], .inr ⟨b, n, rfl, hb', h1, h2⟩⟩, ⟨ho.os, ho.tape, ho.output, ho.size, fun i hi hd => ho.block i hi (by omega)⟩⟩
theorem markIX {g lo hi : Nat} {N : List Int} {u : Value} {w : World} (hl : N.length ≤ 1048576) (h : IX g lo hi N u w) (k : Int) (hk0 : 0 ≤ k) (hk1 : k ≤ 1000000000) :
    Calls Try.prog 38 #[u, .int .i64 k] w fun e w' => e = .returned (.int .i64 (k + N.length)) ∧ IX g lo hi (imarks k N.length) u w' ∧ OX g lo hi w w' := by
  obtain ⟨a, cap, rfl, h⟩ := h
  rcases h with rfl | ⟨b, n, rfl, hb, h1, h2⟩
  · refine (markIntS_nil a cap k w).mono ?_
    rintro e w' ⟨rfl, rfl⟩
    exact ⟨by simp, ⟨a, cap, rfl, .inl rfl⟩, OX.refl _ _ _ _⟩
  · refine (markIntS_blk b n cap N k w hl hk0 hk1 hb).mono ?_
    rintro e w' ⟨rfl, hb', hg⟩
    exact ⟨rfl, ⟨some ⟨b, 0, none⟩, cap, by rw [imarks_len], .inr ⟨b, n, rfl, hb', h1, h2⟩⟩, ⟨hg.os, hg.tape, hg.output, hg.size, fun i hi hd => hg.block i hi (fun e => by injection e with e; omega)⟩⟩

/-- The marks of targets. -/
def nx (k : Int) (x : Tgt) : Int := k + 1 + 1 + 4 * (x.2.2.1.length : Int) + (x.2.2.2.length : Int)
def tmk1 (k : Int) (x : Tgt) : Tgt := (k % 3 == 0, mkT (k + 1), lmk (k + 1 + 1) x.2.2.1.length, imarks (k + 1 + 1 + 4 * (x.2.2.1.length : Int)) x.2.2.2.length)
def tgk (k : Int) : List Tgt → List Tgt
  | [] => []
  | x :: t => tmk1 k x :: tgk (nx k x) t
def tgkE (k : Int) : List Tgt → Int
  | [] => k
  | x :: t => tgkE (nx k x) t
theorem tgk_len : ∀ (S : List Tgt) (k : Int), (tgk k S).length = S.length
  | [], _ => rfl
  | x :: t, k => by simp [tgk, tgk_len t]
theorem tgk_at : ∀ (S : List Tgt) (i : Nat) (k : Int) (x : Tgt), S[i]? = some x → (tgk k S)[i]? = some (tmk1 (tgkE k (S.take i)) x)
  | y :: t, 0, k, x, h => by
    simp at h
    subst h
    rfl
  | y :: t, i + 1, k, x, h => by
    simp only [List.getElem?_cons_succ] at h
    simp only [tgk, List.getElem?_cons_succ, List.take_succ_cons, tgkE]
    exact tgk_at t i _ x h
theorem tgkE_next {S : List Tgt} {i : Nat} {x : Tgt} (k : Int) (h : S[i]? = some x) : tgkE k (S.take (i + 1)) = nx (tgkE k (S.take i)) x := by
  induction S generalizing i k with
  | nil => simp at h
  | cons y t ih =>
    rcases i with _ | i
    · simp at h
      subst h
      rfl
    · simp only [List.getElem?_cons_succ] at h
      simp only [List.take_succ_cons, tgkE]
      exact ih _ h
theorem tgkE_le : ∀ (S : List Tgt) (k : Int), k ≤ tgkE k S ∧ tgkE k S ≤ k + 2 * S.length + 4 * (tgSz S : Int)
  | [], k => by simp [tgkE, tgSz]
  | x :: t, k => by
    have := tgkE_le t (nx k x)
    simp only [tgkE, tgSz, sz1, List.length_cons]
    unfold nx at this ⊢
    omega
theorem tgkE_take (S : List Tgt) (j : Nat) (k : Int) : k ≤ tgkE k (S.take j) ∧ tgkE k (S.take j) ≤ k + 2 * S.length + 4 * (tgSz S : Int) := by
  have h := tgkE_le (S.take j) k
  have h2 := tgSz_le S j
  have h3 : (S.take j).length ≤ S.length := by simp; omega
  omega

/-- One target of a row is marked. -/
theorem tg_again {wr W : World} {g n lo hi j p : Nat} {C : Array Value} {m : Nat → Nat} {M : List Tgt} {x' : Tgt} {a a' : Option Addr} {c c' : Nat} (hs : C.size = n * 4) (hl : M.length ≤ n) (hm : lo ≤ m 0 ∧ m M.length ≤ hi ∧ ∀ i, m i ≤ m (i + 1))
    (hc : ∀ i (h : i < M.length), TgE wr g (m i) (m (i + 1)) C i M[i]) (hj : j < M.length) (hp : m j ≤ p ∧ p ≤ m (j + 1))
    (hW : W.heap[g]? = some (.cells ((C.setIfInBounds (j * 4) (.bool x'.1)).setIfInBounds (j * 4 + 1) (.string x'.2.1)) 79 (0, 0)))
    (h2 : C[j * 4 + 2]? = some (.slice a x'.2.2.1.length c)) (h3 : C[j * 4 + 3]? = some (.slice a' x'.2.2.2.length c'))
    (hL : LX g (m j) p x'.2.2.1 (.slice a x'.2.2.1.length c) W) (hN : IX g p (m (j + 1)) x'.2.2.2 (.slice a' x'.2.2.2.length c') W)
    (hk : ∀ b, b < wr.heap.size → (b < m j ∨ m (j + 1) ≤ b) → b ≠ g → W.heap[b]? = wr.heap[b]?) : TgBlk W g n lo hi (M.set j x') := by
  refine ⟨_, m, hW, by simpa using hs, by simpa using hl, by simpa using hm, fun i hi => ?_⟩
  simp only [List.length_set] at hi
  by_cases e : i = j
  · subst e
    rw [List.getElem_set_self]
    refine ⟨p, a, c, a', c', hp, ⟨?_, ?_, ?_, ?_⟩, hL, hN⟩
    · rw [Array.getElem?_setIfInBounds_ne (by omega), Array.getElem?_setIfInBounds_self_of_lt (by omega)]
    · rw [Array.getElem?_setIfInBounds_self_of_lt (by simp; omega)]
    · rw [Array.getElem?_setIfInBounds_ne (by omega), Array.getElem?_setIfInBounds_ne (by omega)]; exact h2
    · rw [Array.getElem?_setIfInBounds_ne (by omega), Array.getElem?_setIfInBounds_ne (by omega)]; exact h3
  · rw [List.getElem_set_ne (fun e' => e e'.symm)]
    refine ((hc i hi).kept fun b k1 k2 k3 k4 => hk b k4 ?_ k3).cells fun q hq => ?_
    · rcases Nat.lt_or_gt_of_ne e with e | e
      · left
        have := mono_of hm.2.2 (show i + 1 ≤ j by omega)
        omega
      · right
        have := mono_of hm.2.2 (show j + 1 ≤ i by omega)
        omega
    · rw [Array.getElem?_setIfInBounds_ne (by omega), Array.getElem?_setIfInBounds_ne (by omega)]
/-- What the loop of markTargetS keeps. -/
def TkRel (S : List Tgt) (k : Int) (g n lo hi : Nat) (w : World) (s1 i : Value) (wr : World) : Prop :=
  ∃ (j : Nat) (M : List Tgt), j ≤ S.length ∧ i = .int .i64 (j : Int) ∧ s1 = .int .i64 (tgkE k (S.take j)) ∧ M.length = S.length ∧ ((∀ q, q < j → M[q]? = (tgk k S)[q]?) ∧ ∀ q, j ≤ q → M[q]? = S[q]?) ∧ TgBlk wr g n lo hi M ∧ Out lo hi w wr

set_option maxRecDepth 100000 in
set_option maxHeartbeats 4000000 in
theorem markTargetS_blk (g n cap lo hi : Nat) (S : List Tgt) (k : Int) (w : World) (hg : lo ≤ g ∧ g < hi) (hl : S.length ≤ 1048576) (hsz : tgSz S ≤ 1048576) (hk0 : 0 < k) (hk1 : k ≤ 1000000) (h : TgBlk w g n lo hi S) :
    Calls Try.prog 35 #[.slice (some ⟨g, 0, none⟩) S.length cap, .int .i64 k] w fun e w' => e = .returned (.int .i64 (tgkE k S)) ∧ TgBlk w' g n lo hi (tgk k S) ∧ Out lo hi w w' := by
  have HS := Lib.hid (show TkRel S k g n lo hi w (.int .i64 k) (.int .i64 0) w from ⟨0, S, Nat.zero_le _, rfl, rfl, rfl, ⟨fun q hq => absurd hq (by omega), fun _ _ => rfl⟩, h, out_refl _ _ _⟩)
  clear h
  go_enter Try.func35, Try.ntmps35
  go_wp2
  go_loopw [1, 5] (fun s1 i wr => TkRel S k g n lo hi w s1 i wr) (fun _ i _ => S.length - (intOf i).toNat)
  case atStart => exact HS.out
  case round =>
    obtain ⟨j, M, hj, rfl, rfl, hM, ⟨hpre, hpost⟩, hblk, ho⟩ := hrel
    have hyy := tgkE_take S j k
    by_cases hlt : j < S.length
    · have hgl := hblk.lt
      obtain ⟨C, m, hC, hCs, hMn, hmm, hc⟩ := hblk
      have hjM : j < M.length := by omega
      obtain ⟨x, t, L, N, hxy⟩ : ∃ x t L N, S[j] = (x, t, L, N) := ⟨_, _, _, _, rfl⟩
      have hxs : S[j]? = some (x, t, L, N) := by rw [List.getElem?_eq_getElem hlt, hxy]
      have hMx : M[j] = (x, t, L, N) := by
        have := hpost j (Nat.le_refl _)
        rw [hxs, List.getElem?_eq_getElem hjM] at this
        exact Option.some.inj this
      have hce := hc j hjM
      rw [hMx] at hce
      obtain ⟨p, a, c, a', c', hp, ⟨h0, h1, h2, h3⟩, hL, hN⟩ := hce
      simp only at h0 h1 h2 h3 hL hN
      have hmem := tgSz_mem (List.mem_of_getElem? hxs)
      unfold sz1 at hmem
      simp only at hmem
      have hat := tgk_at S j k _ hxs
      have hnx := tgkE_next k hxs
      obtain ⟨y, hy⟩ : ∃ y : Int, tgkE k (S.take j) = y := ⟨_, rfl⟩
      rw [hy] at hyy hat hnx ⊢
      have hy1 : 0 < y ∧ y ≤ 8000000 := by omega
      have cell : ∀ q, wr.cell? ⟨g, q, none⟩ = C[q]? := fun q => cell_of_row wr g q C _ (0, 0) hC
      have froz : ∀ q, wr.frozen? ⟨g, q, none⟩ = false := fun q => by simp [World.frozen?, hC]
      have e0 := (cell (j * 4)).trans h0
      have e1 := (cell (j * 4 + 1)).trans h1
      have e2 := (cell (j * 4 + 2)).trans h2
      have e3 := (cell (j * 4 + 3)).trans h3
      have f0 := froz (j * 4)
      have f1 := froz (j * 4 + 1)
      obtain ⟨bb, hbb⟩ : ∃ bb : Bool, (y % 3 == 0) = bb := ⟨_, rfl⟩
      have hW1 : (wr.setCell ⟨g, j * 4, none⟩ (.bool bb)).heap[g]? = some (.cells (C.setIfInBounds (j * 4) (.bool bb)) 79 (0, 0)) := by simp [World.setCell, Array.getElem?_modify, hC]
      have HW1 := Lib.hid hW1
      have HALL := Lib.hid (And.intro hpre hpost)
      have HC := Lib.hid hc
      have HMM := Lib.hid hmm
      have HL := Lib.hid hL
      have HN := Lib.hid hN
      have HH := Lib.hid (And.intro h1 (And.intro h2 h3))
      have HP := Lib.hid hp
      have HAT := Lib.hid hat
      have HNX := Lib.hid hnx
      have HY := Lib.hid hy
      have HBB := Lib.hid hbb
      have HO := Lib.hid ho
      have HX := Lib.hid hxs
      have hCL : j * 4 + 4 ≤ C.size := by omega
      clear hC cell froz hW1 hpre hpost hc hL hN hp hat hnx hy ho hxy hxs hMx h0 h1 h2 h3 hmm
      go_wp2_with fail
      refine (markText_def (y + 1) _ (by omega) (by omega)).mono ?_
      rintro e w2 ⟨rfl, hb⟩
      have hW2 : w2.heap[g]? = some (.cells (C.setIfInBounds (j * 4) (.bool bb)) 79 (0, 0)) := (hb.block g (by simpa using hgl)).trans HW1.out
      have z2 : wr.heap.size ≤ w2.heap.size := by have := hb.size; simpa [World.setCell] using this
      have K2 := Lib.hid (show ∀ b, b < wr.heap.size → b ≠ g → w2.heap[b]? = wr.heap[b]? from fun b hb1 hb2 => (hb.block b (by simpa using hb1)).trans (Below.heap_setCell _ _ _ _ hb2))
      have G2 := Lib.hid (show w2.os = wr.os ∧ w2.tape = wr.tape ∧ w2.output = wr.output from ⟨hb.os, hb.tape, hb.output⟩)
      have d1 : w2.cell? ⟨g, j * 4 + 1, none⟩ = some (.string t) := by
        rw [cell_of_row w2 g _ _ _ (0, 0) hW2, Array.getElem?_setIfInBounds_ne (by omega)]
        exact HH.out.1
      have d2 : w2.cell? ⟨g, j * 4 + 2, none⟩ = some (.slice a L.length c) := by
        rw [cell_of_row w2 g _ _ _ (0, 0) hW2, Array.getElem?_setIfInBounds_ne (by omega)]
        exact HH.out.2.1
      have g1 : w2.frozen? ⟨g, j * 4 + 1, none⟩ = false := by simp [World.frozen?, hW2]
      obtain ⟨W3, hW3⟩ : ∃ W3 : World, W3 = w2.setCell ⟨g, j * 4 + 1, none⟩ (.string (mkT (y + 1))) := ⟨_, rfl⟩
      have hg3 : W3.heap[g]? = some (.cells ((C.setIfInBounds (j * 4) (.bool bb)).setIfInBounds (j * 4 + 1) (.string (mkT (y + 1)))) 79 (0, 0)) := by rw [hW3]; simp [World.setCell, Array.getElem?_modify, hW2]
      have z3 : wr.heap.size ≤ W3.heap.size := by rw [hW3]; simpa [World.setCell] using z2
      have K3 := Lib.hid (show ∀ b, b < wr.heap.size → b ≠ g → W3.heap[b]? = wr.heap[b]? from fun b hb1 hb2 => by rw [hW3]; exact (Below.heap_setCell _ _ _ _ hb2).trans (K2.out b hb1 hb2))
      have G3 := Lib.hid (show W3.os = wr.os ∧ W3.tape = wr.tape ∧ W3.output = wr.output by rw [hW3]; exact G2.out)
      have HG3 := Lib.hid hg3
      have HL3 := Lib.hid (HL.out.kept (w' := W3) fun b _ _ k3 k4 => K3.out b k4 k3)
      have HWE := Lib.hid hW3
      clear hb e0 e1 e2 e3 f0 f1 hW2 hg3 hW3 K2 G2 HW1
      go_wp2_with fail
      rw [← HWE.out]
      refine (markLX (by omega) HL3.out (y + 1 + 1) (by omega) (by omega)).mono ?_
      rintro e w4 ⟨rfl, hL4, ho4⟩
      have z4 : wr.heap.size ≤ w4.heap.size := Nat.le_trans z3 ho4.size
      have hg4 : w4.heap[g]? = W3.heap[g]? := ho4.block g (by omega) (.inr (.inr rfl))
      have d3 : w4.cell? ⟨g, j * 4 + 3, none⟩ = some (.slice a' N.length c') := by
        rw [cell_of_row w4 g _ _ _ (0, 0) (hg4.trans HG3.out), Array.getElem?_setIfInBounds_ne (by omega), Array.getElem?_setIfInBounds_ne (by omega)]
        exact HH.out.2.2
      have K4 := Lib.hid (show ∀ b, b < wr.heap.size → (b < m j ∨ p ≤ b) → b ≠ g → w4.heap[b]? = wr.heap[b]? from fun b k1 k2 k3 => (ho4.block b (by omega) (by omega)).trans (K3.out b k1 k3))
      have G4 := Lib.hid (show w4.os = wr.os ∧ w4.tape = wr.tape ∧ w4.output = wr.output from ⟨ho4.os.trans G3.out.1, ho4.tape.trans G3.out.2.1, ho4.output.trans G3.out.2.2⟩)
      have HN4 := Lib.hid (HN.out.kept (w' := w4) fun b k1 k2 k3 k4 => K4.out b k4 (by omega) k3)
      have HL4 := Lib.hid hL4
      have HG4 := Lib.hid (hg4.trans HG3.out)
      clear hL4 ho4 hg4 d1 d2 g1
      go_wp2_with fail
      refine (markIX (by omega) HN4.out (y + 1 + 1 + 4 * (L.length : Int)) (by omega) (by omega)).mono ?_
      rintro e w5 ⟨rfl, hN5, ho5⟩
      have hm2 := HMM.out
      have hp2 := HP.out
      have hj0 := mono_of hm2.2.2 (Nat.zero_le j)
      have hj1 := mono_of hm2.2.2 (show j + 1 ≤ M.length by omega)
      have hg5 : w5.heap[g]? = _ := (ho5.block g (by have := (Array.getElem?_eq_some_iff.1 HG4.out).1; omega) (.inr (.inr rfl))).trans HG4.out
      have hL5 := HL4.out.kept (w' := w5) fun b k1 k2 k3 k4 => ho5.block b k4 (by omega)
      have hK5 : ∀ b, b < wr.heap.size → (b < m j ∨ m (j + 1) ≤ b) → b ≠ g → w5.heap[b]? = wr.heap[b]? := fun b k1 k2 k3 => (ho5.block b (by omega) (by omega)).trans (K4.out b k1 (by omega) k3)
      have hB5 := Lib.hid (tg_again (x' := (bb, mkT (y + 1), lmk (y + 1 + 1) L.length, imarks (y + 1 + 1 + 4 * (L.length : Int)) N.length)) (a := a) (a' := a') (c := c) (c' := c') hCs hMn hm2 HC.out hjM hp2 hg5 (by simpa [lmk_len] using HH.out.2.1) (by simpa [imarks_len] using HH.out.2.2) (by simpa [lmk_len] using hL5) (by simpa [imarks_len] using hN5) hK5)
      have hO5 := Lib.hid (show Out lo hi w w5 from HO.out.trans' ⟨ho5.os.trans G4.out.1, ho5.tape.trans G4.out.2.1, ho5.output.trans G4.out.2.2, Nat.le_trans z4 ho5.size, fun i k1 k2 => hK5 i k1 (by omega) (by omega)⟩)
      have HPF := Lib.hid (show (∀ q, q < j + 1 → (M.set j (bb, mkT (y + 1), lmk (y + 1 + 1) L.length, imarks (y + 1 + 1 + 4 * (L.length : Int)) N.length))[q]? = (tgk k S)[q]?) ∧ ∀ q, j + 1 ≤ q → (M.set j (bb, mkT (y + 1), lmk (y + 1 + 1) L.length, imarks (y + 1 + 1 + 4 * (L.length : Int)) N.length))[q]? = S[q]? from by
        refine ⟨fun q hq => ?_, fun q hq => ?_⟩
        · by_cases e : q = j
          · subst e
            rw [List.getElem?_set_self hjM, HAT.out, ← HBB.out]
            rfl
          · rw [List.getElem?_set_ne (fun e' => e e'.symm)]
            exact HALL.out.1 q (by omega)
        · rw [List.getElem?_set_ne (by omega)]
          exact HALL.out.2 q (by omega))
      generalize hM3 : M.set j (bb, mkT (y + 1), lmk (y + 1 + 1) L.length, imarks (y + 1 + 1 + 4 * (L.length : Int)) N.length) = M3 at *
      have hML3 : M3.length = S.length := by rw [← hM3]; simpa using hM
      clear hM3 hN5 ho5 hg5 hL5 hK5 hm2 hp2 hj0 hj1 d3
      go_wp2_with fail
      go_roundw
      case rel => exact ⟨j + 1, M3, by omega, by go_num, by rw [HNX.out]; rfl, hML3, HPF.out, hB5.out, hO5.out⟩
      case measure => simp [intOf]; omega
    · obtain rfl : j = S.length := by omega
      have HO := Lib.hid ho
      have HB := Lib.hid (show TgBlk wr g n lo hi (tgk k S) by
        have e : M = tgk k S := List.ext_getElem? fun q => by
          by_cases hq : q < S.length
          · exact hpre q hq
          · rw [List.getElem?_eq_none (by omega), List.getElem?_eq_none (by rw [tgk_len]; omega)]
        rw [← e]; exact hblk)
      rw [List.take_length]
      clear hblk ho hpre hpost hyy
      go_wp2_with fail
      go_ret
      exact ⟨rfl, HB.out, HO.out⟩
set_option maxRecDepth 100000 in
set_option maxHeartbeats 400000 in
theorem markTargetS_nil (a : Option Addr) (cap : Nat) (k : Int) (w : World) : Calls Try.prog 35 #[.slice a 0 cap, .int .i64 k] w fun e w' => e = .returned (.int .i64 k) ∧ w = w' := by
  go_enter Try.func35, Try.ntmps35
  go_wp2
  go_loop [1, 5] (fun s1 i => s1 = .int .i64 k ∧ i = .int .i64 0) (fun _ _ => 0)
  case atStart => exact ⟨rfl, rfl⟩
  case round =>
    obtain ⟨rfl, rfl⟩ := hrel
    go_wp2
    go_ret
    exact ⟨rfl, rfl⟩
theorem markTgB {S : List Tgt} {lo hi : Nat} {u : Value} {w : World} (hl : S.length ≤ 1048576) (hsz : tgSz S ≤ 1048576) (h : TgB S lo hi u w) (k : Int) (hk0 : 0 < k) (hk1 : k ≤ 1000000) :
    Calls Try.prog 35 #[u, .int .i64 k] w fun e w' => e = .returned (.int .i64 (tgkE k S)) ∧ TgB (tgk k S) lo hi u w' ∧ Out lo hi w w' := by
  obtain ⟨a, cap, rfl, h⟩ := h
  rcases h with rfl | ⟨g, n, rfl, hb, h1, h2⟩
  · refine (markTargetS_nil a cap k w).mono ?_
    rintro e w' ⟨rfl, rfl⟩
    exact ⟨rfl, ⟨a, cap, rfl, .inl rfl⟩, out_refl _ _ _⟩
  · refine (markTargetS_blk g n cap lo hi S k w ⟨h1, h2⟩ hl hsz hk0 hk1 hb).mono ?_
    rintro e w' ⟨rfl, hb', ho⟩
    exact ⟨rfl, ⟨some ⟨g, 0, none⟩, cap, by rw [tgk_len], .inr ⟨g, n, rfl, hb', h1, h2⟩⟩, ho⟩
/-- The same, for a row whose marks are not looked at again. -/
theorem markTargetS_out {S : List Tgt} {lo hi : Nat} {u : Value} {w : World} (hl : S.length ≤ 1048576) (hsz : tgSz S ≤ 1048576) (h : TgB S lo hi u w) (k : Int) (hk0 : 0 < k) (hk1 : k ≤ 1000000) :
    Calls Try.prog 35 #[u, .int .i64 k] w fun e w' => (∃ z : Int, e = .returned (.int .i64 z) ∧ k ≤ z ∧ z ≤ k + 2 * S.length + 4 * (tgSz S : Int)) ∧ TgB (tgk k S) lo hi u w' ∧ Out lo hi w w' :=
  (markTgB hl hsz h k hk0 hk1).mono fun _ _ ⟨he, hr⟩ => ⟨⟨_, he, tgkE_le S k⟩, hr⟩
end Tgm
end Go.Proofs.Ytopplljilmjjgaa
