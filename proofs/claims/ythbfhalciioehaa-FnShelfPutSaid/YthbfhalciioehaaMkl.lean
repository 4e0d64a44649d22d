/- What marking a grown row of releases does, over this seat's translation: each cell holds its number, nothing is changed but the row's own blocks. Condition: at most 1048576 releases, and needs and spans of all of them. -/
import Derived.Test.YthbfhalciioehaaMkn
namespace Go.Proofs.Ythbfhalciioehaa
open Go.RowKit Go.Sort

namespace Foot
/-- A block that is a row of n releases, the first of which are S, over their footprints. -/
def RBF (w : World) (g n : Nat) (S : List Rel) (fs : List (List Nat)) : Prop :=
  ∃ C : Array Value, w.heap[g]? = some (.cells C 54 (0, 0)) ∧ C.size = n * 7 ∧ S.length ≤ n ∧ REl w C.toList S fs
theorem RBF.shape {w : World} {g n : Nat} {S : List Rel} {fs : List (List Nat)} (h : RBF w g n S fs) : Shape w g (n * 7) 54 := by
  obtain ⟨C, h1, h2, _⟩ := h
  exact ⟨C, h1, h2⟩
theorem RBF.at {w : World} {g n i : Nat} {S : List Rel} {fs : List (List Nat)} (h : RBF w g n S fs) (hi : i < S.length) :
    ∃ a cap, w.cell? ⟨g, i * 7 + 6, none⟩ = some (.slice a S[i].2.2.2.length cap) ∧ NdF w (.slice a S[i].2.2.2.length cap) S[i].2.2.2 (fs.getD i []) := by
  obtain ⟨C, h1, h2, h3, h4⟩ := h
  obtain ⟨a, cap, k2, k3⟩ := h4.2 i hi
  have := k2 6 (by omega)
  exact ⟨a, cap, (cell_of_row w g _ C _ (0, 0) h1).trans (by simpa using this), k3⟩
theorem REl.lt {w : World} {cs : List Value} {S : List Rel} {fs : List (List Nat)} (h : REl w cs S fs) : ∀ b ∈ fs.flatten, b < w.heap.size := by
  intro b hb
  obtain ⟨l, hl, hb⟩ := List.mem_flatten.1 hb
  obtain ⟨i, hi, rfl⟩ := List.getElem_of_mem hl
  obtain ⟨a, cap, _, hs⟩ := h.2 i (by have := h.1; omega)
  rw [List.getD_eq_getElem?_getD, List.getElem?_eq_getElem hi, Option.getD_some] at hs
  exact hs.lt b hb
set_option maxRecDepth 100000 in
theorem RBF.set {w w2 : World} {g n i cap : Nat} {S : List Rel} {fs : List (List Nat)} {a : Option Addr} {x' : Rel} (h : RBF w g n S fs) (hn : (g :: fs.flatten).Nodup) (hi : i < S.length) (hL : x'.2.2.2.length = S[i].2.2.2.length)
    (hsh : Shape w2 g (n * 7) 54) (hin : ∀ j, j < 7 → w2.cell? ⟨g, i * 7 + j, none⟩ = (relc x' (.slice a S[i].2.2.2.length cap))[j]?) (hout : ∀ m, (m < i * 7 ∨ i * 7 + 7 ≤ m) → w2.cell? ⟨g, m, none⟩ = w.cell? ⟨g, m, none⟩)
    (hs : NdF w2 (.slice a S[i].2.2.2.length cap) x'.2.2.2 (fs.getD i [])) (hb : ∀ b ∈ fs.flatten, b ∉ fs.getD i [] → w2.heap[b]? = w.heap[b]?) : RBF w2 g n (S.set i x') fs := by
  obtain ⟨C, h1, h2, h3, h4⟩ := h
  obtain ⟨C2, k1, k2⟩ := hsh
  obtain ⟨hg, hn'⟩ := List.nodup_cons.1 hn
  refine ⟨C2, k1, k2, by simpa using h3, by rw [List.length_set]; exact h4.1, fun j hj => ?_⟩
  have hj' : j < S.length := by simpa using hj
  have cc : ∀ m, w2.cell? ⟨g, m, none⟩ = C2.toList[m]? := fun m => by rw [cell_of_row w2 g m C2 _ (0, 0) k1, Array.getElem?_toList]
  have c0 : ∀ m, w.cell? ⟨g, m, none⟩ = C.toList[m]? := fun m => by rw [cell_of_row w g m C _ (0, 0) h1, Array.getElem?_toList]
  obtain ⟨a', c', q1, q2⟩ := h4.2 j hj'
  by_cases e : j = i
  · subst e
    rw [List.getElem_set_self]
    refine ⟨a, cap, fun m hm => ?_, ?_⟩
    · rw [← cc, hL]
      exact hin m hm
    · rw [hL]
      exact hs
  · rw [List.getElem_set_ne (fun k => e k.symm)]
    refine ⟨a', c', fun m hm => ?_, q2.kept fun b hb' => hb b (mem_flat hb') (fun k => e (flat_ne hn' hb' k))⟩
    rw [← cc, hout _ (by omega), c0]
    exact q1 m hm

/-- Releases with the marks that are written, from a number on, and the number behind them. -/
def rmk1 (k : Int) (x : Rel) : Rel := (k, (k + 1, k + 1 + 1, k + 1 + 1 + 1, k + 1 + 1 + 1 + 1), ((k + 1 + 1 + 1 + 1 + 1) % 3 == 0), nmk (k + 1 + 1 + 1 + 1 + 1 + 1) x.2.2.2)
def rmk (k : Int) : List Rel → List Rel
  | [] => []
  | q :: t => rmk1 k q :: rmk (nmkE (k + 1 + 1 + 1 + 1 + 1 + 1) q.2.2.2) t
def rmkE (k : Int) : List Rel → Int
  | [] => k
  | q :: t => rmkE (nmkE (k + 1 + 1 + 1 + 1 + 1 + 1) q.2.2.2) t
theorem rmk_app : ∀ (A B : List Rel) (k : Int), rmk k (A ++ B) = rmk k A ++ rmk (rmkE k A) B
  | [], _, _ => rfl
  | q :: t, B, k => by simp only [List.cons_append, rmk, rmkE]; rw [rmk_app t B]
theorem rmkE_app : ∀ (A B : List Rel) (k : Int), rmkE k (A ++ B) = rmkE (rmkE k A) B
  | [], _, _ => rfl
  | q :: t, B, k => by simp only [List.cons_append, rmkE]; rw [rmkE_app t B]
theorem rmk_len : ∀ (S : List Rel) (k : Int), (rmk k S).length = S.length
  | [], _ => rfl
  | q :: t, k => by simp only [rmk, List.length_cons]; rw [rmk_len t]
theorem rmkE_le : ∀ (S : List Rel) (k : Int), k ≤ rmkE k S ∧ rmkE k S ≤ k + 6 * S.length + 2 * (rlSz S : Int)
  | [], k => by simp [rmkE, rlSz]
  | q :: t, k => by
    simp only [rmkE, rlSz, List.length_cons]
    have h1 := rmkE_le t (nmkE (k + 1 + 1 + 1 + 1 + 1 + 1) q.2.2.2)
    rw [nmkE_eq] at h1 ⊢
    omega
theorem rlSz_take : ∀ (S : List Rel) (j : Nat), rlSz (S.take j) ≤ rlSz S
  | [], j => by simp
  | q :: t, 0 => by simp [rlSz]
  | q :: t, j + 1 => by
    simp only [List.take_succ_cons, rlSz]
    have := rlSz_take t j
    omega
theorem rmkE_take (S : List Rel) (j : Nat) (k : Int) : k ≤ rmkE k (S.take j) ∧ rmkE k (S.take j) ≤ k + 6 * S.length + 2 * (rlSz S : Int) := by
  have h := rmkE_le (S.take j) k
  have := rlSz_take S j
  have : (S.take j).length ≤ S.length := by simp; omega
  omega
theorem rmk_next {S : List Rel} {j : Nat} {x : Rel} (hx : S[j]? = some x) (k : Int) :
    rmk k (S.take (j + 1)) = rmk k (S.take j) ++ [rmk1 (rmkE k (S.take j)) x] ∧ rmkE k (S.take (j + 1)) = nmkE (rmkE k (S.take j) + 1 + 1 + 1 + 1 + 1 + 1) x.2.2.2 := by
  rw [List.take_add_one, hx]
  exact ⟨rmk_app _ _ _, rmkE_app _ _ _⟩

def RMk (S : List Rel) (k : Int) (g n : Nat) (fs : List (List Nat)) (w : World) (s1 i : Value) (wr : World) : Prop :=
  ∃ (j : Nat) (S' : List Rel), j ≤ S.length ∧ i = .int .i64 (j : Int) ∧ s1 = .int .i64 (rmkE k (S.take j)) ∧ S'.take j = rmk k (S.take j) ∧ S'.drop j = S.drop j ∧ S'.length = S.length ∧ RBF wr g n S' fs ∧ Chg (g :: fs.flatten) w wr

abbrev six (W : World) (g o : Nat) (y : Int) (bb : Bool) : World :=
  (((((W.setCell ⟨g, o, none⟩ (.int .i64 y)).setCell ⟨g, o + 1, none⟩ (.int .i64 (y + 1))).setCell ⟨g, o + 2, none⟩ (.int .i64 (y + 1 + 1))).setCell ⟨g, o + 3, none⟩ (.int .i64 (y + 1 + 1 + 1))).setCell ⟨g, o + 4, none⟩ (.int .i64 (y + 1 + 1 + 1 + 1))).setCell ⟨g, o + 5, none⟩ (.bool bb)
theorem six_row {W : World} {g o : Nat} {y : Int} {bb : Bool} {C : Array Value} {t : TypeId} (h : W.heap[g]? = some (.cells C t (0, 0))) :
    (six W g o y bb).heap[g]? = some (.cells ((((((C.setIfInBounds o (.int .i64 y)).setIfInBounds (o + 1) (.int .i64 (y + 1))).setIfInBounds (o + 2) (.int .i64 (y + 1 + 1))).setIfInBounds (o + 3) (.int .i64 (y + 1 + 1 + 1))).setIfInBounds (o + 4) (.int .i64 (y + 1 + 1 + 1 + 1))).setIfInBounds (o + 5) (.bool bb)) t (0, 0)) := by
  have one : ∀ {V : World} {p : Nat} {v : Value} {D : Array Value}, V.heap[g]? = some (.cells D t (0, 0)) → (V.setCell ⟨g, p, none⟩ v).heap[g]? = some (.cells (D.setIfInBounds p v) t (0, 0)) := fun {V p v D} h => by simp [World.setCell, Array.getElem?_modify, h]
  exact one (one (one (one (one (one h)))))
theorem six_far {W : World} {g o q : Nat} {y : Int} {bb : Bool} (hq : q ≠ g) : (six W g o y bb).heap[q]? = W.heap[q]? :=
  (Below.heap_setCell _ _ _ _ (by show q ≠ g; omega)).trans ((Below.heap_setCell _ _ _ _ (by show q ≠ g; omega)).trans ((Below.heap_setCell _ _ _ _ (by show q ≠ g; omega)).trans ((Below.heap_setCell _ _ _ _ (by show q ≠ g; omega)).trans ((Below.heap_setCell _ _ _ _ (by show q ≠ g; omega)).trans (Below.heap_setCell _ _ _ _ (by show q ≠ g; omega))))))
theorem six_size {W : World} {g o : Nat} {y : Int} {bb : Bool} : (six W g o y bb).heap.size = W.heap.size := by simp [six, World.setCell]
set_option maxRecDepth 100000 in
theorem six_in {W w2 : World} {g o n : Nat} {y : Int} {bb : Bool} {t : TypeId} {u : Value} (hs : Shape W g n t) (ho : o + 7 ≤ n) (h6 : W.cell? ⟨g, o + 6, none⟩ = some u) (h2 : w2.heap[g]? = (six W g o y bb).heap[g]?) :
    Shape w2 g n t ∧ (∀ j, j < 7 → w2.cell? ⟨g, o + j, none⟩ = [Value.int .i64 y, .int .i64 (y + 1), .int .i64 (y + 1 + 1), .int .i64 (y + 1 + 1 + 1), .int .i64 (y + 1 + 1 + 1 + 1), .bool bb, u][j]?) ∧ ∀ m, (m < o ∨ o + 7 ≤ m) → w2.cell? ⟨g, m, none⟩ = W.cell? ⟨g, m, none⟩ := by
  obtain ⟨C, h1, hn⟩ := hs
  have k1 := h2.trans (six_row (o := o) (y := y) (bb := bb) h1)
  have k6 : C[o + 6]? = some u := (cell_of_row W g _ C _ (0, 0) h1).symm.trans h6
  refine ⟨⟨_, k1, by simpa using hn⟩, fun j hj => ?_, fun m hm => ?_⟩
  · rw [cell_of_row w2 g _ _ _ (0, 0) k1]
    have : j = 0 ∨ j = 1 ∨ j = 2 ∨ j = 3 ∨ j = 4 ∨ j = 5 ∨ j = 6 := by omega
    rcases this with rfl | rfl | rfl | rfl | rfl | rfl | rfl
    · rw [show o + 0 = o from rfl, Array.getElem?_setIfInBounds_ne (by omega), Array.getElem?_setIfInBounds_ne (by omega), Array.getElem?_setIfInBounds_ne (by omega), Array.getElem?_setIfInBounds_ne (by omega), Array.getElem?_setIfInBounds_ne (by omega), Array.getElem?_setIfInBounds_self_of_lt (by first | omega | (simp; omega))]; rfl
    · rw [Array.getElem?_setIfInBounds_ne (by omega), Array.getElem?_setIfInBounds_ne (by omega), Array.getElem?_setIfInBounds_ne (by omega), Array.getElem?_setIfInBounds_ne (by omega), Array.getElem?_setIfInBounds_self_of_lt (by first | omega | (simp; omega))]; rfl
    · rw [Array.getElem?_setIfInBounds_ne (by omega), Array.getElem?_setIfInBounds_ne (by omega), Array.getElem?_setIfInBounds_ne (by omega), Array.getElem?_setIfInBounds_self_of_lt (by first | omega | (simp; omega))]; rfl
    · rw [Array.getElem?_setIfInBounds_ne (by omega), Array.getElem?_setIfInBounds_ne (by omega), Array.getElem?_setIfInBounds_self_of_lt (by first | omega | (simp; omega))]; rfl
    · rw [Array.getElem?_setIfInBounds_ne (by omega), Array.getElem?_setIfInBounds_self_of_lt (by first | omega | (simp; omega))]; rfl
    · rw [Array.getElem?_setIfInBounds_self_of_lt (by first | omega | (simp; omega))]; rfl
    · rw [Array.getElem?_setIfInBounds_ne (by omega), Array.getElem?_setIfInBounds_ne (by omega), Array.getElem?_setIfInBounds_ne (by omega), Array.getElem?_setIfInBounds_ne (by omega), Array.getElem?_setIfInBounds_ne (by omega), Array.getElem?_setIfInBounds_ne (by omega)]; exact k6
  · rw [cell_of_row w2 g _ _ _ (0, 0) k1, cell_of_row W g _ _ _ (0, 0) h1]
    rw [Array.getElem?_setIfInBounds_ne (by omega), Array.getElem?_setIfInBounds_ne (by omega), Array.getElem?_setIfInBounds_ne (by omega), Array.getElem?_setIfInBounds_ne (by omega), Array.getElem?_setIfInBounds_ne (by omega), Array.getElem?_setIfInBounds_ne (by omega)]

set_option maxRecDepth 100000 in
set_option maxHeartbeats 4000000 in
theorem markRBF (g n cap : Nat) (S : List Rel) (fs : List (List Nat)) (k : Int) (w : World) (hl : S.length ≤ 1048576) (hsz : rlSz S ≤ 1048576) (hk0 : 0 ≤ k) (hk1 : k ≤ 1000000) (h : RBF w g n S fs) (hn : (g :: fs.flatten).Nodup) (hns : ∀ f ∈ fs, f.Nodup) :
    Calls Try.prog 24 #[.slice (some ⟨g, 0, none⟩) S.length cap, .int .i64 k] w fun e w' => e = .returned (.int .i64 (rmkE k S)) ∧ RBF w' g n (rmk k S) fs ∧ Chg (g :: fs.flatten) w w' := by
  have hnl : S.length ≤ n := by obtain ⟨_, _, _, h3, _⟩ := h; exact h3
  have HS := Lib.hid (show RMk S k g n fs w (.int .i64 k) (.int .i64 0) w from ⟨0, S, Nat.zero_le _, rfl, by simp [rmkE], by simp [rmk], rfl, rfl, h, Chg.refl _ _⟩)
  have HN := Lib.hid hn
  have HNs := Lib.hid hns
  have hfl : fs.length = S.length := by obtain ⟨_, _, _, _, h4⟩ := h; exact h4.1
  clear h hn hns
  go_enter Try.func24, Try.ntmps24
  go_wp2
  go_loopw [1, 5] (fun s1 i wr => RMk S k g n fs w s1 i wr) (fun _ i _ => S.length - (intOf i).toNat)
  case atStart => exact HS.out
  case round =>
    obtain ⟨j, S', hj, rfl, rfl, ht, hd, hM, hblk, hch⟩ := hrel
    have hyy := rmkE_take S j k
    by_cases hlt : j < S.length
    · have hx : S[j]? = some S[j] := List.getElem?_eq_getElem hlt
      have hNX := rmk_next hx k
      have hmem := rlSz_mem S j _ hx
      have hlt' := Lib.hid (show j < S'.length by rw [hM]; exact hlt)
      have hS' : S'[j]'hlt'.out = S[j] := by
        have e1 : S'[j]? = (S'.drop j)[0]? := by simp
        have e2 : S[j]? = (S.drop j)[0]? := by simp
        have e3 : S'[j]? = S[j]? := by rw [e1, e2, hd]
        rw [List.getElem?_eq_getElem hlt'.out, List.getElem?_eq_getElem hlt] at e3
        exact Option.some.inj e3
      obtain ⟨a, cp, hc, hs⟩ := hblk.at hlt'.out
      obtain ⟨x, hxx⟩ : ∃ x, S[j] = x := ⟨_, rfl⟩
      obtain ⟨M, hMx⟩ : ∃ M, x.2.2.2 = M := ⟨_, rfl⟩
      rw [hS', hxx, hMx] at hc hs
      rw [hxx, hMx] at hmem
      rw [hxx] at hNX
      have HNX := Lib.hid hNX
      have HM := Lib.hid (show S'[j]'hlt'.out = x ∧ x.2.2.2 = M from ⟨hS'.trans hxx, hMx⟩)
      clear hx hNX hS' hxx hMx
      have hLs : M.length ≤ 1048576 := by omega
      have hLz : ndSz M ≤ 1048576 := by omega
      have hsh := hblk.shape
      generalize hy : rmkE k (S.take j) = y at *
      obtain ⟨bb, hbb⟩ : ∃ bb : Bool, ((y + 1 + 1 + 1 + 1 + 1) % 3 == 0) = bb := ⟨_, rfl⟩
      obtain ⟨⟨z0, hz0⟩, hf0⟩ := hsh.place (show j * 7 < n * 7 by omega)
      obtain ⟨⟨z1, hz1⟩, hf1⟩ := hsh.place (show j * 7 + 1 < n * 7 by omega)
      obtain ⟨⟨z2, hz2⟩, hf2⟩ := hsh.place (show j * 7 + 2 < n * 7 by omega)
      obtain ⟨⟨z3, hz3⟩, hf3⟩ := hsh.place (show j * 7 + 3 < n * 7 by omega)
      obtain ⟨⟨z4, hz4⟩, hf4⟩ := hsh.place (show j * 7 + 4 < n * 7 by omega)
      obtain ⟨⟨z5, hz5⟩, hf5⟩ := hsh.place (show j * 7 + 5 < n * 7 by omega)
      have HF := Lib.hid (show (fs.getD j []).Nodup by rw [List.getD_eq_getElem?_getD, List.getElem?_eq_getElem (show j < fs.length by omega), Option.getD_some]; exact HNs.out _ (List.getElem_mem _))
      have hgn : ∀ b ∈ fs.getD j [], b ≠ g := fun b hb e => (List.nodup_cons.1 HN.out).1 (e ▸ mem_flat hb)
      have HSB := Lib.hid (hs.kept (w' := six wr g (j * 7) y bb) fun b hb => six_far (hgn b hb))
      have HG := Lib.hid hgn
      have HB := Lib.hid hblk
      have HC := Lib.hid hch
      have HY := Lib.hid hy
      have HSH := Lib.hid hsh
      have HT := Lib.hid (show S'.take j = rmk k (S.take j) ∧ S'.drop j = S.drop j ∧ S'.length = S.length from ⟨ht, hd, hM⟩)
      have HCc := Lib.hid hc
      have HBB := Lib.hid hbb
      clear hs hblk hch ht hd hM hy hgn hsh
      go_wp2_with fail
      refine (markNdF hLs hLz HSB.out HF.out _ (by omega) (by omega)).mono ?_
      rintro e w2 ⟨rfl, hs2, ho2⟩
      have HP := Lib.hid (show RMk S k g n fs w (.int .i64 (nmkE (y + 1 + 1 + 1 + 1 + 1 + 1) M)) (.int .i64 ((j : Int) + 1)) w2 by
        have hgl : g < wr.heap.size := HSH.out.lt
        have h2 : w2.heap[g]? = (six wr g (j * 7) y bb).heap[g]? := ho2.block g (by rw [six_size]; exact hgl) (fun e => HG.out g e rfl)
        obtain ⟨s1, s2, s3⟩ := six_in HSH.out (show j * 7 + 7 ≤ n * 7 by omega) HCc.out h2
        have hsf : (S'[j]'hlt'.out).2.2.2.length = M.length := by rw [HM.out.1, HM.out.2]
        refine ⟨j + 1, S'.set j (rmk1 y x), by omega, by go_num, by rw [HNX.out.2, HM.out.2], ?_, ?_, by rw [List.length_set]; exact HT.out.2.2, ?_, ?_⟩
        · rw [HNX.out.1, List.take_add_one, List.take_set_of_le (Nat.le_refl _), HT.out.1, List.getElem?_set_self hlt'.out]
          rfl
        · rw [drop_set]
          have := congrArg (fun l => l.drop 1) HT.out.2.1
          simpa using this
        · refine HB.out.set (a := a) (cap := cp) HN.out hlt'.out (x' := rmk1 y x) ?_ s1 ?_ s3 ?_ fun b hb hb' => ?_
          · show (nmk _ x.2.2.2).length = _
            rw [nmk_len, hsf, HM.out.2]
          · intro m hm
            rw [s2 m hm, hsf]
            show _ = [Value.int .i64 y, .int .i64 (y + 1), .int .i64 (y + 1 + 1), .int .i64 (y + 1 + 1 + 1), .int .i64 (y + 1 + 1 + 1 + 1), .bool ((y + 1 + 1 + 1 + 1 + 1) % 3 == 0), .slice a M.length cp][m]?
            rw [HBB.out]
          · rw [hsf]
            show NdF w2 _ (nmk _ x.2.2.2) _
            rw [HM.out.2]
            exact hs2
          · have hbl : b < wr.heap.size := by
              obtain ⟨C, _, _, _, h4⟩ := HB.out
              exact h4.lt b hb
            rw [ho2.block b (by rw [six_size]; exact hbl) hb']
            exact six_far (fun e => (List.nodup_cons.1 HN.out).1 (e ▸ hb))
        · refine Chg.trans (b := six wr g (j * 7) y bb) ((((((HC.out.setCell (List.mem_cons_self ..)).setCell (List.mem_cons_self ..)).setCell (List.mem_cons_self ..)).setCell (List.mem_cons_self ..)).setCell (List.mem_cons_self ..)).setCell (List.mem_cons_self ..)) (ho2.wide fun b hb => List.mem_cons_of_mem _ (mem_flat hb)))
      clear ho2 hs2
      go_wp2_with fail
      go_roundw
      case rel => exact HP.out
      case measure => simp [intOf]; omega
    · obtain rfl : j = S.length := by omega
      rw [List.take_length] at ht hyy ⊢
      have hMM : S' = rmk k S := by
        rw [← ht, List.take_of_length_le (by omega)]
      subst hMM
      have HB := Lib.hid hblk
      clear hblk ht hd hM
      go_wp2_with fail
      go_ret
      exact ⟨rfl, HB.out, hch⟩
set_option maxRecDepth 100000 in
set_option maxHeartbeats 400000 in
theorem markReleaseS_nil (a : Option Addr) (cap : Nat) (k : Int) (w : World) : Calls Try.prog 24 #[.slice a 0 cap, .int .i64 k] w fun e w' => e = .returned (.int .i64 k) ∧ w = w' := by
  go_enter Try.func24, Try.ntmps24
  go_wp2
  go_loop [1, 5] (fun s1 i => i = .int .i64 0 ∧ s1 = .int .i64 k) (fun _ _ => 0)
  case atStart => exact ⟨rfl, rfl⟩
  case round =>
    obtain ⟨rfl, rfl⟩ := hrel
    go_wp2_with fail
    go_ret
    exact ⟨rfl, rfl⟩

/-- A slice of releases that stands on exactly these blocks, all of them different. -/
def RlF (w : World) (v : Value) (S : List Rel) (F : List Nat) : Prop :=
  ∃ a cap, v = .slice a S.length cap ∧ ((S = [] ∧ F = []) ∨ ∃ g n fs, a = some ⟨g, 0, none⟩ ∧ RBF w g n S fs ∧ (∀ f ∈ fs, f.Nodup) ∧ (g :: fs.flatten).Nodup ∧ F = g :: fs.flatten)
theorem flat_nodup : ∀ {fs : List (List Nat)}, fs.flatten.Nodup → ∀ f ∈ fs, f.Nodup
  | [], _, _, h => by simp at h
  | f :: t, hn, g, h => by
    rw [List.flatten_cons, List.nodup_append] at hn
    rcases List.mem_cons.1 h with rfl | h
    · exact hn.1
    · exact flat_nodup hn.2.1 g h
theorem RGrow.foot {w : World} {B : Nat} {v : Value} {S : List Rel} {fs : List (List Nat)} (h : RGrow w B v S fs) : ∃ F, RlF w v S F ∧ ∀ b ∈ F, B ≤ b ∧ b < w.heap.size := by
  obtain ⟨cs, ⟨hl, ho⟩, he, hn, hi⟩ := h
  rcases ho with ⟨rfl, h0⟩ | ⟨g, cap, cur, rfl, hb, hg, hnc, hcm, hcs, htk⟩
  · obtain rfl : S = [] := List.eq_nil_of_length_eq_zero h0
    exact ⟨[], ⟨none, 0, rfl, .inl ⟨rfl, rfl⟩⟩, by simp⟩
  · refine ⟨g :: fs.flatten, ⟨_, cap, rfl, .inr ⟨g, cap, fs, rfl, ⟨cur, hg, hcs, hnc, ⟨he.1, fun i hk => ?_⟩⟩, flat_nodup hn, List.nodup_cons.2 ⟨fun k => (hi g k).2.2 rfl, hn⟩, rfl⟩⟩, fun b k => ?_⟩
    · obtain ⟨a, c, h2, h3⟩ := he.2 i hk
      refine ⟨a, c, fun j hj => ?_, h3⟩
      have := h2 j hj
      rw [← htk, List.getElem?_take, if_pos (by omega)] at this
      exact this
    · rcases List.mem_cons.1 k with rfl | k
      · exact ⟨hb, (Array.getElem?_eq_some_iff.1 hg).1⟩
      · exact ⟨(hi b k).1, (hi b k).2.1⟩
theorem RlF.kept {w w' : World} {v : Value} {S : List Rel} {F : List Nat} (h : RlF w v S F) (hb : ∀ b ∈ F, w'.heap[b]? = w.heap[b]?) : RlF w' v S F := by
  obtain ⟨a, cap, rfl, h⟩ := h
  refine ⟨a, cap, rfl, ?_⟩
  rcases h with h | ⟨g, n, fs, rfl, ⟨C, h1, h2, h3, h4⟩, hns, hn, rfl⟩
  · exact .inl h
  · exact .inr ⟨g, n, fs, rfl, ⟨C, (hb g (by simp)).trans h1, h2, h3, h4.kept fun b k => hb b (List.mem_cons_of_mem _ k)⟩, hns, hn, rfl⟩
theorem RlF.at {w : World} {v : Value} {S : List Rel} {F : List Nat} (h : RlF w v S F) : RlAt w w.heap.size v S := by
  obtain ⟨a, cap, rfl, h⟩ := h
  rcases h with ⟨rfl, _⟩ | ⟨g, n, fs, rfl, ⟨C, h1, h2, h3, h4⟩, hns, hn, rfl⟩
  · exact ⟨a, cap, rfl, .inl rfl⟩
  · refine ⟨_, cap, rfl, .inr ⟨g, 0, rfl, (Array.getElem?_eq_some_iff.1 h1).1, fun i hi => ?_⟩⟩
    obtain ⟨a, c, q1, q2⟩ := h4.2 i hi
    have k : ∀ j, j < 7 → w.cell? ⟨g, 0 + i * 7 + j, none⟩ = (relc S[i] (.slice a S[i].2.2.2.length c))[j]? := fun j hj => by
      rw [Nat.zero_add]
      exact (cell_of_row w g _ C _ (0, 0) h1).trans (by simpa using q1 j hj)
    exact ⟨⟨k 0 (by omega), k 1 (by omega), k 2 (by omega), k 3 (by omega), k 4 (by omega), k 5 (by omega)⟩, a, c, k 6 (by omega), q2.at⟩
set_option maxRecDepth 100000 in
theorem markRlF {S : List Rel} {F : List Nat} {u : Value} {w : World} (hl : S.length ≤ 1048576) (hsz : rlSz S ≤ 1048576) (h : RlF w u S F) (k : Int) (hk0 : 0 ≤ k) (hk1 : k ≤ 1000000) :
    Calls Try.prog 24 #[u, .int .i64 k] w fun e w' => e = .returned (.int .i64 (rmkE k S)) ∧ RlF w' u (rmk k S) F ∧ Chg F w w' := by
  obtain ⟨a, cap, rfl, h⟩ := h
  rcases h with ⟨rfl, rfl⟩ | ⟨g, n, fs, rfl, hb, hns, hn, rfl⟩
  · refine (markReleaseS_nil a cap k w).mono ?_
    rintro e w' ⟨rfl, rfl⟩
    exact ⟨rfl, ⟨a, cap, rfl, .inl ⟨rfl, rfl⟩⟩, Chg.refl _ _⟩
  · refine (markRBF g n cap S fs k w hl hsz hk0 hk1 hb hn hns).mono ?_
    rintro e w' ⟨rfl, hb', hc⟩
    exact ⟨rfl, ⟨some ⟨g, 0, none⟩, cap, by rw [rmk_len], .inr ⟨g, n, fs, rfl, hb', hns, hn, rfl⟩⟩, hc⟩
end Foot
end Go.Proofs.Ythbfhalciioehaa
