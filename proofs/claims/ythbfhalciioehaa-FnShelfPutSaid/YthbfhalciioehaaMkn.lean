/- What marking a grown row of needs does, over this seat's translation: each cell holds its number, nothing is changed but the row's own blocks, and the marks are held then. Condition: at most 1048576 needs, and spans of all of them. -/
import Derived.Test.YthbfhalciioehaaMarkr
import Derived.Test.YthbfhalciioehaaGf
namespace Go.Proofs.Ythbfhalciioehaa
open Go.RowKit Go.Sort

namespace Foot
/-- Nothing has changed but new blocks and those of a list. -/
structure Chg (F : List Nat) (w w' : World) : Prop where
  os : w'.os = w.os
  tape : w'.tape = w.tape
  output : w'.output = w.output
  size : w.heap.size ≤ w'.heap.size
  block : ∀ k, k < w.heap.size → k ∉ F → w'.heap[k]? = w.heap[k]?
theorem Chg.refl (F : List Nat) (w : World) : Chg F w w := ⟨rfl, rfl, rfl, Nat.le_refl _, fun _ _ _ => rfl⟩
theorem Chg.trans {F : List Nat} {a b c : World} (h : Chg F a b) (k : Chg F b c) : Chg F a c :=
  ⟨k.os.trans h.os, k.tape.trans h.tape, k.output.trans h.output, Nat.le_trans h.size k.size, fun j j1 j2 => (k.block j (Nat.lt_of_lt_of_le j1 h.size) j2).trans (h.block j j1 j2)⟩
theorem Chg.wide {F G : List Nat} {a b : World} (h : Chg F a b) (hs : ∀ x ∈ F, x ∈ G) : Chg G a b :=
  ⟨h.os, h.tape, h.output, h.size, fun j j1 j2 => h.block j j1 (fun k => j2 (hs j k))⟩
theorem Chg.setCell {F : List Nat} {a b : World} (h : Chg F a b) {g o : Nat} {v : Value} (hg : g ∈ F) : Chg F a (b.setCell ⟨g, o, none⟩ v) :=
  ⟨h.os, h.tape, h.output, by simpa [World.setCell] using h.size, fun j j1 j2 => (Below.heap_setCell _ _ _ _ (by show j ≠ g; intro e; exact j2 (e ▸ hg))).trans (h.block j j1 j2)⟩
theorem Chg.out {F : List Nat} {a b : World} {lo hi : Nat} (h : Chg F a b) (hF : ∀ x ∈ F, lo ≤ x ∧ x < hi) : Out lo hi a b :=
  ⟨h.os, h.tape, h.output, h.size, fun j j1 j2 => h.block j j1 (fun k => by have := hF j k; omega)⟩
theorem Chg.ofGrown {a b : World} {g : Nat} (h : a.grownBy b (some g)) : Chg [g] a b :=
  ⟨h.os, h.tape, h.output, h.size, fun j j1 j2 => h.block j j1 (fun e => by injection e with e; subst e; simp at j2)⟩

theorem flat_ne : ∀ {fs : List (List Nat)}, fs.flatten.Nodup → ∀ {i j b : Nat}, b ∈ fs.getD i [] → b ∈ fs.getD j [] → i = j
  | [], _, i, j, b, hi, _ => by simp at hi
  | f :: t, hn, i, j, b, hi, hj => by
    rw [List.flatten_cons, List.nodup_append] at hn
    obtain ⟨_, hn2, hn3⟩ := hn
    cases i with
    | zero =>
      cases j with
      | zero => rfl
      | succ j => exact absurd rfl (hn3 b (by simpa using hi) b (mem_flat (i := j) (by simpa using hj)))
    | succ i =>
      cases j with
      | zero => exact absurd rfl (hn3 b (by simpa using hj) b (mem_flat (i := i) (by simpa using hi)))
      | succ j => rw [flat_ne hn2 (i := i) (j := j) (b := b) (by simpa using hi) (by simpa using hj)]

set_option maxRecDepth 100000 in
theorem markSpF {L : Sps} {F : List Nat} {u : Value} {w : World} (hl : L.length ≤ 1048576) (h : SpF w u L F) (k : Int) (hk0 : 0 ≤ k) (hk1 : k ≤ 1000000000) :
    Calls Try.prog 74 #[u, .int .i64 k] w fun e w' => e = .returned (.int .i64 (k + 2 * L.length)) ∧ SpF w' u (marks k L.length) F ∧ Chg F w w' := by
  obtain ⟨a, cap, rfl, h⟩ := h
  rcases h with ⟨rfl, rfl⟩ | ⟨g, n, rfl, rfl, hb⟩
  · refine (markSpanS_nil a cap k w).mono ?_
    rintro e w' ⟨rfl, rfl⟩
    exact ⟨by simp, ⟨a, cap, rfl, .inl ⟨rfl, rfl⟩⟩, Chg.refl _ _⟩
  · refine (markSpanS_any g n cap L k w hl hk0 hk1 hb).mono ?_
    rintro e w' ⟨rfl, hb', hg⟩
    exact ⟨rfl, ⟨some ⟨g, 0, none⟩, cap, by rw [marks_len], .inr ⟨g, n, rfl, rfl, hb'⟩⟩, Chg.ofGrown hg⟩

theorem NEl.set {w w' : World} {cs : List Value} {M : List Nd} {fs : List (List Nat)} {i cap : Nat} {a : Option Addr} {x : Int} {L : Sps} (h : NEl w cs M fs) (hn : fs.flatten.Nodup) (hi : i < M.length) (hcl : M.length * 2 ≤ cs.length)
    (hL : L.length = M[i].2.length) (hc : cs[i * 2 + 1]? = some (.slice a M[i].2.length cap)) (hs : SpF w' (.slice a M[i].2.length cap) L (fs.getD i [])) (hb : ∀ b ∈ fs.flatten, b ∉ fs.getD i [] → w'.heap[b]? = w.heap[b]?) :
    NEl w' (cs.set (i * 2) (.int .i64 x)) (M.set i (x, L)) fs := by
  refine ⟨by rw [List.length_set]; exact h.1, fun j hj => ?_⟩
  have hj' : j < M.length := by simpa using hj
  obtain ⟨h1, a', c', h2, h3⟩ := h.2 j hj'
  by_cases e : j = i
  · subst e
    rw [List.getElem_set_self]
    refine ⟨List.getElem?_set_self (by omega), a, cap, ?_, ?_⟩
    · rw [List.getElem?_set_ne (by omega)]
      show _ = some (Value.slice a L.length cap)
      rw [hL]
      exact hc
    · show SpF w' (.slice a L.length cap) L _
      rw [hL]
      exact hs
  · rw [List.getElem_set_ne (fun k => e k.symm)]
    exact ⟨by rw [List.getElem?_set_ne (by omega)]; exact h1, a', c', by rw [List.getElem?_set_ne (by omega)]; exact h2, h3.kept fun b hb' => hb b (mem_flat hb') (fun k => e (flat_ne hn hb' k))⟩

/-- A block that is a row of n needs, the first of which are M, over their footprints. -/
def NBF (w : World) (g n : Nat) (M : List Nd) (fs : List (List Nat)) : Prop :=
  ∃ C : Array Value, w.heap[g]? = some (.cells C 95 (0, 0)) ∧ C.size = n * 2 ∧ M.length ≤ n ∧ NEl w C.toList M fs
theorem NBF.shape {w : World} {g n : Nat} {M : List Nd} {fs : List (List Nat)} (h : NBF w g n M fs) : Shape w g (n * 2) 95 := by
  obtain ⟨C, h1, h2, _⟩ := h
  exact ⟨C, h1, h2⟩
theorem NBF.at {w : World} {g n i : Nat} {M : List Nd} {fs : List (List Nat)} (h : NBF w g n M fs) (hi : i < M.length) :
    ∃ a cap, w.cell? ⟨g, i * 2 + 1, none⟩ = some (.slice a M[i].2.length cap) ∧ SpF w (.slice a M[i].2.length cap) M[i].2 (fs.getD i []) := by
  obtain ⟨C, h1, h2, h3, h4⟩ := h
  obtain ⟨_, a, cap, k2, k3⟩ := h4.2 i hi
  exact ⟨a, cap, (cell_of_row w g _ C _ (0, 0) h1).trans (by simpa using k2), k3⟩
theorem NBF.set {w w2 : World} {g n i cap : Nat} {M : List Nd} {fs : List (List Nat)} {a : Option Addr} {x : Int} {L : Sps} (h : NBF w g n M fs) (hn : (g :: fs.flatten).Nodup) (hi : i < M.length) (hL : L.length = M[i].2.length)
    (hc : w.cell? ⟨g, i * 2 + 1, none⟩ = some (.slice a M[i].2.length cap)) (hs : SpF w2 (.slice a M[i].2.length cap) L (fs.getD i [])) (hch : Chg (fs.getD i []) (w.setCell ⟨g, i * 2, none⟩ (.int .i64 x)) w2) :
    NBF w2 g n (M.set i (x, L)) fs := by
  obtain ⟨C, h1, h2, h3, h4⟩ := h
  obtain ⟨hg, hn'⟩ := List.nodup_cons.1 hn
  have hlt : g < w.heap.size := (Array.getElem?_eq_some_iff.1 h1).1
  have hsz : (w.setCell ⟨g, i * 2, none⟩ (.int .i64 x)).heap.size = w.heap.size := by simp [World.setCell]
  have hcl : M.length * 2 ≤ C.toList.length := by
    have e : C.toList.length = C.size := rfl
    omega
  refine ⟨C.setIfInBounds (i * 2) (.int .i64 x), ?_, by simpa using h2, by simpa using h3, ?_⟩
  · rw [hch.block g (by omega) (fun k => hg (mem_flat k))]
    simp [World.setCell, Array.getElem?_modify, h1]
  · rw [Array.toList_setIfInBounds]
    refine h4.set hn' hi hcl hL ?_ hs fun b hb hb' => ?_
    · have := (cell_of_row w g (i * 2 + 1) C _ (0, 0) h1).symm.trans hc
      simpa using this
    · have hbl := h4.lt b hb
      rw [hch.block b (by omega) hb']
      exact Below.heap_setCell _ _ _ _ (by show b ≠ g; intro e; exact hg (e ▸ hb))

/-- Needs with the marks that are written, from a number on, and the number behind them. -/
def nmk (k : Int) : List Nd → List Nd
  | [] => []
  | q :: t => (k, marks (k + 1) q.2.length) :: nmk (k + 1 + 2 * q.2.length) t
def nmkE (k : Int) : List Nd → Int
  | [] => k
  | q :: t => nmkE (k + 1 + 2 * q.2.length) t
theorem nmk_app : ∀ (A B : List Nd) (k : Int), nmk k (A ++ B) = nmk k A ++ nmk (nmkE k A) B
  | [], _, _ => rfl
  | q :: t, B, k => by simp only [List.cons_append, nmk, nmkE]; rw [nmk_app t B]
theorem nmkE_app : ∀ (A B : List Nd) (k : Int), nmkE k (A ++ B) = nmkE (nmkE k A) B
  | [], _, _ => rfl
  | q :: t, B, k => by simp only [List.cons_append, nmkE]; rw [nmkE_app t B]
theorem nmk_len : ∀ (M : List Nd) (k : Int), (nmk k M).length = M.length
  | [], _ => rfl
  | q :: t, k => by simp only [nmk, List.length_cons]; rw [nmk_len t]
theorem nmkE_eq : ∀ (M : List Nd) (k : Int), nmkE k M = k + M.length + 2 * (ndSz M : Int)
  | [], k => by simp [nmkE, ndSz]
  | q :: t, k => by simp only [nmkE, ndSz, List.length_cons]; rw [nmkE_eq t]; omega
theorem ndSz_take : ∀ (M : List Nd) (j : Nat), ndSz (M.take j) ≤ ndSz M
  | [], j => by simp
  | q :: t, 0 => by simp [ndSz]
  | q :: t, j + 1 => by
    simp only [List.take_succ_cons, ndSz]
    have := ndSz_take t j
    omega
theorem nmkE_take (M : List Nd) (j : Nat) (k : Int) : k ≤ nmkE k (M.take j) ∧ nmkE k (M.take j) ≤ k + M.length + 2 * (ndSz M : Int) := by
  rw [nmkE_eq]
  have := ndSz_take M j
  have : (M.take j).length ≤ M.length := by simp; omega
  omega
theorem nmk_next {M : List Nd} {j : Nat} {x : Nd} (hx : M[j]? = some x) (k : Int) :
    nmk k (M.take (j + 1)) = nmk k (M.take j) ++ [(nmkE k (M.take j), marks (nmkE k (M.take j) + 1) x.2.length)] ∧ nmkE k (M.take (j + 1)) = nmkE k (M.take j) + 1 + 2 * x.2.length := by
  rw [List.take_add_one, hx]
  exact ⟨nmk_app _ _ _, nmkE_app _ _ _⟩
theorem drop_set {α : Type} (l : List α) (j : Nat) (x : α) : (l.set j x).drop (j + 1) = l.drop (j + 1) := by
  apply List.ext_getElem?
  intro i
  rw [List.getElem?_drop, List.getElem?_drop, List.getElem?_set_ne (by omega)]

def NMk (M : List Nd) (k : Int) (g n : Nat) (fs : List (List Nat)) (w : World) (s1 i : Value) (wr : World) : Prop :=
  ∃ (j : Nat) (M' : List Nd), j ≤ M.length ∧ i = .int .i64 (j : Int) ∧ s1 = .int .i64 (nmkE k (M.take j)) ∧ M'.take j = nmk k (M.take j) ∧ M'.drop j = M.drop j ∧ M'.length = M.length ∧ NBF wr g n M' fs ∧ Chg (g :: fs.flatten) w wr

set_option maxRecDepth 100000 in
set_option maxHeartbeats 2000000 in
theorem markNBF (g n cap : Nat) (M : List Nd) (fs : List (List Nat)) (k : Int) (w : World) (hl : M.length ≤ 1048576) (hsz : ndSz M ≤ 1048576) (hk0 : 0 ≤ k) (hk1 : k ≤ 500000000) (h : NBF w g n M fs) (hn : (g :: fs.flatten).Nodup) :
    Calls Try.prog 25 #[.slice (some ⟨g, 0, none⟩) M.length cap, .int .i64 k] w fun e w' => e = .returned (.int .i64 (nmkE k M)) ∧ NBF w' g n (nmk k M) fs ∧ Chg (g :: fs.flatten) w w' := by
  have hnl : M.length ≤ n := by obtain ⟨_, _, _, h3, _⟩ := h; exact h3
  have HS := Lib.hid (show NMk M k g n fs w (.int .i64 k) (.int .i64 0) w from ⟨0, M, Nat.zero_le _, rfl, by simp [nmkE], by simp [nmk], rfl, rfl, h, Chg.refl _ _⟩)
  have HN := Lib.hid hn
  clear h hn
  go_enter Try.func25, Try.ntmps25
  go_wp2
  go_loopw [1, 5] (fun s1 i wr => NMk M k g n fs w s1 i wr) (fun _ i _ => M.length - (intOf i).toNat)
  case atStart => exact HS.out
  case round =>
    obtain ⟨j, M', hj, rfl, rfl, ht, hd, hM, hblk, hch⟩ := hrel
    have hyy := nmkE_take M j k
    by_cases hlt : j < M.length
    · have hx : M[j]? = some M[j] := List.getElem?_eq_getElem hlt
      have hNX := Lib.hid (nmk_next hx k)
      have hlt' := Lib.hid (show j < M'.length by rw [hM]; exact hlt)
      have hM' : M'[j]'hlt'.out = M[j] := by
        have e1 : M'[j]? = (M'.drop j)[0]? := by simp
        have e2 : M[j]? = (M.drop j)[0]? := by simp
        have e3 : M'[j]? = M[j]? := by rw [e1, e2, hd]
        rw [List.getElem?_eq_getElem hlt'.out, List.getElem?_eq_getElem hlt] at e3
        exact Option.some.inj e3
      obtain ⟨a, cp, hc, hs⟩ := hblk.at hlt'.out
      have hmem := ndSz_mem M j _ hx
      obtain ⟨L, hL⟩ : ∃ L, M[j].2 = L := ⟨_, rfl⟩
      rw [hM', hL] at hc hs
      rw [hL] at hmem
      have hNX' := hNX.out
      rw [hL] at hNX'
      have HNX := Lib.hid hNX'
      have HM := Lib.hid (show M'[j]'hlt'.out = M[j] ∧ M[j].2 = L from ⟨hM', hL⟩)
      clear hx hNX hNX' hM' hL
      have hLs : L.length ≤ 1048576 := by omega
      obtain ⟨⟨z, hz⟩, hf⟩ := hblk.shape.place (show j * 2 < n * 2 by omega)
      generalize hy : nmkE k (M.take j) = y at *
      have hgo : g < wr.heap.size := hblk.shape.lt
      have HY := Lib.hid hy
      have HSB := Lib.hid (hs.kept (w' := wr.setCell ⟨g, j * 2, none⟩ (.int .i64 y)) fun b hb => Below.heap_setCell _ _ _ _ (by show b ≠ g; intro e; exact (List.nodup_cons.1 HN.out).1 (e ▸ mem_flat hb)))
      have HB := Lib.hid hblk
      have HC := Lib.hid hch
      have HT := Lib.hid (show M'.take j = nmk k (M.take j) ∧ M'.drop j = M.drop j ∧ M'.length = M.length from ⟨ht, hd, hM⟩)
      have HCc := Lib.hid hc
      clear hs hblk hch ht hd hM hy
      go_wp2_with fail
      refine (markSpF hLs HSB.out (y + 1) (by omega) (by omega)).mono ?_
      rintro e w2 ⟨rfl, hs2, ho2⟩
      have HP := Lib.hid (show NMk M k g n fs w (.int .i64 (y + 1 + 2 * (L.length : Int))) (.int .i64 ((j : Int) + 1)) w2 by
        have hms : (marks (y + 1) L.length).length = (M'[j]'hlt'.out).2.length := by rw [marks_len, HM.out.1, HM.out.2]
        have hsf : (M'[j]'hlt'.out).2.length = L.length := by rw [HM.out.1, HM.out.2]
        refine ⟨j + 1, M'.set j (y, marks (y + 1) L.length), by omega, by go_num, by rw [HNX.out.2], ?_, ?_, by rw [List.length_set]; exact HT.out.2.2, ?_, ?_⟩
        · rw [HNX.out.1, List.take_add_one, List.take_set_of_le (Nat.le_refl _), HT.out.1, List.getElem?_set_self hlt'.out]
          rfl
        · rw [drop_set]
          have := congrArg (fun l => l.drop 1) HT.out.2.1
          simpa using this
        · refine HB.out.set (a := a) (cap := cp) HN.out hlt'.out hms ?_ ?_ ho2
          · rw [hsf]; exact HCc.out
          · rw [hsf]; exact hs2
        · exact (HC.out.setCell (List.mem_cons_self ..)).trans (ho2.wide fun b hb => List.mem_cons_of_mem _ (mem_flat hb)))
      clear ho2 hs2
      go_wp2_with fail
      go_roundw
      case rel => exact HP.out
      case measure => simp [intOf]; omega
    · obtain rfl : j = M.length := by omega
      rw [List.take_length] at ht hyy ⊢
      have hMM : M' = nmk k M := by
        rw [← ht, List.take_of_length_le (by omega)]
      subst hMM
      have HB := Lib.hid hblk
      clear hblk ht hd hM
      go_wp2_with fail
      go_ret
      exact ⟨rfl, HB.out, hch⟩

theorem NdF.blk {w : World} {u : Value} {M : List Nd} {F : List Nat} (h : NdF w u M F) : ∃ a cap, u = .slice a M.length cap ∧ ((M = [] ∧ F = []) ∨ ∃ g n fs, a = some ⟨g, 0, none⟩ ∧ NBF w g n M fs ∧ F = g :: fs.flatten) := by
  obtain ⟨a, cap, rfl, h⟩ := h
  refine ⟨a, cap, rfl, ?_⟩
  rcases h with h | ⟨g, n, C, fs, rfl, hg, hc, hn, he, rfl⟩
  · exact .inl h
  · exact .inr ⟨g, n, fs, rfl, ⟨C, hg, hc, hn, he⟩, rfl⟩
set_option maxRecDepth 100000 in
theorem markNdF {M : List Nd} {F : List Nat} {u : Value} {w : World} (hl : M.length ≤ 1048576) (hsz : ndSz M ≤ 1048576) (h : NdF w u M F) (hn : F.Nodup) (k : Int) (hk0 : 0 ≤ k) (hk1 : k ≤ 500000000) :
    Calls Try.prog 25 #[u, .int .i64 k] w fun e w' => e = .returned (.int .i64 (nmkE k M)) ∧ NdF w' u (nmk k M) F ∧ Chg F w w' := by
  obtain ⟨a, cap, rfl, hk⟩ := h.blk
  clear h
  rcases hk with ⟨rfl, rfl⟩ | ⟨g, n, fs, rfl, hb, rfl⟩
  · refine (markNeedS_nil a cap k w).mono ?_
    rintro e w' ⟨rfl, rfl⟩
    exact ⟨rfl, ⟨a, cap, rfl, .inl ⟨rfl, rfl⟩⟩, Chg.refl _ _⟩
  · refine (markNBF g n cap M fs k w hl hsz hk0 hk1 hb hn).mono ?_
    rintro e w' ⟨rfl, ⟨C, h1, h2, h3, h4⟩, hc⟩
    exact ⟨rfl, ⟨some ⟨g, 0, none⟩, cap, by rw [nmk_len], .inr ⟨g, n, C, fs, rfl, h1, h2, h3, h4, rfl⟩⟩, hc⟩
end Foot
end Go.Proofs.Ythbfhalciioehaa
