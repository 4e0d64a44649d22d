/- Groundwork over this seat's translation: Mkn, Mkl, Mkh, Tmk in one text; the conditions stand at each part. -/
import Derived.Test.YtgnjhmmedogcoaaGt
import Derived.Test.YtgnjhmmedogcoaaGf
import Derived.Test.YtgnjhmmedogcoaaTm

/- What marking a grown row of needs does, over this seat's translation: each cell holds its number, nothing is changed but the row's own blocks, and the marks are held then. Condition: at most 1048576 needs, and spans of all of them. -/
namespace Go.Proofs.Ytgnjhmmedogcoaa
open Go.RowKit Go.Sort

namespace Foot
/-- Nothing has changed but new blocks and those of a list. -/
structure Chg (F : List Nat) (w w' : World) : Prop where
  os : w'.os = w.os
  tape : w'.tape = w.tape
  output : w'.output = w.output
  size : w.heap.size ≤ w'.heap.size
  block : ∀ k, k < w.heap.size → k ∉ F → w'.heap[k]? = w.heap[k]?
theorem Chg.refl (F : List Nat) (w : World) : Chg F w w := ⟨rfl, rfl, rfl, Nat.le_refl _, fun _ _ _ => rfl⟩
theorem Chg.trans {F : List Nat} {a b c : World} (h : Chg F a b) (k : Chg F b c) : Chg F a c :=
  ⟨k.os.trans h.os, k.tape.trans h.tape, k.output.trans h.output, Nat.le_trans h.size k.size, fun j j1 j2 => (k.block j (Nat.lt_of_lt_of_le j1 h.size) j2).trans (h.block j j1 j2)⟩
theorem Chg.wide {F G : List Nat} {a b : World} (h : Chg F a b) (hs : ∀ x ∈ F, x ∈ G) : Chg G a b :=
  ⟨h.os, h.tape, h.output, h.size, fun j j1 j2 => h.block j j1 (fun k => j2 (hs j k))⟩
theorem Chg.setCell {F : List Nat} {a b : World} (h : Chg F a b) {g o : Nat} {v : Value} (hg : g ∈ F) : Chg F a (b.setCell ⟨g, o, none⟩ v) :=
  ⟨h.os, h.tape, h.output, by simpa [World.setCell] using h.size, fun j j1 j2 => (Below.heap_setCell _ _ _ _ (by show j ≠ g; intro e; exact j2 (e ▸ hg))).trans (h.block j j1 j2)⟩
theorem Chg.out {F : List Nat} {a b : World} {lo hi : Nat} (h : Chg F a b) (hF : ∀ x ∈ F, lo ≤ x ∧ x < hi) : Out lo hi a b :=
  ⟨h.os, h.tape, h.output, h.size, fun j j1 j2 => h.block j j1 (fun k => by have := hF j k; omega)⟩
theorem Chg.ofGrown {a b : World} {g : Nat} (h : a.grownBy b (some g)) : Chg [g] a b :=
  ⟨h.os, h.tape, h.output, h.size, fun j j1 j2 => h.block j j1 (fun e => by injection e with e; subst e; simp at j2)⟩

theorem flat_ne : ∀ {fs : List (List Nat)}, fs.flatten.Nodup → ∀ {i j b : Nat}, b ∈ fs.getD i [] → b ∈ fs.getD j [] → i = j
  | [], _, i, j, b, hi, _ => by simp at hi
  | f :: t, hn, i, j, b, hi, hj => by
    rw [List.flatten_cons, List.nodup_append] at hn
    obtain ⟨_, hn2, hn3⟩ := hn
    cases i with
    | zero =>
      cases j with
      | zero => rfl
      | succ j => exact absurd rfl (hn3 b (by simpa using hi) b (mem_flat (i := j) (by simpa using hj)))
    | succ i =>
      cases j with
      | zero => exact absurd rfl (hn3 b (by simpa using hj) b (mem_flat (i := i) (by simpa using hi)))
      | succ j => rw [flat_ne hn2 (i := i) (j := j) (b := b) (by simpa using hi) (by simpa using hj)]

set_option maxRecDepth 100000 in
theorem markSpF {L : Sps} {F : List Nat} {u : Value} {w : World} (hl : L.length ≤ 1048576) (h : SpF w u L F) (k : Int) (hk0 : 0 ≤ k) (hk1 : k ≤ 1000000000) :
    Calls Try.prog 63 #[u, .int .i64 k] w fun e w' => e = .returned (.int .i64 (k + 2 * L.length)) ∧ SpF w' u (marks k L.length) F ∧ Chg F w w' := by
  obtain ⟨a, cap, rfl, h⟩ := h
  rcases h with ⟨rfl, rfl⟩ | ⟨g, n, rfl, rfl, hb⟩
  · refine (markSpanS_nil a cap k w).mono ?_
    rintro e w' ⟨rfl, rfl⟩
    exact ⟨by simp, ⟨a, cap, rfl, .inl ⟨rfl, rfl⟩⟩, Chg.refl _ _⟩
  · refine (markSpanS_any g n cap L k w hl hk0 hk1 hb).mono ?_
    rintro e w' ⟨rfl, hb', hg⟩
    exact ⟨rfl, ⟨some ⟨g, 0, none⟩, cap, by rw [marks_len], .inr ⟨g, n, rfl, rfl, hb'⟩⟩, Chg.ofGrown hg⟩

theorem NEl.set {w w' : World} {cs : List Value} {M : List Nd} {fs : List (List Nat)} {i cap : Nat} {a : Option Addr} {x : Int} {L : Sps} (h : NEl w cs M fs) (hn : fs.flatten.Nodup) (hi : i < M.length) (hcl : M.length * 2 ≤ cs.length)
    (hL : L.length = M[i].2.length) (hc : cs[i * 2 + 1]? = some (.slice a M[i].2.length cap)) (hs : SpF w' (.slice a M[i].2.length cap) L (fs.getD i [])) (hb : ∀ b ∈ fs.flatten, b ∉ fs.getD i [] → w'.heap[b]? = w.heap[b]?) :
    NEl w' (cs.set (i * 2) (.int .i64 x)) (M.set i (x, L)) fs := by
  refine ⟨by rw [List.length_set]; exact h.1, fun j hj => ?_⟩
  have hj' : j < M.length := by simpa using hj
  obtain ⟨h1, a', c', h2, h3⟩ := h.2 j hj'
  by_cases e : j = i
  · subst e
    rw [List.getElem_set_self]
    refine ⟨List.getElem?_set_self (by omega), a, cap, ?_, ?_⟩
    · rw [List.getElem?_set_ne (by omega)]
      show _ = some (Value.slice a L.length cap)
      rw [hL]
      exact hc
    · show SpF w' (.slice a L.length cap) L _
      rw [hL]
      exact hs
  · rw [List.getElem_set_ne (fun k => e k.symm)]
    exact ⟨by rw [List.getElem?_set_ne (by omega)]; exact h1, a', c', by rw [List.getElem?_set_ne (by omega)]; exact h2, h3.kept fun b hb' => hb b (mem_flat hb') (fun k => e (flat_ne hn hb' k))⟩

/-- A block that is a row of n needs, the first of which are M, over their footprints. -/
def NBF (w : World) (g n : Nat) (M : List Nd) (fs : List (List Nat)) : Prop :=
  ∃ C : Array Value, w.heap[g]? = some (.cells C 59 (0, 0)) ∧ C.size = n * 2 ∧ M.length ≤ n ∧ NEl w C.toList M fs
theorem NBF.shape {w : World} {g n : Nat} {M : List Nd} {fs : List (List Nat)} (h : NBF w g n M fs) : Shape w g (n * 2) 59 := by
  obtain ⟨C, h1, h2, _⟩ := h
  exact ⟨C, h1, h2⟩
theorem NBF.at {w : World} {g n i : Nat} {M : List Nd} {fs : List (List Nat)} (h : NBF w g n M fs) (hi : i < M.length) :
    ∃ a cap, w.cell? ⟨g, i * 2 + 1, none⟩ = some (.slice a M[i].2.length cap) ∧ SpF w (.slice a M[i].2.length cap) M[i].2 (fs.getD i []) := by
  obtain ⟨C, h1, h2, h3, h4⟩ := h
  obtain ⟨_, a, cap, k2, k3⟩ := h4.2 i hi
  exact ⟨a, cap, (cell_of_row w g _ C _ (0, 0) h1).trans (by simpa using k2), k3⟩
theorem NBF.set {w w2 : World} {g n i cap : Nat} {M : List Nd} {fs : List (List Nat)} {a : Option Addr} {x : Int} {L : Sps} (h : NBF w g n M fs) (hn : (g :: fs.flatten).Nodup) (hi : i < M.length) (hL : L.length = M[i].2.length)
    (hc : w.cell? ⟨g, i * 2 + 1, none⟩ = some (.slice a M[i].2.length cap)) (hs : SpF w2 (.slice a M[i].2.length cap) L (fs.getD i [])) (hch : Chg (fs.getD i []) (w.setCell ⟨g, i * 2, none⟩ (.int .i64 x)) w2) :
    NBF w2 g n (M.set i (x, L)) fs := by
  obtain ⟨C, h1, h2, h3, h4⟩ := h
  obtain ⟨hg, hn'⟩ := List.nodup_cons.1 hn
  have hlt : g < w.heap.size := (Array.getElem?_eq_some_iff.1 h1).1
  have hsz : (w.setCell ⟨g, i * 2, none⟩ (.int .i64 x)).heap.size = w.heap.size := by simp [World.setCell]
  have hcl : M.length * 2 ≤ C.toList.length := by
    have e : C.toList.length = C.size := rfl
    omega
  refine ⟨C.setIfInBounds (i * 2) (.int .i64 x), ?_, by simpa using h2, by simpa using h3, ?_⟩
  · rw [hch.block g (by omega) (fun k => hg (mem_flat k))]
    simp [World.setCell, Array.getElem?_modify, h1]
  · rw [Array.toList_setIfInBounds]
    refine h4.set hn' hi hcl hL ?_ hs fun b hb hb' => ?_
    · have := (cell_of_row w g (i * 2 + 1) C _ (0, 0) h1).symm.trans hc
      simpa using this
    · have hbl := h4.lt b hb
      rw [hch.block b (by omega) hb']
      exact Below.heap_setCell _ _ _ _ (by show b ≠ g; intro e; exact hg (e ▸ hb))

/-- Needs with the marks that are written, from a number on, and the number behind them. -/
def nmk (k : Int) : List Nd → List Nd
  | [] => []
  | q :: t => (k, marks (k + 1) q.2.length) :: nmk (k + 1 + 2 * q.2.length) t
def nmkE (k : Int) : List Nd → Int
  | [] => k
  | q :: t => nmkE (k + 1 + 2 * q.2.length) t
theorem nmk_app : ∀ (A B : List Nd) (k : Int), nmk k (A ++ B) = nmk k A ++ nmk (nmkE k A) B
  | [], _, _ => rfl
  | q :: t, B, k => by simp only [List.cons_append, nmk, nmkE]; rw [nmk_app t B]
theorem nmkE_app : ∀ (A B : List Nd) (k : Int), nmkE k (A ++ B) = nmkE (nmkE k A) B
  | [], _, _ => rfl
  | q :: t, B, k => by simp only [List.cons_append, nmkE]; rw [nmkE_app t B]
theorem nmk_len : ∀ (M : List Nd) (k : Int), (nmk k M).length = M.length
  | [], _ => rfl
  | q :: t, k => by simp only [nmk, List.length_cons]; rw [nmk_len t]
theorem nmkE_eq : ∀ (M : List Nd) (k : Int), nmkE k M = k + M.length + 2 * (ndSz M : Int)
  | [], k => by simp [nmkE, ndSz]
  | q :: t, k => by simp only [nmkE, ndSz, List.length_cons]; rw [nmkE_eq t]; omega
theorem ndSz_take : ∀ (M : List Nd) (j : Nat), ndSz (M.take j) ≤ ndSz M
  | [], j => by simp
  | q :: t, 0 => by simp [ndSz]
  | q :: t, j + 1 => by
    simp only [List.take_succ_cons, ndSz]
    have := ndSz_take t j
    omega
theorem nmkE_take (M : List Nd) (j : Nat) (k : Int) : k ≤ nmkE k (M.take j) ∧ nmkE k (M.take j) ≤ k + M.length + 2 * (ndSz M : Int) := by
  rw [nmkE_eq]
  have := ndSz_take M j
  have : (M.take j).length ≤ M.length := by simp; omega
  omega
theorem nmk_next {M : List Nd} {j : Nat} {x : Nd} (hx : M[j]? = some x) (k : Int) :
    nmk k (M.take (j + 1)) = nmk k (M.take j) ++ [(nmkE k (M.take j), marks (nmkE k (M.take j) + 1) x.2.length)] ∧ nmkE k (M.take (j + 1)) = nmkE k (M.take j) + 1 + 2 * x.2.length := by
  rw [List.take_add_one, hx]
  exact ⟨nmk_app _ _ _, nmkE_app _ _ _⟩
theorem drop_set {α : Type} (l : List α) (j : Nat) (x : α) : (l.set j x).drop (j + 1) = l.drop (j + 1) := by
  apply List.ext_getElem?
  intro i
  rw [List.getElem?_drop, List.getElem?_drop, List.getElem?_set_ne (by omega)]

def NMk (M : List Nd) (k : Int) (g n : Nat) (fs : List (List Nat)) (w : World) (s1 i : Value) (wr : World) : Prop :=
  ∃ (j : Nat) (M' : List Nd), j ≤ M.length ∧ i = .int .i64 (j : Int) ∧ s1 = .int .i64 (nmkE k (M.take j)) ∧ M'.take j = nmk k (M.take j) ∧ M'.drop j = M.drop j ∧ M'.length = M.length ∧ NBF wr g n M' fs ∧ Chg (g :: fs.flatten) w wr

set_option maxRecDepth 100000 in
set_option maxHeartbeats 2000000 in
theorem markNBF (g n cap : Nat) (M : List Nd) (fs : List (List Nat)) (k : Int) (w : World) (hl : M.length ≤ 1048576) (hsz : ndSz M ≤ 1048576) (hk0 : 0 ≤ k) (hk1 : k ≤ 500000000) (h : NBF w g n M fs) (hn : (g :: fs.flatten).Nodup) :
    Calls Try.prog 20 #[.slice (some ⟨g, 0, none⟩) M.length cap, .int .i64 k] w fun e w' => e = .returned (.int .i64 (nmkE k M)) ∧ NBF w' g n (nmk k M) fs ∧ Chg (g :: fs.flatten) w w' := by
  have hnl : M.length ≤ n := by obtain ⟨_, _, _, h3, _⟩ := h; exact h3
  have HS := Lib.hid (show NMk M k g n fs w (.int .i64 k) (.int .i64 0) w from ⟨0, M, Nat.zero_le _, rfl, by simp [nmkE], by simp [nmk], rfl, rfl, h, Chg.refl _ _⟩)
  have HN := Lib.hid hn
  clear h hn
  go_enter Try.func20, Try.ntmps20
  go_wp2
  go_loopw [1, 5] (fun s1 i wr => NMk M k g n fs w s1 i wr) (fun _ i _ => M.length - (intOf i).toNat)
  case atStart => exact HS.out
  case round =>
    obtain ⟨j, M', hj, rfl, rfl, ht, hd, hM, hblk, hch⟩ := hrel
    have hyy := nmkE_take M j k
    by_cases hlt : j < M.length
    · have hx : M[j]? = some M[j] := List.getElem?_eq_getElem hlt
      have hNX := Lib.hid (nmk_next hx k)
      have hlt' := Lib.hid (show j < M'.length by rw [hM]; exact hlt)
      have hM' : M'[j]'hlt'.out = M[j] := by
        have e1 : M'[j]? = (M'.drop j)[0]? := by simp
        have e2 : M[j]? = (M.drop j)[0]? := by simp
        have e3 : M'[j]? = M[j]? := by rw [e1, e2, hd]
        rw [List.getElem?_eq_getElem hlt'.out, List.getElem?_eq_getElem hlt] at e3
        exact Option.some.inj e3
      obtain ⟨a, cp, hc, hs⟩ := hblk.at hlt'.out
      have hmem := ndSz_mem M j _ hx
      obtain ⟨L, hL⟩ : ∃ L, M[j].2 = L := ⟨_, rfl⟩
      rw [hM', hL] at hc hs
      rw [hL] at hmem
      have hNX' := hNX.out
      rw [hL] at hNX'
      have HNX := Lib.hid hNX'
      have HM := Lib.hid (show M'[j]'hlt'.out = M[j] ∧ M[j].2 = L from ⟨hM', hL⟩)
      clear hx hNX hNX' hM' hL
      have hLs : L.length ≤ 1048576 := by omega
      obtain ⟨⟨z, hz⟩, hf⟩ := hblk.shape.place (show j * 2 < n * 2 by omega)
      generalize hy : nmkE k (M.take j) = y at *
      have hgo : g < wr.heap.size := hblk.shape.lt
      have HY := Lib.hid hy
      have HSB := Lib.hid (hs.kept (w' := wr.setCell ⟨g, j * 2, none⟩ (.int .i64 y)) fun b hb => Below.heap_setCell _ _ _ _ (by show b ≠ g; intro e; exact (List.nodup_cons.1 HN.out).1 (e ▸ mem_flat hb)))
      have HB := Lib.hid hblk
      have HC := Lib.hid hch
      have HT := Lib.hid (show M'.take j = nmk k (M.take j) ∧ M'.drop j = M.drop j ∧ M'.length = M.length from ⟨ht, hd, hM⟩)
      have HCc := Lib.hid hc
      clear hs hblk hch ht hd hM hy
      go_wp2_with fail
      refine (markSpF hLs HSB.out (y + 1) (by omega) (by omega)).mono ?_
      rintro e w2 ⟨rfl, hs2, ho2⟩
      have HP := Lib.hid (show NMk M k g n fs w (.int .i64 (y + 1 + 2 * (L.length : Int))) (.int .i64 ((j : Int) + 1)) w2 by
        have hms : (marks (y + 1) L.length).length = (M'[j]'hlt'.out).2.length := by rw [marks_len, HM.out.1, HM.out.2]
        have hsf : (M'[j]'hlt'.out).2.length = L.length := by rw [HM.out.1, HM.out.2]
        refine ⟨j + 1, M'.set j (y, marks (y + 1) L.length), by omega, by go_num, by rw [HNX.out.2], ?_, ?_, by rw [List.length_set]; exact HT.out.2.2, ?_, ?_⟩
        · rw [HNX.out.1, List.take_add_one, List.take_set_of_le (Nat.le_refl _), HT.out.1, List.getElem?_set_self hlt'.out]
          rfl
        · rw [drop_set]
          have := congrArg (fun l => l.drop 1) HT.out.2.1
          simpa using this
        · refine HB.out.set (a := a) (cap := cp) HN.out hlt'.out hms ?_ ?_ ho2
          · rw [hsf]; exact HCc.out
          · rw [hsf]; exact hs2
        · exact (HC.out.setCell (List.mem_cons_self ..)).trans (ho2.wide fun b hb => List.mem_cons_of_mem _ (mem_flat hb)))
      clear ho2 hs2
      go_wp2_with fail
      go_roundw
      case rel => exact HP.out
      case measure => simp [intOf]; omega
    · obtain rfl : j = M.length := by omega
      rw [List.take_length] at ht hyy ⊢
      have hMM : M' = nmk k M := by
        rw [← ht, List.take_of_length_le (by omega)]
      subst hMM
      have HB := Lib.hid hblk
      clear hblk ht hd hM
      go_wp2_with fail
      go_ret
      exact ⟨rfl, HB.out, hch⟩

theorem NdF.blk {w : World} {u : Value} {M : List Nd} {F : List Nat} (h : NdF w u M F) : ∃ a cap, u = .slice a M.length cap ∧ ((M = [] ∧ F = []) ∨ ∃ g n fs, a = some ⟨g, 0, none⟩ ∧ NBF w g n M fs ∧ F = g :: fs.flatten) := by
  obtain ⟨a, cap, rfl, h⟩ := h
  refine ⟨a, cap, rfl, ?_⟩
  rcases h with h | ⟨g, n, C, fs, rfl, hg, hc, hn, he, rfl⟩
  · exact .inl h
  · exact .inr ⟨g, n, fs, rfl, ⟨C, hg, hc, hn, he⟩, rfl⟩
set_option maxRecDepth 100000 in
theorem markNdF {M : List Nd} {F : List Nat} {u : Value} {w : World} (hl : M.length ≤ 1048576) (hsz : ndSz M ≤ 1048576) (h : NdF w u M F) (hn : F.Nodup) (k : Int) (hk0 : 0 ≤ k) (hk1 : k ≤ 500000000) :
    Calls Try.prog 20 #[u, .int .i64 k] w fun e w' => e = .returned (.int .i64 (nmkE k M)) ∧ NdF w' u (nmk k M) F ∧ Chg F w w' := by
  obtain ⟨a, cap, rfl, hk⟩ := h.blk
  clear h
  rcases hk with ⟨rfl, rfl⟩ | ⟨g, n, fs, rfl, hb, rfl⟩
  · refine (markNeedS_nil a cap k w).mono ?_
    rintro e w' ⟨rfl, rfl⟩
    exact ⟨rfl, ⟨a, cap, rfl, .inl ⟨rfl, rfl⟩⟩, Chg.refl _ _⟩
  · refine (markNBF g n cap M fs k w hl hsz hk0 hk1 hb hn).mono ?_
    rintro e w' ⟨rfl, ⟨C, h1, h2, h3, h4⟩, hc⟩
    exact ⟨rfl, ⟨some ⟨g, 0, none⟩, cap, by rw [nmk_len], .inr ⟨g, n, C, fs, rfl, h1, h2, h3, h4, rfl⟩⟩, hc⟩
end Foot
end Go.Proofs.Ytgnjhmmedogcoaa

/- What marking a grown row of releases does, over this seat's translation: each cell holds its number, nothing is changed but the row's own blocks. Condition: at most 1048576 releases, and needs and spans of all of them. -/
namespace Go.Proofs.Ytgnjhmmedogcoaa
open Go.RowKit Go.Sort

namespace Foot
/-- A block that is a row of n releases, the first of which are S, over their footprints. -/
def RBF (w : World) (g n : Nat) (S : List Rel) (fs : List (List Nat)) : Prop :=
  ∃ C : Array Value, w.heap[g]? = some (.cells C 63 (0, 0)) ∧ C.size = n * 7 ∧ S.length ≤ n ∧ REl w C.toList S fs
theorem RBF.shape {w : World} {g n : Nat} {S : List Rel} {fs : List (List Nat)} (h : RBF w g n S fs) : Shape w g (n * 7) 63 := by
  obtain ⟨C, h1, h2, _⟩ := h
  exact ⟨C, h1, h2⟩
theorem RBF.at {w : World} {g n i : Nat} {S : List Rel} {fs : List (List Nat)} (h : RBF w g n S fs) (hi : i < S.length) :
    ∃ a cap, w.cell? ⟨g, i * 7 + 6, none⟩ = some (.slice a S[i].2.2.2.length cap) ∧ NdF w (.slice a S[i].2.2.2.length cap) S[i].2.2.2 (fs.getD i []) := by
  obtain ⟨C, h1, h2, h3, h4⟩ := h
  obtain ⟨a, cap, k2, k3⟩ := h4.2 i hi
  have := k2 6 (by omega)
  exact ⟨a, cap, (cell_of_row w g _ C _ (0, 0) h1).trans (by simpa using this), k3⟩
theorem REl.lt {w : World} {cs : List Value} {S : List Rel} {fs : List (List Nat)} (h : REl w cs S fs) : ∀ b ∈ fs.flatten, b < w.heap.size := by
  intro b hb
  obtain ⟨l, hl, hb⟩ := List.mem_flatten.1 hb
  obtain ⟨i, hi, rfl⟩ := List.getElem_of_mem hl
  obtain ⟨a, cap, _, hs⟩ := h.2 i (by have := h.1; omega)
  rw [List.getD_eq_getElem?_getD, List.getElem?_eq_getElem hi, Option.getD_some] at hs
  exact hs.lt b hb
set_option maxRecDepth 100000 in
theorem RBF.set {w w2 : World} {g n i cap : Nat} {S : List Rel} {fs : List (List Nat)} {a : Option Addr} {x' : Rel} (h : RBF w g n S fs) (hn : (g :: fs.flatten).Nodup) (hi : i < S.length) (hL : x'.2.2.2.length = S[i].2.2.2.length)
    (hsh : Shape w2 g (n * 7) 63) (hin : ∀ j, j < 7 → w2.cell? ⟨g, i * 7 + j, none⟩ = (relc x' (.slice a S[i].2.2.2.length cap))[j]?) (hout : ∀ m, (m < i * 7 ∨ i * 7 + 7 ≤ m) → w2.cell? ⟨g, m, none⟩ = w.cell? ⟨g, m, none⟩)
    (hs : NdF w2 (.slice a S[i].2.2.2.length cap) x'.2.2.2 (fs.getD i [])) (hb : ∀ b ∈ fs.flatten, b ∉ fs.getD i [] → w2.heap[b]? = w.heap[b]?) : RBF w2 g n (S.set i x') fs := by
  obtain ⟨C, h1, h2, h3, h4⟩ := h
  obtain ⟨C2, k1, k2⟩ := hsh
  obtain ⟨hg, hn'⟩ := List.nodup_cons.1 hn
  refine ⟨C2, k1, k2, by simpa using h3, by rw [List.length_set]; exact h4.1, fun j hj => ?_⟩
  have hj' : j < S.length := by simpa using hj
  have cc : ∀ m, w2.cell? ⟨g, m, none⟩ = C2.toList[m]? := fun m => by rw [cell_of_row w2 g m C2 _ (0, 0) k1, Array.getElem?_toList]
  have c0 : ∀ m, w.cell? ⟨g, m, none⟩ = C.toList[m]? := fun m => by rw [cell_of_row w g m C _ (0, 0) h1, Array.getElem?_toList]
  obtain ⟨a', c', q1, q2⟩ := h4.2 j hj'
  by_cases e : j = i
  · subst e
    rw [List.getElem_set_self]
    refine ⟨a, cap, fun m hm => ?_, ?_⟩
    · rw [← cc, hL]
      exact hin m hm
    · rw [hL]
      exact hs
  · rw [List.getElem_set_ne (fun k => e k.symm)]
    refine ⟨a', c', fun m hm => ?_, q2.kept fun b hb' => hb b (mem_flat hb') (fun k => e (flat_ne hn' hb' k))⟩
    rw [← cc, hout _ (by omega), c0]
    exact q1 m hm

/-- Releases with the marks that are written, from a number on, and the number behind them. -/
def rmk1 (k : Int) (x : Rel) : Rel := (k, (k + 1, k + 1 + 1, k + 1 + 1 + 1, k + 1 + 1 + 1 + 1), ((k + 1 + 1 + 1 + 1 + 1) % 3 == 0), nmk (k + 1 + 1 + 1 + 1 + 1 + 1) x.2.2.2)
def rmk (k : Int) : List Rel → List Rel
  | [] => []
  | q :: t => rmk1 k q :: rmk (nmkE (k + 1 + 1 + 1 + 1 + 1 + 1) q.2.2.2) t
def rmkE (k : Int) : List Rel → Int
  | [] => k
  | q :: t => rmkE (nmkE (k + 1 + 1 + 1 + 1 + 1 + 1) q.2.2.2) t
theorem rmk_app : ∀ (A B : List Rel) (k : Int), rmk k (A ++ B) = rmk k A ++ rmk (rmkE k A) B
  | [], _, _ => rfl
  | q :: t, B, k => by simp only [List.cons_append, rmk, rmkE]; rw [rmk_app t B]
theorem rmkE_app : ∀ (A B : List Rel) (k : Int), rmkE k (A ++ B) = rmkE (rmkE k A) B
  | [], _, _ => rfl
  | q :: t, B, k => by simp only [List.cons_append, rmkE]; rw [rmkE_app t B]
theorem rmk_len : ∀ (S : List Rel) (k : Int), (rmk k S).length = S.length
  | [], _ => rfl
  | q :: t, k => by simp only [rmk, List.length_cons]; rw [rmk_len t]
theorem rmkE_le : ∀ (S : List Rel) (k : Int), k ≤ rmkE k S ∧ rmkE k S ≤ k + 6 * S.length + 2 * (rlSz S : Int)
  | [], k => by simp [rmkE, rlSz]
  | q :: t, k => by
    simp only [rmkE, rlSz, List.length_cons]
    have h1 := rmkE_le t (nmkE (k + 1 + 1 + 1 + 1 + 1 + 1) q.2.2.2)
    rw [nmkE_eq] at h1 ⊢
    omega
theorem rlSz_take : ∀ (S : List Rel) (j : Nat), rlSz (S.take j) ≤ rlSz S
  | [], j => by simp
  | q :: t, 0 => by simp [rlSz]
  | q :: t, j + 1 => by
    simp only [List.take_succ_cons, rlSz]
    have := rlSz_take t j
    omega
theorem rmkE_take (S : List Rel) (j : Nat) (k : Int) : k ≤ rmkE k (S.take j) ∧ rmkE k (S.take j) ≤ k + 6 * S.length + 2 * (rlSz S : Int) := by
  have h := rmkE_le (S.take j) k
  have := rlSz_take S j
  have : (S.take j).length ≤ S.length := by simp; omega
  omega
theorem rmk_next {S : List Rel} {j : Nat} {x : Rel} (hx : S[j]? = some x) (k : Int) :
    rmk k (S.take (j + 1)) = rmk k (S.take j) ++ [rmk1 (rmkE k (S.take j)) x] ∧ rmkE k (S.take (j + 1)) = nmkE (rmkE k (S.take j) + 1 + 1 + 1 + 1 + 1 + 1) x.2.2.2 := by
  rw [List.take_add_one, hx]
  exact ⟨rmk_app _ _ _, rmkE_app _ _ _⟩

def RMk (S : List Rel) (k : Int) (g n : Nat) (fs : List (List Nat)) (w : World) (s1 i : Value) (wr : World) : Prop :=
  ∃ (j : Nat) (S' : List Rel), j ≤ S.length ∧ i = .int .i64 (j : Int) ∧ s1 = .int .i64 (rmkE k (S.take j)) ∧ S'.take j = rmk k (S.take j) ∧ S'.drop j = S.drop j ∧ S'.length = S.length ∧ RBF wr g n S' fs ∧ Chg (g :: fs.flatten) w wr

abbrev six (W : World) (g o : Nat) (y : Int) (bb : Bool) : World :=
  (((((W.setCell ⟨g, o, none⟩ (.int .i64 y)).setCell ⟨g, o + 1, none⟩ (.int .i64 (y + 1))).setCell ⟨g, o + 2, none⟩ (.int .i64 (y + 1 + 1))).setCell ⟨g, o + 3, none⟩ (.int .i64 (y + 1 + 1 + 1))).setCell ⟨g, o + 4, none⟩ (.int .i64 (y + 1 + 1 + 1 + 1))).setCell ⟨g, o + 5, none⟩ (.bool bb)
theorem six_row {W : World} {g o : Nat} {y : Int} {bb : Bool} {C : Array Value} {t : TypeId} (h : W.heap[g]? = some (.cells C t (0, 0))) :
    (six W g o y bb).heap[g]? = some (.cells ((((((C.setIfInBounds o (.int .i64 y)).setIfInBounds (o + 1) (.int .i64 (y + 1))).setIfInBounds (o + 2) (.int .i64 (y + 1 + 1))).setIfInBounds (o + 3) (.int .i64 (y + 1 + 1 + 1))).setIfInBounds (o + 4) (.int .i64 (y + 1 + 1 + 1 + 1))).setIfInBounds (o + 5) (.bool bb)) t (0, 0)) := by
  have one : ∀ {V : World} {p : Nat} {v : Value} {D : Array Value}, V.heap[g]? = some (.cells D t (0, 0)) → (V.setCell ⟨g, p, none⟩ v).heap[g]? = some (.cells (D.setIfInBounds p v) t (0, 0)) := fun {V p v D} h => by simp [World.setCell, Array.getElem?_modify, h]
  exact one (one (one (one (one (one h)))))
theorem six_far {W : World} {g o q : Nat} {y : Int} {bb : Bool} (hq : q ≠ g) : (six W g o y bb).heap[q]? = W.heap[q]? :=
  (Below.heap_setCell _ _ _ _ (by show q ≠ g; omega)).trans ((Below.heap_setCell _ _ _ _ (by show q ≠ g; omega)).trans ((Below.heap_setCell _ _ _ _ (by show q ≠ g; omega)).trans ((Below.heap_setCell _ _ _ _ (by show q ≠ g; omega)).trans ((Below.heap_setCell _ _ _ _ (by show q ≠ g; omega)).trans (Below.heap_setCell _ _ _ _ (by show q ≠ g; omega))))))
theorem six_size {W : World} {g o : Nat} {y : Int} {bb : Bool} : (six W g o y bb).heap.size = W.heap.size := by simp [six, World.setCell]
set_option maxRecDepth 100000 in
theorem six_in {W w2 : World} {g o n : Nat} {y : Int} {bb : Bool} {t : TypeId} {u : Value} (hs : Shape W g n t) (ho : o + 7 ≤ n) (h6 : W.cell? ⟨g, o + 6, none⟩ = some u) (h2 : w2.heap[g]? = (six W g o y bb).heap[g]?) :
    Shape w2 g n t ∧ (∀ j, j < 7 → w2.cell? ⟨g, o + j, none⟩ = [Value.int .i64 y, .int .i64 (y + 1), .int .i64 (y + 1 + 1), .int .i64 (y + 1 + 1 + 1), .int .i64 (y + 1 + 1 + 1 + 1), .bool bb, u][j]?) ∧ ∀ m, (m < o ∨ o + 7 ≤ m) → w2.cell? ⟨g, m, none⟩ = W.cell? ⟨g, m, none⟩ := by
  obtain ⟨C, h1, hn⟩ := hs
  have k1 := h2.trans (six_row (o := o) (y := y) (bb := bb) h1)
  have k6 : C[o + 6]? = some u := (cell_of_row W g _ C _ (0, 0) h1).symm.trans h6
  refine ⟨⟨_, k1, by simpa using hn⟩, fun j hj => ?_, fun m hm => ?_⟩
  · rw [cell_of_row w2 g _ _ _ (0, 0) k1]
    have : j = 0 ∨ j = 1 ∨ j = 2 ∨ j = 3 ∨ j = 4 ∨ j = 5 ∨ j = 6 := by omega
    rcases this with rfl | rfl | rfl | rfl | rfl | rfl | rfl
    · rw [show o + 0 = o from rfl, Array.getElem?_setIfInBounds_ne (by omega), Array.getElem?_setIfInBounds_ne (by omega), Array.getElem?_setIfInBounds_ne (by omega), Array.getElem?_setIfInBounds_ne (by omega), Array.getElem?_setIfInBounds_ne (by omega), Array.getElem?_setIfInBounds_self_of_lt (by first | omega | (simp; omega))]; rfl
    · rw [Array.getElem?_setIfInBounds_ne (by omega), Array.getElem?_setIfInBounds_ne (by omega), Array.getElem?_setIfInBounds_ne (by omega), Array.getElem?_setIfInBounds_ne (by omega), Array.getElem?_setIfInBounds_self_of_lt (by first | omega | (simp; omega))]; rfl
    · rw [Array.getElem?_setIfInBounds_ne (by omega), Array.getElem?_setIfInBounds_ne (by omega), Array.getElem?_setIfInBounds_ne (by omega), Array.getElem?_setIfInBounds_self_of_lt (by first | omega | (simp; omega))]; rfl
    · rw [Array.getElem?_setIfInBounds_ne (by omega), Array.getElem?_setIfInBounds_ne (by omega), Array.getElem?_setIfInBounds_self_of_lt (by first | omega | (simp; omega))]; rfl
    · rw [Array.getElem?_setIfInBounds_ne (by omega), Array.getElem?_setIfInBounds_self_of_lt (by first | omega | (simp; omega))]; rfl
    · rw [Array.getElem?_setIfInBounds_self_of_lt (by first | omega | (simp; omega))]; rfl
    · rw [Array.getElem?_setIfInBounds_ne (by omega), Array.getElem?_setIfInBounds_ne (by omega), Array.getElem?_setIfInBounds_ne (by omega), Array.getElem?_setIfInBounds_ne (by omega), Array.getElem?_setIfInBounds_ne (by omega), Array.getElem?_setIfInBounds_ne (by omega)]; exact k6
  · rw [cell_of_row w2 g _ _ _ (0, 0) k1, cell_of_row W g _ _ _ (0, 0) h1]
    rw [Array.getElem?_setIfInBounds_ne (by omega), Array.getElem?_setIfInBounds_ne (by omega), Array.getElem?_setIfInBounds_ne (by omega), Array.getElem?_setIfInBounds_ne (by omega), Array.getElem?_setIfInBounds_ne (by omega), Array.getElem?_setIfInBounds_ne (by omega)]

set_option maxRecDepth 100000 in
set_option maxHeartbeats 4000000 in
theorem markRBF (g n cap : Nat) (S : List Rel) (fs : List (List Nat)) (k : Int) (w : World) (hl : S.length ≤ 1048576) (hsz : rlSz S ≤ 1048576) (hk0 : 0 ≤ k) (hk1 : k ≤ 1000000) (h : RBF w g n S fs) (hn : (g :: fs.flatten).Nodup) (hns : ∀ f ∈ fs, f.Nodup) :
    Calls Try.prog 19 #[.slice (some ⟨g, 0, none⟩) S.length cap, .int .i64 k] w fun e w' => e = .returned (.int .i64 (rmkE k S)) ∧ RBF w' g n (rmk k S) fs ∧ Chg (g :: fs.flatten) w w' := by
  have hnl : S.length ≤ n := by obtain ⟨_, _, _, h3, _⟩ := h; exact h3
  have HS := Lib.hid (show RMk S k g n fs w (.int .i64 k) (.int .i64 0) w from ⟨0, S, Nat.zero_le _, rfl, by simp [rmkE], by simp [rmk], rfl, rfl, h, Chg.refl _ _⟩)
  have HN := Lib.hid hn
  have HNs := Lib.hid hns
  have hfl : fs.length = S.length := by obtain ⟨_, _, _, _, h4⟩ := h; exact h4.1
  clear h hn hns
  go_enter Try.func19, Try.ntmps19
  go_wp2
  go_loopw [1, 5] (fun s1 i wr => RMk S k g n fs w s1 i wr) (fun _ i _ => S.length - (intOf i).toNat)
  case atStart => exact HS.out
  case round =>
    obtain ⟨j, S', hj, rfl, rfl, ht, hd, hM, hblk, hch⟩ := hrel
    have hyy := rmkE_take S j k
    by_cases hlt : j < S.length
    · have hx : S[j]? = some S[j] := List.getElem?_eq_getElem hlt
      have hNX := rmk_next hx k
      have hmem := rlSz_mem S j _ hx
      have hlt' := Lib.hid (show j < S'.length by rw [hM]; exact hlt)
      have hS' : S'[j]'hlt'.out = S[j] := by
        have e1 : S'[j]? = (S'.drop j)[0]? := by simp
        have e2 : S[j]? = (S.drop j)[0]? := by simp
        have e3 : S'[j]? = S[j]? := by rw [e1, e2, hd]
        rw [List.getElem?_eq_getElem hlt'.out, List.getElem?_eq_getElem hlt] at e3
        exact Option.some.inj e3
      obtain ⟨a, cp, hc, hs⟩ := hblk.at hlt'.out
      obtain ⟨x, hxx⟩ : ∃ x, S[j] = x := ⟨_, rfl⟩
      obtain ⟨M, hMx⟩ : ∃ M, x.2.2.2 = M := ⟨_, rfl⟩
      rw [hS', hxx, hMx] at hc hs
      rw [hxx, hMx] at hmem
      rw [hxx] at hNX
      have HNX := Lib.hid hNX
      have HM := Lib.hid (show S'[j]'hlt'.out = x ∧ x.2.2.2 = M from ⟨hS'.trans hxx, hMx⟩)
      clear hx hNX hS' hxx hMx
      have hLs : M.length ≤ 1048576 := by omega
      have hLz : ndSz M ≤ 1048576 := by omega
      have hsh := hblk.shape
      generalize hy : rmkE k (S.take j) = y at *
      obtain ⟨bb, hbb⟩ : ∃ bb : Bool, ((y + 1 + 1 + 1 + 1 + 1) % 3 == 0) = bb := ⟨_, rfl⟩
      obtain ⟨⟨z0, hz0⟩, hf0⟩ := hsh.place (show j * 7 < n * 7 by omega)
      obtain ⟨⟨z1, hz1⟩, hf1⟩ := hsh.place (show j * 7 + 1 < n * 7 by omega)
      obtain ⟨⟨z2, hz2⟩, hf2⟩ := hsh.place (show j * 7 + 2 < n * 7 by omega)
      obtain ⟨⟨z3, hz3⟩, hf3⟩ := hsh.place (show j * 7 + 3 < n * 7 by omega)
      obtain ⟨⟨z4, hz4⟩, hf4⟩ := hsh.place (show j * 7 + 4 < n * 7 by omega)
      obtain ⟨⟨z5, hz5⟩, hf5⟩ := hsh.place (show j * 7 + 5 < n * 7 by omega)
      have HF := Lib.hid (show (fs.getD j []).Nodup by rw [List.getD_eq_getElem?_getD, List.getElem?_eq_getElem (show j < fs.length by omega), Option.getD_some]; exact HNs.out _ (List.getElem_mem _))
      have hgn : ∀ b ∈ fs.getD j [], b ≠ g := fun b hb e => (List.nodup_cons.1 HN.out).1 (e ▸ mem_flat hb)
      have HSB := Lib.hid (hs.kept (w' := six wr g (j * 7) y bb) fun b hb => six_far (hgn b hb))
      have HG := Lib.hid hgn
      have HB := Lib.hid hblk
      have HC := Lib.hid hch
      have HY := Lib.hid hy
      have HSH := Lib.hid hsh
      have HT := Lib.hid (show S'.take j = rmk k (S.take j) ∧ S'.drop j = S.drop j ∧ S'.length = S.length from ⟨ht, hd, hM⟩)
      have HCc := Lib.hid hc
      have HBB := Lib.hid hbb
      clear hs hblk hch ht hd hM hy hgn hsh
      go_wp2_with fail
      refine (markNdF hLs hLz HSB.out HF.out _ (by omega) (by omega)).mono ?_
      rintro e w2 ⟨rfl, hs2, ho2⟩
      have HP := Lib.hid (show RMk S k g n fs w (.int .i64 (nmkE (y + 1 + 1 + 1 + 1 + 1 + 1) M)) (.int .i64 ((j : Int) + 1)) w2 by
        have hgl : g < wr.heap.size := HSH.out.lt
        have h2 : w2.heap[g]? = (six wr g (j * 7) y bb).heap[g]? := ho2.block g (by rw [six_size]; exact hgl) (fun e => HG.out g e rfl)
        obtain ⟨s1, s2, s3⟩ := six_in HSH.out (show j * 7 + 7 ≤ n * 7 by omega) HCc.out h2
        have hsf : (S'[j]'hlt'.out).2.2.2.length = M.length := by rw [HM.out.1, HM.out.2]
        refine ⟨j + 1, S'.set j (rmk1 y x), by omega, by go_num, by rw [HNX.out.2, HM.out.2], ?_, ?_, by rw [List.length_set]; exact HT.out.2.2, ?_, ?_⟩
        · rw [HNX.out.1, List.take_add_one, List.take_set_of_le (Nat.le_refl _), HT.out.1, List.getElem?_set_self hlt'.out]
          rfl
        · rw [drop_set]
          have := congrArg (fun l => l.drop 1) HT.out.2.1
          simpa using this
        · refine HB.out.set (a := a) (cap := cp) HN.out hlt'.out (x' := rmk1 y x) ?_ s1 ?_ s3 ?_ fun b hb hb' => ?_
          · show (nmk _ x.2.2.2).length = _
            rw [nmk_len, hsf, HM.out.2]
          · intro m hm
            rw [s2 m hm, hsf]
            show _ = [Value.int .i64 y, .int .i64 (y + 1), .int .i64 (y + 1 + 1), .int .i64 (y + 1 + 1 + 1), .int .i64 (y + 1 + 1 + 1 + 1), .bool ((y + 1 + 1 + 1 + 1 + 1) % 3 == 0), .slice a M.length cp][m]?
            rw [HBB.out]
          · rw [hsf]
            show NdF w2 _ (nmk _ x.2.2.2) _
            rw [HM.out.2]
            exact hs2
          · have hbl : b < wr.heap.size := by
              obtain ⟨C, _, _, _, h4⟩ := HB.out
              exact h4.lt b hb
            rw [ho2.block b (by rw [six_size]; exact hbl) hb']
            exact six_far (fun e => (List.nodup_cons.1 HN.out).1 (e ▸ hb))
        · refine Chg.trans (b := six wr g (j * 7) y bb) ((((((HC.out.setCell (List.mem_cons_self ..)).setCell (List.mem_cons_self ..)).setCell (List.mem_cons_self ..)).setCell (List.mem_cons_self ..)).setCell (List.mem_cons_self ..)).setCell (List.mem_cons_self ..)) (ho2.wide fun b hb => List.mem_cons_of_mem _ (mem_flat hb)))
      clear ho2 hs2
      go_wp2_with fail
      go_roundw
      case rel => exact HP.out
      case measure => simp [intOf]; omega
    · obtain rfl : j = S.length := by omega
      rw [List.take_length] at ht hyy ⊢
      have hMM : S' = rmk k S := by
        rw [← ht, List.take_of_length_le (by omega)]
      subst hMM
      have HB := Lib.hid hblk
      clear hblk ht hd hM
      go_wp2_with fail
      go_ret
      exact ⟨rfl, HB.out, hch⟩
set_option maxRecDepth 100000 in
set_option maxHeartbeats 400000 in
theorem markReleaseS_nil (a : Option Addr) (cap : Nat) (k : Int) (w : World) : Calls Try.prog 19 #[.slice a 0 cap, .int .i64 k] w fun e w' => e = .returned (.int .i64 k) ∧ w = w' := by
  go_enter Try.func19, Try.ntmps19
  go_wp2
  go_loop [1, 5] (fun s1 i => i = .int .i64 0 ∧ s1 = .int .i64 k) (fun _ _ => 0)
  case atStart => exact ⟨rfl, rfl⟩
  case round =>
    obtain ⟨rfl, rfl⟩ := hrel
    go_wp2_with fail
    go_ret
    exact ⟨rfl, rfl⟩

/-- A slice of releases that stands on exactly these blocks, all of them different. -/
def RlF (w : World) (v : Value) (S : List Rel) (F : List Nat) : Prop :=
  ∃ a cap, v = .slice a S.length cap ∧ ((S = [] ∧ F = []) ∨ ∃ g n fs, a = some ⟨g, 0, none⟩ ∧ RBF w g n S fs ∧ (∀ f ∈ fs, f.Nodup) ∧ (g :: fs.flatten).Nodup ∧ F = g :: fs.flatten)
theorem flat_nodup : ∀ {fs : List (List Nat)}, fs.flatten.Nodup → ∀ f ∈ fs, f.Nodup
  | [], _, _, h => by simp at h
  | f :: t, hn, g, h => by
    rw [List.flatten_cons, List.nodup_append] at hn
    rcases List.mem_cons.1 h with rfl | h
    · exact hn.1
    · exact flat_nodup hn.2.1 g h
theorem RGrow.foot {w : World} {B : Nat} {v : Value} {S : List Rel} {fs : List (List Nat)} (h : RGrow w B v S fs) : ∃ F, RlF w v S F ∧ ∀ b ∈ F, B ≤ b ∧ b < w.heap.size := by
  obtain ⟨cs, ⟨hl, ho⟩, he, hn, hi⟩ := h
  rcases ho with ⟨rfl, h0⟩ | ⟨g, cap, cur, rfl, hb, hg, hnc, hcm, hcs, htk⟩
  · obtain rfl : S = [] := List.eq_nil_of_length_eq_zero h0
    exact ⟨[], ⟨none, 0, rfl, .inl ⟨rfl, rfl⟩⟩, by simp⟩
  · refine ⟨g :: fs.flatten, ⟨_, cap, rfl, .inr ⟨g, cap, fs, rfl, ⟨cur, hg, hcs, hnc, ⟨he.1, fun i hk => ?_⟩⟩, flat_nodup hn, List.nodup_cons.2 ⟨fun k => (hi g k).2.2 rfl, hn⟩, rfl⟩⟩, fun b k => ?_⟩
    · obtain ⟨a, c, h2, h3⟩ := he.2 i hk
      refine ⟨a, c, fun j hj => ?_, h3⟩
      have := h2 j hj
      rw [← htk, List.getElem?_take, if_pos (by omega)] at this
      exact this
    · rcases List.mem_cons.1 k with rfl | k
      · exact ⟨hb, (Array.getElem?_eq_some_iff.1 hg).1⟩
      · exact ⟨(hi b k).1, (hi b k).2.1⟩
theorem RlF.kept {w w' : World} {v : Value} {S : List Rel} {F : List Nat} (h : RlF w v S F) (hb : ∀ b ∈ F, w'.heap[b]? = w.heap[b]?) : RlF w' v S F := by
  obtain ⟨a, cap, rfl, h⟩ := h
  refine ⟨a, cap, rfl, ?_⟩
  rcases h with h | ⟨g, n, fs, rfl, ⟨C, h1, h2, h3, h4⟩, hns, hn, rfl⟩
  · exact .inl h
  · exact .inr ⟨g, n, fs, rfl, ⟨C, (hb g (by simp)).trans h1, h2, h3, h4.kept fun b k => hb b (List.mem_cons_of_mem _ k)⟩, hns, hn, rfl⟩
theorem RlF.at {w : World} {v : Value} {S : List Rel} {F : List Nat} (h : RlF w v S F) : RlAt w w.heap.size v S := by
  obtain ⟨a, cap, rfl, h⟩ := h
  rcases h with ⟨rfl, _⟩ | ⟨g, n, fs, rfl, ⟨C, h1, h2, h3, h4⟩, hns, hn, rfl⟩
  · exact ⟨a, cap, rfl, .inl rfl⟩
  · refine ⟨_, cap, rfl, .inr ⟨g, 0, rfl, (Array.getElem?_eq_some_iff.1 h1).1, fun i hi => ?_⟩⟩
    obtain ⟨a, c, q1, q2⟩ := h4.2 i hi
    have k : ∀ j, j < 7 → w.cell? ⟨g, 0 + i * 7 + j, none⟩ = (relc S[i] (.slice a S[i].2.2.2.length c))[j]? := fun j hj => by
      rw [Nat.zero_add]
      exact (cell_of_row w g _ C _ (0, 0) h1).trans (by simpa using q1 j hj)
    exact ⟨⟨k 0 (by omega), k 1 (by omega), k 2 (by omega), k 3 (by omega), k 4 (by omega), k 5 (by omega)⟩, a, c, k 6 (by omega), q2.at⟩
set_option maxRecDepth 100000 in
theorem markRlF {S : List Rel} {F : List Nat} {u : Value} {w : World} (hl : S.length ≤ 1048576) (hsz : rlSz S ≤ 1048576) (h : RlF w u S F) (k : Int) (hk0 : 0 ≤ k) (hk1 : k ≤ 1000000) :
    Calls Try.prog 19 #[u, .int .i64 k] w fun e w' => e = .returned (.int .i64 (rmkE k S)) ∧ RlF w' u (rmk k S) F ∧ Chg F w w' := by
  obtain ⟨a, cap, rfl, h⟩ := h
  rcases h with ⟨rfl, rfl⟩ | ⟨g, n, fs, rfl, hb, hns, hn, rfl⟩
  · refine (markReleaseS_nil a cap k w).mono ?_
    rintro e w' ⟨rfl, rfl⟩
    exact ⟨rfl, ⟨a, cap, rfl, .inl ⟨rfl, rfl⟩⟩, Chg.refl _ _⟩
  · refine (markRBF g n cap S fs k w hl hsz hk0 hk1 hb hn hns).mono ?_
    rintro e w' ⟨rfl, hb', hc⟩
    exact ⟨rfl, ⟨some ⟨g, 0, none⟩, cap, by rw [rmk_len], .inr ⟨g, n, fs, rfl, hb', hns, hn, rfl⟩⟩, hc⟩
end Foot
end Go.Proofs.Ytgnjhmmedogcoaa

/- Whether marks are held, for rows of needs and of releases that bear just the marks, over this seat's translation: the laws' functions say the number behind them. Condition: at most 1048576 releases, and needs and spans of all of them. -/
namespace Go.Proofs.Ytgnjhmmedogcoaa
open Go.RowKit Go.Sort

namespace Foot
theorem nmk_at {M : List Nd} {j : Nat} {x : Nd} (hx : M[j]? = some x) (k : Int) : (nmk k M)[j]? = some (nmkE k (M.take j), marks (nmkE k (M.take j) + 1) x.2.length) := by
  have e := nmk_app (M.take j) (M.drop j) k
  have hj : j < M.length := (List.getElem?_eq_some_iff.1 hx).1
  rw [List.take_append_drop] at e
  rw [e, List.getElem?_append_right (by rw [nmk_len]; simp; omega), nmk_len, show j - (M.take j).length = 0 by simp; omega, List.drop_eq_getElem_cons hj, (List.getElem?_eq_some_iff.1 hx).2]
  rfl
theorem rmk_at {S : List Rel} {j : Nat} {x : Rel} (hx : S[j]? = some x) (k : Int) : (rmk k S)[j]? = some (rmk1 (rmkE k (S.take j)) x) := by
  have e := rmk_app (S.take j) (S.drop j) k
  have hj : j < S.length := (List.getElem?_eq_some_iff.1 hx).1
  rw [List.take_append_drop] at e
  rw [e, List.getElem?_append_right (by rw [rmk_len]; simp; omega), rmk_len, show j - (S.take j).length = 0 by simp; omega, List.drop_eq_getElem_cons hj, (List.getElem?_eq_some_iff.1 hx).2]
  rfl

set_option maxRecDepth 100000 in
set_option maxHeartbeats 1000000 in
theorem heldNeedS_any (a : Option Addr) (cap : Nat) (M : List Nd) (k : Int) (w : World) (B : Nat) (hl : M.length ≤ 1048576) (hsz : ndSz M ≤ 1048576) (hk0 : 0 ≤ k) (hk1 : k ≤ 500000000) (h : NdAt w B (.slice a M.length cap) (nmk k M)) :
    Calls Try.prog 32 #[.slice a M.length cap, .int .i64 k] w fun e w' => e = .returned (.int .i64 (nmkE k M)) ∧ w = w' := by
  obtain ⟨a1, cap1, e1, h1⟩ := h
  simp only [Value.slice.injEq] at e1
  obtain ⟨rfl, hnn, rfl⟩ := e1
  clear hnn
  have H := Lib.hid h1
  clear h1
  go_enter Try.func32, Try.ntmps32
  go_wp2
  go_loop [1, 5] (fun s1 i => ∃ j : Nat, j ≤ M.length ∧ i = .int .i64 (j : Int) ∧ s1 = .int .i64 (nmkE k (M.take j))) (fun _ i => M.length - (intOf i).toNat)
  case atStart => exact ⟨0, Nat.zero_le _, rfl, by simp [nmkE]⟩
  case round =>
    obtain ⟨j, hj, rfl, rfl⟩ := hrel
    have hyy := nmkE_take M j k
    by_cases hlt : j < M.length
    · rcases H.out with h1 | ⟨b, o, rfl, hB, hc⟩
      · have := nmk_len M k
        rw [h1] at this
        simp at this
        omega
      have hx : M[j]? = some M[j] := List.getElem?_eq_getElem hlt
      have HNX := Lib.hid (nmk_next hx k).2
      have hjl : j < (nmk k M).length := by rw [nmk_len]; exact hlt
      have hm : (nmk k M)[j] = (nmkE k (M.take j), marks (nmkE k (M.take j) + 1) M[j].2.length) := by
        have := nmk_at hx k
        rw [List.getElem?_eq_getElem hjl] at this
        exact Option.some.inj this
      obtain ⟨c0, ad, cp, c1, hs⟩ := hc j hjl
      rw [hm] at c0 c1 hs
      simp only at c0 c1 hs
      rw [marks_len] at c1 hs
      have hmem := ndSz_mem M j _ hx
      generalize hq : M[j].2.length = q at *
      generalize hy : nmkE k (M.take j) = y at *
      have HY := Lib.hid hy
      have HS := Lib.hid hs
      have hn0 : ¬ y + 1 + 2 * (q : Int) < 0 := by omega
      clear hc hm hx hs hq hy
      go_wp2_with fail
      refine (heldSpanS_any ad cp q (y + 1) _ B (by omega) (by omega) (by omega) HS.out).mono ?_
      rintro e w2 ⟨rfl, rfl⟩
      go_wp2_with fail
      go_round
      case rel => exact ⟨j + 1, by omega, by go_num, by rw [HNX.out]⟩
      case measure => simp [intOf]; omega
    · obtain rfl : j = M.length := by omega
      rw [List.take_length] at hyy ⊢
      go_wp2_with fail
      go_ret
      exact ⟨rfl, rfl⟩

/-- A row of releases of one's own, all of whose blocks lie between two numbers. -/
def RlB (S : List Rel) (lo hi : Nat) (v : Value) (w : World) : Prop := ∃ F, RlF w v S F ∧ ∀ b ∈ F, lo ≤ b ∧ b < hi
theorem RlF.lt {w : World} {v : Value} {S : List Rel} {F : List Nat} (h : RlF w v S F) : ∀ b ∈ F, b < w.heap.size := by
  intro b hb
  obtain ⟨a, cap, rfl, h⟩ := h
  rcases h with ⟨_, rfl⟩ | ⟨g, n, fs, rfl, ⟨C, h1, h2, h3, h4⟩, hns, hn, rfl⟩
  · simp at hb
  · rcases List.mem_cons.1 hb with rfl | hb
    · exact (Array.getElem?_eq_some_iff.1 h1).1
    · exact h4.lt b hb
theorem RlB.below {S : List Rel} {lo hi : Nat} {v : Value} {w w' : World} (h : RlB S lo hi v w) (hb : Below w.heap.size w w') : RlB S lo hi v w' := by
  obtain ⟨F, h1, h2⟩ := h
  exact ⟨F, h1.kept fun b k => hb.block b (h1.lt b k), h2⟩
theorem RlB.out {S : List Rel} {lo hi lo' hi' : Nat} {v : Value} {w w' : World} (h : RlB S lo hi v w) (ho : Out lo' hi' w w') (hd : hi ≤ lo' ∨ hi' ≤ lo) : RlB S lo hi v w' := by
  obtain ⟨F, h1, h2⟩ := h
  exact ⟨F, h1.kept fun b k => ho.block b (h1.lt b k) (by have := h2 b k; omega), h2⟩
theorem RlB.mono {S : List Rel} {lo lo' hi : Nat} {v : Value} {w : World} (h : RlB S lo hi v w) (hl : lo' ≤ lo) : RlB S lo' hi v w := by
  obtain ⟨F, h1, h2⟩ := h
  exact ⟨F, h1, fun b k => ⟨Nat.le_trans hl (h2 b k).1, (h2 b k).2⟩⟩
theorem RlB.at {S : List Rel} {lo hi : Nat} {v : Value} {w : World} (h : RlB S lo hi v w) : RlAt w w.heap.size v S := by
  obtain ⟨F, h1, _⟩ := h
  exact h1.at
theorem RlB.shape {S : List Rel} {lo hi : Nat} {v : Value} {w : World} (h : RlB S lo hi v w) : ∃ a cap, v = .slice a S.length cap := by
  obtain ⟨F, ⟨a, cap, e, _⟩, _⟩ := h
  exact ⟨a, cap, e⟩
theorem RlB.of {S : List Rel} {B : Nat} {v : Value} {w : World} {fs : List (List Nat)} (h : RGrow w B v S fs) : RlB S B w.heap.size v w := h.foot
theorem markRlB {S : List Rel} {lo hi : Nat} {u : Value} {w : World} (hl : S.length ≤ 1048576) (hsz : rlSz S ≤ 1048576) (h : RlB S lo hi u w) (k : Int) (hk0 : 0 ≤ k) (hk1 : k ≤ 1000000) :
    Calls Try.prog 19 #[u, .int .i64 k] w fun e w' => e = .returned (.int .i64 (rmkE k S)) ∧ RlB (rmk k S) lo hi u w' ∧ Out lo hi w w' := by
  obtain ⟨F, h1, h2⟩ := h
  refine (markRlF hl hsz h1 k hk0 hk1).mono ?_
  rintro e w' ⟨rfl, h3, h4⟩
  exact ⟨rfl, ⟨F, h3, h2⟩, h4.out h2⟩
/-- A call that answers with a shelf of its own, and whether there is one. -/
def SbPost (G : List Rel) (ok : Bool) (w : World) (e : Ending) (w' : World) : Prop :=
  ∃ v, e = .returned (.tuple #[v, .bool ok]) ∧ RlB G w.heap.size w'.heap.size v w' ∧ Below w.heap.size w w'
end Foot
end Go.Proofs.Ytgnjhmmedogcoaa

/- Marks of rows of terms, over this seat's translation: a slice of terms that stands on blocks all different, what marking it does, and that the marks are held then. Condition: at most 1048576 terms, and spans of all of them. -/
namespace Go.Proofs.Ytgnjhmmedogcoaa
open Go.RowKit Go.Sort

namespace Foot
/-- The cells of terms, each over its footprint. -/
def TEl (w : World) (cs : List Value) (M : List Tm) (fs : List (List Nat)) : Prop :=
  fs.length = M.length ∧ ∀ i (h : i < M.length), cs[i * 3]? = some (.int .i64 M[i].1) ∧ cs[i * 3 + 2]? = some (.bool M[i].2.2) ∧ ∃ a cap, cs[i * 3 + 1]? = some (.slice a M[i].2.1.length cap) ∧ SpF w (.slice a M[i].2.1.length cap) M[i].2.1 (fs.getD i [])
theorem TEl.kept {w w' : World} {cs : List Value} {M : List Tm} {fs : List (List Nat)} (h : TEl w cs M fs) (hb : ∀ b ∈ fs.flatten, w'.heap[b]? = w.heap[b]?) : TEl w' cs M fs :=
  ⟨h.1, fun i hi => by obtain ⟨h1, h4, a, cap, h2, h3⟩ := h.2 i hi; exact ⟨h1, h4, a, cap, h2, h3.kept fun b k => hb b (mem_flat k)⟩⟩
theorem TEl.lt {w : World} {cs : List Value} {M : List Tm} {fs : List (List Nat)} (h : TEl w cs M fs) : ∀ b ∈ fs.flatten, b < w.heap.size := by
  intro b hb
  obtain ⟨l, hl, hb⟩ := List.mem_flatten.1 hb
  obtain ⟨i, hi, rfl⟩ := List.getElem_of_mem hl
  obtain ⟨_, _, a, cap, _, hs⟩ := h.2 i (by have := h.1; omega)
  rw [List.getD_eq_getElem?_getD, List.getElem?_eq_getElem hi, Option.getD_some] at hs
  exact hs.lt b hb
theorem TEl.nil (w : World) (cs : List Value) : TEl w cs [] [] := ⟨rfl, fun i hi => absurd hi (by simp)⟩
theorem TEl.push {w : World} {cs : List Value} {M : List Tm} {fs : List (List Nat)} {x : Int} {f : Bool} {L : Sps} {F : List Nat} {a : Option Addr} {cap : Nat} (h : TEl w cs M fs) (hcl : cs.length = M.length * 3) (hs : SpF w (.slice a L.length cap) L F) :
    TEl w (cs ++ [.int .i64 x, .slice a L.length cap, .bool f]) (M ++ [(x, L, f)]) (fs ++ [F]) := by
  obtain ⟨hf, hc⟩ := h
  refine ⟨by simp [hf], fun i hi => ?_⟩
  by_cases e : i < M.length
  · obtain ⟨h1, h4, a', c', h2, h3⟩ := hc i e
    rw [List.getElem_append_left e]
    refine ⟨(List.getElem?_append_left (by omega)).trans h1, (List.getElem?_append_left (by omega)).trans h4, a', c', (List.getElem?_append_left (by omega)).trans h2, ?_⟩
    rw [List.getD_eq_getElem?_getD, List.getElem?_append_left (by omega), ← List.getD_eq_getElem?_getD]
    exact h3
  · obtain rfl : i = M.length := by simp at hi; omega
    rw [List.getElem_append_right (Nat.le_refl _)]
    simp only [Nat.sub_self, List.getElem_cons_zero]
    refine ⟨?_, ?_, a, cap, ?_, ?_⟩
    · rw [List.getElem?_append_right (by omega), hcl, Nat.sub_self]; rfl
    · rw [List.getElem?_append_right (by omega), hcl, Nat.add_sub_cancel_left]; rfl
    · rw [List.getElem?_append_right (by omega), hcl, Nat.add_sub_cancel_left]; rfl
    · rw [List.getD_eq_getElem?_getD, List.getElem?_append_right (by omega), hf, Nat.sub_self]
      exact hs

theorem TEl.set {w w' : World} {cs : List Value} {M : List Tm} {fs : List (List Nat)} {i cap : Nat} {a : Option Addr} {x : Int} {f : Bool} {L : Sps} (h : TEl w cs M fs) (hn : fs.flatten.Nodup) (hi : i < M.length) (hcl : M.length * 3 ≤ cs.length)
    (hL : L.length = M[i].2.1.length) (hc : cs[i * 3 + 1]? = some (.slice a M[i].2.1.length cap)) (hs : SpF w' (.slice a M[i].2.1.length cap) L (fs.getD i [])) (hb : ∀ b ∈ fs.flatten, b ∉ fs.getD i [] → w'.heap[b]? = w.heap[b]?) :
    TEl w' ((cs.set (i * 3) (.int .i64 x)).set (i * 3 + 2) (.bool f)) (M.set i (x, L, f)) fs := by
  refine ⟨by rw [List.length_set]; exact h.1, fun j hj => ?_⟩
  have hj' : j < M.length := by simpa using hj
  obtain ⟨h1, h4, a', c', h2, h3⟩ := h.2 j hj'
  by_cases e : j = i
  · subst e
    rw [List.getElem_set_self]
    refine ⟨?_, List.getElem?_set_self (by rw [List.length_set]; omega), a, cap, ?_, ?_⟩
    · rw [List.getElem?_set_ne (by omega)]
      exact List.getElem?_set_self (by omega)
    · rw [List.getElem?_set_ne (by omega), List.getElem?_set_ne (by omega)]
      show _ = some (Value.slice a L.length cap)
      rw [hL]
      exact hc
    · show SpF w' (.slice a L.length cap) L _
      rw [hL]
      exact hs
  · rw [List.getElem_set_ne (fun k => e k.symm)]
    exact ⟨by rw [List.getElem?_set_ne (by omega), List.getElem?_set_ne (by omega)]; exact h1, by rw [List.getElem?_set_ne (by omega), List.getElem?_set_ne (by omega)]; exact h4, a', c', by rw [List.getElem?_set_ne (by omega), List.getElem?_set_ne (by omega)]; exact h2, h3.kept fun b hb' => hb b (mem_flat hb') (fun k => e (flat_ne hn hb' k))⟩

/-- Terms with the marks that are written, from a number on, and the number behind them. -/
def tmk (k : Int) : List Tm → List Tm
  | [] => []
  | q :: t => (k, marks (k + 1) q.2.1.length, ((k + 1 + 2 * q.2.1.length) % 3 == 0)) :: tmk (k + 1 + 2 * q.2.1.length + 1) t
def tmkE (k : Int) : List Tm → Int
  | [] => k
  | q :: t => tmkE (k + 1 + 2 * q.2.1.length + 1) t
theorem tmk_app : ∀ (A B : List Tm) (k : Int), tmk k (A ++ B) = tmk k A ++ tmk (tmkE k A) B
  | [], _, _ => rfl
  | q :: t, B, k => by simp only [List.cons_append, tmk, tmkE]; rw [tmk_app t B]
theorem tmkE_app : ∀ (A B : List Tm) (k : Int), tmkE k (A ++ B) = tmkE (tmkE k A) B
  | [], _, _ => rfl
  | q :: t, B, k => by simp only [List.cons_append, tmkE]; rw [tmkE_app t B]
theorem tmk_len : ∀ (M : List Tm) (k : Int), (tmk k M).length = M.length
  | [], _ => rfl
  | q :: t, k => by simp only [tmk, List.length_cons]; rw [tmk_len t]
theorem tmkE_eq : ∀ (M : List Tm) (k : Int), tmkE k M = k + 2 * (M.length : Int) + 2 * (tmSz M : Int)
  | [], k => by simp [tmkE, tmSz]
  | q :: t, k => by simp only [tmkE, tmSz, List.length_cons]; rw [tmkE_eq t]; omega
theorem tmSz_take : ∀ (M : List Tm) (j : Nat), tmSz (M.take j) ≤ tmSz M
  | [], j => by simp
  | q :: t, 0 => by simp [tmSz]
  | q :: t, j + 1 => by
    simp only [List.take_succ_cons, tmSz]
    have := tmSz_take t j
    omega
theorem tmkE_take (M : List Tm) (j : Nat) (k : Int) : k ≤ tmkE k (M.take j) ∧ tmkE k (M.take j) ≤ k + 2 * (M.length : Int) + 2 * (tmSz M : Int) := by
  rw [tmkE_eq]
  have := tmSz_take M j
  have : (M.take j).length ≤ M.length := by simp; omega
  omega
theorem tmk_next {M : List Tm} {j : Nat} {x : Tm} (hx : M[j]? = some x) (k : Int) :
    tmk k (M.take (j + 1)) = tmk k (M.take j) ++ [(tmkE k (M.take j), marks (tmkE k (M.take j) + 1) x.2.1.length, ((tmkE k (M.take j) + 1 + 2 * x.2.1.length) % 3 == 0))] ∧ tmkE k (M.take (j + 1)) = tmkE k (M.take j) + 1 + 2 * x.2.1.length + 1 := by
  rw [List.take_add_one, hx]
  exact ⟨tmk_app _ _ _, tmkE_app _ _ _⟩
theorem tmk_at {M : List Tm} {j : Nat} {x : Tm} (hx : M[j]? = some x) (k : Int) : (tmk k M)[j]? = some (tmkE k (M.take j), marks (tmkE k (M.take j) + 1) x.2.1.length, ((tmkE k (M.take j) + 1 + 2 * x.2.1.length) % 3 == 0)) := by
  have e := tmk_app (M.take j) (M.drop j) k
  have hj : j < M.length := (List.getElem?_eq_some_iff.1 hx).1
  rw [List.take_append_drop] at e
  rw [e, List.getElem?_append_right (by rw [tmk_len]; simp; omega), tmk_len, show j - (M.take j).length = 0 by simp; omega, List.drop_eq_getElem_cons hj, (List.getElem?_eq_some_iff.1 hx).2]
  rfl

end Foot
end Go.Proofs.Ytgnjhmmedogcoaa
