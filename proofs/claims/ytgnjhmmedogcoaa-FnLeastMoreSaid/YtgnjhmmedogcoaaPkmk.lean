/- Rows of picks between two block numbers, over this seat's translation, and the laws' functions that mark and hold them: marking turns the row's own block alone. Condition: at most 1048576 picks. -/
import Derived.Test.YtgnjhmmedogcoaaGg
import Derived.Test.YtgnjhmmedogcoaaGb
import Derived.Deep.AppendLies
namespace Go.Proofs.Ytgnjhmmedogcoaa
open Go.RowKit Go.Sort

namespace Cpu
/-- A row of picks of one's own, between two block numbers. -/
def PB (L : List Pk) (lo hi : Nat) (v : Value) (w : World) : Prop :=
  ∃ a cap, v = .slice a L.length cap ∧ (L = [] ∨ ∃ g n, a = some ⟨g, 0, none⟩ ∧ PkBlk w g n L ∧ lo ≤ g ∧ g < hi)
theorem PB.at {L : List Pk} {lo hi : Nat} {v : Value} {w : World} (h : PB L lo hi v w) : PkAt w w.heap.size v L := by
  obtain ⟨a, cap, rfl, h⟩ := h
  rcases h with rfl | ⟨g, n, rfl, hk, _, _⟩
  · exact ⟨_, _, rfl, .inl rfl⟩
  · exact hk.at
theorem PB.kept {L : List Pk} {lo hi : Nat} {v : Value} {w w' : World} (h : PB L lo hi v w) (hb : ∀ g, lo ≤ g → g < hi → g < w.heap.size → w'.heap[g]? = w.heap[g]?) : PB L lo hi v w' := by
  obtain ⟨a, cap, rfl, h⟩ := h
  refine ⟨_, _, rfl, ?_⟩
  rcases h with h | ⟨g, n, rfl, hk, h1, h2⟩
  · exact .inl h
  · exact .inr ⟨g, n, rfl, hk.kept (hb g h1 h2 hk.lt), h1, h2⟩
theorem PB.below {L : List Pk} {lo hi : Nat} {v : Value} {w w' : World} (h : PB L lo hi v w) (hb : Below w.heap.size w w') : PB L lo hi v w' := h.kept fun g _ _ hl => hb.block g hl
theorem PB.out {L : List Pk} {lo hi lo' hi' : Nat} {v : Value} {w w' : World} (h : PB L lo hi v w) (ho : Out lo' hi' w w') (hd : hi ≤ lo' ∨ hi' ≤ lo) : PB L lo hi v w' :=
  h.kept fun g h1 h2 hl => ho.block g hl (by omega)
theorem PB.mono {L : List Pk} {lo lo' hi : Nat} {v : Value} {w : World} (h : PB L lo hi v w) (hl : lo' ≤ lo) : PB L lo' hi v w := by
  obtain ⟨a, cap, rfl, h⟩ := h
  refine ⟨_, _, rfl, ?_⟩
  rcases h with h | ⟨g, m, rfl, hk, h1, h2⟩
  · exact .inl h
  · exact .inr ⟨g, m, rfl, hk, by omega, h2⟩
def PbPost (L : List Pk) (w : World) (e : Ending) (w' : World) : Prop := ∃ v, e = .returned v ∧ PB L w.heap.size w'.heap.size v w' ∧ Below w.heap.size w w'
theorem pb_nil (B H : Nat) (w : World) : PB [] B H (.slice none 0 0) w := ⟨none, 0, rfl, .inl rfl⟩
set_option maxRecDepth 100000 in
theorem toPickS_pb (v : Value) (L : List Pk) (w : World) (h : PkAt w w.heap.size v L) (hl : L.length ≤ 1048576) :
    Calls Try.prog 30 #[v] w fun e w' => ∃ a c, e = .returned (.slice a L.length c) ∧ PB L w.heap.size w'.heap.size (.slice a L.length c) w' ∧ Below w.heap.size w w' :=
  (toPickS_any v L w h hl).mono fun _ _ ⟨g, he, hk, hg, hb⟩ => ⟨_, _, he, ⟨_, _, rfl, .inr ⟨g, _, rfl, hk, hg, hk.lt⟩⟩, hb⟩

theorem PkBlk.set {w : World} {g n : Nat} {L : List Pk} (h : PkBlk w g n L) {i : Nat} (hi : i < L.length) (x a b c d : Int) :
    PkBlk (((((w.setCell ⟨g, i * 5, none⟩ (.int .i64 x)).setCell ⟨g, i * 5 + 1, none⟩ (.int .i64 a)).setCell ⟨g, i * 5 + 2, none⟩ (.int .i64 b)).setCell ⟨g, i * 5 + 3, none⟩ (.int .i64 c)).setCell ⟨g, i * 5 + 4, none⟩ (.int .i64 d)) g n (L.set i (x, a, b, c, d)) := by
  obtain ⟨C, h, hs, hl, hc⟩ := h
  refine ⟨(((((C.setIfInBounds (i * 5) (.int .i64 x)).setIfInBounds (i * 5 + 1) (.int .i64 a)).setIfInBounds (i * 5 + 2) (.int .i64 b)).setIfInBounds (i * 5 + 3) (.int .i64 c)).setIfInBounds (i * 5 + 4) (.int .i64 d)), ?_, by simpa using hs, by simpa using hl, fun j hj => ?_⟩
  · have one : ∀ {W : World} {p : Nat} {v : Value} {D : Array Value} {t : TypeId}, W.heap[g]? = some (.cells D t (0, 0)) → (W.setCell ⟨g, p, none⟩ v).heap[g]? = some (.cells (D.setIfInBounds p v) t (0, 0)) := fun {W p v D t} h => by simp [World.setCell, Array.getElem?_modify, h]
    exact one (one (one (one (one h))))
  · simp only [List.length_set] at hj
    obtain ⟨h0, h1, h2, h3, h4⟩ := hc j hj
    by_cases e : j = i
    · subst e
      rw [List.getElem_set_self]
      refine ⟨?_, ?_, ?_, ?_, ?_⟩
      · rw [Array.getElem?_setIfInBounds_ne (by omega), Array.getElem?_setIfInBounds_ne (by omega), Array.getElem?_setIfInBounds_ne (by omega), Array.getElem?_setIfInBounds_ne (by omega), Array.getElem?_setIfInBounds_self_of_lt (by first | omega | (simp; omega))]
      · rw [Array.getElem?_setIfInBounds_ne (by omega), Array.getElem?_setIfInBounds_ne (by omega), Array.getElem?_setIfInBounds_ne (by omega), Array.getElem?_setIfInBounds_self_of_lt (by first | omega | (simp; omega))]
      · rw [Array.getElem?_setIfInBounds_ne (by omega), Array.getElem?_setIfInBounds_ne (by omega), Array.getElem?_setIfInBounds_self_of_lt (by first | omega | (simp; omega))]
      · rw [Array.getElem?_setIfInBounds_ne (by omega), Array.getElem?_setIfInBounds_self_of_lt (by first | omega | (simp; omega))]
      · rw [Array.getElem?_setIfInBounds_self_of_lt (by first | omega | (simp; omega))]
    · rw [List.getElem_set_ne (fun e' => e e'.symm)]
      refine ⟨?_, ?_, ?_, ?_, ?_⟩
      · rw [Array.getElem?_setIfInBounds_ne (by omega), Array.getElem?_setIfInBounds_ne (by omega), Array.getElem?_setIfInBounds_ne (by omega), Array.getElem?_setIfInBounds_ne (by omega), Array.getElem?_setIfInBounds_ne (by omega)]; exact h0
      · rw [Array.getElem?_setIfInBounds_ne (by omega), Array.getElem?_setIfInBounds_ne (by omega), Array.getElem?_setIfInBounds_ne (by omega), Array.getElem?_setIfInBounds_ne (by omega), Array.getElem?_setIfInBounds_ne (by omega)]; exact h1
      · rw [Array.getElem?_setIfInBounds_ne (by omega), Array.getElem?_setIfInBounds_ne (by omega), Array.getElem?_setIfInBounds_ne (by omega), Array.getElem?_setIfInBounds_ne (by omega), Array.getElem?_setIfInBounds_ne (by omega)]; exact h2
      · rw [Array.getElem?_setIfInBounds_ne (by omega), Array.getElem?_setIfInBounds_ne (by omega), Array.getElem?_setIfInBounds_ne (by omega), Array.getElem?_setIfInBounds_ne (by omega), Array.getElem?_setIfInBounds_ne (by omega)]; exact h3
      · rw [Array.getElem?_setIfInBounds_ne (by omega), Array.getElem?_setIfInBounds_ne (by omega), Array.getElem?_setIfInBounds_ne (by omega), Array.getElem?_setIfInBounds_ne (by omega), Array.getElem?_setIfInBounds_ne (by omega)]; exact h4

/-- The marks that are written, from a number on. -/
def pmark (y : Int) : Pk := (y, y + 1, y + 1 + 1, y + 1 + 1 + 1, y + 1 + 1 + 1 + 1)
def pmarks (k : Int) : Nat → List Pk
  | 0 => []
  | n + 1 => pmarks k n ++ [pmark (k + 5 * n)]
theorem pmarks_len (k : Int) : ∀ n, (pmarks k n).length = n
  | 0 => rfl
  | n + 1 => by simp [pmarks, pmarks_len k n]
theorem pmarks_at (k : Int) : ∀ (n i : Nat), i < n → (pmarks k n)[i]? = some (pmark (k + 5 * i))
  | 0, _, h => absurd h (by omega)
  | n + 1, i, h => by
    unfold pmarks
    by_cases e : i < n
    · rw [List.getElem?_append_left (by rw [pmarks_len]; exact e), pmarks_at k n i e]
    · obtain rfl : i = n := by omega
      rw [List.getElem?_append_right (by rw [pmarks_len]; exact Nat.le_refl _), pmarks_len]
      simp
theorem grown_one {w wx : World} {g o : Nat} {v : Value} (h : w.grownBy wx (some g)) : w.grownBy (wx.setCell ⟨g, o, none⟩ v) (some g) :=
  ⟨h.os, h.tape, h.output, by simpa [World.setCell] using h.size, fun i hi hne => (Below.heap_setCell wx ⟨g, o, none⟩ v i (fun e => hne (by rw [e]))).trans (h.block i hi hne)⟩
theorem grown_five {w wx : World} {g o0 o1 o2 o3 o4 : Nat} {v0 v1 v2 v3 v4 : Value} (h : w.grownBy wx (some g)) : w.grownBy (((((wx.setCell ⟨g, o0, none⟩ v0).setCell ⟨g, o1, none⟩ v1).setCell ⟨g, o2, none⟩ v2).setCell ⟨g, o3, none⟩ v3).setCell ⟨g, o4, none⟩ v4) (some g) :=
  grown_one (grown_one (grown_one (grown_one (grown_one h))))
def PMarkRel (k : Int) (m n g : Nat) (w : World) (s1 i : Value) (wr : World) : Prop :=
  ∃ (j : Nat) (M : List Pk), j ≤ m ∧ i = .int .i64 (j : Int) ∧ s1 = .int .i64 (k + 5 * j) ∧ M.length = m ∧ M.take j = pmarks k j ∧ PkBlk wr g n M ∧ w.grownBy wr (some g)
theorem pmark_push {k y : Int} {m n g j : Nat} {w wr : World} {M : List Pk} (hy : k + 5 * (j : Int) = y) (hj : j < m) (hM : M.length = m) (ht : M.take j = pmarks k j) (hblk : PkBlk wr g n M) (hg : w.grownBy wr (some g)) :
    PMarkRel k m n g w (.int .i64 (y + 1 + 1 + 1 + 1 + 1)) (.int .i64 ((j : Int) + 1)) (((((wr.setCell ⟨g, j * 5, none⟩ (.int .i64 y)).setCell ⟨g, j * 5 + 1, none⟩ (.int .i64 (y + 1))).setCell ⟨g, j * 5 + 2, none⟩ (.int .i64 (y + 1 + 1))).setCell ⟨g, j * 5 + 3, none⟩ (.int .i64 (y + 1 + 1 + 1))).setCell ⟨g, j * 5 + 4, none⟩ (.int .i64 (y + 1 + 1 + 1 + 1))) := by
  refine ⟨j + 1, M.set j (pmark y), by omega, by go_num, by go_num, by simpa using hM, ?_, PkBlk.set hblk (by omega) _ _ _ _ _, grown_five hg⟩
  rw [List.take_add_one, List.take_set_of_le (Nat.le_refl _), ht, List.getElem?_set_self (by omega), ← hy]
  rfl

set_option maxRecDepth 100000 in
set_option maxHeartbeats 2000000 in
theorem markPickS_blk (g n cap : Nat) (L : List Pk) (k : Int) (w : World) (hl : L.length ≤ 1048576) (hk0 : 0 ≤ k) (hk1 : k ≤ 1000000000) (h : PkBlk w g n L) :
    Calls Try.prog 26 #[.slice (some ⟨g, 0, none⟩) L.length cap, .int .i64 k] w fun e w' => e = .returned (.int .i64 (k + 5 * L.length)) ∧ PkBlk w' g n (pmarks k L.length) ∧ w.grownBy w' (some g) := by
  have hln : L.length ≤ n := by obtain ⟨_, _, _, h, _⟩ := h; exact h
  have HS := Lib.hid (show PMarkRel k L.length n g w (.int .i64 k) (.int .i64 0) w from ⟨0, L, Nat.zero_le _, rfl, by simp, rfl, rfl, h, ⟨rfl, rfl, rfl, Nat.le_refl _, fun _ _ _ => rfl⟩⟩)
  clear h
  generalize L.length = m at *
  go_enter Try.func26, Try.ntmps26
  go_wp2
  go_loopw [1, 5] (fun s1 i wr => PMarkRel k m n g w s1 i wr) (fun _ i _ => m - (intOf i).toNat)
  case atStart => exact HS.out
  case round =>
    obtain ⟨j, M, hj, rfl, rfl, hM, ht, hblk, hg⟩ := hrel
    by_cases hlt : j < m
    · obtain ⟨⟨p0, hp0⟩, ⟨p1, hp1⟩, ⟨p2, hp2⟩, ⟨p3, hp3⟩, ⟨p4, hp4⟩, f0, f1, f2, f3, f4⟩ := hblk.place (show j < n by omega)
      obtain ⟨y, hy⟩ : ∃ y : Int, k + 5 * (j : Int) = y := ⟨_, rfl⟩
      have hy1 : y ≤ 1006000000 ∧ 0 ≤ y := by omega
      have HP := Lib.hid (pmark_push hy hlt hM ht hblk hg)
      rw [hy]
      clear hblk hg ht hM hy
      go_wp2_with fail
      go_roundw
      case rel => exact HP.out
      case measure => simp [intOf]; omega
    · obtain rfl : j = m := by omega
      have HM := Lib.hid (show PkBlk wr g n (pmarks k j) by rwa [← ht, List.take_of_length_le (by omega)])
      clear hblk ht
      go_wp2_with fail
      go_ret
      exact ⟨rfl, HM.out, hg⟩

set_option maxRecDepth 100000 in
set_option maxHeartbeats 400000 in
theorem markPickS_nil (a : Option Addr) (cap : Nat) (k : Int) (w : World) : Calls Try.prog 26 #[.slice a 0 cap, .int .i64 k] w fun e w' => e = .returned (.int .i64 k) ∧ w = w' := by
  go_enter Try.func26, Try.ntmps26
  go_wp2
  go_loop [1, 5] (fun s1 i => i = .int .i64 0 ∧ s1 = .int .i64 k) (fun _ _ => 0)
  case atStart => exact ⟨rfl, rfl⟩
  case round =>
    obtain ⟨rfl, rfl⟩ := hrel
    go_wp2_with fail
    go_ret
    exact ⟨rfl, rfl⟩

set_option maxRecDepth 100000 in
theorem markPB {L : List Pk} {lo hi : Nat} {u : Value} {w : World} (hl : L.length ≤ 1048576) (h : PB L lo hi u w) (k : Int) (hk0 : 0 ≤ k) (hk1 : k ≤ 1000000000) :
    Calls Try.prog 26 #[u, .int .i64 k] w fun e w' => e = .returned (.int .i64 (k + 5 * L.length)) ∧ PB (pmarks k L.length) lo hi u w' ∧ Out lo hi w w' := by
  obtain ⟨a, cap, rfl, h⟩ := h
  rcases h with rfl | ⟨g, n, rfl, hb, h1, h2⟩
  · refine (markPickS_nil a cap k w).mono ?_
    rintro e w' ⟨rfl, rfl⟩
    exact ⟨by simp, ⟨a, cap, rfl, .inl rfl⟩, ⟨rfl, rfl, rfl, Nat.le_refl _, fun _ _ _ => rfl⟩⟩
  · refine (markPickS_blk g n cap L k w hl hk0 hk1 hb).mono ?_
    rintro e w' ⟨rfl, hb', hg⟩
    exact ⟨rfl, ⟨some ⟨g, 0, none⟩, cap, by rw [pmarks_len], .inr ⟨g, n, rfl, hb', h1, h2⟩⟩, ⟨hg.os, hg.tape, hg.output, hg.size, fun i hi hd => hg.block i hi (fun e => by injection e with e; omega)⟩⟩

set_option maxRecDepth 100000 in
set_option maxHeartbeats 2000000 in
theorem heldPickS_any (a : Option Addr) (cap n : Nat) (k : Int) (w : World) (B : Nat) (hl : n ≤ 1048576) (hk0 : 0 ≤ k) (hk1 : k ≤ 1000000000) (h : PkAt w B (.slice a n cap) (pmarks k n)) :
    Calls Try.prog 27 #[.slice a n cap, .int .i64 k] w fun e w' => e = .returned (.int .i64 (k + 5 * n)) ∧ w = w' := by
  obtain ⟨a1, cap1, e1, h1⟩ := h
  simp only [Value.slice.injEq] at e1
  obtain ⟨rfl, hnn, rfl⟩ := e1
  clear hnn
  have H := Lib.hid h1
  clear h1
  go_enter Try.func27, Try.ntmps27
  go_wp2
  go_loop [1, 5] (fun s1 i => ∃ j : Nat, j ≤ n ∧ i = .int .i64 (j : Int) ∧ s1 = .int .i64 (k + 5 * j)) (fun _ i => n - (intOf i).toNat)
  case atStart => exact ⟨0, Nat.zero_le _, rfl, by simp⟩
  case round =>
    obtain ⟨j, hj, rfl, rfl⟩ := hrel
    by_cases hlt : j < n
    · rcases H.out with h1 | ⟨b, o, rfl, hB, hc⟩
      · have := pmarks_len k n
        rw [h1] at this
        simp at this
        omega
      have hjl : j < (pmarks k n).length := by rw [pmarks_len]; exact hlt
      have hm : (pmarks k n)[j] = pmark (k + 5 * j) := by
        have := pmarks_at k n j hlt
        rw [List.getElem?_eq_getElem hjl] at this
        exact Option.some.inj this
      obtain ⟨c0, c1, c2, c3, c4⟩ := hc j hjl
      rw [hm] at c0 c1 c2 c3 c4
      simp only [pmark] at c0 c1 c2 c3 c4
      obtain ⟨y, hy⟩ : ∃ y : Int, k + 5 * (j : Int) = y := ⟨_, rfl⟩
      have hy1 : y ≤ 1006000000 ∧ 0 ≤ y := by omega
      rw [hy] at c0 c1 c2 c3 c4 ⊢
      have HY := Lib.hid hy
      clear hc hm hy
      go_wp2_with fail
      go_round
      case rel => exact ⟨j + 1, by omega, by go_num, by have := HY.out; go_num⟩
      case measure => simp [intOf]; omega
    · obtain rfl : j = n := by omega
      go_wp2_with fail
      go_ret
      exact ⟨rfl, rfl⟩
theorem heldPB {n : Nat} {lo hi : Nat} {u : Value} {w : World} (hn : n ≤ 1048576) (k : Int) (hk0 : 0 ≤ k) (hk1 : k ≤ 1000000000) (h : PB (pmarks k n) lo hi u w) :
    Calls Try.prog 27 #[u, .int .i64 k] w fun e w' => e = .returned (.int .i64 (k + 5 * n)) ∧ Below w.heap.size w w' := by
  have k' := h.at
  obtain ⟨a, cap, rfl, _⟩ := h
  rw [pmarks_len] at k' ⊢
  refine (heldPickS_any a cap n k w _ hn hk0 hk1 k').mono ?_
  rintro e w' ⟨rfl, rfl⟩
  exact ⟨rfl, Below.refl _ _⟩

/-- The cells of picks. -/
def pcl : List Pk → List Value
  | [] => []
  | x :: t => [.int .i64 x.1, .int .i64 x.2.1, .int .i64 x.2.2.1, .int .i64 x.2.2.2.1, .int .i64 x.2.2.2.2] ++ pcl t
theorem pcl_len : ∀ A : List Pk, (pcl A).length = A.length * 5
  | [] => rfl
  | x :: t => by simp only [pcl, List.length_append, List.length_cons, List.length_nil, pcl_len t]; omega
theorem pcl_app : ∀ A B : List Pk, pcl (A ++ B) = pcl A ++ pcl B
  | [], _ => rfl
  | x :: t, B => by simp only [List.cons_append, pcl, pcl_app t B, List.append_assoc]
theorem pcl_at : ∀ (A : List Pk) (i : Nat) (h : i < A.length), (pcl A)[i * 5]? = some (.int .i64 A[i].1) ∧ (pcl A)[i * 5 + 1]? = some (.int .i64 A[i].2.1) ∧ (pcl A)[i * 5 + 2]? = some (.int .i64 A[i].2.2.1) ∧ (pcl A)[i * 5 + 3]? = some (.int .i64 A[i].2.2.2.1) ∧ (pcl A)[i * 5 + 4]? = some (.int .i64 A[i].2.2.2.2)
  | [], i, h => absurd h (by simp)
  | x :: t, 0, _ => ⟨rfl, rfl, rfl, rfl, rfl⟩
  | x :: t, i + 1, h => by
    have hh : i < t.length := by simpa using h
    obtain ⟨h0, h1, h2, h3, h4⟩ := pcl_at t i hh
    have e : ∀ j, (pcl (x :: t))[(i + 1) * 5 + j]? = (pcl t)[i * 5 + j]? := fun j => by
      show (([.int .i64 x.1, .int .i64 x.2.1, .int .i64 x.2.2.1, .int .i64 x.2.2.2.1, .int .i64 x.2.2.2.2] : List Value) ++ pcl t)[(i + 1) * 5 + j]? = _
      rw [List.getElem?_append_right (by simp; omega)]
      congr 1
      simp
      omega
    exact ⟨(e 0).trans h0, (e 1).trans h1, (e 2).trans h2, (e 3).trans h3, (e 4).trans h4⟩
abbrev KOwn (w : World) (base : Nat) (v : Value) (L : List Pk) : Prop := w.ownsRow base 68 5 v L.length (pcl L)
theorem KOwn.pb {w : World} {base : Nat} {v : Value} {L : List Pk} (h : KOwn w base v L) : PB L base w.heap.size v w := by
  obtain ⟨_, ⟨rfl, hn⟩ | ⟨g, cap, cur, rfl, hb, hg, hnc, hcm, hcs, htk⟩⟩ := h
  · obtain rfl : L = [] := List.eq_nil_of_length_eq_zero hn
    exact ⟨none, 0, rfl, .inl rfl⟩
  · refine ⟨some ⟨g, 0, none⟩, cap, rfl, .inr ⟨g, cap, rfl, ⟨cur, hg, hcs, hnc, fun i hi => ?_⟩, hb, (Array.getElem?_eq_some_iff.1 hg).1⟩⟩
    have e : ∀ j, j < 5 → cur[i * 5 + j]? = (pcl L)[i * 5 + j]? := fun j hj => by
      rw [← htk, List.getElem?_take, if_pos (by omega), Array.getElem?_toList]
    obtain ⟨h0, h1, h2, h3, h4⟩ := pcl_at L i hi
    exact ⟨(e 0 (by omega)).trans h0, (e 1 (by omega)).trans h1, (e 2 (by omega)).trans h2, (e 3 (by omega)).trans h3, (e 4 (by omega)).trans h4⟩
theorem KOwn.below {w w' : World} {base : Nat} {v : Value} {L : List Pk} (h : KOwn w base v L) (hb : Below w.heap.size w w') : KOwn w' base v L := by
  refine ⟨h.1, ?_⟩
  rcases h.2 with hn | ⟨g, cap, cur, hv, hb', hg, rest⟩
  · exact .inl hn
  · exact .inr ⟨g, cap, cur, hv, hb', (hb.block g (Array.getElem?_eq_some_iff.1 hg).1).trans hg, rest⟩
theorem KOwn.push {w : World} {base : Nat} {v : Value} {L : List Pk} {x a b c d : Int} (h : w.ownsRow base 68 5 v (L.length + 1) (pcl L ++ [.int .i64 x, .int .i64 a, .int .i64 b, .int .i64 c, .int .i64 d])) : KOwn w base v (L ++ [(x, a, b, c, d)]) := by
  show w.ownsRow base 68 5 v (L ++ [(x, a, b, c, d)]).length (pcl (L ++ [(x, a, b, c, d)]))
  rw [pcl_app, List.length_append]
  exact h
theorem infoPick : (Try.prog.info? 68).map (fun i => (i.zero, i.size, i.bytes)) = some (some (.agg #[.int .i64 0, .int .i64 0, .int .i64 0, .int .i64 0, .int .i64 0]), 5, 40) := by kernel_rfl
theorem pick_new (w : World) (x a b c d : Int) : ∀ j u, [Value.int .i64 x, .int .i64 a, .int .i64 b, .int .i64 c, .int .i64 d][j]? = some u → (w.alloc (.cells #[.int .i64 x, .int .i64 a, .int .i64 b, .int .i64 c, .int .i64 d] 68)).cell? ((⟨w.heap.size, 0, none⟩ : Addr).add j) = some u :=
  World.news_of_block (heap_alloc_new w _)
theorem pick_one (x a b c d : Int) : ∀ u ∈ [Value.int .i64 x, .int .i64 a, .int .i64 b, .int .i64 c, .int .i64 d], u.oneCell' = true := by
  intro u hu
  simp only [List.mem_cons, List.not_mem_nil, or_false] at hu
  rcases hu with rfl | rfl | rfl | rfl | rfl <;> rfl
theorem KOwn.gone {w wr w1 : World} {B : Nat} {v : Value} {L : List Pk} {o : Obj} (h : KOwn wr B v L) (hb : Below B w wr) (hB : B ≤ wr.heap.size) (hg : (wr.alloc o).grownBy w1 v.ownBlock) : Below B w w1 :=
  (hb.alloc hB o).grown hg (by simp; omega) fun k hk => ((World.ownsRow.lt h) k hk).1
end Cpu
end Go.Proofs.Ytgnjhmmedogcoaa
