/- Contracts of the laws' functions that compare ranges, mark rows of spans and see whether the marks are held, over this seat's translation: marking turns the row's own block alone. Condition: at most 1048576 spans. -/
import Derived.Test.YtdjnfmekbjmdhaaSpeq
namespace Go.Proofs.Ytdjnfmekbjmdhaa
open Go.RowKit Go.Sort

set_option maxHeartbeats 400000 in
theorem eqSpanS_any (a a' : Option Addr) (cap cap' : Nat) (L M : List (Int × Int)) (w : World) (hl : L.length ≤ 1048576) (_hm : M.length ≤ 1048576)
    (h : SpAt w w.heap.size (.slice a L.length cap) L) (h' : SpAt w w.heap.size (.slice a' M.length cap') M) :
    Calls Try.prog 123 #[.slice a L.length cap, .slice a' M.length cap'] w fun e w' => e = .returned (.bool (decide (L = M))) ∧ Below w.heap.size w w' := by
  by_cases hLM : M.length = L.length
  · rw [hLM]
    exact eqSpanS_same a a' cap cap' L M w hl hLM h h'
  · have hz : ((L.length : Int) != (M.length : Int)) = true := by rw [bne_iff_ne]; omega
    have HD := Lib.hid (decide_eq_false (p := L = M) (fun e => hLM (by rw [e])))
    clear hLM h h'
    go_enter Try.func123, Try.ntmps123
    go_wp2
    go_ret
    exact ⟨by rw [HD.out]; rfl, Below.refl _ _⟩

set_option maxHeartbeats 400000 in
theorem eqRange_any (a a' : Option Addr) (cap cap' : Nat) (L M : List (Int × Int)) (w : World) (hl : L.length ≤ 1048576) (hm : M.length ≤ 1048576)
    (h : SpAt w w.heap.size (.slice a L.length cap) L) (h' : SpAt w w.heap.size (.slice a' M.length cap') M) :
    Calls Try.prog 106 #[.agg #[.slice a L.length cap], .agg #[.slice a' M.length cap']] w fun e w' => e = .returned (.bool (decide (L = M))) ∧ Below w.heap.size w w' := by
  have b0 := ((Below.refl w.heap.size w).alloc (Nat.le_refl _) (.cells #[.slice a L.length cap] 95)).alloc (by simp) (.cells #[.slice a' M.length cap'] 95)
  have K := eqSpanS_any a a' cap cap' L M _ hl hm ((h.below b0).mono b0.size) ((h'.below b0).mono b0.size)
  have HB := Lib.hid b0
  clear h h' b0
  rcases hd : decide (L = M)
  all_goals
    rw [hd] at K
    have HK := Lib.hid K
    clear hd K
    go_enter Try.func106, Try.ntmps106
    go_wp2_with fail
    refine HK.out.mono ?_
    rintro e w1 ⟨rfl, hb⟩
    go_wp2_with fail
    go_ret
    exact ⟨rfl, HB.out.trans (hb.mono HB.out.size)⟩

theorem SpBlk.set {w : World} {g n : Nat} {L : List (Int × Int)} (h : SpBlk w g n L) {i : Nat} (hi : i < L.length) (x y : Int) :
    SpBlk ((w.setCell ⟨g, i * 2, none⟩ (.int .i64 x)).setCell ⟨g, i * 2 + 1, none⟩ (.int .i64 y)) g n (L.set i (x, y)) := by
  obtain ⟨C, h, hs, hl, hc⟩ := h
  refine ⟨(C.setIfInBounds (i * 2) (.int .i64 x)).setIfInBounds (i * 2 + 1) (.int .i64 y), ?_, by simpa using hs, by simpa using hl, fun j hj => ?_⟩
  · simp [World.setCell, Array.getElem?_modify, h]
  · simp only [List.length_set] at hj
    obtain ⟨h1, h2⟩ := hc j hj
    by_cases e : j = i
    · subst e
      rw [List.getElem_set_self]
      refine ⟨?_, ?_⟩
      · rw [Array.getElem?_setIfInBounds_ne (by omega), Array.getElem?_setIfInBounds_self_of_lt (by omega)]
      · rw [Array.getElem?_setIfInBounds_self_of_lt (by simp; omega)]
    · rw [List.getElem_set_ne (fun e' => e e'.symm)]
      refine ⟨?_, ?_⟩
      · rw [Array.getElem?_setIfInBounds_ne (by omega), Array.getElem?_setIfInBounds_ne (by omega)]; exact h1
      · rw [Array.getElem?_setIfInBounds_ne (by omega), Array.getElem?_setIfInBounds_ne (by omega)]; exact h2

/-- The marks that are written, from a number on. -/
def marks (k : Int) : Nat → List (Int × Int)
  | 0 => []
  | n + 1 => marks k n ++ [(k + 2 * n, k + 2 * n + 1)]
theorem marks_len (k : Int) : ∀ n, (marks k n).length = n
  | 0 => rfl
  | n + 1 => by simp [marks, marks_len k n]
theorem marks_at (k : Int) : ∀ (n i : Nat), i < n → (marks k n)[i]? = some (k + 2 * i, k + 2 * i + 1)
  | 0, _, h => absurd h (by omega)
  | n + 1, i, h => by
    unfold marks
    by_cases e : i < n
    · rw [List.getElem?_append_left (by rw [marks_len]; exact e), marks_at k n i e]
    · obtain rfl : i = n := by omega
      rw [List.getElem?_append_right (by rw [marks_len]; exact Nat.le_refl _), marks_len]
      simp

theorem grown_two {w wx : World} {g x y : Nat} {u v : Value} (h : w.grownBy wx (some g)) : w.grownBy ((wx.setCell ⟨g, x, none⟩ u).setCell ⟨g, y, none⟩ v) (some g) :=
  ⟨h.os, h.tape, h.output, by simpa [World.setCell] using h.size, fun i hi hne => (Below.heap_setCell _ ⟨g, y, none⟩ v i (fun e => hne (by rw [e]))).trans ((Below.heap_setCell wx ⟨g, x, none⟩ u i (fun e => hne (by rw [e]))).trans (h.block i hi hne))⟩

/-- What the loop of markSpanS keeps: the first j spans are marked. -/
def MarkRel (k : Int) (m n g : Nat) (w : World) (s1 i : Value) (wr : World) : Prop :=
  ∃ (j : Nat) (M : List (Int × Int)), j ≤ m ∧ i = .int .i64 (j : Int) ∧ s1 = .int .i64 (k + 2 * j) ∧ M.length = m ∧ M.take j = marks k j ∧ SpBlk wr g n M ∧ w.grownBy wr (some g)

theorem mark_push {k : Int} {m n g j : Nat} {w wr : World} {M : List (Int × Int)} (hj : j < m) (hM : M.length = m) (ht : M.take j = marks k j) (hblk : SpBlk wr g n M) (hg : w.grownBy wr (some g)) :
    MarkRel k m n g w (.int .i64 (k + 2 * j + 1 + 1)) (.int .i64 ((j : Int) + 1)) ((wr.setCell ⟨g, j * 2, none⟩ (.int .i64 (k + 2 * j))).setCell ⟨g, j * 2 + 1, none⟩ (.int .i64 (k + 2 * j + 1))) := by
  refine ⟨j + 1, M.set j (k + 2 * j, k + 2 * j + 1), by omega, by go_num, by go_num, by simpa using hM, ?_, hblk.set (by omega) _ _, grown_two hg⟩
  rw [List.take_add_one, List.take_set_of_le (Nat.le_refl _), ht, List.getElem?_set_self (by omega)]
  rfl

def MarkPost (k : Int) (m n g : Nat) (w : World) (e : Ending) (w' : World) : Prop :=
  e = .returned (.int .i64 (k + 2 * m)) ∧ SpBlk w' g n (marks k m) ∧ w.grownBy w' (some g)

set_option maxHeartbeats 1000000 in
theorem markSpanS_any (g n cap : Nat) (L : List (Int × Int)) (k : Int) (w : World) (hl : L.length ≤ 1048576) (hk0 : 0 ≤ k) (hk1 : k ≤ 1000000000) (h : SpBlk w g n L) :
    Calls Try.prog 79 #[.slice (some ⟨g, 0, none⟩) L.length cap, .int .i64 k] w (MarkPost k L.length n g w) := by
  have hln : L.length ≤ n := by obtain ⟨_, _, _, h, _⟩ := h; exact h
  have HS := Lib.hid (show MarkRel k L.length n g w (.int .i64 k) (.int .i64 0) w from ⟨0, L, Nat.zero_le _, rfl, by simp, rfl, rfl, h, ⟨rfl, rfl, rfl, Nat.le_refl _, fun _ _ _ => rfl⟩⟩)
  clear h
  generalize L.length = m at *
  go_enter Try.func79, Try.ntmps79
  go_wp2
  go_loopw [1, 5] (fun s1 i wr => MarkRel k m n g w s1 i wr) (fun _ i _ => m - (intOf i).toNat)
  case atStart => exact HS.out
  case round =>
    obtain ⟨j, M, hj, rfl, rfl, hM, ht, hblk, hg⟩ := hrel
    by_cases hlt : j < m
    · obtain ⟨⟨p0, hp0⟩, ⟨p1, hp1⟩, f0, f1⟩ := hblk.place (show j < n by omega)
      have HP := Lib.hid (mark_push hlt hM ht hblk hg)
      clear hblk hg ht hM
      go_wp2_with fail
      go_roundw
      case rel => exact HP.out
      case measure => simp [intOf]; omega
    · obtain rfl : j = m := by omega
      have HM := Lib.hid (show SpBlk wr g n (marks k j) by rwa [← ht, List.take_of_length_le (by omega)])
      clear hblk ht
      go_wp2_with fail
      go_ret
      exact ⟨rfl, HM.out, hg⟩

set_option maxHeartbeats 1000000 in
theorem heldSpanS_any (a : Option Addr) (cap n : Nat) (k : Int) (w : World) (B : Nat) (hl : n ≤ 1048576) (hk0 : 0 ≤ k) (hk1 : k ≤ 1000000000) (h : SpAt w B (.slice a n cap) (marks k n)) :
    Calls Try.prog 98 #[.slice a n cap, .int .i64 k] w fun e w' => e = .returned (.int .i64 (k + 2 * n)) ∧ w = w' := by
  obtain ⟨a1, cap1, e1, h1⟩ := h
  simp only [Value.slice.injEq] at e1
  obtain ⟨rfl, hnn, rfl⟩ := e1
  clear hnn
  have H := Lib.hid h1
  clear h1
  go_enter Try.func98, Try.ntmps98
  go_wp2
  go_loop [1, 5] (fun s1 i => ∃ j : Nat, j ≤ n ∧ i = .int .i64 (j : Int) ∧ s1 = .int .i64 (k + 2 * j)) (fun _ i => n - (intOf i).toNat)
  case atStart => exact ⟨0, Nat.zero_le _, rfl, by simp⟩
  case round =>
    obtain ⟨j, hj, rfl, rfl⟩ := hrel
    by_cases hlt : j < n
    · rcases H.out with h1 | ⟨b, o, rfl, hB, hc⟩
      · have := marks_len k n
        rw [h1] at this
        simp at this
        omega
      have hjl : j < (marks k n).length := by rw [marks_len]; exact hlt
      have hm : (marks k n)[j] = (k + 2 * j, k + 2 * j + 1) := by
        have := marks_at k n j hlt
        rw [List.getElem?_eq_getElem hjl] at this
        exact Option.some.inj this
      obtain ⟨c0, c1⟩ := hc j hjl
      rw [hm] at c0 c1
      simp only at c0 c1
      clear hc hm
      go_wp2_with fail
      go_round
      case rel => exact ⟨j + 1, by omega, by go_num, by go_num⟩
      case measure => simp [intOf]; omega
    · obtain rfl : j = n := by omega
      go_wp2_with fail
      go_ret
      exact ⟨rfl, rfl⟩


end Go.Proofs.Ytdjnfmekbjmdhaa
