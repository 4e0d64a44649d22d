/- Contracts of lineOk, over this seat's translation: they answer whether lines are a script and texts are inputs; nothing that was there before a call has changed. Condition: at most 1048576 lines and texts, of at most 1048576 bytes. -/
import Derived.Test.YtopplljilmjjgaaRxp
import Derived.Handy
namespace Go.Proofs.Ytopplljilmjjgaa
open Go.RowKit Go.Sort
namespace Rx
theorem text_nil {t : ByteArray} (h : t.size = 0) : t = ⟨#[]⟩ := by
  obtain ⟨⟨l⟩⟩ := t
  simp [ByteArray.size] at h
  subst h
  rfl
theorem text_ne {t : ByteArray} (h : ¬ t.size = 0) : (t.toList == []) = false := by
  rw [ByteArray.toList_eq, beq_eq_false_iff_ne]
  intro e
  apply h
  have := congrArg List.length e
  simpa using this
theorem lOk_no {x : Ln} {ins : Int} (h : ¬ LOk x ins) : lOk x ins = false := decide_eq_false h
theorem lOk_yes {x : Ln} {ins : Int} (h : LOk x ins) : lOk x ins = true := decide_eq_true h

set_option maxRecDepth 100000 in
set_option maxHeartbeats 1000000 in
theorem line_0 (a b : Int) (t : ByteArray) (ins : Int) (w : World) (h0 : ¬ 0 ≤ a) : Calls Try.prog 139 #[line 0 a b t, .int .i64 ins] w fun e w' => e = .returned (.bool (lOk (0, a, b, t) ins)) ∧ Below w.heap.size w w' := by
  have HE := Lib.hid (show lOk ((0, a, b, t) : Ln) ins = false from lOk_no (by unfold LOk; dsimp only; omega))
  go_enter Try.func139, Try.ntmps139
  go_wp2
  go_ret
  exact ⟨by rw [HE.out]; rfl, (Below.refl _ _).alloc (Nat.le_refl _) _⟩
set_option maxRecDepth 100000 in
set_option maxHeartbeats 1000000 in
theorem line_1 (a b : Int) (t : ByteArray) (ins : Int) (w : World) (h0 : 0 ≤ a) (h1 : ¬ a < ins) : Calls Try.prog 139 #[line 0 a b t, .int .i64 ins] w fun e w' => e = .returned (.bool (lOk (0, a, b, t) ins)) ∧ Below w.heap.size w w' := by
  have HE := Lib.hid (show lOk ((0, a, b, t) : Ln) ins = false from lOk_no (by unfold LOk; dsimp only; omega))
  go_enter Try.func139, Try.ntmps139
  go_wp2
  go_ret
  exact ⟨by rw [HE.out]; rfl, (Below.refl _ _).alloc (Nat.le_refl _) _⟩
set_option maxRecDepth 100000 in
set_option maxHeartbeats 1000000 in
theorem line_2 (a b : Int) (t : ByteArray) (ins : Int) (w : World) (h0 : 0 ≤ a) (h1 : a < ins) (h2 : ¬ b = 0) : Calls Try.prog 139 #[line 0 a b t, .int .i64 ins] w fun e w' => e = .returned (.bool (lOk (0, a, b, t) ins)) ∧ Below w.heap.size w w' := by
  have HE := Lib.hid (show lOk ((0, a, b, t) : Ln) ins = false from lOk_no (by unfold LOk; dsimp only; omega))
  go_enter Try.func139, Try.ntmps139
  go_wp2
  go_ret
  exact ⟨by rw [HE.out]; rfl, (Below.refl _ _).alloc (Nat.le_refl _) _⟩
set_option maxRecDepth 100000 in
set_option maxHeartbeats 1000000 in
theorem line_3 (a b : Int) (t : ByteArray) (ins : Int) (w : World) (h0 : 0 ≤ a) (h1 : a < ins) (h2 : b = 0) (h3 : ¬ t.size = 0) : Calls Try.prog 139 #[line 0 a b t, .int .i64 ins] w fun e w' => e = .returned (.bool (lOk (0, a, b, t) ins)) ∧ Below w.heap.size w w' := by
  subst h2
  have HE := Lib.hid (show lOk ((0, a, 0, t) : Ln) ins = false from lOk_no (by unfold LOk; dsimp only; omega))
  have hT := text_ne h3
  go_enter Try.func139, Try.ntmps139
  go_wp2
  go_ret
  exact ⟨by rw [HE.out]; rfl, (Below.refl _ _).alloc (Nat.le_refl _) _⟩
set_option maxRecDepth 100000 in
set_option maxHeartbeats 1000000 in
theorem line_4 (a b : Int) (t : ByteArray) (ins : Int) (w : World) (h0 : 0 ≤ a) (h1 : a < ins) (h2 : b = 0) (h3 : t.size = 0) : Calls Try.prog 139 #[line 0 a b t, .int .i64 ins] w fun e w' => e = .returned (.bool (lOk (0, a, b, t) ins)) ∧ Below w.heap.size w w' := by
  subst h2
  have HE := Lib.hid (show lOk ((0, a, 0, t) : Ln) ins = true from lOk_yes (by unfold LOk; dsimp only; omega))
  obtain rfl := text_nil h3
  go_enter Try.func139, Try.ntmps139
  go_wp2
  go_ret
  exact ⟨by rw [HE.out]; rfl, (Below.refl _ _).alloc (Nat.le_refl _) _⟩
set_option maxRecDepth 100000 in
set_option maxHeartbeats 1000000 in
theorem line_5 (a b : Int) (t : ByteArray) (ins : Int) (w : World) (h0 : ¬ 0 ≤ a) : Calls Try.prog 139 #[line 5 a b t, .int .i64 ins] w fun e w' => e = .returned (.bool (lOk (5, a, b, t) ins)) ∧ Below w.heap.size w w' := by
  have HE := Lib.hid (show lOk ((5, a, b, t) : Ln) ins = false from lOk_no (by unfold LOk; dsimp only; omega))
  go_enter Try.func139, Try.ntmps139
  go_wp2
  go_ret
  exact ⟨by rw [HE.out]; rfl, (Below.refl _ _).alloc (Nat.le_refl _) _⟩
set_option maxRecDepth 100000 in
set_option maxHeartbeats 1000000 in
theorem line_6 (a b : Int) (t : ByteArray) (ins : Int) (w : World) (h0 : 0 ≤ a) (h1 : ¬ a < ins) : Calls Try.prog 139 #[line 5 a b t, .int .i64 ins] w fun e w' => e = .returned (.bool (lOk (5, a, b, t) ins)) ∧ Below w.heap.size w w' := by
  have HE := Lib.hid (show lOk ((5, a, b, t) : Ln) ins = false from lOk_no (by unfold LOk; dsimp only; omega))
  go_enter Try.func139, Try.ntmps139
  go_wp2
  go_ret
  exact ⟨by rw [HE.out]; rfl, (Below.refl _ _).alloc (Nat.le_refl _) _⟩
set_option maxRecDepth 100000 in
set_option maxHeartbeats 1000000 in
theorem line_7 (a b : Int) (t : ByteArray) (ins : Int) (w : World) (h0 : 0 ≤ a) (h1 : a < ins) (h2 : ¬ b = 0) : Calls Try.prog 139 #[line 5 a b t, .int .i64 ins] w fun e w' => e = .returned (.bool (lOk (5, a, b, t) ins)) ∧ Below w.heap.size w w' := by
  have HE := Lib.hid (show lOk ((5, a, b, t) : Ln) ins = false from lOk_no (by unfold LOk; dsimp only; omega))
  go_enter Try.func139, Try.ntmps139
  go_wp2
  go_ret
  exact ⟨by rw [HE.out]; rfl, (Below.refl _ _).alloc (Nat.le_refl _) _⟩
set_option maxRecDepth 100000 in
set_option maxHeartbeats 1000000 in
theorem line_8 (a b : Int) (t : ByteArray) (ins : Int) (w : World) (h0 : 0 ≤ a) (h1 : a < ins) (h2 : b = 0) (h3 : ¬ t.size = 0) : Calls Try.prog 139 #[line 5 a b t, .int .i64 ins] w fun e w' => e = .returned (.bool (lOk (5, a, b, t) ins)) ∧ Below w.heap.size w w' := by
  subst h2
  have HE := Lib.hid (show lOk ((5, a, 0, t) : Ln) ins = false from lOk_no (by unfold LOk; dsimp only; omega))
  have hT := text_ne h3
  go_enter Try.func139, Try.ntmps139
  go_wp2
  go_ret
  exact ⟨by rw [HE.out]; rfl, (Below.refl _ _).alloc (Nat.le_refl _) _⟩
set_option maxRecDepth 100000 in
set_option maxHeartbeats 1000000 in
theorem line_9 (a b : Int) (t : ByteArray) (ins : Int) (w : World) (h0 : 0 ≤ a) (h1 : a < ins) (h2 : b = 0) (h3 : t.size = 0) : Calls Try.prog 139 #[line 5 a b t, .int .i64 ins] w fun e w' => e = .returned (.bool (lOk (5, a, b, t) ins)) ∧ Below w.heap.size w w' := by
  subst h2
  have HE := Lib.hid (show lOk ((5, a, 0, t) : Ln) ins = true from lOk_yes (by unfold LOk; dsimp only; omega))
  obtain rfl := text_nil h3
  go_enter Try.func139, Try.ntmps139
  go_wp2
  go_ret
  exact ⟨by rw [HE.out]; rfl, (Below.refl _ _).alloc (Nat.le_refl _) _⟩
set_option maxRecDepth 100000 in
set_option maxHeartbeats 1000000 in
theorem line_10 (a b : Int) (t : ByteArray) (ins : Int) (w : World) (h0 : ¬ a = 0) : Calls Try.prog 139 #[line 1 a b t, .int .i64 ins] w fun e w' => e = .returned (.bool (lOk (1, a, b, t) ins)) ∧ Below w.heap.size w w' := by
  have HE := Lib.hid (show lOk ((1, a, b, t) : Ln) ins = false from lOk_no (by unfold LOk; dsimp only; omega))
  by_cases ga : 0 ≤ a <;> by_cases gb : a < ins <;> by_cases gc : (t.size : Int) ≤ 8
  all_goals
    go_enter Try.func139, Try.ntmps139
    go_wp2
    go_ret
    exact ⟨by rw [HE.out]; rfl, (Below.refl _ _).alloc (Nat.le_refl _) _⟩
set_option maxRecDepth 100000 in
set_option maxHeartbeats 1000000 in
theorem line_11 (a b : Int) (t : ByteArray) (ins : Int) (w : World) (h0 : a = 0) (h1 : ¬ b = 0) : Calls Try.prog 139 #[line 1 a b t, .int .i64 ins] w fun e w' => e = .returned (.bool (lOk (1, a, b, t) ins)) ∧ Below w.heap.size w w' := by
  subst h0
  have HE := Lib.hid (show lOk ((1, 0, b, t) : Ln) ins = false from lOk_no (by unfold LOk; dsimp only; omega))
  by_cases gc : (t.size : Int) ≤ 8
  all_goals
    go_enter Try.func139, Try.ntmps139
    go_wp2
    go_ret
    exact ⟨by rw [HE.out]; rfl, (Below.refl _ _).alloc (Nat.le_refl _) _⟩
set_option maxRecDepth 100000 in
set_option maxHeartbeats 1000000 in
theorem line_12 (a b : Int) (t : ByteArray) (ins : Int) (w : World) (h0 : a = 0) (h1 : b = 0) (h2 : ¬ t.size ≤ 8) : Calls Try.prog 139 #[line 1 a b t, .int .i64 ins] w fun e w' => e = .returned (.bool (lOk (1, a, b, t) ins)) ∧ Below w.heap.size w w' := by
  subst h0
  subst h1
  have HE := Lib.hid (show lOk ((1, 0, 0, t) : Ln) ins = false from lOk_no (by unfold LOk; dsimp only; omega))
  have gx : ¬ (t.size : Int) ≤ 8 := by omega
  by_cases gi : 0 < ins
  all_goals
    go_enter Try.func139, Try.ntmps139
    go_wp2
    go_ret
    exact ⟨by rw [HE.out]; rfl, (Below.refl _ _).alloc (Nat.le_refl _) _⟩
set_option maxRecDepth 100000 in
set_option maxHeartbeats 1000000 in
theorem line_13 (a b : Int) (t : ByteArray) (ins : Int) (w : World) (h0 : a = 0) (h1 : b = 0) (h2 : t.size ≤ 8) : Calls Try.prog 139 #[line 1 a b t, .int .i64 ins] w fun e w' => e = .returned (.bool (lOk (1, a, b, t) ins)) ∧ Below w.heap.size w w' := by
  subst h0
  subst h1
  have HE := Lib.hid (show lOk ((1, 0, 0, t) : Ln) ins = true from lOk_yes (by unfold LOk; dsimp only; omega))
  go_enter Try.func139, Try.ntmps139
  go_wp2
  go_ret
  exact ⟨by rw [HE.out]; rfl, (Below.refl _ _).alloc (Nat.le_refl _) _⟩
set_option maxRecDepth 100000 in
set_option maxHeartbeats 1000000 in
theorem line_14 (a b : Int) (t : ByteArray) (ins : Int) (w : World) (h0 : ¬ 0 ≤ a) : Calls Try.prog 139 #[line 2 a b t, .int .i64 ins] w fun e w' => e = .returned (.bool (lOk (2, a, b, t) ins)) ∧ Below w.heap.size w w' := by
  have HE := Lib.hid (show lOk ((2, a, b, t) : Ln) ins = false from lOk_no (by unfold LOk; dsimp only; omega))
  go_enter Try.func139, Try.ntmps139
  go_wp2
  go_ret
  exact ⟨by rw [HE.out]; rfl, (Below.refl _ _).alloc (Nat.le_refl _) _⟩
set_option maxRecDepth 100000 in
set_option maxHeartbeats 1000000 in
theorem line_15 (a b : Int) (t : ByteArray) (ins : Int) (w : World) (h0 : 0 ≤ a) (h1 : ¬ a < ins) : Calls Try.prog 139 #[line 2 a b t, .int .i64 ins] w fun e w' => e = .returned (.bool (lOk (2, a, b, t) ins)) ∧ Below w.heap.size w w' := by
  have HE := Lib.hid (show lOk ((2, a, b, t) : Ln) ins = false from lOk_no (by unfold LOk; dsimp only; omega))
  go_enter Try.func139, Try.ntmps139
  go_wp2
  go_ret
  exact ⟨by rw [HE.out]; rfl, (Below.refl _ _).alloc (Nat.le_refl _) _⟩
set_option maxRecDepth 100000 in
set_option maxHeartbeats 1000000 in
theorem line_16 (a b : Int) (t : ByteArray) (ins : Int) (w : World) (h0 : 0 ≤ a) (h1 : a < ins) (h2 : ¬ 1 ≤ b) : Calls Try.prog 139 #[line 2 a b t, .int .i64 ins] w fun e w' => e = .returned (.bool (lOk (2, a, b, t) ins)) ∧ Below w.heap.size w w' := by
  have HE := Lib.hid (show lOk ((2, a, b, t) : Ln) ins = false from lOk_no (by unfold LOk; dsimp only; omega))
  go_enter Try.func139, Try.ntmps139
  go_wp2
  go_ret
  exact ⟨by rw [HE.out]; rfl, (Below.refl _ _).alloc (Nat.le_refl _) _⟩
set_option maxRecDepth 100000 in
set_option maxHeartbeats 1000000 in
theorem line_17 (a b : Int) (t : ByteArray) (ins : Int) (w : World) (h0 : 0 ≤ a) (h1 : a < ins) (h2 : 1 ≤ b) (h3 : ¬ b ≤ 10) : Calls Try.prog 139 #[line 2 a b t, .int .i64 ins] w fun e w' => e = .returned (.bool (lOk (2, a, b, t) ins)) ∧ Below w.heap.size w w' := by
  have HE := Lib.hid (show lOk ((2, a, b, t) : Ln) ins = false from lOk_no (by unfold LOk; dsimp only; omega))
  go_enter Try.func139, Try.ntmps139
  go_wp2
  go_ret
  exact ⟨by rw [HE.out]; rfl, (Below.refl _ _).alloc (Nat.le_refl _) _⟩
set_option maxRecDepth 100000 in
set_option maxHeartbeats 1000000 in
theorem line_18 (a b : Int) (t : ByteArray) (ins : Int) (w : World) (h0 : 0 ≤ a) (h1 : a < ins) (h2 : 1 ≤ b) (h3 : b ≤ 10) (h4 : ¬ t.size = 0) : Calls Try.prog 139 #[line 2 a b t, .int .i64 ins] w fun e w' => e = .returned (.bool (lOk (2, a, b, t) ins)) ∧ Below w.heap.size w w' := by
  have HE := Lib.hid (show lOk ((2, a, b, t) : Ln) ins = false from lOk_no (by unfold LOk; dsimp only; omega))
  have hT := text_ne h4
  go_enter Try.func139, Try.ntmps139
  go_wp2
  go_ret
  exact ⟨by rw [HE.out]; rfl, (Below.refl _ _).alloc (Nat.le_refl _) _⟩
set_option maxRecDepth 100000 in
set_option maxHeartbeats 1000000 in
theorem line_19 (a b : Int) (t : ByteArray) (ins : Int) (w : World) (h0 : 0 ≤ a) (h1 : a < ins) (h2 : 1 ≤ b) (h3 : b ≤ 10) (h4 : t.size = 0) : Calls Try.prog 139 #[line 2 a b t, .int .i64 ins] w fun e w' => e = .returned (.bool (lOk (2, a, b, t) ins)) ∧ Below w.heap.size w w' := by
  have HE := Lib.hid (show lOk ((2, a, b, t) : Ln) ins = true from lOk_yes (by unfold LOk; dsimp only; omega))
  obtain rfl := text_nil h4
  go_enter Try.func139, Try.ntmps139
  go_wp2
  go_ret
  exact ⟨by rw [HE.out]; rfl, (Below.refl _ _).alloc (Nat.le_refl _) _⟩
set_option maxRecDepth 100000 in
set_option maxHeartbeats 1000000 in
theorem line_20 (a b : Int) (t : ByteArray) (ins : Int) (w : World) (h0 : ¬ a = 0) : Calls Try.prog 139 #[line 3 a b t, .int .i64 ins] w fun e w' => e = .returned (.bool (lOk (3, a, b, t) ins)) ∧ Below w.heap.size w w' := by
  have HE := Lib.hid (show lOk ((3, a, b, t) : Ln) ins = false from lOk_no (by unfold LOk; dsimp only; omega))
  by_cases ga : 0 ≤ a <;> by_cases gb : a < ins <;> by_cases gc : (t.size : Int) ≤ 8
  all_goals
    go_enter Try.func139, Try.ntmps139
    go_wp2
    go_ret
    exact ⟨by rw [HE.out]; rfl, (Below.refl _ _).alloc (Nat.le_refl _) _⟩
set_option maxRecDepth 100000 in
set_option maxHeartbeats 1000000 in
theorem line_21 (a b : Int) (t : ByteArray) (ins : Int) (w : World) (h0 : a = 0) (h1 : ¬ b = 0) : Calls Try.prog 139 #[line 3 a b t, .int .i64 ins] w fun e w' => e = .returned (.bool (lOk (3, a, b, t) ins)) ∧ Below w.heap.size w w' := by
  subst h0
  have HE := Lib.hid (show lOk ((3, 0, b, t) : Ln) ins = false from lOk_no (by unfold LOk; dsimp only; omega))
  go_enter Try.func139, Try.ntmps139
  go_wp2
  go_ret
  exact ⟨by rw [HE.out]; rfl, (Below.refl _ _).alloc (Nat.le_refl _) _⟩
set_option maxRecDepth 100000 in
set_option maxHeartbeats 1000000 in
theorem line_22 (a b : Int) (t : ByteArray) (ins : Int) (w : World) (h0 : a = 0) (h1 : b = 0) (h2 : ¬ t.size = 0) : Calls Try.prog 139 #[line 3 a b t, .int .i64 ins] w fun e w' => e = .returned (.bool (lOk (3, a, b, t) ins)) ∧ Below w.heap.size w w' := by
  subst h0
  subst h1
  have HE := Lib.hid (show lOk ((3, 0, 0, t) : Ln) ins = false from lOk_no (by unfold LOk; dsimp only; omega))
  have hT := text_ne h2
  go_enter Try.func139, Try.ntmps139
  go_wp2
  go_ret
  exact ⟨by rw [HE.out]; rfl, (Below.refl _ _).alloc (Nat.le_refl _) _⟩
set_option maxRecDepth 100000 in
set_option maxHeartbeats 1000000 in
theorem line_23 (a b : Int) (t : ByteArray) (ins : Int) (w : World) (h0 : a = 0) (h1 : b = 0) (h2 : t.size = 0) : Calls Try.prog 139 #[line 3 a b t, .int .i64 ins] w fun e w' => e = .returned (.bool (lOk (3, a, b, t) ins)) ∧ Below w.heap.size w w' := by
  subst h0
  subst h1
  have HE := Lib.hid (show lOk ((3, 0, 0, t) : Ln) ins = true from lOk_yes (by unfold LOk; dsimp only; omega))
  obtain rfl := text_nil h2
  go_enter Try.func139, Try.ntmps139
  go_wp2
  go_ret
  exact ⟨by rw [HE.out]; rfl, (Below.refl _ _).alloc (Nat.le_refl _) _⟩
set_option maxRecDepth 100000 in
set_option maxHeartbeats 1000000 in
theorem line_24 (a b : Int) (t : ByteArray) (ins : Int) (w : World) (h0 : ¬ 0 ≤ a) : Calls Try.prog 139 #[line 4 a b t, .int .i64 ins] w fun e w' => e = .returned (.bool (lOk (4, a, b, t) ins)) ∧ Below w.heap.size w w' := by
  have HE := Lib.hid (show lOk ((4, a, b, t) : Ln) ins = false from lOk_no (by unfold LOk; dsimp only; omega))
  go_enter Try.func139, Try.ntmps139
  go_wp2
  go_ret
  exact ⟨by rw [HE.out]; rfl, (Below.refl _ _).alloc (Nat.le_refl _) _⟩
set_option maxRecDepth 100000 in
set_option maxHeartbeats 1000000 in
theorem line_25 (a b : Int) (t : ByteArray) (ins : Int) (w : World) (h0 : 0 ≤ a) (h1 : ¬ a ≤ 40) : Calls Try.prog 139 #[line 4 a b t, .int .i64 ins] w fun e w' => e = .returned (.bool (lOk (4, a, b, t) ins)) ∧ Below w.heap.size w w' := by
  have HE := Lib.hid (show lOk ((4, a, b, t) : Ln) ins = false from lOk_no (by unfold LOk; dsimp only; omega))
  go_enter Try.func139, Try.ntmps139
  go_wp2
  go_ret
  exact ⟨by rw [HE.out]; rfl, (Below.refl _ _).alloc (Nat.le_refl _) _⟩
set_option maxRecDepth 100000 in
set_option maxHeartbeats 1000000 in
theorem line_26 (a b : Int) (t : ByteArray) (ins : Int) (w : World) (h0 : 0 ≤ a) (h1 : a ≤ 40) (h2 : ¬ b = 0) : Calls Try.prog 139 #[line 4 a b t, .int .i64 ins] w fun e w' => e = .returned (.bool (lOk (4, a, b, t) ins)) ∧ Below w.heap.size w w' := by
  have HE := Lib.hid (show lOk ((4, a, b, t) : Ln) ins = false from lOk_no (by unfold LOk; dsimp only; omega))
  go_enter Try.func139, Try.ntmps139
  go_wp2
  go_ret
  exact ⟨by rw [HE.out]; rfl, (Below.refl _ _).alloc (Nat.le_refl _) _⟩
set_option maxRecDepth 100000 in
set_option maxHeartbeats 1000000 in
theorem line_27 (a b : Int) (t : ByteArray) (ins : Int) (w : World) (h0 : 0 ≤ a) (h1 : a ≤ 40) (h2 : b = 0) (h3 : ¬ t.size = 0) : Calls Try.prog 139 #[line 4 a b t, .int .i64 ins] w fun e w' => e = .returned (.bool (lOk (4, a, b, t) ins)) ∧ Below w.heap.size w w' := by
  subst h2
  have HE := Lib.hid (show lOk ((4, a, 0, t) : Ln) ins = false from lOk_no (by unfold LOk; dsimp only; omega))
  have hT := text_ne h3
  go_enter Try.func139, Try.ntmps139
  go_wp2
  go_ret
  exact ⟨by rw [HE.out]; rfl, (Below.refl _ _).alloc (Nat.le_refl _) _⟩
set_option maxRecDepth 100000 in
set_option maxHeartbeats 1000000 in
theorem line_28 (a b : Int) (t : ByteArray) (ins : Int) (w : World) (h0 : 0 ≤ a) (h1 : a ≤ 40) (h2 : b = 0) (h3 : t.size = 0) : Calls Try.prog 139 #[line 4 a b t, .int .i64 ins] w fun e w' => e = .returned (.bool (lOk (4, a, b, t) ins)) ∧ Below w.heap.size w w' := by
  subst h2
  have HE := Lib.hid (show lOk ((4, a, 0, t) : Ln) ins = true from lOk_yes (by unfold LOk; dsimp only; omega))
  obtain rfl := text_nil h3
  go_enter Try.func139, Try.ntmps139
  go_wp2
  go_ret
  exact ⟨by rw [HE.out]; rfl, (Below.refl _ _).alloc (Nat.le_refl _) _⟩
set_option maxRecDepth 100000 in
set_option maxHeartbeats 1000000 in
theorem line_none (k a b : Int) (t : ByteArray) (ins : Int) (w : World) (h0 : ¬ k = 0) (h1 : ¬ k = 1) (h2 : ¬ k = 2) (h3 : ¬ k = 3) (h4 : ¬ k = 4) (h5 : ¬ k = 5) : Calls Try.prog 139 #[line k a b t, .int .i64 ins] w fun e w' => e = .returned (.bool (lOk (k, a, b, t) ins)) ∧ Below w.heap.size w w' := by
  have HE := Lib.hid (show lOk ((k, a, b, t) : Ln) ins = false from lOk_no (by unfold LOk; dsimp only; omega))
  by_cases ga : 0 ≤ a <;> by_cases gb : a < ins
  all_goals
    go_enter Try.func139, Try.ntmps139
    go_wp2
    go_ret
    exact ⟨by rw [HE.out]; rfl, (Below.refl _ _).alloc (Nat.le_refl _) _⟩

theorem lineOk_any (k a b : Int) (t : ByteArray) (ins : Int) (w : World) : Calls Try.prog 139 #[line k a b t, .int .i64 ins] w fun e w' => e = .returned (.bool (lOk (k, a, b, t) ins)) ∧ Below w.heap.size w w' := by
  by_cases k0 : k = 0
  · subst k0
    by_cases g0 : 0 ≤ a
    rotate_left
    · exact line_0 a b t ins w g0
    by_cases g1 : a < ins
    rotate_left
    · exact line_1 a b t ins w g0 g1
    by_cases g2 : b = 0
    rotate_left
    · exact line_2 a b t ins w g0 g1 g2
    by_cases g3 : t.size = 0
    rotate_left
    · exact line_3 a b t ins w g0 g1 g2 g3
    exact line_4 a b t ins w g0 g1 g2 g3
  by_cases k1 : k = 1
  · subst k1
    by_cases g0 : a = 0
    rotate_left
    · exact line_10 a b t ins w g0
    by_cases g1 : b = 0
    rotate_left
    · exact line_11 a b t ins w g0 g1
    by_cases g2 : t.size ≤ 8
    rotate_left
    · exact line_12 a b t ins w g0 g1 g2
    exact line_13 a b t ins w g0 g1 g2
  by_cases k2 : k = 2
  · subst k2
    by_cases g0 : 0 ≤ a
    rotate_left
    · exact line_14 a b t ins w g0
    by_cases g1 : a < ins
    rotate_left
    · exact line_15 a b t ins w g0 g1
    by_cases g2 : 1 ≤ b
    rotate_left
    · exact line_16 a b t ins w g0 g1 g2
    by_cases g3 : b ≤ 10
    rotate_left
    · exact line_17 a b t ins w g0 g1 g2 g3
    by_cases g4 : t.size = 0
    rotate_left
    · exact line_18 a b t ins w g0 g1 g2 g3 g4
    exact line_19 a b t ins w g0 g1 g2 g3 g4
  by_cases k3 : k = 3
  · subst k3
    by_cases g0 : a = 0
    rotate_left
    · exact line_20 a b t ins w g0
    by_cases g1 : b = 0
    rotate_left
    · exact line_21 a b t ins w g0 g1
    by_cases g2 : t.size = 0
    rotate_left
    · exact line_22 a b t ins w g0 g1 g2
    exact line_23 a b t ins w g0 g1 g2
  by_cases k4 : k = 4
  · subst k4
    by_cases g0 : 0 ≤ a
    rotate_left
    · exact line_24 a b t ins w g0
    by_cases g1 : a ≤ 40
    rotate_left
    · exact line_25 a b t ins w g0 g1
    by_cases g2 : b = 0
    rotate_left
    · exact line_26 a b t ins w g0 g1 g2
    by_cases g3 : t.size = 0
    rotate_left
    · exact line_27 a b t ins w g0 g1 g2 g3
    exact line_28 a b t ins w g0 g1 g2 g3
  by_cases k5 : k = 5
  · subst k5
    by_cases g0 : 0 ≤ a
    rotate_left
    · exact line_5 a b t ins w g0
    by_cases g1 : a < ins
    rotate_left
    · exact line_6 a b t ins w g0 g1
    by_cases g2 : b = 0
    rotate_left
    · exact line_7 a b t ins w g0 g1 g2
    by_cases g3 : t.size = 0
    rotate_left
    · exact line_8 a b t ins w g0 g1 g2 g3
    exact line_9 a b t ins w g0 g1 g2 g3
  exact line_none k a b t ins w k0 k1 k2 k3 k4 k5

end Rx
end Go.Proofs.Ytopplljilmjjgaa
