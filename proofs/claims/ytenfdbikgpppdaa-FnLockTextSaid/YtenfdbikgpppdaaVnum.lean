/- Contracts of the functions that read numbers off a text, over this seat's translation: the program's numberAt reads the number that stands at a place; nothing has changed. -/
import Derived.Test.YtenfdbikgpppdaaVread
import Derived.Test.YtenfdbikgpppdaaVtext
namespace Go.Proofs.Ytenfdbikgpppdaa
open Go.RowKit Go.Sort

set_option maxHeartbeats 400000 in
theorem isDigit_any (b : UInt8) (w : World) :
    Calls Try.prog 71 #[.int .u8 (b.toNat : Int)] w fun e w' => e = .returned (.bool (Parse.isD b)) ∧ w = w' := by
  have e : Parse.isD b = (decide ((48 : Int) ≤ (b.toNat : Int)) && decide ((b.toNat : Int) ≤ 57)) := by
    rw [Bool.eq_iff_iff]
    simp [Parse.isD]
    omega
  rw [e]
  clear e
  by_cases h1 : (48 : Int) ≤ (b.toNat : Int) <;> by_cases h2 : (b.toNat : Int) ≤ 57
  all_goals first
   | (exfalso; omega)
   | skip
  all_goals
    go_enter Try.func71, Try.ntmps71
    go_wp2
    go_ret
    exact ⟨by simp [h1, h2], rfl⟩

/-- The byte at a place, as the list of bytes has it. -/
theorem byte_at (s : ByteArray) (i : Nat) (h : i < s.size) : s.data.toList.drop i = s[i] :: s.data.toList.drop (i + 1) := by
  rw [List.drop_eq_getElem_cons (by simpa using h)]
  rfl

/-- The three ways in which a number can stand at a place. -/
theorem at_none (s : ByteArray) (i : Nat) (h : s.size ≤ i) : Parse.at_ s.data.toList i = (0, i) := by
  unfold Parse.at_
  rw [List.drop_eq_nil_of_le (by simpa using h)]
  rfl
theorem at_no (s : ByteArray) (i : Nat) (h : i < s.size) (hx : Parse.isD s[i] = false) : Parse.at_ s.data.toList i = (0, i) := by
  unfold Parse.at_
  rw [byte_at s i h]
  match s.data.toList.drop (i + 1) with
  | [] => simp [Parse.lead, hx]
  | _ :: _ => simp [Parse.lead, hx]
theorem at_one_end (s : ByteArray) (i : Nat) (h : i < s.size) (hx : Parse.isD s[i] = true) (h2 : s.size ≤ i + 1) : Parse.at_ s.data.toList i = (Parse.dv s[i], i + 1) := by
  unfold Parse.at_
  rw [byte_at s i h, List.drop_eq_nil_of_le (by simpa using h2)]
  simp [Parse.lead, hx]
theorem at_one (s : ByteArray) (i : Nat) (h : i < s.size) (hx : Parse.isD s[i] = true) (h2 : i + 1 < s.size) (hy : Parse.isD s[i + 1] = false) : Parse.at_ s.data.toList i = (Parse.dv s[i], i + 1) := by
  unfold Parse.at_
  rw [byte_at s i h, byte_at s (i + 1) h2]
  simp [Parse.lead, hx, hy]
theorem at_two (s : ByteArray) (i : Nat) (h : i < s.size) (hx : Parse.isD s[i] = true) (h2 : i + 1 < s.size) (hy : Parse.isD s[i + 1] = true) :
    Parse.at_ s.data.toList i = (Parse.dv s[i] * 10 + Parse.dv s[i + 1], i + 2) := by
  unfold Parse.at_
  rw [byte_at s i h, byte_at s (i + 1) h2]
  simp [Parse.lead, hx, hy]

set_option maxHeartbeats 1000000 in
theorem numberAt_none (s : ByteArray) (i : Nat) (w : World) (hi : i ≤ 2000000) (h : s.size ≤ i) :
    Calls Try.prog 52 #[.string s, .int .i64 (i : Int)] w fun e w' => e = .returned (.tuple #[.int .i64 (Parse.at_ s.data.toList i).1, .int .i64 ((Parse.at_ s.data.toList i).2 : Int)]) ∧ w = w' := by
  have H := Lib.hid (at_none s i h)
  go_enter Try.func52, Try.ntmps52
  go_wp2
  refine wp_loop_rounds 1 ?_
  rw [rounds_succ]
  go_wp2_with (go_at_call 71; refine (isDigit_any _ _).mono ?_; rintro e w' ⟨rfl, rfl⟩)
  go_ret2
  exact ⟨by rw [H.out]; rfl, rfl⟩

set_option maxHeartbeats 1000000 in
theorem numberAt_no (s : ByteArray) (i : Nat) (w : World) (hs : s.size ≤ 2147483647) (h : i < s.size) (hx : Parse.isD s[i] = false) :
    Calls Try.prog 52 #[.string s, .int .i64 (i : Int)] w fun e w' => e = .returned (.tuple #[.int .i64 (Parse.at_ s.data.toList i).1, .int .i64 ((Parse.at_ s.data.toList i).2 : Int)]) ∧ w = w' := by
  have H := Lib.hid (at_no s i h hx)
  go_enter Try.func52, Try.ntmps52
  go_wp2
  refine wp_loop_rounds 1 ?_
  rw [rounds_succ]
  go_wp2_with (go_at_call 71; refine (isDigit_any _ _).mono ?_; rintro e w' ⟨rfl, rfl⟩)
  go_ret2
  exact ⟨by rw [H.out]; rfl, rfl⟩

set_option maxHeartbeats 1000000 in
theorem numberAt_one_end (s : ByteArray) (i : Nat) (w : World) (hs : s.size ≤ 2147483647) (h : i < s.size) (hx : Parse.isD s[i] = true) (rx : 48 ≤ s[i].toNat ∧ s[i].toNat ≤ 57) (h2 : s.size ≤ i + 1) :
    Calls Try.prog 52 #[.string s, .int .i64 (i : Int)] w fun e w' => e = .returned (.tuple #[.int .i64 (Parse.at_ s.data.toList i).1, .int .i64 ((Parse.at_ s.data.toList i).2 : Int)]) ∧ w = w' := by
  have H := Lib.hid (at_one_end s i h hx h2)
  go_enter Try.func52, Try.ntmps52
  go_wp2
  refine wp_loop_rounds 2 ?_
  rw [rounds_succ]
  go_wp2_with (go_at_call 71; refine (isDigit_any _ _).mono ?_; rintro e w' ⟨rfl, rfl⟩)
  rw [rounds_succ]
  go_wp2_with (go_at_call 71; refine (isDigit_any _ _).mono ?_; rintro e w' ⟨rfl, rfl⟩)
  go_ret2
  exact ⟨by rw [H.out]; rfl, rfl⟩

set_option maxHeartbeats 1000000 in
theorem numberAt_one (s : ByteArray) (i : Nat) (w : World) (hs : s.size ≤ 2147483647) (h : i < s.size) (hx : Parse.isD s[i] = true) (rx : 48 ≤ s[i].toNat ∧ s[i].toNat ≤ 57) (h2 : i + 1 < s.size) (hy : Parse.isD s[i + 1] = false) :
    Calls Try.prog 52 #[.string s, .int .i64 (i : Int)] w fun e w' => e = .returned (.tuple #[.int .i64 (Parse.at_ s.data.toList i).1, .int .i64 ((Parse.at_ s.data.toList i).2 : Int)]) ∧ w = w' := by
  have H := Lib.hid (at_one s i h hx h2 hy)
  go_enter Try.func52, Try.ntmps52
  go_wp2
  refine wp_loop_rounds 2 ?_
  rw [rounds_succ]
  go_wp2_with (go_at_call 71; refine (isDigit_any _ _).mono ?_; rintro e w' ⟨rfl, rfl⟩)
  rw [rounds_succ]
  go_wp2_with (go_at_call 71; refine (isDigit_any _ _).mono ?_; rintro e w' ⟨rfl, rfl⟩)
  go_ret2
  exact ⟨by rw [H.out]; rfl, rfl⟩

set_option maxHeartbeats 1000000 in
theorem numberAt_two (s : ByteArray) (i : Nat) (w : World) (hs : s.size ≤ 2147483647) (h : i < s.size) (hx : Parse.isD s[i] = true) (rx : 48 ≤ s[i].toNat ∧ s[i].toNat ≤ 57) (h2 : i + 1 < s.size) (hy : Parse.isD s[i + 1] = true) (ry : 48 ≤ s[i + 1].toNat ∧ s[i + 1].toNat ≤ 57) :
    Calls Try.prog 52 #[.string s, .int .i64 (i : Int)] w fun e w' => e = .returned (.tuple #[.int .i64 (Parse.at_ s.data.toList i).1, .int .i64 ((Parse.at_ s.data.toList i).2 : Int)]) ∧ w = w' := by
  have H := Lib.hid (at_two s i h hx h2 hy)
  go_enter Try.func52, Try.ntmps52
  go_wp2
  refine wp_loop_rounds 3 ?_
  rw [rounds_succ]
  go_wp2_with (go_at_call 71; refine (isDigit_any _ _).mono ?_; rintro e w' ⟨rfl, rfl⟩)
  rw [rounds_succ]
  go_wp2_with (go_at_call 71; refine (isDigit_any _ _).mono ?_; rintro e w' ⟨rfl, rfl⟩)
  rw [rounds_succ]
  go_wp2_with (go_at_call 71; refine (isDigit_any _ _).mono ?_; rintro e w' ⟨rfl, rfl⟩)
  go_ret2
  exact ⟨by rw [H.out]; rfl, rfl⟩

theorem numberAt_any (s : ByteArray) (i : Nat) (w : World) (hs : s.size ≤ 2147483647) (hi : i ≤ 2000000) :
    Calls Try.prog 52 #[.string s, .int .i64 (i : Int)] w fun e w' => e = .returned (.tuple #[.int .i64 (Parse.at_ s.data.toList i).1, .int .i64 ((Parse.at_ s.data.toList i).2 : Int)]) ∧ w = w' := by
  by_cases h : i < s.size
  · rcases hx : Parse.isD s[i]
    · exact numberAt_no s i w hs h hx
    · have rx := Parse.isD_iff.1 hx
      by_cases h2 : i + 1 < s.size
      · rcases hy : Parse.isD s[i + 1]
        · exact numberAt_one s i w hs h hx rx h2 hy
        · exact numberAt_two s i w hs h hx rx h2 hy (Parse.isD_iff.1 hy)
      · exact numberAt_one_end s i w hs h hx rx (by omega)
  · exact numberAt_none s i w hi (by omega)

end Go.Proofs.Ytenfdbikgpppdaa
