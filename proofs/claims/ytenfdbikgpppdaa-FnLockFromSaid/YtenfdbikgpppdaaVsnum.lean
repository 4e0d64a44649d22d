/- The contract of the model's l1Number over this seat's translation: the number that a text is, of at most two digits without a zero ahead of another one, or -1; nothing has changed. Condition: the text has at most 1048576 bytes. -/
import Derived.Test.YtenfdbikgpppdaaVread
import Derived.Test.YtenfdbikgpppdaaGa
import Derived.Handy
namespace Go.Proofs.Ytenfdbikgpppdaa
open Go.RowKit Go.Sort

theorem num_zero (s : ByteArray) (h : s.size = 0) : Parse.num s.data.toList = -1 := by
  have : s.data.toList = [] := List.eq_nil_of_length_eq_zero (by simpa using h)
  rw [this]
  rfl
theorem list_one (s : ByteArray) (h : s.size = 1) : s.data.toList = [s[0]] := by
  have e := List.drop_eq_getElem_cons (l := s.data.toList) (i := 0) (by have : s.data.size = 1 := h; simp; omega)
  rw [List.drop_zero, List.drop_eq_nil_of_le (by have : s.data.size = 1 := h; simp; omega)] at e
  exact e
theorem list_two (s : ByteArray) (h : s.size = 2) : s.data.toList = [s[0], s[1]] := by
  have hd : s.data.size = 2 := h
  have e := List.drop_eq_getElem_cons (l := s.data.toList) (i := 0) (by simp; omega)
  rw [List.drop_zero, List.drop_eq_getElem_cons (i := 0 + 1) (by simp; omega), List.drop_eq_nil_of_le (by simp; omega)] at e
  exact e
theorem num_many (s : ByteArray) (h : 3 ≤ s.size) : Parse.num s.data.toList = -1 := by
  have hl : 3 ≤ s.data.toList.length := by simpa using h
  match s.data.toList, hl with
  | _ :: _ :: _ :: _, _ => rfl

set_option maxHeartbeats 1000000 in
theorem number_many (s : ByteArray) (w : World) (hs : s.size ≤ 1048576) (h : 3 ≤ s.size) :
    Calls Try.prog 53 #[.string s] w fun e w' => e = .returned (.int .i64 (Parse.num s.data.toList)) ∧ w = w' := by
  have H := Lib.hid (num_many s h)
  have hz : ((s.size : Int) == 0) = false := by rw [beq_eq_false_iff_ne]; omega
  go_enter Try.func53, Try.ntmps53
  go_wp2
  go_loop [3, 4] (fun n i => ∃ k : Nat, k ≤ s.size ∧ i = .int .i64 k ∧ ∃ m : Int, n = .int .i64 m) (fun _ i => s.size - (intOf i).toNat)
  case atStart => exact ⟨0, Nat.zero_le _, rfl, 0, rfl⟩
  case round =>
    obtain ⟨k, hk, rfl, m, rfl⟩ := hrel
    by_cases hlt : k < s.size
    · by_cases h1 : (s[k].toNat : Int) < 48
      · go_wp2
        go_ret
        exact ⟨by rw [H.out]; rfl, rfl⟩
      · by_cases h2 : (57 : Int) < (s[k].toNat : Int)
        · go_wp2
          go_ret
          exact ⟨by rw [H.out]; rfl, rfl⟩
        · go_wp2
          go_round
          case rel => exact ⟨k + 1, by omega, by go_num, _, rfl⟩
          case measure => simp [intOf]; omega
    · go_wp2
      go_ret
      exact ⟨by rw [H.out]; rfl, rfl⟩

set_option maxHeartbeats 1000000 in
theorem number_zero (s : ByteArray) (w : World) (h : s.size = 0) :
    Calls Try.prog 53 #[.string s] w fun e w' => e = .returned (.int .i64 (Parse.num s.data.toList)) ∧ w = w' := by
  have H := Lib.hid (num_zero s h)
  go_enter Try.func53, Try.ntmps53
  go_wp2
  go_rounds 1
  go_ret
  exact ⟨by rw [H.out]; rfl, rfl⟩

set_option maxHeartbeats 1000000 in
theorem number_one_low (s : ByteArray) (w : World) (h : s.size = 1) (h1 : (s[0].toNat : Int) < 48) (H : Hid (Parse.num s.data.toList = -1)) :
    Calls Try.prog 53 #[.string s] w fun e w' => e = .returned (.int .i64 (Parse.num s.data.toList)) ∧ w = w' := by
  go_enter Try.func53, Try.ntmps53
  go_wp2
  go_rounds 1
  go_ret
  exact ⟨by rw [H.out]; rfl, rfl⟩

set_option maxHeartbeats 1000000 in
theorem number_one_high (s : ByteArray) (w : World) (h : s.size = 1) (h1 : (48 : Int) ≤ s[0].toNat) (h2 : (57 : Int) < s[0].toNat) (H : Hid (Parse.num s.data.toList = -1)) :
    Calls Try.prog 53 #[.string s] w fun e w' => e = .returned (.int .i64 (Parse.num s.data.toList)) ∧ w = w' := by
  go_enter Try.func53, Try.ntmps53
  go_wp2
  go_rounds 1
  go_ret
  exact ⟨by rw [H.out]; rfl, rfl⟩

set_option maxHeartbeats 1000000 in
theorem number_one (s : ByteArray) (w : World) (h : s.size = 1) (h1 : (48 : Int) ≤ s[0].toNat) (h2 : (s[0].toNat : Int) ≤ 57) (H : Hid (Parse.num s.data.toList = Parse.dv s[0])) :
    Calls Try.prog 53 #[.string s] w fun e w' => e = .returned (.int .i64 (Parse.num s.data.toList)) ∧ w = w' := by
  go_enter Try.func53, Try.ntmps53
  go_wp2
  go_rounds 2
  go_ret
  exact ⟨by rw [H.out]; rfl, rfl⟩

set_option maxHeartbeats 1000000 in
theorem number_two_a (s : ByteArray) (w : World) (h : s.size = 2) (h1 : (s[0].toNat : Int) < 48) (H : Hid (Parse.num s.data.toList = -1)) :
    Calls Try.prog 53 #[.string s] w fun e w' => e = .returned (.int .i64 (Parse.num s.data.toList)) ∧ w = w' := by
  go_enter Try.func53, Try.ntmps53
  go_wp2
  go_rounds 1
  go_ret
  exact ⟨by rw [H.out]; rfl, rfl⟩

set_option maxHeartbeats 1000000 in
theorem number_two_b (s : ByteArray) (w : World) (h : s.size = 2) (h1 : (48 : Int) ≤ s[0].toNat) (h2 : (57 : Int) < s[0].toNat) (H : Hid (Parse.num s.data.toList = -1)) :
    Calls Try.prog 53 #[.string s] w fun e w' => e = .returned (.int .i64 (Parse.num s.data.toList)) ∧ w = w' := by
  go_enter Try.func53, Try.ntmps53
  go_wp2
  go_rounds 1
  go_ret
  exact ⟨by rw [H.out]; rfl, rfl⟩

set_option maxHeartbeats 1000000 in
theorem number_two_c (s : ByteArray) (w : World) (h : s.size = 2) (h1 : (48 : Int) ≤ s[0].toNat) (h2 : (s[0].toNat : Int) ≤ 57) (h3 : (s[1].toNat : Int) < 48) (H : Hid (Parse.num s.data.toList = -1)) :
    Calls Try.prog 53 #[.string s] w fun e w' => e = .returned (.int .i64 (Parse.num s.data.toList)) ∧ w = w' := by
  go_enter Try.func53, Try.ntmps53
  go_wp2
  go_rounds 2
  go_ret
  exact ⟨by rw [H.out]; rfl, rfl⟩

set_option maxHeartbeats 1000000 in
theorem number_two_d (s : ByteArray) (w : World) (h : s.size = 2) (h1 : (48 : Int) ≤ s[0].toNat) (h2 : (s[0].toNat : Int) ≤ 57) (h3 : (48 : Int) ≤ s[1].toNat) (h4 : (57 : Int) < s[1].toNat) (H : Hid (Parse.num s.data.toList = -1)) :
    Calls Try.prog 53 #[.string s] w fun e w' => e = .returned (.int .i64 (Parse.num s.data.toList)) ∧ w = w' := by
  go_enter Try.func53, Try.ntmps53
  go_wp2
  go_rounds 2
  go_ret
  exact ⟨by rw [H.out]; rfl, rfl⟩

set_option maxHeartbeats 1000000 in
theorem number_two_zero (s : ByteArray) (w : World) (h : s.size = 2) (h1 : (48 : Int) ≤ s[0].toNat) (h2 : (s[0].toNat : Int) ≤ 57) (h3 : (48 : Int) ≤ s[1].toNat) (h4 : (s[1].toNat : Int) ≤ 57) (h5 : ((s[0].toNat : Int) == 48) = true) (H : Hid (Parse.num s.data.toList = -1)) :
    Calls Try.prog 53 #[.string s] w fun e w' => e = .returned (.int .i64 (Parse.num s.data.toList)) ∧ w = w' := by
  go_enter Try.func53, Try.ntmps53
  go_wp2
  go_rounds 3
  go_ret
  exact ⟨by rw [H.out]; rfl, rfl⟩

set_option maxHeartbeats 1000000 in
theorem number_two (s : ByteArray) (w : World) (h : s.size = 2) (h1 : (48 : Int) ≤ s[0].toNat) (h2 : (s[0].toNat : Int) ≤ 57) (h3 : (48 : Int) ≤ s[1].toNat) (h4 : (s[1].toNat : Int) ≤ 57) (h5 : ((s[0].toNat : Int) == 48) = false) (H : Hid (Parse.num s.data.toList = Parse.dv s[0] * 10 + Parse.dv s[1])) :
    Calls Try.prog 53 #[.string s] w fun e w' => e = .returned (.int .i64 (Parse.num s.data.toList)) ∧ w = w' := by
  go_enter Try.func53, Try.ntmps53
  go_wp2
  go_rounds 3
  go_ret
  exact ⟨by rw [H.out]; rfl, rfl⟩

theorem isD_no {b : UInt8} (h : (b.toNat : Int) < 48 ∨ (57 : Int) < b.toNat) : ¬ Parse.isD b = true := fun e => by
  have := Parse.isD_iff.1 e
  omega
theorem isD_yes {b : UInt8} (h1 : (48 : Int) ≤ b.toNat) (h2 : (b.toNat : Int) ≤ 57) : Parse.isD b = true := Parse.isD_iff.2 (by omega)

theorem number_any (s : ByteArray) (w : World) (hs : s.size ≤ 1048576) :
    Calls Try.prog 53 #[.string s] w fun e w' => e = .returned (.int .i64 (Parse.num s.data.toList)) ∧ w = w' := by
  by_cases h3 : 3 ≤ s.size
  · exact number_many s w hs h3
  by_cases h0 : s.size = 0
  · exact number_zero s w h0
  by_cases h1 : s.size = 1
  · have e := list_one s h1
    by_cases a : (s[0].toNat : Int) < 48
    · exact number_one_low s w h1 a (Lib.hid (by rw [e]; simp [Parse.num, isD_no (.inl a)]))
    · by_cases b : (57 : Int) < s[0].toNat
      · exact number_one_high s w h1 (by omega) b (Lib.hid (by rw [e]; simp [Parse.num, isD_no (.inr b)]))
      · exact number_one s w h1 (by omega) (by omega) (Lib.hid (by rw [e]; simp [Parse.num, isD_yes (b := s[0]) (by omega) (by omega)]))
  have h2 : s.size = 2 := by omega
  have e := list_two s h2
  by_cases a : (s[0].toNat : Int) < 48
  · exact number_two_a s w h2 a (Lib.hid (by rw [e]; simp [Parse.num, isD_no (.inl a)]))
  by_cases b : (57 : Int) < s[0].toNat
  · exact number_two_b s w h2 (by omega) b (Lib.hid (by rw [e]; simp [Parse.num, isD_no (.inr b)]))
  by_cases c : (s[1].toNat : Int) < 48
  · exact number_two_c s w h2 (by omega) (by omega) c (Lib.hid (by rw [e]; simp [Parse.num, isD_no (.inl c)]))
  by_cases d : (57 : Int) < s[1].toNat
  · exact number_two_d s w h2 (by omega) (by omega) (by omega) d (Lib.hid (by rw [e]; simp [Parse.num, isD_no (.inr d)]))
  have yx := isD_yes (b := s[0]) (by omega) (by omega)
  have yy := isD_yes (b := s[1]) (by omega) (by omega)
  by_cases z : s[0].toNat = 48
  · exact number_two_zero s w h2 (by omega) (by omega) (by omega) (by omega) (by simp [z]) (Lib.hid (by rw [e]; simp [Parse.num, z]))
  · exact number_two s w h2 (by omega) (by omega) (by omega) (by omega) (by rw [beq_eq_false_iff_ne]; omega) (Lib.hid (by rw [e]; simp [Parse.num, yx, yy, z]))

end Go.Proofs.Ytenfdbikgpppdaa
