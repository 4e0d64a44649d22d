/- Contracts of the program's functions of one line of a script, over this seat's translation: what is read, what is made, what is turned round, kept, noted; nothing that was there before a call has changed. Conditions: texts of at most 1048576 bytes, rows of at most 1048576 numbers. -/
import Derived.Test.YtopplljilmjjgaaRxt
import Derived.Test.YtopplljilmjjgaaInto
import Derived.Test.YtopplljilmjjgaaGw
import Derived.Handy
namespace Go.Proofs.Ytopplljilmjjgaa
open Go.RowKit Go.Sort
namespace Rx
theorem ext_list (t : ByteArray) (i j : Nat) : (t.extract i j).data.toList = (t.data.toList.drop i).take (j - i) := by
  rw [Lib.extract_data]
theorem text_eq {s t : ByteArray} (h : s.data.toList = t.data.toList) : s = t := by
  obtain ⟨⟨a⟩⟩ := s
  obtain ⟨⟨b⟩⟩ := t
  simp at h
  subst h
  rfl
theorem size_list (t : ByteArray) : t.size = t.data.toList.length := by simp
theorem one_byte_list {t : ByteArray} {k : Nat} (h : k < t.size) : (t.extract k (k + 1)).data.toList = [t[k]] := by
  have h2 : k < t.data.toList.length := by rw [← size_list]; exact h
  rw [ext_list, show k + 1 - k = 1 by omega, List.drop_eq_getElem_cons h2]
  simp [ByteArray.getElem_eq_getElem_data]
theorem mkd_no {t : ByteArray} (h : t.size = 0) : mkd t = false := by
  rw [text_nil h]
  rfl
theorem mkd_at {t : ByteArray} (h : 0 < t.size) : mkd t = (t[0] == 33) := by
  have h2 : 0 < t.data.toList.length := by rw [← size_list]; exact h
  unfold mkd
  rw [List.head?_eq_getElem?, List.getElem?_eq_getElem h2]
  simp [ByteArray.getElem_eq_getElem_data]

set_option maxRecDepth 100000 in
set_option maxHeartbeats 1000000 in
theorem readsInput_any (n a b : Int) (t : ByteArray) (w : World) : Calls Try.prog 142 #[line n a b t] w fun e w' => e = .returned (.bool (rd (n, a, b, t))) ∧ Below w.heap.size w w' := by
  by_cases h0 : n = 0
  · subst h0
    go_enter Try.func142, Try.ntmps142
    go_wp2
    go_ret
    exact ⟨rfl, (Below.refl _ _).alloc (Nat.le_refl _) _⟩
  by_cases h2 : n = 2
  · subst h2
    go_enter Try.func142, Try.ntmps142
    go_wp2
    go_ret
    exact ⟨rfl, (Below.refl _ _).alloc (Nat.le_refl _) _⟩
  by_cases h5 : n = 5
  · subst h5
    go_enter Try.func142, Try.ntmps142
    go_wp2
    go_ret
    exact ⟨rfl, (Below.refl _ _).alloc (Nat.le_refl _) _⟩
  have HE := Lib.hid (show rd ((n, a, b, t) : Ln) = false from decide_eq_false (by dsimp only; omega))
  have z0 : (n == 0) = false := by rw [beq_eq_false_iff_ne]; exact h0
  have z2 : (n == 2) = false := by rw [beq_eq_false_iff_ne]; exact h2
  have z5 : (n == 5) = false := by rw [beq_eq_false_iff_ne]; exact h5
  go_enter Try.func142, Try.ntmps142
  go_wp2
  go_ret
  exact ⟨by rw [HE.out]; rfl, (Below.refl _ _).alloc (Nat.le_refl _) _⟩

set_option maxRecDepth 100000 in
set_option maxHeartbeats 1000000 in
theorem isMarked_any (t : ByteArray) (w : World) : Calls Try.prog 144 #[.string t] w fun e w' => e = .returned (.bool (mkd t)) ∧ w = w' := by
  by_cases h : 0 < t.size
  · have hI : (0 : Int) < (t.size : Int) := by omega
    have hm := mkd_at h
    by_cases he : t[0] = 33
    · have HE := Lib.hid (show mkd t = true by rw [hm, he]; rfl)
      have hq : ((t[0].toNat : Int) == 33) = true := by rw [he]; rfl
      clear he hm
      go_enter Try.func144, Try.ntmps144
      go_wp2
      go_ret
      exact ⟨by rw [HE.out]; rfl, rfl⟩
    · have HE := Lib.hid (show mkd t = false by rw [hm, beq_eq_false_iff_ne]; exact he)
      have hq : ((t[0].toNat : Int) == 33) = false := by
        rw [beq_eq_false_iff_ne]
        intro e
        apply he
        apply UInt8.toNat_inj.1
        have : t[0].toNat = 33 := by omega
        rw [this]
        rfl
      clear he hm
      go_enter Try.func144, Try.ntmps144
      go_wp2
      go_ret
      exact ⟨by rw [HE.out]; rfl, rfl⟩
  · have HE := Lib.hid (mkd_no (t := t) (by omega))
    have hI : ¬ (0 : Int) < (t.size : Int) := by omega
    go_enter Try.func144, Try.ntmps144
    go_wp2
    go_ret
    exact ⟨by rw [HE.out]; rfl, rfl⟩

set_option maxRecDepth 100000 in
set_option maxHeartbeats 1000000 in
theorem firstBytes_any (t : ByteArray) (m : Int) (w : World) (h0 : 0 ≤ m) : Calls Try.prog 147 #[.string t, .int .i64 m] w fun e w' => e = .returned (.string (cutT t m)) ∧ w = w' := by
  obtain ⟨j, rfl⟩ : ∃ j : Nat, m = (j : Int) := ⟨m.toNat, by omega⟩
  by_cases h : j < t.size
  · have HE := Lib.hid (show cutT t (j : Int) = t.extract 0 j by unfold cutT; rw [if_pos (by omega)]; rfl)
    have hI : (j : Int) < (t.size : Int) := by omega
    go_enter Try.func147, Try.ntmps147
    go_wp2
    go_ret
    exact ⟨by rw [HE.out]; rfl, rfl⟩
  · have HE := Lib.hid (show cutT t (j : Int) = t by unfold cutT; rw [if_neg (by omega)])
    have hI : ¬ (j : Int) < (t.size : Int) := by omega
    go_enter Try.func147, Try.ntmps147
    go_wp2
    go_ret
    exact ⟨by rw [HE.out]; rfl, rfl⟩

/-- What the loop of textTurned keeps: the first bytes, turned round. -/
def TtRel (t : ByteArray) (v i : Value) : Prop := ∃ (k : Nat) (s : ByteArray), k ≤ t.size ∧ i = .int .i64 (k : Int) ∧ v = .string s ∧ s.data.toList = (t.data.toList.take k).reverse
theorem tt_push {t s : ByteArray} {k : Nat} (h : k < t.size) (hs : s.data.toList = (t.data.toList.take k).reverse) : TtRel t (.string (t.extract k (k + 1) ++ s)) (.int .i64 ((k : Int) + 1)) := by
  have h2 : k < t.data.toList.length := by rw [← size_list]; exact h
  refine ⟨k + 1, _, by omega, by go_num, rfl, ?_⟩
  rw [ByteArray.data_append, Array.toList_append, one_byte_list h, hs, List.take_succ_eq_append_getElem h2, List.reverse_append]
  simp [ByteArray.getElem_eq_getElem_data]
theorem tt_size {t s : ByteArray} {k : Nat} (hs : s.data.toList = (t.data.toList.take k).reverse) : s.size ≤ k := by
  rw [size_list, hs]
  simp
  omega
theorem tt_end {t s : ByteArray} (hs : s.data.toList = (t.data.toList.take t.size).reverse) : s = tnd t := by
  apply text_eq
  rw [hs, size_list, List.take_length]
  rfl

set_option maxRecDepth 100000 in
set_option maxHeartbeats 1000000 in
theorem textTurned_any (t : ByteArray) (w : World) (h1 : t.size ≤ 1048576) : Calls Try.prog 146 #[.string t] w fun e w' => e = .returned (.string (tnd t)) ∧ w = w' := by
  go_enter Try.func146, Try.ntmps146
  go_wp2
  go_loop [3, 4] (fun v i => TtRel t v i) (fun _ i => t.size - (intOf i).toNat)
  case atStart => exact ⟨0, _, Nat.zero_le _, rfl, rfl, rfl⟩
  case round =>
    obtain ⟨k, s, hk, rfl, rfl, hs⟩ := hrel
    by_cases hlt : k < t.size
    · have HP := Lib.hid (tt_push hlt hs)
      have hz := tt_size hs
      have sz : (t.extract k (k + 1)).size = 1 := by rw [size_list, one_byte_list hlt]; rfl
      have hI : (k : Int) < (t.size : Int) := by omega
      have e1 : k + 1 ≤ t.size := hlt
      clear hs
      go_wp2
      go_round
      case rel => exact HP.out
      case measure => simp [intOf]; omega
    · obtain rfl : k = t.size := by omega
      have HE := Lib.hid (tt_end hs)
      clear hs
      go_wp2
      go_ret
      exact ⟨by rw [← HE.out]; rfl, rfl⟩
end Rx
end Go.Proofs.Ytopplljilmjjgaa
