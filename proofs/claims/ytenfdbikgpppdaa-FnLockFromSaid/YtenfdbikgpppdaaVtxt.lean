/- Contracts of the functions that write numbers as text, over this seat's translation: a number below one hundred is written as its one or two digits, by the model and by the program alike. -/
import Derived.Test.YtenfdbikgpppdaaGa
import Derived.Handy
import Derived.Laws.BytesString
namespace Go.Proofs.Ytenfdbikgpppdaa
open Go.RowKit Go.Sort

/-- One digit's text. -/
def dg (d : Int) : ByteArray := ⟨#[UInt8.ofNat (48 + d).toNat]⟩
/-- A number below one hundred as text. -/
def nt (n : Int) : ByteArray := if n < 10 then dg n else dg (n / 10) ++ dg (n % 10)

theorem dg_size (d : Int) : (dg d).size = 1 := rfl
theorem nt_size (n : Int) : (nt n).size ≤ 2 := by
  unfold nt
  split
  · exact Nat.le_succ 1
  · rw [ByteArray.size_append, dg_size, dg_size]; exact Nat.le_refl _

set_option maxHeartbeats 1000000 in
theorem digitText_any (d : Int) (w : World) (h0 : 0 ≤ d) (h1 : d ≤ 9) :
    Calls Try.prog 72 #[.int .i64 d] w fun e w' => e = .returned (.string (dg d)) ∧ w = w' := by
  have hd : d = 0 ∨ d = 1 ∨ d = 2 ∨ d = 3 ∨ d = 4 ∨ d = 5 ∨ d = 6 ∨ d = 7 ∨ d = 8 ∨ d = 9 := by omega
  rcases hd with rfl | rfl | rfl | rfl | rfl | rfl | rfl | rfl | rfl | rfl
  all_goals
    go_enter Try.func72, Try.ntmps72
    go_wp2
    go_ret
    exact ⟨rfl, rfl⟩

set_option maxHeartbeats 1000000 in
theorem numberText_any (n : Int) (w : World) (h0 : 0 ≤ n) (h1 : n ≤ 99) :
    Calls Try.prog 55 #[.int .i64 n] w fun e w' => e = .returned (.string (nt n)) ∧ w = w' := by
  have hs := dg_size
  by_cases h : n < 10
  · have H := Lib.hid (show nt n = dg n by simp [nt, h])
    go_enter Try.func55, Try.ntmps55
    go_wp2_with (go_at_call 72; refine (digitText_any _ _ (by omega) (by omega)).mono ?_; rintro e w' ⟨rfl, rfl⟩)
    go_ret
    exact ⟨by rw [H.out]; rfl, rfl⟩
  · have H := Lib.hid (show nt n = dg (n / 10) ++ dg (n % 10) by simp [nt, h])
    go_enter Try.func55, Try.ntmps55
    go_wp2_with (go_at_call 72; refine (digitText_any _ _ (by omega) (by omega)).mono ?_; rintro e w' ⟨rfl, rfl⟩)
    go_ret
    exact ⟨by rw [H.out]; rfl, rfl⟩

/-- 'string([]byte{x})': the text of one byte. -/
theorem one_byte (V : World) (x : Int) : (convert 38 9 (.slice (some ⟨V.heap.size, 0, none⟩) 1 1)).run Try.prog (V.alloc (.cells #[.int .u8 x] 5)) =
    .ok (.string ⟨#[UInt8.ofNat x.toNat]⟩) (V.alloc (.cells #[.int .u8 x] 5)) := by
  rw [run_convert_bytes_string _ 38 9 5 _ 1 1 Try.underlying38 Try.underlying5 Try.underlying9]
  have hc : (V.alloc (.cells #[.int .u8 x] 5)).cell? ⟨V.heap.size, 0, none⟩ = some (.int .u8 x) := by go_simp
  have hl : (loadCells ⟨V.heap.size, 0, none⟩ 1).run Try.prog (V.alloc (.cells #[.int .u8 x] 5)) = .ok ([x].map (Value.int .u8)).toArray (V.alloc (.cells #[.int .u8 x] 5)) := by
    go_simp
  rw [run_bytesToString _ _ 1 1 [x] hl]
  rfl

set_option maxHeartbeats 1000000 in
theorem decimal_small (n : Int) (w : World) (h0 : 0 ≤ n) (h1 : n < 10) :
    Calls Try.prog 65 #[.int .i64 n] w fun e w' => e = .returned (.string (nt n)) ∧ Below w.heap.size w w' := by
  have hs := dg_size
  have H := Lib.hid (show nt n = dg n by simp [nt, h1])
  have e1 : n / 10 = 0 := by omega
  have e2 : n % 10 = n := by omega
  have hv := one_byte
  go_enter Try.func65, Try.ntmps65
  go_wp2
  go_rounds 1
  go_ret
  exact ⟨by rw [H.out]; rfl, (Below.refl _ _).alloc (Nat.le_refl _) _⟩

theorem one_byte_behind (V : World) (o : Obj) (x : Int) : (convert 38 9 (.slice (some ⟨V.heap.size + 1, 0, none⟩) 1 1)).run Try.prog ((V.alloc o).alloc (.cells #[.int .u8 x] 5)) =
    .ok (.string ⟨#[UInt8.ofNat x.toNat]⟩) ((V.alloc o).alloc (.cells #[.int .u8 x] 5)) := by
  have h := one_byte (V.alloc o) x
  rwa [show (V.alloc o).heap.size = V.heap.size + 1 from by simp] at h

theorem byte_sizes (a b : UInt8) : (⟨#[a]⟩ : ByteArray).size = 1 ∧ (⟨#[b]⟩ : ByteArray).size = 1 := ⟨rfl, rfl⟩

set_option maxHeartbeats 1000000 in
theorem decimal_large (n : Int) (w : World) (h0 : 10 ≤ n) (h1 : n ≤ 99) :
    Calls Try.prog 65 #[.int .i64 n] w fun e w' => e = .returned (.string (nt n)) ∧ Below w.heap.size w w' := by
  have H := Lib.hid (show nt n = dg (n / 10) ++ dg (n % 10) by unfold nt; rw [if_neg (by omega)])
  have e1 : n / 10 / 10 = 0 := by omega
  have e2 : n / 10 % 10 = n / 10 := by omega
  have hv := one_byte
  have hv2 := one_byte_behind
  have hs : ∀ x : UInt8, (⟨#[x]⟩ : ByteArray).size = 1 := fun _ => rfl
  go_enter Try.func65, Try.ntmps65
  go_wp2
  go_rounds 2
  go_ret
  exact ⟨by rw [H.out]; rfl, ((Below.refl _ _).alloc (Nat.le_refl _) _).alloc (by simp) _⟩

theorem decimal_any (n : Int) (w : World) (h0 : 0 ≤ n) (h1 : n ≤ 99) :
    Calls Try.prog 65 #[.int .i64 n] w fun e w' => e = .returned (.string (nt n)) ∧ Below w.heap.size w w' := by
  by_cases h : n < 10
  · exact decimal_small n w h0 h
  · exact decimal_large n w (by omega) h1

end Go.Proofs.Ytenfdbikgpppdaa
