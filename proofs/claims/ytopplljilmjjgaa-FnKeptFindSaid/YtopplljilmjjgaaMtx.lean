/- The law's function that writes the text of a mark, over this seat's translation: it answers one text, told by the number alone. Condition: the number is more than 0, and at most 4000000000. -/
import Derived.Test.YtopplljilmjjgaaLnto
namespace Go.Proofs.Ytopplljilmjjgaa
open Go.ChangeShapes Go.WideShapes Go.ChangeAt Go.RowKit Go.Sort Go.Joins Go.Deep

namespace Mtx
/-- The digits of a number, from the last one on, put ahead of a text. -/
def mtL : Nat → Int → ByteArray → ByteArray
  | 0, _, o => o
  | j + 1, k, o => if 0 < k then mtL j (k / 10) ((⟨#[UInt8.ofNat (IntKind.u8.wrap (48 + k % 10)).toNat]⟩ : ByteArray) ++ o) else o
theorem mtL_done (j : Nat) (k : Int) (o : ByteArray) (h : ¬ 0 < k) : mtL j k o = o := by
  cases j with
  | zero => rfl
  | succ j => unfold mtL; rw [if_neg h]
def mkT (k : Int) : ByteArray := (⟨#[109]⟩ : ByteArray) ++ mtL 12 k ByteArray.empty
def MtR (k0 : Int) (w : World) (s1 o : Value) (wr : World) : Prop := ∃ (k : Int) (j : Nat) (s : ByteArray), s1 = .int .i64 k ∧ o = .string s ∧ 0 ≤ k ∧ k < (10 : Int) ^ j ∧ k ≤ 4000000000 ∧ s.size + j = 12 ∧ mtL 12 k0 ByteArray.empty = mtL j k s ∧ Below w.heap.size w wr
theorem mt_push {k0 : Int} {w wr : World} {k : Int} {j : Nat} {s : ByteArray} {o : Obj} (h0 : 0 < k) (h1 : k < (10 : Int) ^ j) (h2 : k ≤ 4000000000) (hs : s.size + j = 12) (he : mtL 12 k0 ByteArray.empty = mtL j k s) (hb : Below w.heap.size w wr) :
    MtR k0 w (.int .i64 (k / 10)) (.string ((⟨#[UInt8.ofNat (IntKind.u8.wrap (48 + k % 10)).toNat]⟩ : ByteArray) ++ s)) (wr.alloc o) := by
  rcases j with _ | j
  · simp at h1
    omega
  · refine ⟨k / 10, j, _, rfl, rfl, by omega, Obt.mt_step h1, by omega, by rw [ByteArray.size_append]; show 1 + s.size + j = 12; omega, ?_, hb.alloc hb.size _⟩
    rw [he]
    show (if 0 < k then _ else _) = _
    rw [if_pos h0]

set_option maxRecDepth 100000 in
set_option maxHeartbeats 2000000 in
theorem markText_def (k0 : Int) (w : World) (h0 : 0 < k0) (h1 : k0 ≤ 4000000000) :
    Calls Try.prog 95 #[.int .i64 k0] w fun e w' => e = .returned (.string (mkT k0)) ∧ Below w.heap.size w w' := by
  have hv := Obt.one_byte_mt
  go_enter Try.func95, Try.ntmps95
  go_wp2_with fail
  go_loopw [0, 3] (fun s1 o wr => MtR k0 w s1 o wr) (fun s1 o _ => (intOf s1).toNat)
  case atStart => exact ⟨k0, 12, _, rfl, rfl, by omega, by omega, h1, rfl, rfl, Below.refl _ _⟩
  case round =>
    obtain ⟨k, j, s, rfl, rfl, g0, g1, g2, hs, he, hb⟩ := hrel
    by_cases hlt : 0 < k
    · have ew : IntKind.u8.wrap (48 + k % 10) = 48 + k % 10 := IntWalk.u8_in _ (by omega)
      have ew1 : IntKind.u8.wrap (k % 10 + 48) = k % 10 + 48 := IntWalk.u8_in _ (by omega)
      have ew2 : IntKind.i64.wrap (48 + k % 10) = 48 + k % 10 := IntWalk.i64_in _ (by omega)
      have sz : ∀ x : UInt8, (⟨#[x]⟩ : ByteArray).size = 1 := fun _ => rfl
      have hp := fun o => mt_push (o := o) hlt g1 g2 hs he hb
      rw [ew] at hp
      have HP := Lib.hid hp
      have hs12 : s.size ≤ 12 := by omega
      clear hs g1 hb he hp
      go_wp2_with fail
      go_roundw
      case rel => exact HP.out _
      case measure => simp [intOf]; omega
    · have HE := Lib.hid (show mkT k0 = (⟨#[109]⟩ : ByteArray) ++ s by unfold mkT; rw [he, mtL_done _ _ _ hlt])
      clear he
      go_wp2_with fail
      go_ret
      exact ⟨by rw [HE.out]; rfl, hb⟩
end Mtx
end Go.Proofs.Ytopplljilmjjgaa
