/- At every argument the law FnExactLockFrom returns true: LockFrom of the program answers as LockFrom of the model, and its answer owns its memory. No condition. -/
import Derived.Test.YtenfdbikgpppdaaGa
import Derived.Test.YtenfdbikgpppdaaGg
import Derived.Test.YtenfdbikgpppdaaPkmk
import Derived.Test.YtenfdbikgpppdaaLks
import Derived.Deep.RegionHeld3
namespace Go.Proofs.Ytenfdbikgpppdaa
open Go.ChangeShapes Go.WideShapes Go.ChangeAt Go.RowKit Go.Joins Go.Sort

namespace Llf
open Cpu
theorem lf_len (l : List UInt8) : ((Lk.imL l).getD []).length ≤ 1048576 := by
  rcases h : Lk.imL l with _ | M
  · exact Nat.zero_le _
  · have := Lk.pkOk_count (Lk.imL_some.1 h).2.1
    show M.length ≤ 1048576
    omega
set_option maxHeartbeats 1000000 in
theorem long (s : ByteArray) (w : World) (h : 1048576 < s.size) :
    Calls Try.prog 5 #[.string s] w fun e w' => e = .returned (.bool true) ∧ Below w.heap.size w w' := by
  go_enter Try.func5, Try.ntmps5
  go_wp2
  go_ret
  exact ⟨rfl, Below.refl _ _⟩

set_option maxRecDepth 100000 in
set_option maxHeartbeats 8000000 in
theorem short (s : ByteArray) (w : World) (h : s.size ≤ 1048576) :
    Calls Try.prog 5 #[.string s] w fun e w' => e = .returned (.bool true) ∧ Below w.heap.size w w' := by
  have hA := lf_len s.data.toList
  have KS : Hid (∀ V, Calls Try.prog 19 #[.string s] V fun e w' => ∃ v, e = .returned (.tuple #[v, .bool ((Lk.imL s.data.toList).isSome)]) ∧ PB ((Lk.imL s.data.toList).getD []) V.heap.size w'.heap.size v w' ∧ Below V.heap.size V w') := Lib.hid fun V => by have := Lk.specLockFrom_any s V h; rw [← Lk.im_sp] at this; exact this
  have KI : Hid (∀ V, Calls Try.prog 20 #[.string s] V fun e w' => ∃ v, e = .returned (.tuple #[v, .bool ((Lk.imL s.data.toList).isSome)]) ∧ PB ((Lk.imL s.data.toList).getD []) V.heap.size w'.heap.size v w' ∧ Below V.heap.size V w') := Lib.hid fun V => Lk.implLockFrom_any s V h
  obtain ⟨bf, hbf⟩ : ∃ bf : Bool, (Lk.imL s.data.toList).isSome = bf := ⟨_, rfl⟩
  rw [hbf] at KS KI
  clear hbf
  have hbb : (bf != bf) = false := by simp
  generalize (Lk.imL s.data.toList).getD [] = A at *
  obtain ⟨mm, hmm, hm0⟩ : ∃ mm : Int, 1 + 5 * (A.length : Int) = mm ∧ ¬ mm < 0 := ⟨_, rfl, by omega⟩
  have hm2 : (mm != mm) = false := by simp
  have KM : Hid (∀ V u lo hi, PB A lo hi u V → Calls Try.prog 21 #[u, .int .i64 1] V fun e w' => e = .returned (.int .i64 mm) ∧ PB (pmarks 1 A.length) lo hi u w' ∧ Out lo hi V w') := Lib.hid fun V u lo hi g => by
    have := markPB hA g 1 (by omega) (by omega)
    rwa [hmm] at this
  have KH : Hid (∀ V u lo hi, PB (pmarks 1 A.length) lo hi u V → Calls Try.prog 22 #[u, .int .i64 1] V fun e w' => e = .returned (.int .i64 mm) ∧ Below V.heap.size V w') := Lib.hid fun V u lo hi g => by
    have := heldPB hA 1 (by omega) (by omega) g
    rwa [hmm] at this
  clear hmm
  go_enter Try.func5, Try.ntmps5
  go_wp2_with fail
  refine (KS.out _).mono ?_
  rintro e w1 ⟨vvwa, rfl, hwa, hb⟩
  have zw1 : w.heap.size ≤ w1.heap.size := hb.size
  have b1 := hb
  clear hb
  obtain ⟨sawa, scwa, rfl, exwa⟩ := id hwa
  clear exwa
  go_wp2_with fail
  refine (KI.out _).mono ?_
  rintro e w2 ⟨vvg, rfl, hg, hb⟩
  have zw2 : w1.heap.size ≤ w2.heap.size := hb.size
  have bw2 := b1.trans (hb.mono b1.size)
  have rw2_wa := hwa.below hb
  clear hb b1 hwa
  obtain ⟨sag, scg, rfl, exg⟩ := id hg
  clear exg
  go_wp2_with fail
  refine (eqPickS_same hA hg.at rw2_wa.at).mono ?_
  rintro e w3 ⟨rfl, hb⟩
  have zw3 : w2.heap.size ≤ w3.heap.size := hb.size
  have bw3 := bw2.trans (hb.mono bw2.size)
  have rw3_wa := rw2_wa.below hb
  have rw3_g := hg.below hb
  clear hb bw2 rw2_wa hg
  go_wp2_with fail
  refine (KM.out _ _ _ _ rw3_g).mono ?_
  rintro e w4 ⟨rfl, hg1, ho⟩
  clear rw3_g
  have zw4 : w3.heap.size ≤ w4.heap.size := ho.size
  have bw4 := ho.below bw3 (by omega) (by omega)
  have rw4_wa := rw3_wa.out ho (by omega)
  clear ho bw3 rw3_wa
  go_wp2_with fail
  refine (KH.out _ _ _ _ hg1).mono ?_
  rintro e w5 ⟨rfl, hb⟩
  have zw5 : w4.heap.size ≤ w5.heap.size := hb.size
  have bw5 := bw4.trans (hb.mono bw4.size)
  have rw5_wa := rw4_wa.below hb
  have rw5_g := hg1.below hb
  clear hb bw4 rw4_wa hg1
  go_wp2_with fail
  refine (KI.out _).mono ?_
  rintro e w6 ⟨vvwb, rfl, hwb, hb⟩
  have zw6 : w5.heap.size ≤ w6.heap.size := hb.size
  have bw6 := bw5.trans (hb.mono bw5.size)
  have rw6_wa := rw5_wa.below hb
  have rw6_g := rw5_g.below hb
  clear hb bw5 rw5_wa rw5_g
  obtain ⟨sawb, scwb, rfl, exwb⟩ := id hwb
  clear exwb
  go_wp2_with fail
  refine (eqPickS_same hA hwb.at rw6_wa.at).mono ?_
  rintro e w7 ⟨rfl, hb⟩
  have zw7 : w6.heap.size ≤ w7.heap.size := hb.size
  have bw7 := bw6.trans (hb.mono bw6.size)
  have rw7_wa := rw6_wa.below hb
  have rw7_g := rw6_g.below hb
  have rw7_wb := hwb.below hb
  clear hb bw6 rw6_wa rw6_g hwb
  go_wp2_with fail
  refine (KH.out _ _ _ _ rw7_g).mono ?_
  rintro e w8 ⟨rfl, hb⟩
  have zw8 : w7.heap.size ≤ w8.heap.size := hb.size
  have bw8 := bw7.trans (hb.mono bw7.size)
  have rw8_wa := rw7_wa.below hb
  have rw8_g := rw7_g.below hb
  have rw8_wb := rw7_wb.below hb
  clear hb bw7 rw7_wa rw7_g rw7_wb
  go_wp2_with fail
  go_ret
  exact ⟨rfl, bw8⟩

set_option maxRecDepth 100000 in
theorem law : LawWalk Try.prog 5 Try.f5 := by
  intro H enc W base args ds ps hval hA
  rw [Try.params5] at hA hval
  obtain ⟨v0, vs, d0, es, p0, q0, hargs, rfl, rfl, h0, r0⟩ := trodAll_cons hA
  obtain ⟨rfl, rfl, rfl⟩ := trodAll_nil r0
  obtain rfl : args = #[v0] := by cases args; simp_all
  obtain ⟨s, rfl, _, _, _⟩ := Go.ChangeMaps.open_string Try.underlying9 (hval 0 _ v0 rfl rfl) h0
  by_cases h : s.size ≤ 1048576
  · exact short s W h
  · exact long s W (by omega)
end Llf

set_option maxRecDepth 100000 in
theorem exactLockFrom_holds : Rows.FnExactLockFromSaid :=
  OpenClaim.holds_of_wide 5 Try.f5 rfl rfl rfl rfl rfl rfl rfl ⟨rfl, rfl, rfl, rfl, rfl⟩ rfl rfl rfl rfl rfl (by kernel_rfl) Try.func5 (by kernel_rfl)
    (of_decide_eq_true (by kernel_rfl)) (by unfold Func.isWrapper; rw [if_neg (by decide +kernel)]; exact ⟨rfl, rfl⟩)
    (fun os started H enc _ => law_lifted (s := Rows.fnExactLockFromSpec) (tb := 4) own started laid (by kernel_rfl) Try.func5 rfl (by kernel_rfl) Try.underlying4 (by kernel_rfl)
      (fun ds h => by rw [Try.params5] at h; match ds, h with | [_], _ => rfl)
      (ChangeSpec.witness6 (enc := enc) (C := Try.checked) false ⟨#[], #[.string ByteArray.empty], []⟩ 8 (by kernel_rfl) (by kernel_rfl) (by kernel_rfl) (by kernel_rfl))
      Llf.law)
#print axioms exactLockFrom_holds
end Go.Proofs.Ytenfdbikgpppdaa
