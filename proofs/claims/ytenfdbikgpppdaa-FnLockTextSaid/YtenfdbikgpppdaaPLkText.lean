/- At every code the law FnLockText returns true: the program and the model write the drawn lock alike, and it is read back; what is no lock is written as nothing. No condition. -/
import Derived.Test.YtenfdbikgpppdaaDpicks
import Derived.Test.YtenfdbikgpppdaaLks
import Derived.Test.YtenfdbikgpppdaaSamep
import Derived.Test.YtenfdbikgpppdaaGe
namespace Go.Proofs.Ytenfdbikgpppdaa
open Go.ChangeShapes Go.WideShapes Go.ChangeAt Go.RowKit Go.Joins Go.Sort

namespace Plt
open Foot Dsh Dpk Cpu Smp
def AnyLock (w : World) (e : Ending) (w' : World) : Prop := ∃ A v, e = .returned v ∧ POwn w' w.heap.size v A ∧ A.length ≤ 7 ∧ Below w.heap.size w w'

set_option maxRecDepth 100000 in
set_option maxHeartbeats 1000000 in
theorem DrawLockText_any (a : Option Addr) (len cap : Nat) (w : World) (h : CodeIn w a len cap) : Calls Try.prog 26 #[.slice a len cap] w (AnyLock w) := by
  go_enter Try.func26, Try.ntmps26
  go_wp2_with fail
  refine (open_any a len cap _ h).mono ?_
  rintro e w1 ⟨rfl, hr1, hb1⟩
  have hz := rdAt_lt hr1
  have z1 := hb1.size
  go_wp2_with fail
  refine (l20Shelf_any _ 0 4 0 w1 (by omega) hr1 (by omega) (by omega) (by omega)).mono ?_
  rintro e w2 ⟨S, v, fs, rfl, hg, hl, hsz, hd⟩
  have b2 := drawn_below hd hb1 (Nat.le_refl _)
  obtain ⟨sa, caps, rfl, hform, hcap⟩ := hg.form
  obtain ⟨q, hq0, hq1, hr2, hg2⟩ := hd
  have HG := Lib.hid hg
  have z2 := b2.size
  clear hg hr1 hg2 hb1
  go_wp2_with fail
  refine (l20Picks_any _ q w1.heap.size 9 sa caps S fs w2 hr2 (by omega) (by omega) (by omega) HG.out (by omega) hl).mono ?_
  rintro e w3 ⟨A, v, rfl, ho, hl, hd⟩
  have b3 := drawn_below hd b2 (Nat.le_refl _)
  have HO := Lib.hid (show POwn w3 w.heap.size v A from ⟨ho.1, by rcases ho.2 with h | ⟨g, c, cur, hv, hb, rest⟩; exact .inl h; exact .inr ⟨g, c, cur, hv, Nat.le_trans z2 hb, rest⟩⟩)
  clear hd ho hr2 b2
  go_wp2_with fail
  go_ret
  exact ⟨A, v, rfl, HO.out, hl, b3⟩

set_option maxRecDepth 100000 in
set_option maxHeartbeats 4000000 in
theorem short (a : Option Addr) (len cap : Nat) (w : World) (h : CodeIn w a len cap) (hl : len ≤ 1048576) :
    Calls Try.prog 7 #[.slice a len cap] w fun e w' => e = .returned (.bool true) ∧ Below w.heap.size w w' := by
  go_enter Try.func7, Try.ntmps7
  go_wp2_with fail
  refine (DrawLockText_any a len cap w h).mono ?_
  rintro e w1 ⟨A, v, rfl, hown, hm, b1⟩
  have hA : A.length ≤ 1048576 := by omega
  have hat1 := hown.at
  obtain ⟨va, vc, rfl⟩ := hown.form
  have H := Lib.hid hat1
  have z1 := b1.size
  have KT : Hid (∀ V, PkAt V V.heap.size (.slice va A.length vc) A → Calls Try.prog 18 #[.slice va A.length vc] V fun e w' => e = .returned (.string (Lk.lockT A)) ∧ Below V.heap.size V w') := Lib.hid fun V g => Lk.implLockText_any _ A V hA g
  have KS : Hid (∀ V, PkAt V V.heap.size (.slice va A.length vc) A → Calls Try.prog 17 #[.slice va A.length vc] V fun e w' => e = .returned (.string (Lk.lockT A)) ∧ Below V.heap.size V w') := Lib.hid fun V g => Lk.specLockText_any _ A V hA g
  have KP : Hid (∀ V, PkAt V V.heap.size (.slice va A.length vc) A → Calls Try.prog 24 #[.slice va A.length vc] V fun e w' => e = .returned (.bool (pkOk A)) ∧ Below V.heap.size V w') := Lib.hid fun V g => implPicksOk_any _ A V hA g
  clear hat1 hown h
  rcases hk : pkOk A
  · have KF : Hid (∀ V, Calls Try.prog 20 #[.string ⟨#[]⟩] V (Lk.LfPost (some []) V)) := Lib.hid fun V => by
      have := Lk.implLockFrom_any ⟨#[]⟩ V (by decide)
      have e : Lk.imL ((⟨#[]⟩ : ByteArray).data.toList) = some [] := Lk.imL_some.2 ⟨by simp, rfl, rfl⟩
      rwa [e] at this
    rw [Lk.lockT_no hk] at KT KS
    rw [hk] at KP
    clear hk
    go_wp2_with fail
    refine (KT.out _ H.out).mono ?_
    rintro e w2 ⟨rfl, hb⟩
    have n2 := hb
    clear hb
    go_wp2_with fail
    refine (KS.out _ (H.out.stepAt n2)).mono ?_
    rintro e w3 ⟨rfl, hb⟩
    have n3 := n2.trans (hb.mono n2.size)
    clear hb n2
    go_wp2_with fail
    refine (KF.out _).mono ?_
    rintro e w4 ⟨v4, rfl, p4, hb⟩
    have n4 := n3.trans (hb.mono n3.size)
    clear hb n3 p4
    go_wp2_with fail
    refine (KP.out _ (H.out.stepAt n4)).mono ?_
    rintro e w5 ⟨rfl, hb⟩
    have n5 := n4.trans (hb.mono n4.size)
    clear hb n4
    go_wp2_with fail
    refine (alive_any _).mono ?_
    rintro e w6 ⟨rfl, hb⟩
    have n6 := n5.trans (hb.mono n5.size)
    clear hb n5
    go_wp2_with fail
    go_ret
    exact ⟨rfl, b1.trans (n6.mono z1)⟩
  · have hlist := Lk.lockT_toList hk
    have hsz : (Lk.lockT A).size ≤ 1048576 := by
      have h1 := Lk.lockL_len A
      have h2 : (Lk.lockT A).size = (Lk.lockT A).data.toList.length := by simp
      rw [h2, hlist]
      omega
    have KF : Hid (∀ V, Calls Try.prog 20 #[.string (Lk.lockT A)] V (Lk.LfPost (some A) V)) := Lib.hid fun V => by
      have := Lk.implLockFrom_any (Lk.lockT A) V hsz
      rwa [hlist, Lk.imL_lock hk] at this
    have hne : ((Lk.lockT A).toList != (Lk.lockT A).toList) = false := by simp
    rw [hk] at KP
    clear hk hlist
    generalize Lk.lockT A = t at *
    go_wp2_with fail
    refine (KT.out _ H.out).mono ?_
    rintro e w2 ⟨rfl, hb⟩
    have n2 := hb
    clear hb
    go_wp2_with fail
    refine (KS.out _ (H.out.stepAt n2)).mono ?_
    rintro e w3 ⟨rfl, hb⟩
    have n3 := n2.trans (hb.mono n2.size)
    clear hb n2
    go_wp2_with fail
    refine (KF.out _).mono ?_
    rintro e w4 ⟨v4, rfl, p4, hb⟩
    obtain ⟨a4, c4, rfl, _⟩ := id p4.at
    have n4 := n3.trans (hb.mono n3.size)
    clear hb n3
    go_wp2_with fail
    refine (KP.out _ (H.out.stepAt n4)).mono ?_
    rintro e w5 ⟨rfl, hb⟩
    have n5 := n4.trans (hb.mono n4.size)
    have p5 := p4.below hb
    clear hb n4 p4
    go_wp2_with fail
    refine (samePicks_any _ _ A A _ hA hA p5.at (H.out.stepAt n5)).mono ?_
    rintro e w6 ⟨rfl, hb⟩
    have n6 := n5.trans (hb.mono n5.size)
    clear hb n5 p5
    go_wp2_with fail
    refine (alive_any _).mono ?_
    rintro e w7 ⟨rfl, hb⟩
    have n7 := n6.trans (hb.mono n6.size)
    clear hb n6
    go_wp2_with fail
    go_ret
    exact ⟨rfl, b1.trans (n7.mono z1)⟩

set_option maxRecDepth 100000 in
set_option maxHeartbeats 1000000 in
theorem long (a : Option Addr) (len cap : Nat) (w : World) (hl : 1048576 < len) :
    Calls Try.prog 7 #[.slice a len cap] w fun e w' => e = .returned (.bool true) ∧ Below w.heap.size w w' := by
  go_enter Try.func7, Try.ntmps7
  go_wp2
  go_ret
  exact ⟨rfl, Below.refl _ _⟩
theorem walk (a : Option Addr) (len cap : Nat) (w : World) (h : CodeIn w a len cap) :
    Calls Try.prog 7 #[.slice a len cap] w fun e w' => e = .returned (.bool true) ∧ Below w.heap.size w w' := by
  by_cases hl : len ≤ 1048576
  · exact short a len cap w h hl
  · exact long a len cap w (by omega)
end Plt

set_option maxRecDepth 100000 in
theorem lockText_holds : Rows.FnLockTextSaid :=
  OpenClaim.holds_of_wide 7 Try.f7 rfl rfl rfl rfl rfl rfl rfl ⟨rfl, rfl, rfl, rfl, rfl⟩ rfl rfl rfl rfl rfl (by kernel_rfl) Try.func7 (by kernel_rfl)
    (of_decide_eq_true (by kernel_rfl)) (by unfold Func.isWrapper; rw [if_neg (by decide +kernel)]; exact ⟨rfl, rfl⟩)
    (fun os started H enc _ => law_lifted (s := Rows.fnLockTextSpec) (tb := 4) own started laid (by kernel_rfl) Try.func7 rfl (by kernel_rfl) Try.underlying4 (by kernel_rfl)
      (fun ds h => by rw [Try.params7] at h; match ds, h with | [_], _ => rfl)
      (ChangeSpec.witness6 (enc := enc) (C := Try.checked) false ⟨#[], #[.slice none 0 0], []⟩ 8 (by kernel_rfl) (by kernel_rfl) (by kernel_rfl) (by kernel_rfl))
      (law_code Try.params7 Plt.walk))
#print axioms lockText_holds

end Go.Proofs.Ytenfdbikgpppdaa
