/- At every code the law FnLockFrom returns true: the program and the model read the drawn text alike, and what is read is how its lock is written. No condition. -/
import Derived.Test.YtenfdbikgpppdaaDpicks
import Derived.Test.YtenfdbikgpppdaaLks
import Derived.Test.YtenfdbikgpppdaaSamep
import Derived.Test.YtenfdbikgpppdaaGe
import Derived.Deep.RegionWith
namespace Go.Proofs.Ytenfdbikgpppdaa
open Go.ChangeShapes Go.WideShapes Go.ChangeAt Go.RowKit Go.Joins Go.Sort

namespace Plf
open Foot Dsh Dpk Cpu Smp
def AnyText (w : World) (e : Ending) (w' : World) : Prop := ∃ s : ByteArray, e = .returned (.string s) ∧ s.size ≤ 1048576 ∧ Below w.heap.size w w'
abbrev five : Array Value := #[.string ⟨#[]⟩, .string ⟨#[10]⟩, .string ⟨#[122]⟩, .string ⟨#[32]⟩, .string ⟨#[49]⟩]
theorem five_at {k : Nat} (hk : k < 5) : ∃ t : ByteArray, five[k]? = some (.string t) ∧ t.size ≤ 1 := by
  have : k = 0 ∨ k = 1 ∨ k = 2 ∨ k = 3 ∨ k = 4 := by omega
  rcases this with rfl | rfl | rfl | rfl | rfl
  · exact ⟨_, rfl, by decide⟩
  · exact ⟨_, rfl, by decide⟩
  · exact ⟨_, rfl, by decide⟩
  · exact ⟨_, rfl, by decide⟩
  · exact ⟨_, rfl, by decide⟩
theorem five_cell {W : World} {g k : Nat} {t : ByteArray} (h : W.heap[g]? = some (.cells five 9 (0, 0))) (ht : five[k]? = some (.string t)) : W.cell? ⟨g, k, none⟩ = some (.string t) := (intRow_cell h k).trans ht
theorem rdAt_drew {w : World} {R p : Nat} (h : RdAt w R p) : RdAt w.drew R p := h
theorem lock_short (A : List Pk) (hA : A.length ≤ 8) : (Lk.lockT A).size ≤ 112 := by
  unfold Lk.lockT
  split
  · have h1 := Lk.lockL_len A
    have h2 : (⟨(Lk.lockL A).toArray⟩ : ByteArray).size = (Lk.lockL A).length := rfl
    rw [h2]
    omega
  · exact Nat.zero_le _

theorem alloc_lt (W : World) : W.heap.size < (W.alloc (.cells five 9)).heap.size := by simp
theorem alloc_le (w W : World) (h : w.heap.size ≤ W.heap.size) : w.heap.size ≤ (W.alloc (.cells five 9)).heap.size := by simp; omega
set_option maxRecDepth 100000 in
set_option maxHeartbeats 4000000 in
theorem DrawLockFrom_any (a : Option Addr) (len cap : Nat) (w : World) (h : CodeIn w a len cap) : Calls Try.prog 28 #[.slice a len cap] w (AnyText w) := by
  go_enter Try.func28, Try.ntmps28
  go_wp2_with fail
  refine (open_any a len cap _ h).mono ?_
  rintro e w1 ⟨rfl, hr1, hb1⟩
  have hz := rdAt_lt hr1
  have z1 := hb1.size
  go_wp2_with fail
  refine (l20Shelf_any _ 0 4 0 w1 (by omega) hr1 (by omega) (by omega) (by omega)).mono ?_
  rintro e w2 ⟨S, v, fs, rfl, hg, hl, hsz, hd⟩
  have b2 := drawn_below hd hb1 (Nat.le_refl _)
  obtain ⟨sa, caps, rfl, hform, hcap⟩ := hg.form
  obtain ⟨q, hq0, hq1, hr2, hg2⟩ := hd
  have HG := Lib.hid hg
  have z2 := b2.size
  clear hg hr1 hg2 hb1
  go_wp2_with fail
  refine (l20Picks_any _ q w1.heap.size 0 sa caps S fs w2 hr2 (by omega) (by omega) (by omega) HG.out (by omega) hl).mono ?_
  rintro e w3 ⟨A, v, rfl, ho, hl3, hd⟩
  have b3 := drawn_below hd b2 (Nat.le_refl _)
  obtain ⟨va, vc, rfl⟩ := ho.form
  have HAT := Lib.hid ho.at
  obtain ⟨q3, hq30, hq31, hr3, hg3⟩ := hd
  have z3 := b3.size
  have hR3 := rdAt_lt hr3
  have KS : Hid (Calls Try.prog 17 #[.slice va A.length vc] w3 fun e w' => e = .returned (.string (Lk.lockT A)) ∧ Below w3.heap.size w3 w') := Lib.hid (Lk.specLockText_any _ A w3 (by omega) HAT.out)
  have hs := lock_short A (by omega)
  clear ho hr2 b2 hg3
  generalize Lk.lockT A = s at *
  go_wp2_with fail
  refine KS.out.mono ?_
  rintro e w4 ⟨rfl, hb4⟩
  have hr4 := rdAt_below hr3 hb4 hR3
  have b4 := b3.trans (hb4.mono z3)
  have z4 := b4.size
  clear hr3 hb4 b3 HAT KS HG
  by_cases hs0 : s.size = 0
  · have hI : ((s.size : Nat) : Int) = 0 := by omega
    clear hs0
    go_wp2_with fail
    go_ret
    exact ⟨s, rfl, by omega, b4⟩
  · have hI : (0 : Int) < ((s.size : Nat) : Int) := by omega
    go_wp2_with fail
    refine (pick_any _ _ _ _ hr4 (by omega)).mono ?_
    rintro e w5 ⟨k5, rfl, k50, k51, _, hr5, hg5⟩
    have b5 := b4.grown hg5 b4.size (fun k hk => by injection hk with hk; omega)
    clear b4 hr4 hg5
    by_cases hk5 : k5 = 0
    · subst hk5
      go_wp2_with fail
      refine (pick_any _ _ _ _ hr5 (by omega)).mono ?_
      rintro e w6 ⟨k6, rfl, k60, k61, _, hr6, hg6⟩
      have b6 := b5.grown hg6 b5.size (fun k hk => by injection hk with hk; omega)
      have k62 : k6 < (s.size : Int) := k61 (by omega)
      have k63 : k6 ≤ (s.size : Int) := by omega
      obtain ⟨kn, rfl⟩ := Int.eq_ofNat_of_zero_le k60
      have z6 := b6.size
      have hR6 := rdAt_lt hr6
      have hRw : w.heap.size ≤ w.heap.size := Nat.le_refl _
      clear b5 hr5 hg6 k61
      have LT := alloc_lt
      have LE := alloc_le
      have LT6 := alloc_lt w6
      have LE6 := alloc_le w w6 z6
      have HLT := Lib.hid LT
      clear LT
      have HLE := Lib.hid LE
      clear LE
      go_wp2_with fail
      go_region_with (first
        | (go_at_call 51; refine (pick_any _ _ _ _ (rdAt_drew (rdAt_alloc hr6 (.cells five 9))) (by omega)).mono ?_; rintro e w7 ⟨k7, rfl, k70, k71, _, hr7, hg7⟩; have k72 : k7 < 5 := k71 (by omega); obtain ⟨k7n, rfl⟩ := Int.eq_ofNat_of_zero_le k70; obtain ⟨t, ht, htz⟩ := five_at (show k7n < 5 by omega); have G7 := (hg7.block w6.heap.size LT6 (fun e => by injection e with e; omega)).trans (heap_alloc_new w6 (.cells five 9)); have T7 := five_cell G7 ht; have hb7 := ((b6.alloc b6.size _).drew).grown hg7 LE6 (fun k hk => by injection hk with hk; omega); have z7 : w6.heap.size < w7.heap.size := Nat.lt_of_lt_of_le LT6 hg7.size; have z7w := hb7.size; clear hg7 k71 hr6)
        | (go_at_call 51; refine (pick_any _ _ _ _ (rdAt_drew hr6) (by omega)).mono ?_; rintro e w7 ⟨k7, rfl, k70, k71, _, hr7, hg7⟩; have k72 : k7 < 5 := k71 (by omega); obtain ⟨k7n, rfl⟩ := Int.eq_ofNat_of_zero_le k70; obtain ⟨t, ht, htz⟩ := five_at (show k7n < 5 by omega); have T7 := five_cell (heap_alloc_new w7 (.cells five 9)) ht; have hb7 := (b6.drew).grown hg7 b6.size (fun k hk => by injection hk with hk; omega); have z7 : w6.heap.size ≤ w7.heap.size := hg7.size; have z7w := hb7.size; clear hg7 k71 hr6)
        | (go_at_call 51; refine (pick_any _ _ _ _ hr7 (by omega)).mono ?_; rintro e w8 ⟨k8, rfl, k80, k81, _, hr8, hg8⟩; have k82 : k8 < 2 := k81 (by omega); obtain ⟨k8n, rfl⟩ := Int.eq_ofNat_of_zero_le k80; have ew : IntKind.i64.wrap ((kn : Int) + (k8n : Int)) = (kn : Int) + (k8n : Int) := IntWalk.i64_in _ (by omega); (try (have T8 := five_cell ((hg8.block w6.heap.size z7 (fun e => by injection e with e; omega)).trans G7) ht)); have T9 := five_cell (heap_alloc_new w8 (.cells five 9)) ht; have hb8 := hb7.grown hg8 hb7.size (fun k hk => by injection hk with hk; omega); clear hg8 k81 hr7)
        | (go_at_call 51; refine (pick_any _ _ _ _ (rdAt_alloc hr7 (.cells five 9)) (by omega)).mono ?_; rintro e w8 ⟨k8, rfl, k80, k81, _, hr8, hg8⟩; have k82 : k8 < 2 := k81 (by omega); obtain ⟨k8n, rfl⟩ := Int.eq_ofNat_of_zero_le k80; have ew : IntKind.i64.wrap ((kn : Int) + (k8n : Int)) = (kn : Int) + (k8n : Int) := IntWalk.i64_in _ (by omega); have T8 := five_cell ((hg8.block w7.heap.size (HLT.out w7) (fun e => by injection e with e; omega)).trans (heap_alloc_new w7 (.cells five 9))) ht; have hb8 := (hb7.alloc hb7.size (.cells five 9)).grown hg8 (HLE.out w w7 z7w) (fun k hk => by injection hk with hk; omega); clear hg8 k81 hr7))
      all_goals
        go_wp2_with fail
        go_ret
        exact ⟨_, rfl, (by simp only [ByteArray.size_append, ByteArray.size_extract]; omega), by first | exact hb8 | exact hb8.alloc hb8.size _⟩
    · have hk52 : (k5 == 0) = false := by rw [beq_eq_false_iff_ne]; exact hk5
      go_wp2_with fail
      go_ret
      exact ⟨s, rfl, by omega, b5⟩
theorem lf_len {l : List UInt8} : ((Lk.imL l).getD []).length ≤ 1048576 := by
  rcases h : Lk.imL l with _ | M
  · exact Nat.zero_le _
  · have := Lk.pkOk_count (Lk.imL_some.1 h).2.1
    show M.length ≤ 1048576
    omega
set_option maxRecDepth 100000 in
set_option maxHeartbeats 4000000 in
theorem short (a : Option Addr) (len cap : Nat) (w : World) (h : CodeIn w a len cap) (hl : len ≤ 1048576) :
    Calls Try.prog 8 #[.slice a len cap] w fun e w' => e = .returned (.bool true) ∧ Below w.heap.size w w' := by
  go_enter Try.func8, Try.ntmps8
  go_wp2_with fail
  refine (DrawLockFrom_any a len cap w h).mono ?_
  rintro e w1 ⟨s, rfl, hs, b1⟩
  have z1 := b1.size
  have KI := Lib.hid fun V => Lk.implLockFrom_any s V hs
  have KS : Hid (∀ V, Calls Try.prog 19 #[.string s] V (Lk.LfPost (Lk.imL s.data.toList) V)) := Lib.hid fun V => by
    have := Lk.specLockFrom_any s V hs
    rwa [← Lk.im_sp] at this
  have hA := @lf_len s.data.toList
  have hOK := @Lk.imL_some s.data.toList
  clear h
  match hm : Lk.imL s.data.toList with
  | none =>
    rw [hm] at KI KS hA
    simp only [Option.getD_none] at hA
    clear hm hOK
    go_wp2_with fail
    refine (KI.out _).mono ?_
    rintro e w2 ⟨v2, rfl, p2, hb⟩
    obtain ⟨a2, c2, rfl, _⟩ := id p2.at
    have n2 := hb
    clear hb
    go_wp2_with fail
    refine (KS.out _).mono ?_
    rintro e w3 ⟨v3, rfl, p3, hb⟩
    obtain ⟨a3, c3, rfl, _⟩ := id p3.at
    have n3 := n2.trans (hb.mono n2.size)
    have q2 := p2.below hb
    clear hb p2
    go_wp2_with fail
    refine (samePicks_any _ _ _ _ _ hA hA q2.at p3.at).mono ?_
    rintro e w4 ⟨rfl, hb⟩
    have n4 := n3.trans (hb.mono n3.size)
    clear hb p3 q2
    go_wp2_with fail
    refine (alive_any _).mono ?_
    rintro e w5 ⟨rfl, hb⟩
    have n5 := n4.trans (hb.mono n4.size)
    clear hb
    go_wp2_with fail
    go_ret
    exact ⟨rfl, b1.trans (n5.mono z1)⟩
  | some M =>
    rw [hm] at KI KS hA
    simp only [Option.getD_some] at hA
    obtain ⟨_, hk, hl2⟩ := hOK.1 hm
    have hT : Lk.lockT M = s := by
      apply ByteArray.ext
      apply Array.toList_inj.1
      rw [Lk.lockT_toList hk, hl2]
    have KT : Hid (∀ V a c, PkAt V V.heap.size (.slice a M.length c) M → Calls Try.prog 18 #[.slice a M.length c] V fun e w' => e = .returned (.string s) ∧ Below V.heap.size V w') := Lib.hid fun V a c g => by
      have := Lk.implLockText_any _ M V hA g
      rwa [hT] at this
    clear hm hOK hk hl2 hT
    go_wp2_with fail
    refine (KI.out _).mono ?_
    rintro e w2 ⟨v2, rfl, p2, hb⟩
    obtain ⟨a2, c2, rfl, _⟩ := id p2.at
    have n2 := hb
    clear hb
    go_wp2_with fail
    refine (KS.out _).mono ?_
    rintro e w3 ⟨v3, rfl, p3, hb⟩
    obtain ⟨a3, c3, rfl, _⟩ := id p3.at
    have n3 := n2.trans (hb.mono n2.size)
    have q2 := p2.below hb
    clear hb p2
    go_wp2_with fail
    refine (samePicks_any _ _ _ _ _ hA hA q2.at p3.at).mono ?_
    rintro e w4 ⟨rfl, hb⟩
    have n4 := n3.trans (hb.mono n3.size)
    have r2 := q2.below hb
    clear hb p3 q2
    go_wp2_with fail
    refine (KT.out _ _ _ r2.at).mono ?_
    rintro e w5 ⟨rfl, hb⟩
    have n5 := n4.trans (hb.mono n4.size)
    clear hb r2
    go_wp2_with fail
    refine (alive_any _).mono ?_
    rintro e w6 ⟨rfl, hb⟩
    have n6 := n5.trans (hb.mono n5.size)
    clear hb
    go_wp2_with fail
    go_ret
    exact ⟨rfl, b1.trans (n6.mono z1)⟩

set_option maxRecDepth 100000 in
set_option maxHeartbeats 1000000 in
theorem long (a : Option Addr) (len cap : Nat) (w : World) (hl : 1048576 < len) :
    Calls Try.prog 8 #[.slice a len cap] w fun e w' => e = .returned (.bool true) ∧ Below w.heap.size w w' := by
  go_enter Try.func8, Try.ntmps8
  go_wp2
  go_ret
  exact ⟨rfl, Below.refl _ _⟩
theorem walk (a : Option Addr) (len cap : Nat) (w : World) (h : CodeIn w a len cap) :
    Calls Try.prog 8 #[.slice a len cap] w fun e w' => e = .returned (.bool true) ∧ Below w.heap.size w w' := by
  by_cases hl : len ≤ 1048576
  · exact short a len cap w h hl
  · exact long a len cap w (by omega)
end Plf

set_option maxRecDepth 100000 in
theorem lockFrom_holds : Rows.FnLockFromSaid :=
  OpenClaim.holds_of_wide 8 Try.f8 rfl rfl rfl rfl rfl rfl rfl ⟨rfl, rfl, rfl, rfl, rfl⟩ rfl rfl rfl rfl rfl (by kernel_rfl) Try.func8 (by kernel_rfl)
    (of_decide_eq_true (by kernel_rfl)) (by unfold Func.isWrapper; rw [if_neg (by decide +kernel)]; exact ⟨rfl, rfl⟩)
    (fun os started H enc _ => law_lifted (s := Rows.fnLockFromSpec) (tb := 4) own started laid (by kernel_rfl) Try.func8 rfl (by kernel_rfl) Try.underlying4 (by kernel_rfl)
      (fun ds h => by rw [Try.params8] at h; match ds, h with | [_], _ => rfl)
      (ChangeSpec.witness6 (enc := enc) (C := Try.checked) false ⟨#[], #[.slice none 0 0], []⟩ 8 (by kernel_rfl) (by kernel_rfl) (by kernel_rfl) (by kernel_rfl))
      (law_code Try.params8 Plf.walk))
#print axioms lockFrom_holds
end Go.Proofs.Ytenfdbikgpppdaa
