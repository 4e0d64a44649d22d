/- Contracts of the laws' functions that compare, mark and hold what comes of a run, over this seat's translation: only its row of numbers leads to memory; marking turns that row's own block alone. Condition: at most 1048576 numbers. -/
import Derived.Test.YtfmidekffcjbgaaObl
import Derived.Test.YtfmidekffcjbgaaInto
import Derived.Handy
namespace Go.Proofs.Ytfmidekffcjbgaa
open Go.RowKit Go.Sort
namespace Rnw
abbrev ranV (c : Int) (o : ByteArray) (v : Value) : Value := .agg #[.int .i64 c, .string o, v]

set_option maxRecDepth 100000 in
set_option maxHeartbeats 2000000 in
theorem eqRan_same (c : Int) (o : ByteArray) {N : List Int} {v v' : Value} {w : World} (hl : N.length ≤ 1048576) (h : InAt w w.heap.size v N) (h' : InAt w w.heap.size v' N) :
    Calls Try.prog 31 #[ranV c o v, ranV c o v'] w fun e w' => e = .returned (.bool true) ∧ Below w.heap.size w w' := by
  have h1 : (c != c) = false := by simp
  have h2 : (o.toList != o.toList) = false := by simp
  obtain ⟨a, cap, rfl, x1⟩ := id h
  obtain ⟨a', cap', rfl, x2⟩ := id h'
  clear x1 x2
  have b0 := ((Below.refl w.heap.size w).alloc (Nat.le_refl _) (.cells #[.int .i64 c, .string o, .slice a N.length cap] 36)).alloc (by simp) (.cells #[.int .i64 c, .string o, .slice a' N.length cap'] 36)
  have K := Lib.hid (fun V (g : Below w.heap.size w V) => by
    have := eqIntS_any (.slice a N.length cap) (.slice a' N.length cap') N N V hl hl (h.stepAt g) (h'.stepAt g)
    rwa [decide_eq_true rfl] at this)
  have HB := Lib.hid b0
  clear h h' b0
  go_enter Try.func31, Try.ntmps31
  go_wp2_with fail
  refine (K.out _ HB.out).mono ?_
  rintro e w2 ⟨rfl, hb⟩
  have b2 := HB.out.trans (hb.mono HB.out.size)
  clear hb
  go_wp2_with fail
  go_ret
  exact ⟨rfl, b2⟩

set_option maxRecDepth 100000 in
set_option maxHeartbeats 2000000 in
theorem markRan_any (c : Int) (o : ByteArray) {N : List Int} {lo hi : Nat} {u : Value} {w : World} (hl : N.length ≤ 1048576) (h : IB N lo hi u w) (k : Int) (hk0 : 0 ≤ k) (hk1 : k ≤ 1000000000) :
    Calls Try.prog 36 #[ranV c o u, .int .i64 k] w fun e w' => e = .returned (.int .i64 (k + N.length)) ∧ IB (imarks k N.length) lo hi u w' ∧ Out lo hi w w' := by
  have hb := (Below.refl w.heap.size w).alloc (Nat.le_refl _) (.cells #[.int .i64 c, .string o, u] 36)
  have h1 := h.below hb
  obtain ⟨a, cap, rfl, x1⟩ := id h
  clear x1
  have K := Lib.hid (markIB hl h1 k hk0 hk1)
  have HB := Lib.hid hb
  clear h h1 hb
  go_enter Try.func36, Try.ntmps36
  go_wp2_with fail
  refine K.out.mono ?_
  rintro e w2 ⟨rfl, hm, ho⟩
  have HM := Lib.hid hm
  have HO := Lib.hid (Out.trans' (Out.ofBelow (lo := lo) (hi := hi) HB.out) ho)
  clear hm ho
  go_wp2_with fail
  go_ret
  exact ⟨rfl, HM.out, HO.out⟩
set_option maxRecDepth 100000 in
set_option maxHeartbeats 2000000 in
theorem heldRan_any (c : Int) (o : ByteArray) {n : Nat} {lo hi : Nat} {u : Value} {w : World} (hl : n ≤ 1048576) (k : Int) (hk0 : 0 ≤ k) (hk1 : k ≤ 1000000000) (h : IB (imarks k n) lo hi u w) :
    Calls Try.prog 37 #[ranV c o u, .int .i64 k] w fun e w' => e = .returned (.int .i64 (k + n)) ∧ Below w.heap.size w w' := by
  have hb := (Below.refl w.heap.size w).alloc (Nat.le_refl _) (.cells #[.int .i64 c, .string o, u] 36)
  have h1 := h.below hb
  have hn : ¬ (k + (n : Int) < 0) := by omega
  obtain ⟨a, cap, rfl, x1⟩ := id h
  clear x1
  have K := Lib.hid (heldIntS_any _ n k _ _ hl hk0 hk1 h1.at)
  have HB := Lib.hid hb
  clear h h1 hb
  go_enter Try.func37, Try.ntmps37
  go_wp2_with fail
  refine K.out.mono ?_
  rintro e w2 ⟨rfl, rfl⟩
  go_wp2_with fail
  go_ret
  exact ⟨rfl, HB.out⟩
end Rnw
end Go.Proofs.Ytfmidekffcjbgaa
