/- At every range the law FnExactRangeOk returns true: RangeOk of the program answers as RangeOk of the model and leaves its argument. No condition. -/
import Derived.Test.YtlobhikifhbllaaSpopen
import Derived.Test.YtlobhikifhbllaaSpok
import Derived.Test.YtlobhikifhbllaaImok
import Derived.Deep.RegionWith
namespace Go.Proofs.Ytlobhikifhbllaa
open Go.ChangeShapes Go.WideShapes Go.ChangeAt Go.RowKit Go.Joins

set_option maxHeartbeats 1000000 in
theorem exactRangeOk_long (a : Option Addr) (cap : Nat) (L : List (Int × Int)) (w : World) (hm : L.length ≤ maxLen) (hl : 1048576 < L.length) :
    Calls Try.prog 3 #[.agg #[.slice a L.length cap]] w fun e w' => e = .returned (.bool true) ∧ Below w.heap.size w w' := by
  unfold maxLen at hm
  have K := Lib.hid fun V => szRange_any a L.length cap 1048576 V (by omega) (by omega) (by omega)
  rw [if_pos (by omega)] at K
  go_enter Try.func3, Try.ntmps3
  go_wp2_with fail
  refine (K.out _).mono ?_
  rintro e w1 ⟨rfl, hb⟩
  go_wp2_with fail
  go_ret
  exact ⟨rfl, ((Below.refl _ _).alloc (Nat.le_refl _) _).trans (hb.mono (by simp))⟩

set_option maxHeartbeats 2000000 in
theorem exactRangeOk_short (a : Option Addr) (cap : Nat) (L : List (Int × Int)) (w : World) (hl : L.length ≤ 1048576) (h : SpAt w w.heap.size (.slice a L.length cap) L) :
    Calls Try.prog 3 #[.agg #[.slice a L.length cap]] w fun e w' => e = .returned (.bool true) ∧ Below w.heap.size w w' := by
  have K := Lib.hid fun V => szRange_any a L.length cap 1048576 V (by omega) (by omega) (by omega)
  rw [if_neg (by omega)] at K
  have hb0 := (Below.refl w.heap.size w).alloc (Nat.le_refl _) (.cells #[.slice a L.length cap] 24)
  have hB : w.heap.size + 1 ≤ (w.alloc (.cells #[.slice a L.length cap] 24)).heap.size := by simp
  have hb := Below.refl (w.heap.size + 1) (w.alloc (.cells #[.slice a L.length cap] 24))
  have HSZ := Lib.hid (show 0 ≤ (1048576 : Int) - (L.length : Int) by omega)
  go_enter Try.func3, Try.ntmps3
  go_wp2_with fail
  refine (rel hB hb (K.out _)).mono ?_
  clear hb
  rintro e w1 ⟨rfl, hb⟩
  have hc := cells_of hb
  have b1 := hb0.trans (hb.mono (Nat.le_succ _))
  have nn : ¬ (1048576 : Int) - (L.length : Int) < 0 := by omega
  go_wp2_with fail
  refine (toRange_any _ L w1 ((h.below b1).mono b1.size) hl).mono ?_
  rintro e w2 ⟨g, rfl, hblk, hg, hb2⟩
  have b2 := b1.trans (hb2.mono b1.size)
  have hbb2 := hb.trans (hb2.mono (by have := hb.size; simp at this; omega))
  clear hb hc hb2 b1
  go_wp2_with fail
  refine (specRangeOk_any _ _ L w2 hl (hblk.at hblk.lt)).mono ?_
  rintro e w3 ⟨rfl, hb3⟩
  have b3 := b2.trans (hb3.mono b2.size)
  have hb := hbb2.trans (hb3.mono (by have := hbb2.size; simp at this; omega))
  have hc := cells_of hb
  clear hbb2 hb3 b2 hblk hg
  go_wp2_with fail
  refine (toRange_any _ L w3 ((h.below b3).mono b3.size) hl).mono ?_
  rintro e w4 ⟨g4, rfl, hblk, hg, hb4⟩
  have b4 := b3.trans (hb4.mono b3.size)
  have hbb := hb.trans (hb4.mono (by have := hb.size; simp at this; omega))
  clear hb hc hb4 b3
  have hg4 := hblk.lt
  have z4 : w.heap.size < w4.heap.size := by have := hbb.size; simp at this; omega
  have blk5 := hblk.kept (Below.heap_alloc w4 (.cells #[.slice (some ⟨g4, 0, none⟩) L.length L.length] 29) g4 hg4)
  go_wp2_with fail
  refine (implRangeOk_any _ _ L _ hl (blk5.at (by simp; omega))).mono ?_
  rintro e w5 ⟨rfl, hb5⟩
  have b5a := b4.alloc b4.size (.cells #[.slice (some ⟨g4, 0, none⟩) L.length L.length] 29)
  have b5 := b5a.trans (hb5.mono b5a.size)
  have z5 : w4.heap.size + 1 ≤ w5.heap.size := by have := hb5.size; simpa using this
  have x5 : w5.cell? ⟨w4.heap.size, 0, none⟩ = some (.slice (some ⟨g4, 0, none⟩) L.length L.length) := (hb5.cell (p := ⟨w4.heap.size, 0, none⟩) (by simp)).trans (by go_simp)
  have t5 : w5.cell? ⟨w.heap.size, 0, none⟩ = some (.slice a L.length cap) :=
    (hb5.cell (p := ⟨w.heap.size, 0, none⟩) (by simp; omega)).trans ((((Below.refl w4.heap.size w4).alloc (Nat.le_refl _) (.cells #[.slice (some ⟨g4, 0, none⟩) L.length L.length] 29)).cell (p := ⟨w.heap.size, 0, none⟩) z4).trans ((hbb.cell (p := ⟨w.heap.size, 0, none⟩) (by simp)).trans (by go_simp)))
  have y5 := blk5.kept (hb5.block g4 (by simp; omega))
  have h5 : SpAt w5.drew w5.drew.heap.size (.slice a L.length cap) L := (h.below b5).mono b5.size
  clear hb5 hbb b4 hblk hg blk5 b5a
  go_wp2_with fail
  go_region_with (first
    | (go_at_call 14; refine (toRange_any _ L _ h5 hl).mono ?_; rintro e w6 ⟨g6, rfl, k6, hg6, hb6⟩; have x6 := (hb6.cell (p := ⟨w4.heap.size, 0, none⟩) (by (show w4.heap.size < w5.heap.size; omega))).trans x5; have y6 := y5.kept (hb6.block g4 (by (show g4 < w5.heap.size; omega))); have b6 := b5.drew.trans (hb6.mono b5.size))
    | (go_at_call 16; refine (eqRange_any _ _ _ _ L L _ hl hl (y6.at y6.lt) (k6.at k6.lt)).mono ?_; rintro e w7 ⟨rfl, hb7⟩; have b7 := b6.trans (hb7.mono b6.size)))
  all_goals
    go_wp2_with fail
    go_ret
    exact ⟨rfl, b7⟩

theorem exactRangeOk_law : LawWalk Try.prog 3 Try.f3 := by
  intro H enc W base args ds ps hval hA
  rw [Try.params3] at hA hval
  obtain ⟨v0, vs, d0, es, p0, q0, hargs, rfl, rfl, h0, r0⟩ := trodAll_cons hA
  obtain ⟨rfl, rfl, rfl⟩ := trodAll_nil r0
  obtain rfl : args = #[v0] := by cases args; simp_all
  obtain ⟨a, cap, L, rfl, hsp, hm⟩ := open_range (hval 0 _ v0 rfl rfl) h0
  by_cases hl : L.length ≤ 1048576
  · exact exactRangeOk_short a cap L W hl hsp
  · exact exactRangeOk_long a cap L W hm (by omega)

theorem exactRangeOk_holds : Rows.FnExactRangeOkSaid :=
  OpenClaim.holds_of_wide 3 Try.f3 rfl rfl rfl rfl rfl rfl rfl ⟨rfl, rfl, rfl, rfl, rfl⟩ rfl rfl rfl rfl rfl (by kernel_rfl) Try.func3 (by kernel_rfl)
    (of_decide_eq_true (by kernel_rfl)) (by unfold Func.isWrapper; rw [if_neg (by decide +kernel)]; exact ⟨rfl, rfl⟩)
    (fun os started H enc _ => law_lifted (s := Rows.fnExactRangeOkSpec) (tb := 4) own started laid (by kernel_rfl) Try.func3 rfl (by kernel_rfl) Try.underlying4 (by kernel_rfl)
      (fun ds h => by rw [Try.params3] at h; match ds, h with | [_], _ => rfl)
      (ChangeSpec.witness6 (enc := enc) (C := Try.checked) false ⟨#[], #[.agg #[.slice none 0 0]], []⟩ 8 (by kernel_rfl) (by kernel_rfl) (by kernel_rfl) (by kernel_rfl))
      exactRangeOk_law)
#print axioms exactRangeOk_holds
end Go.Proofs.Ytlobhikifhbllaa
