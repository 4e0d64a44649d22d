/- Contracts of the laws' functions that say whether a row of lines, or of targets, bears the marks, over this seat's translation: what bears them is held; nothing that was there has changed. Condition: at most 1048576 of all together. -/
import Derived.Test.YtopplljilmjjgaaTgm
namespace Go.Proofs.Ytopplljilmjjgaa
open Go.ChangeShapes Go.WideShapes Go.ChangeAt Go.RowKit Go.Sort Go.Joins Go.Deep

namespace Tgm
open Tg Mtx
set_option maxRecDepth 100000 in
set_option maxHeartbeats 4000000 in
theorem heldLineS_any (u : Value) (m : Nat) (k : Int) (w : World) (hl : m ≤ 1048576) (hk0 : 0 < k) (hk1 : k ≤ 1000000000) (h : LnAt w w.heap.size u (lmk k m)) :
    Calls Try.prog 98 #[u, .int .i64 k] w fun e w' => e = .returned (.int .i64 (k + 4 * m)) ∧ Below w.heap.size w w' := by
  obtain ⟨a, cap, rfl, h1⟩ := h
  have H := Lib.hid h1
  clear h1
  rw [lmk_len]
  go_enter Try.func98, Try.ntmps98
  go_wp2
  go_loopw [1, 5] (fun s1 i wr => ∃ j : Nat, j ≤ m ∧ i = .int .i64 (j : Int) ∧ s1 = .int .i64 (k + 4 * j) ∧ Below w.heap.size w wr) (fun _ i _ => m - (intOf i).toNat)
  case atStart => exact ⟨0, Nat.zero_le _, rfl, by simp, Below.refl _ _⟩
  case round =>
    obtain ⟨j, hj, rfl, rfl, hb⟩ := hrel
    by_cases hlt : j < m
    · rcases H.out with h1 | ⟨b, o, rfl, hB, hc⟩
      · have := lmk_len m k
        rw [h1] at this
        simp at this
        omega
      have hjl : j < (lmk k m).length := by rw [lmk_len]; exact hlt
      have hm : (lmk k m)[j] = (k + 4 * j, k + 4 * j + 1, k + 4 * j + 1 + 1, mkT (k + 4 * j + 1 + 1 + 1)) := by
        have := lmk_at m j k hlt
        rw [List.getElem?_eq_getElem hjl] at this
        exact Option.some.inj this
      obtain ⟨c0, c1, c2, c3⟩ := (hc j hjl).below hb hB
      rw [hm] at c0 c1 c2 c3
      simp only at c0 c1 c2 c3
      obtain ⟨y, hy⟩ : ∃ y : Int, k + 4 * (j : Int) = y := ⟨_, rfl⟩
      have hy1 : y ≤ 1005000000 ∧ 0 < y := by omega
      have HY := Lib.hid hy
      rw [hy] at c0 c1 c2 c3 ⊢
      have hE : ((mkT (y + 1 + 1 + 1)).toList != (mkT (y + 1 + 1 + 1)).toList) = false := by simp
      have KT := Lib.hid fun V => markText_def (y + 1 + 1 + 1) V (by omega) (by omega)
      generalize mkT (y + 1 + 1 + 1) = tt at *
      have HB := Lib.hid hb
      have c3' := cell_regrown c3
      have hq0 : (y != y) = false := by simp
      have hq1 : (y + 1 != y + 1) = false := by simp
      have hq2 : (y + 1 + 1 != y + 1 + 1) = false := by simp
      have z := hb.size
      clear hc hm hy
      go_wp2_with fail
      refine wp_region_quiet_below (by kernel_rfl) (by kernel_rfl) ?_
      repeat (any_goals (first | go_big_quiet_step ((go_at_call 95; exact Calls.regrown_of (KT.out _))) | quiet_step ((go_at_call 95; exact Calls.regrown_of (KT.out _)))))
      refine wpQuiet_nil ?_
      intro W2 hw
      have nn := quiet_end hw
      have HB2 := Lib.hid (HB.out.trans (nn.mono HB.out.size))
      clear hw c3' nn
      go_wp2_with fail
      go_roundw
      case rel => exact ⟨j + 1, by omega, by go_num, by have := HY.out; congr 1; omega, HB2.out⟩
      case measure => simp [intOf]; omega
    · obtain rfl : j = m := by omega
      go_wp2_with fail
      go_ret
      exact ⟨rfl, hb⟩
set_option maxRecDepth 100000 in
set_option maxHeartbeats 8000000 in
theorem heldTargetS_any (u : Value) (S : List Tgt) (k : Int) (w : World) (hl : S.length ≤ 1048576) (hsz : tgSz S ≤ 1048576) (hk0 : 0 < k) (hk1 : k ≤ 1000000) (h : TgAt w w.heap.size u (tgk k S)) :
    Calls Try.prog 50 #[u, .int .i64 k] w fun e w' => e = .returned (.int .i64 (tgkE k S)) ∧ Below w.heap.size w w' := by
  obtain ⟨a, cap, rfl, h1⟩ := h
  have H := Lib.hid h1
  clear h1
  rw [tgk_len]
  go_enter Try.func50, Try.ntmps50
  go_wp2
  go_loopw [1, 5] (fun s1 i wr => ∃ j : Nat, j ≤ S.length ∧ i = .int .i64 (j : Int) ∧ s1 = .int .i64 (tgkE k (S.take j)) ∧ Below w.heap.size w wr) (fun _ i _ => S.length - (intOf i).toNat)
  case atStart => exact ⟨0, Nat.zero_le _, rfl, by simp [tgkE], Below.refl _ _⟩
  case round =>
    obtain ⟨j, hj, rfl, rfl, hb⟩ := hrel
    by_cases hlt : j < S.length
    · rcases H.out with h1 | ⟨b, o, rfl, hB, hc⟩
      · have := tgk_len S k
        rw [h1] at this
        simp at this
        omega
      have hjl : j < (tgk k S).length := by rw [tgk_len]; exact hlt
      obtain ⟨x, hx⟩ : ∃ x, S[j] = x := ⟨_, rfl⟩
      have hxs : S[j]? = some x := by rw [List.getElem?_eq_getElem hlt, hx]
      have hm : (tgk k S)[j] = tmk1 (tgkE k (S.take j)) x := by
        have := tgk_at S j k x hxs
        rw [List.getElem?_eq_getElem hjl] at this
        exact Option.some.inj this
      have HNX := Lib.hid (tgkE_next k hxs)
      have hmem := tgSz_mem (List.mem_of_getElem? hxs)
      have htk := tgkE_take S j k
      have cc := (hc j hjl).below hb hB
      rw [hm] at cc
      obtain ⟨y, hy⟩ : ∃ y : Int, tgkE k (S.take j) = y := ⟨_, rfl⟩
      rw [hy] at cc htk HNX ⊢
      unfold tmk1 at cc
      unfold sz1 at hmem
      unfold nx at HNX
      obtain ⟨nL, hnL⟩ : ∃ n, x.2.2.1.length = n := ⟨_, rfl⟩
      obtain ⟨nN, hnN⟩ : ∃ n, x.2.2.2.length = n := ⟨_, rfl⟩
      rw [hnL, hnN] at cc HNX
      rw [hnL, hnN] at hmem
      obtain ⟨⟨c0, c1⟩, a1, d1, a2, d2, c2, c3, hs, hi⟩ := cc
      simp only at c0 c1 c2 c3 hs hi
      rw [lmk_len] at c2 hs
      rw [imarks_len] at c3 hi
      have hb1 : y ≤ 8000000 ∧ 0 < y := by omega
      have hl1 : nL ≤ 1048576 := by omega
      have hl2 : nN ≤ 1048576 := by omega
      obtain ⟨z, hz⟩ : ∃ z : Int, y + 1 + 1 + 4 * (nL : Int) = z := ⟨_, rfl⟩
      obtain ⟨z2, hz2⟩ : ∃ z2 : Int, z + (nN : Int) = z2 := ⟨_, rfl⟩
      have KL := Lib.hid fun V (g : Below wr.heap.size wr V) => by
        have := heldLineS_any (.slice a1 nL d1) nL (y + 1 + 1) V hl1 (by omega) (by omega) ((hs.mono hb.size).stepAt g)
        rwa [hz] at this
      have KI := Lib.hid fun V (g : Below wr.heap.size wr V) => by
        have := heldIntS_any (.slice a2 nN d2) nN z V w.heap.size hl2 (by omega) (by omega) (by have h9 := hi.below (g.mono hb.size) ; rw [hz] at h9; exact h9)
        rwa [hz2] at this
      have HZ := Lib.hid (show y + 1 + 1 + 4 * (nL : Int) + (nN : Int) = z2 by omega)
      have k1 : ¬ z < 0 := by omega
      have k2 : ¬ z2 < 0 := by omega
      obtain ⟨bb, hbb⟩ : ∃ bb : Bool, (y % 3 == 0) = bb := ⟨_, rfl⟩
      rw [hbb] at c0
      have hb2 : (bb != bb) = false := by simp
      have hE : ((mkT (y + 1)).toList != (mkT (y + 1)).toList) = false := by simp
      have KT := Lib.hid fun V => markText_def (y + 1) V (by omega) (by omega)
      generalize mkT (y + 1) = tt at *
      have HB := Lib.hid hb
      have c1' := cell_regrown c1
      have zs := hb.size
      have C2 := Lib.hid fun V (g : Below wr.heap.size wr V) => (g.cell (p := ⟨b, o + j * 4 + 2, none⟩) (by show b < _; omega)).trans c2
      have C3 := Lib.hid fun V (g : Below wr.heap.size wr V) => (g.cell (p := ⟨b, o + j * 4 + 3, none⟩) (by show b < _; omega)).trans c3
      clear hc hm hy hx hxs hs hi hmem htk hz hz2 hnL hnN c2 c3
      go_wp2_with fail
      refine wp_region_quiet_below (by kernel_rfl) (by kernel_rfl) ?_
      repeat (any_goals (first | go_big_quiet_step ((go_at_call 95; exact Calls.regrown_of (KT.out _))) | quiet_step ((go_at_call 95; exact Calls.regrown_of (KT.out _)))))
      refine wpQuiet_nil ?_
      intro W2 hw
      have nn := quiet_end hw
      have e2 := C2.out W2 nn
      have N2 := Lib.hid nn
      clear hw c1' nn c0 c1
      go_wp2_with fail
      refine (KL.out _ N2.out).mono ?_
      rintro e w3 ⟨rfl, hb3⟩
      have n3 := N2.out.trans (hb3.mono N2.out.size)
      have e3 := C3.out w3 n3
      have N3 := Lib.hid n3
      clear hb3 n3 e2
      go_wp2_with fail
      refine (KI.out _ N3.out).mono ?_
      rintro e w4 ⟨rfl, rfl⟩
      have HB4 := Lib.hid (HB.out.trans (N3.out.mono HB.out.size))
      clear e3
      go_wp2_with fail
      go_roundw
      case rel => exact ⟨j + 1, by omega, by go_num, by rw [HNX.out, HZ.out], HB4.out⟩
      case measure => simp [intOf]; omega
    · obtain rfl : j = S.length := by omega
      rw [List.take_length]
      go_wp2_with fail
      go_ret
      exact ⟨rfl, hb⟩
theorem heldTgB {S : List Tgt} {lo hi : Nat} {u : Value} {w : World} (hl : S.length ≤ 1048576) (hsz : tgSz S ≤ 1048576) (k : Int) (hk0 : 0 < k) (hk1 : k ≤ 1000000) (h : TgB (tgk k S) lo hi u w) :
    Calls Try.prog 50 #[u, .int .i64 k] w fun e w' => e = .returned (.int .i64 (tgkE k S)) ∧ Below w.heap.size w w' := heldTargetS_any u S k w hl hsz hk0 hk1 h.at
end Tgm
end Go.Proofs.Ytopplljilmjjgaa
