/- Contracts of the functions that copy needs, over this seat's translation, the program's and the model's: a new row with the same needs, the spans of each in new memory; nothing that was there before the call has changed. Condition: at most 1048576 needs, and spans of each. -/
import Derived.Test.YtdjnfmekbjmdhaaCopy
import Derived.Test.YtdjnfmekbjmdhaaFoot
import Derived.Deep.RegionHeld3
namespace Go.Proofs.Ytdjnfmekbjmdhaa
open Go.RowKit Go.Sort

namespace Copy
open Foot
theorem need_new {w V : World} {x : Int} {u : Value} (hV : V.heap = (w.alloc (.cells #[.int .i64 x, u] 97)).heap) : ∀ j z, [Value.int .i64 x, u][j]? = some z → V.cell? ((⟨w.heap.size, 0, none⟩ : Addr).add j) = some z := by
  have hb : V.heap[w.heap.size]? = some (.cells #[.int .i64 x, u] 97 (0, 0)) := by rw [hV]; exact heap_alloc_new w _
  intro j z hz
  have hadd : (⟨w.heap.size, 0, none⟩ : Addr).add j = ⟨w.heap.size, j, none⟩ := by unfold Addr.add; split <;> simp_all
  rw [hadd, cell_of_row V _ j _ _ (0, 0) hb]
  match j, hz with
  | 0, hz => exact hz
  | 1, hz => exact hz
theorem need_one {x : Int} {a : Option Addr} {n cap : Nat} : ∀ u ∈ [Value.int .i64 x, .slice a n cap], u.oneCell' = true := by
  intro u hu
  simp at hu
  rcases hu with rfl | rfl <;> rfl


/-- What the loops that copy needs keep. -/
def NcRel (M : List Nd) (w : World) (v i : Value) (wr : World) : Prop :=
  ∃ (k : Nat) (fs : List (List Nat)), k ≤ M.length ∧ i = .int .i64 (k : Int) ∧ NGrow wr w.heap.size v (M.take k) fs ∧ Below w.heap.size w wr
def NcPost (M : List Nd) (w : World) (e : Ending) (w' : World) : Prop := ∃ v fs, e = .returned v ∧ NGrow w' w.heap.size v M fs ∧ Below w.heap.size w w'

theorem nc_next {M T : List Nd} {w w3 : World} {k : Nat} {x : Int} {L : Sps} {v : Value} {fs : List (List Nat)} (hT : M.take k = T) (hxy : M[k]? = some (x, L)) (h : NGrow w3 w.heap.size v (T ++ [(x, L)]) fs) (hb : Below w.heap.size w w3) :
    NcRel M w v (.int .i64 ((k : Int) + 1)) w3 := by
  have hk : k < M.length := (List.getElem?_eq_some_iff.1 hxy).1
  refine ⟨k + 1, fs, by omega, by go_num, ?_, hb⟩
  rw [List.take_add_one, hxy, hT]
  exact h

set_option maxRecDepth 100000 in
set_option maxHeartbeats 4000000 in
theorem needsCopy_any (v : Value) (M : List Nd) (w : World) (h : NdAt w w.heap.size v M) (hl : M.length ≤ 1048576) (hq : ∀ q ∈ M, q.2.length ≤ 1048576) : Calls Try.prog 97 #[v] w (NcPost M w) := by
  obtain ⟨a, cap, rfl, h⟩ := h
  obtain ⟨i0, hi, hz0, hz1, hz2⟩ := info_parts infoNeed
  have h0 := h
  clear h
  go_enter Try.func97, Try.ntmps97
  go_wp2_with fail
  go_loopw [3, 8] (fun v i wr => NcRel M w v i wr) (fun _ i _ => M.length - (intOf i).toNat)
  case atStart => exact ⟨0, [], Nat.zero_le _, rfl, by rw [List.take_zero]; exact NGrow.nil _ _, Below.refl _ _⟩
  case round =>
    obtain ⟨k, fs, hk, rfl, hown, hb⟩ := hrel
    obtain ⟨T, hT⟩ : ∃ T, M.take k = T := ⟨_, rfl⟩
    have hTl := Lib.hid (show T.length = k by rw [← hT]; simp; omega)
    have hTm : T.length ≤ M.length := by rw [hTl.out]; exact hk
    rw [hT] at hown
    obtain ⟨va, vc, hv, hx⟩ := id hown.own.at
    subst hv
    clear hx
    have S1 := Lib.hid hown
    clear hown
    by_cases hlt : k < M.length
    · rcases h0 with h0 | ⟨b, o, rfl, hB, hc⟩
      · subst h0
        exact absurd hlt (by simp)
      obtain ⟨x, L, hxy⟩ : ∃ x L, M[k] = (x, L) := ⟨_, _, rfl⟩
      have c := (hc k hlt).below hb hB
      rw [hxy] at c
      obtain ⟨e0, a1, cap1, e1, hs⟩ := c
      have hL : L.length ≤ 1048576 := by have := hq _ (List.getElem_mem hlt); rwa [hxy] at this
      simp only at e0 e1 hs
      have HXY := Lib.hid (show M[k]? = some (x, L) by rw [List.getElem?_eq_getElem hlt, hxy])
      have HT := Lib.hid hT
      have zb := hb.size
      have HS := Lib.hid (hs.mono zb)
      have hB2 : b < wr.heap.size := by omega
      have hbne : b ≠ wr.heap.size := by omega
      clear hxy hc hs hT
      go_wp2_with fail
      go_region_held3 (fun V => V.cell? ⟨wr.heap.size, 0, none⟩ = some (.int .i64 x) ∧ V.cell? ⟨wr.heap.size, 1, none⟩ = some (.slice a1 L.length cap1)) (go_keep)
        (first
        | (go_at_call 119; refine (rangeCopy_any _ L _ (SpAt.stepTo HS.out (by go_grown)) hL).mono ?_; rintro e w2 ⟨u2, rfl, sr2, hb2⟩; obtain ⟨na, ncap, rfl, _⟩ := id sr2; have n2 : Below wr.heap.size wr w2 := Below.step (by go_grown) hb2; have y0 : w2.cell? ⟨wr.heap.size, 0, none⟩ = some (.int .i64 x) := (hb2.cell (p := ⟨wr.heap.size, 0, none⟩) (by simp)).trans (by go_simp); have y1 : w2.cell? ⟨wr.heap.size, 1, none⟩ = some (.slice a1 L.length cap1) := (hb2.cell (p := ⟨wr.heap.size, 1, none⟩) (by simp)).trans (by go_simp); have z2 := n2.size; have z3 := hb2.size; (try simp at z3); have nw2 : Below w.heap.size w w2 := hb.trans (n2.mono hb.size); obtain ⟨cs, hown2, he2, hnd2, _⟩ := S1.out.below n2; obtain ⟨_, _, _, _, hin1⟩ := id S1.out; have hlt2 := World.ownsRow.lt hown2; have hlt1 := S1.out.own.lt; obtain ⟨F, hsF, hF0⟩ := SpF.of sr2; have hF := Lib.hid (show ∀ b ∈ F, wr.heap.size ≤ b from fun b k => by have := hF0 b k; first | (simp at this; omega) | omega); have HE := Lib.hid he2; have HD := Lib.hid hnd2; have HI := Lib.hid hin1; have HX := Lib.hid hsF; clear he2 hnd2 hin1 hsF hF0 sr2 hb2)
        | ((try rw [if_pos (by first | rfl | kernel_rfl | simp [Region.wanted])]); refine wp_append_lies _ _ _ 39 (by rfl) w.heap.size 97 i0 (.agg #[.int .i64 0, .slice none 0 0]) 2 32 Try.underlying39 hi hz0 hz1 hz2 rfl (by decide) _ _ cs (by rfl) (hown2.alloc (.cells #[.int .i64 x, .slice na L.length ncap] 97)) ⟨w2.heap.size, 0, none⟩ 1 1 [.int .i64 x, .slice na L.length ncap] (by rfl) rfl (need_new rfl) need_one (by omega) (by unfold maxLen; omega) (by omega) (by first | (simp; done) | (simp; omega)) _ rfl ?_; intro g cap3 w3 hown3 hgrow3 hat3 hlt3; have HP := Lib.hid (NGrow.push (Z := wr.heap.size) (W := w2.alloc (.cells #[.int .i64 x, .slice na L.length ncap] 97)) ((Below.refl _ _).alloc (Nat.le_refl _) _) HE.out hown2.1 HD.out HI.out (fun k e => (hlt1 k e).2) HX.out hF.out z2 zb hown3 hgrow3 (by simpa using hat3)); have n3 : Below w.heap.size w w3 := Below.grown (by go_grown) hgrow3 (by first | (simp; done) | (simp; omega)) (fun k e => (hlt2 k e).1); have v0 : w3.cell? ⟨wr.heap.size, 0, none⟩ = some (.int .i64 x) := (World.cell?_of_block (a := ⟨wr.heap.size, 0, none⟩) (hgrow3.block (wr.heap.size) (by first | (simp; omega) | omega) (fun e => by have := hlt1 _ e.symm; omega))).trans (by go_simp); have v1 : w3.cell? ⟨wr.heap.size, 1, none⟩ = some (.slice a1 L.length cap1) := (World.cell?_of_block (a := ⟨wr.heap.size, 1, none⟩) (hgrow3.block (wr.heap.size) (by first | (simp; omega) | omega) (fun e => by have := hlt1 _ e.symm; omega))).trans (by go_simp)))
      all_goals
        go_wp2_with fail
        go_roundw
        case rel => first | exact nc_next HT.out HXY.out HP.out n3 | (rw [hTl.out] at HP; exact nc_next HT.out HXY.out HP.out n3)
        case measure => simp [intOf]; omega
    · obtain rfl : k = M.length := by omega
      have hT' : T = M := by rw [← hT, List.take_length]
      subst hT'
      go_wp2_with fail
      go_ret
      exact ⟨_, _, rfl, S1.out, hb⟩

set_option maxRecDepth 100000 in
set_option maxHeartbeats 4000000 in
theorem l3Needs_any (v : Value) (M : List Nd) (w : World) (h : NdAt w w.heap.size v M) (hl : M.length ≤ 1048576) (hq : ∀ q ∈ M, q.2.length ≤ 1048576) : Calls Try.prog 72 #[v] w (NcPost M w) := by
  obtain ⟨a, cap, rfl, h⟩ := h
  obtain ⟨i0, hi, hz0, hz1, hz2⟩ := info_parts infoNeed
  have h0 := h
  clear h
  go_enter Try.func72, Try.ntmps72
  go_wp2_with fail
  go_loopw [3, 4] (fun v i wr => NcRel M w v i wr) (fun _ i _ => M.length - (intOf i).toNat)
  case atStart => exact ⟨0, [], Nat.zero_le _, rfl, by rw [List.take_zero]; exact NGrow.made rfl (Nat.le_refl _), (Below.refl _ _).alloc (Nat.le_refl _) _⟩
  case round =>
    obtain ⟨k, fs, hk, rfl, hown, hb⟩ := hrel
    obtain ⟨T, hT⟩ : ∃ T, M.take k = T := ⟨_, rfl⟩
    have hTl := Lib.hid (show T.length = k by rw [← hT]; simp; omega)
    have hTm : T.length ≤ M.length := by rw [hTl.out]; exact hk
    rw [hT] at hown
    obtain ⟨va, vc, hv, hx⟩ := id hown.own.at
    subst hv
    clear hx
    have S1 := Lib.hid hown
    clear hown
    by_cases hlt : k < M.length
    · rcases h0 with h0 | ⟨b, o, rfl, hB, hc⟩
      · subst h0
        exact absurd hlt (by simp)
      obtain ⟨x, L, hxy⟩ : ∃ x L, M[k] = (x, L) := ⟨_, _, rfl⟩
      have c := (hc k hlt).below hb hB
      rw [hxy] at c
      obtain ⟨e0, a1, cap1, e1, hs⟩ := c
      have hL : L.length ≤ 1048576 := by have := hq _ (List.getElem_mem hlt); rwa [hxy] at this
      simp only at e0 e1 hs
      have HXY := Lib.hid (show M[k]? = some (x, L) by rw [List.getElem?_eq_getElem hlt, hxy])
      have HT := Lib.hid hT
      have zb := hb.size
      have HS := Lib.hid (hs.mono zb)
      have hB2 : b < wr.heap.size := by omega
      have hbne : b ≠ wr.heap.size := by omega
      clear hxy hc hs hT
      go_wp2_with fail
      go_region_held3 (fun V => V.cell? ⟨b, o + k * 2, none⟩ = some (.int .i64 x) ∧ V.cell? ⟨b, o + k * 2 + 1, none⟩ = some (.slice a1 L.length cap1)) (go_keep)
        (first
        | (go_at_call 101; refine (l3Range_any _ L _ (SpAt.stepTo HS.out (by go_grown)) hL).mono ?_; rintro e w2 ⟨u2, rfl, sr2, hb2⟩; obtain ⟨na, ncap, rfl, _⟩ := id sr2; have n2 : Below wr.heap.size wr w2 := Below.step (by go_grown) hb2; have y0 : w2.cell? ⟨b, o + k * 2, none⟩ = some (.int .i64 x) := (n2.cell (p := ⟨b, o + k * 2, none⟩) hB2).trans e0; have y1 : w2.cell? ⟨b, o + k * 2 + 1, none⟩ = some (.slice a1 L.length cap1) := (n2.cell (p := ⟨b, o + k * 2 + 1, none⟩) hB2).trans e1; have z2 := n2.size; have z3 := hb2.size; (try simp at z3); have nw2 : Below w.heap.size w w2 := hb.trans (n2.mono hb.size); obtain ⟨cs, hown2, he2, hnd2, _⟩ := S1.out.below n2; obtain ⟨_, _, _, _, hin1⟩ := id S1.out; have hlt2 := World.ownsRow.lt hown2; have hlt1 := S1.out.own.lt; obtain ⟨F, hsF, hF0⟩ := SpF.of sr2; have hF := Lib.hid (show ∀ b ∈ F, wr.heap.size ≤ b from fun b k => by have := hF0 b k; first | (simp at this; omega) | omega); have HE := Lib.hid he2; have HD := Lib.hid hnd2; have HI := Lib.hid hin1; have HX := Lib.hid hsF; clear he2 hnd2 hin1 hsF hF0 sr2 hb2)
        | ((try rw [if_pos (by first | rfl | kernel_rfl | simp [Region.wanted])]); refine wp_append_lies _ _ _ 39 (by rfl) w.heap.size 97 i0 (.agg #[.int .i64 0, .slice none 0 0]) 2 32 Try.underlying39 hi hz0 hz1 hz2 rfl (by decide) _ _ cs (by rfl) (hown2.alloc (.cells #[.int .i64 x, .slice na L.length ncap] 97)) ⟨w2.heap.size, 0, none⟩ 1 1 [.int .i64 x, .slice na L.length ncap] (by rfl) rfl (need_new rfl) need_one (by omega) (by unfold maxLen; omega) (by omega) (by first | (simp; done) | (simp; omega)) _ rfl ?_; intro g cap3 w3 hown3 hgrow3 hat3 hlt3; have HP := Lib.hid (NGrow.push (Z := wr.heap.size) (W := w2.alloc (.cells #[.int .i64 x, .slice na L.length ncap] 97)) ((Below.refl _ _).alloc (Nat.le_refl _) _) HE.out hown2.1 HD.out HI.out (fun k e => (hlt1 k e).2) HX.out hF.out z2 zb hown3 hgrow3 (by simpa using hat3)); have n3 : Below w.heap.size w w3 := Below.grown (by go_grown) hgrow3 (by first | (simp; done) | (simp; omega)) (fun k e => (hlt2 k e).1); have v0 : w3.cell? ⟨b, o + k * 2, none⟩ = some (.int .i64 x) := (World.cell?_of_block (a := ⟨b, o + k * 2, none⟩) (hgrow3.block (b) (by first | (simp; omega) | omega) (fun e => by have := hlt1 _ e.symm; omega))).trans (by go_simp); have v1 : w3.cell? ⟨b, o + k * 2 + 1, none⟩ = some (.slice a1 L.length cap1) := (World.cell?_of_block (a := ⟨b, o + k * 2 + 1, none⟩) (hgrow3.block (b) (by first | (simp; omega) | omega) (fun e => by have := hlt1 _ e.symm; omega))).trans (by go_simp)))
      all_goals
        go_wp2_with fail
        go_roundw
        case rel => first | exact nc_next HT.out HXY.out HP.out n3 | (rw [hTl.out] at HP; exact nc_next HT.out HXY.out HP.out n3)
        case measure => simp [intOf]; omega
    · obtain rfl : k = M.length := by omega
      have hT' : T = M := by rw [← hT, List.take_length]
      subst hT'
      go_wp2_with fail
      go_ret
      exact ⟨_, _, rfl, S1.out, hb⟩

end Copy
end Go.Proofs.Ytdjnfmekbjmdhaa
