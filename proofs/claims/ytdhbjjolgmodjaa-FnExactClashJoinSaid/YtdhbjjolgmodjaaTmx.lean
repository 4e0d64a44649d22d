/- The contract of the law's toTermS with footprints, over this seat's translation: a row of its own, all of whose blocks are different. Nothing that was there before the call has changed. Condition: at most 1048576 terms, and spans of each. -/
import Derived.Test.YtdhbjjolgmodjaaGn
import Derived.Test.YtdhbjjolgmodjaaTmto
namespace Go.Proofs.Ytdhbjjolgmodjaa
open Go.RowKit Go.Sort

namespace Foot
theorem TBF.fill {w : World} {g n cap : Nat} {T : List Tm} {fs : List (List Nat)} {x : Int} {f : Bool} {L : Sps} {F : List Nat} {a : Option Addr} (h : TBF w g n T fs) (hn : T.length < n) (hs : SpF w (.slice a L.length cap) L F) (hg : ∀ b ∈ (fs ++ [F]).flatten, b ≠ g) :
    TBF (((w.setCell ⟨g, T.length * 3, none⟩ (.int .i64 x)).setCell ⟨g, T.length * 3 + 1, none⟩ (.slice a L.length cap)).setCell ⟨g, T.length * 3 + 2, none⟩ (.bool f)) g n (T ++ [(x, L, f)]) (fs ++ [F]) := by
  obtain ⟨C, h1, h2, h3, hf, hc⟩ := h
  obtain ⟨W3, hW⟩ : ∃ W, W = ((w.setCell ⟨g, T.length * 3, none⟩ (.int .i64 x)).setCell ⟨g, T.length * 3 + 1, none⟩ (.slice a L.length cap)).setCell ⟨g, T.length * 3 + 2, none⟩ (.bool f) := ⟨_, rfl⟩
  have hne : ∀ b, b ≠ g → W3.heap[b]? = w.heap[b]? := fun b hb => by
    rw [hW, Below.heap_setCell _ _ _ _ (show b ≠ g from hb), Below.heap_setCell _ _ _ _ (show b ≠ g from hb), Below.heap_setCell _ _ _ _ (show b ≠ g from hb)]
  have hlen : C.toList.length = n * 3 := h2
  refine ⟨((C.setIfInBounds (T.length * 3) (.int .i64 x)).setIfInBounds (T.length * 3 + 1) (.slice a L.length cap)).setIfInBounds (T.length * 3 + 2) (.bool f), ?_, by simpa using h2, by simp; omega, by simp [hf], fun i hi => ?_⟩
  · simp [World.setCell, Array.getElem?_modify, h1]
  rw [← hW, Array.toList_setIfInBounds, Array.toList_setIfInBounds, Array.toList_setIfInBounds]
  by_cases e : i < T.length
  · obtain ⟨k1, k4, a', c', k2, k3⟩ := hc i e
    rw [List.getElem_append_left e]
    refine ⟨?_, ?_, a', c', ?_, ?_⟩
    · rw [List.getElem?_set_ne (by omega), List.getElem?_set_ne (by omega), List.getElem?_set_ne (by omega)]; exact k1
    · rw [List.getElem?_set_ne (by omega), List.getElem?_set_ne (by omega), List.getElem?_set_ne (by omega)]; exact k4
    · rw [List.getElem?_set_ne (by omega), List.getElem?_set_ne (by omega), List.getElem?_set_ne (by omega)]; exact k2
    · rw [List.getD_eq_getElem?_getD, List.getElem?_append_left (by omega), ← List.getD_eq_getElem?_getD]
      exact k3.kept fun b hb => hne b (hg b (by rw [List.flatten_append, List.mem_append]; exact .inl (mem_flat hb)))
  · obtain rfl : i = T.length := by simp at hi; omega
    rw [List.getElem_append_right (Nat.le_refl _)]
    simp only [Nat.sub_self, List.getElem_cons_zero]
    refine ⟨?_, ?_, a, cap, ?_, ?_⟩
    · rw [List.getElem?_set_ne (by omega), List.getElem?_set_ne (by omega), List.getElem?_set_self (by omega)]
    · rw [List.getElem?_set_self (by simp; omega)]
    · rw [List.getElem?_set_ne (by omega), List.getElem?_set_self (by simp; omega)]
    · rw [List.getD_eq_getElem?_getD, List.getElem?_append_right (by omega), hf, Nat.sub_self]
      exact hs.kept fun b hb => hne b (hg b (by rw [List.flatten_append, List.mem_append]; exact .inr (by simpa using hb)))
theorem TBF.place {w : World} {g n k : Nat} {T : List Tm} {fs : List (List Nat)} (h : TBF w g n T fs) (hk : k < n) :
    (∃ p, w.cell? ⟨g, k * 3, none⟩ = some p) ∧ (∃ p, w.cell? ⟨g, k * 3 + 1, none⟩ = some p) ∧ (∃ p, w.cell? ⟨g, k * 3 + 2, none⟩ = some p) ∧ w.frozen? ⟨g, k * 3, none⟩ = false ∧ w.frozen? ⟨g, k * 3 + 1, none⟩ = false ∧ w.frozen? ⟨g, k * 3 + 2, none⟩ = false := by
  obtain ⟨C, h1, h2, _⟩ := h
  refine ⟨⟨C[k * 3], ?_⟩, ⟨C[k * 3 + 1], ?_⟩, ⟨C[k * 3 + 2], ?_⟩, ?_, ?_, ?_⟩
  · exact (cell_of_row w g _ C _ (0, 0) h1).trans (Array.getElem?_eq_getElem (by omega))
  · exact (cell_of_row w g _ C _ (0, 0) h1).trans (Array.getElem?_eq_getElem (by omega))
  · exact (cell_of_row w g _ C _ (0, 0) h1).trans (Array.getElem?_eq_getElem (by omega))
  all_goals (simp only [World.frozen?, h1]; rfl)
theorem TBF.below {w w' : World} {g n : Nat} {T : List Tm} {fs : List (List Nat)} (h : TBF w g n T fs) (hb : Below w.heap.size w w') : TBF w' g n T fs := by
  have hl := h.lt
  obtain ⟨C, h1, h2, h3, h4⟩ := h
  exact ⟨C, (hb.block g (Array.getElem?_eq_some_iff.1 h1).1).trans h1, h2, h3, h4.kept fun b k => hb.block b (hl b k)⟩
/-- What the loop keeps. -/
def TxRel (M : List Tm) (w : World) (i : Value) (wr : World) : Prop :=
  ∃ (k : Nat) (fs : List (List Nat)), k ≤ M.length ∧ i = .int .i64 (k : Int) ∧ TBF wr w.heap.size M.length (M.take k) fs ∧ fs.flatten.Nodup ∧ (∀ b ∈ fs.flatten, w.heap.size < b) ∧ w.heap.size < wr.heap.size ∧ Below w.heap.size w wr
theorem tx_push {M : List Tm} {w wr w2 : World} {k cap : Nat} {fs : List (List Nat)} {x : Int} {f : Bool} {L : Sps} {a : Option Addr} (hxy : M[k]? = some (x, L, f)) (h : TBF wr w.heap.size M.length (M.take k) fs) (hn : fs.flatten.Nodup) (hlo : ∀ b ∈ fs.flatten, w.heap.size < b) (hz : w.heap.size < wr.heap.size) (hb : Below w.heap.size w wr) (hb2 : Below wr.heap.size wr w2)
    (hr : SRes L wr.heap.size (.slice a L.length cap) w2) : TxRel M w (.int .i64 ((k : Int) + 1)) (((w2.setCell ⟨w.heap.size, k * 3, none⟩ (.int .i64 x)).setCell ⟨w.heap.size, k * 3 + 1, none⟩ (.slice a L.length cap)).setCell ⟨w.heap.size, k * 3 + 2, none⟩ (.bool f)) := by
  have hk : k < M.length := (List.getElem?_eq_some_iff.1 hxy).1
  have hl : (M.take k).length = k := by simp; omega
  obtain ⟨F, hF, hF0⟩ := SpF.of hr
  have hflt := h.lt
  have hmem : ∀ b ∈ (fs ++ [F]).flatten, b ∈ fs.flatten ∨ b ∈ F := fun b k => by
    rw [List.flatten_append, List.mem_append] at k
    simpa using k
  have hgt : ∀ b ∈ (fs ++ [F]).flatten, w.heap.size < b := fun b k => by
    rcases hmem b k with k | k
    · exact hlo b k
    · have := hF0 b k; omega
  have hfill := TBF.fill (x := x) (f := f) (h.below hb2) (by omega) hF (fun b k => by have := hgt b k; omega)
  rw [hl] at hfill
  refine ⟨k + 1, fs ++ [F], by omega, by go_num, ?_, ?_, hgt, ?_, ?_⟩
  · rw [List.take_add_one, hxy]
    exact hfill
  · rw [List.flatten_append, List.nodup_append]
    refine ⟨hn, by simpa using hF.nodup, fun b h1 c h2 => ?_⟩
    have := hflt b h1
    have := hF0 c (by simpa using h2)
    omega
  · have := hb2.size
    simp
    omega
  · have b2 := hb.trans (hb2.mono hb.size)
    exact ((b2.setCell (p := ⟨w.heap.size, k * 3, none⟩) (Nat.le_refl _) _).setCell (p := ⟨w.heap.size, k * 3 + 1, none⟩) (Nat.le_refl _) _).setCell (p := ⟨w.heap.size, k * 3 + 2, none⟩) (Nat.le_refl _) _
set_option maxHeartbeats 1000000 in
theorem toTermS_tb (v : Value) (M : List Tm) (w : World) (h : TmAt w w.heap.size v M) (hl : M.length ≤ 1048576) (hq : ∀ q ∈ M, q.2.1.length ≤ 1048576) : Calls Try.prog 12 #[v] w fun e w' => ∃ g, e = .returned (.slice (some ⟨g, 0, none⟩) M.length M.length) ∧ TmB M w.heap.size w'.heap.size (.slice (some ⟨g, 0, none⟩) M.length M.length) w' ∧ Below w.heap.size w w' := by
  obtain ⟨a, cap, rfl, h⟩ := h
  have hmk := make_terms M.length hl
  go_enter Try.func12, Try.ntmps12
  go_wp2
  clear hmk
  go_loopw [4] (fun i wr => TxRel M w i wr) (fun i _ => M.length - (intOf i).toNat)
  case atStart =>
    obtain ⟨C, h1, h2, _⟩ := made_terms M.length w
    exact ⟨0, [], Nat.zero_le _, rfl, by rw [List.take_zero]; exact ⟨C, h1, h2, Nat.zero_le _, TEl.nil _ _⟩, by simp, by simp, by simp, (Below.refl _ _).alloc (Nat.le_refl _) _⟩
  case round =>
    obtain ⟨k, fs, hk, rfl, hblk, hnd, hlo, hz, hb⟩ := hrel
    by_cases hlt : k < M.length
    · rcases h with h | ⟨b, o, rfl, hB, hc⟩
      · subst h
        exact absurd hlt (by simp)
      obtain ⟨x, L, f, hxy⟩ : ∃ x L f, M[k] = (x, L, f) := ⟨_, _, _, rfl⟩
      have c := (hc k hlt).below hb hB
      rw [hxy] at c
      obtain ⟨e0, a1, cap1, e1, hs, e2⟩ := c
      have hL : L.length ≤ 1048576 := by have := hq _ (List.getElem_mem hlt); rwa [hxy] at this
      simp only at e0 e1 hs e2
      have HXY := Lib.hid (show M[k]? = some (x, L, f) by rw [List.getElem?_eq_getElem hlt, hxy])
      have HBL := Lib.hid hblk
      have HND := Lib.hid hnd
      have HLO := Lib.hid hlo
      clear hxy hc hnd hlo
      go_wp2_with fail
      refine (toTerm_any x _ L f wr (hs.mono hb.size) hL).mono ?_
      rintro e w2 ⟨gg, rfl, sblk, hg2, hb2⟩
      have blk2 := hblk.below hb2
      have pl := blk2.place hlt
      obtain ⟨⟨q0, hq0⟩, ⟨q1, hq1⟩, ⟨q2, hq2⟩, g0, g1, g2⟩ := pl
      have hg := hb2.size
      have hz2 : w.heap.size < w2.heap.size := by omega
      have HP := Lib.hid (tx_push HXY.out HBL.out HND.out HLO.out hz hb hb2 (show SRes L wr.heap.size (.slice (some ⟨gg, 0, none⟩) L.length L.length) w2 from ⟨_, _, rfl, .inr ⟨gg, _, rfl, sblk, hg2⟩⟩))
      clear hblk blk2 hb hb2 e0 e1 e2 hs sblk
      go_wp2_with fail
      go_roundw
      case rel => exact HP.out
      case measure => simp [intOf]; omega
    · obtain rfl : k = M.length := by omega
      rw [List.take_length] at hblk
      go_wp2_with fail
      go_ret
      exact ⟨w.heap.size, rfl, ⟨w.heap.size :: fs.flatten, ⟨_, _, rfl, .inr ⟨_, _, _, rfl, hblk, rfl⟩⟩, List.nodup_cons.2 ⟨fun k => by have := hlo _ k; omega, hnd⟩, fun b k => by
        rcases List.mem_cons.1 k with rfl | k
        · exact ⟨Nat.le_refl _, hz⟩
        · exact ⟨Nat.le_of_lt (hlo b k), hblk.lt b k⟩⟩, hb⟩
end Foot
end Go.Proofs.Ytdhbjjolgmodjaa
