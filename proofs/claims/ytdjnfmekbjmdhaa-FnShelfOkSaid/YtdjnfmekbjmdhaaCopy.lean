/- Contracts of the functions that copy a range, over this seat's translation, the program's and the model's: a new row with the same spans, or none; nothing that was there before the call has changed. Condition: at most 1048576 spans. -/
import Derived.Test.YtdjnfmekbjmdhaaImone
import Derived.Test.YtdjnfmekbjmdhaaNown
import Derived.Deep.AppendLies
namespace Go.Proofs.Ytdjnfmekbjmdhaa
open Go.RowKit Go.Sort

namespace Copy
theorem flat_news {w : World} {B b o cap : Nat} {L : Sps} (h : SpAt w B (.slice (some ⟨b, o, none⟩) L.length cap) L) : ∀ j u, (flat L)[j]? = some u → w.cell? ((⟨b, o, none⟩ : Addr).add j) = some u := by
  intro j u hj
  have hlt : j < L.length * 2 := by have := (List.getElem?_eq_some_iff.1 hj).1; rwa [flat_len] at this
  obtain ⟨a, c, e, h⟩ := h
  simp only [Value.slice.injEq] at e
  obtain ⟨e1, _, _⟩ := e
  rcases h with rfl | ⟨b', o', e2, _, hc⟩
  · simp at hlt
  · rw [← e1] at e2
    simp only [Option.some.injEq, Addr.mk.injEq, and_true] at e2
    obtain ⟨rfl, rfl⟩ := e2
    have hadd : (⟨b, o, none⟩ : Addr).add j = ⟨b, o + j, none⟩ := by unfold Addr.add; split <;> simp_all
    rw [hadd]
    have hi : j / 2 < L.length := by omega
    obtain ⟨c0, c1⟩ := hc (j / 2) hi
    obtain ⟨f0, f1⟩ := flat_at L (j / 2) hi
    rcases Nat.mod_two_eq_zero_or_one j with hm | hm
    · have ej : j = j / 2 * 2 := by omega
      rw [ej] at hj
      rw [f0] at hj
      rw [ej, c0]
      exact hj
    · have ej : j = j / 2 * 2 + 1 := by omega
      rw [ej] at hj
      rw [f1] at hj
      rw [ej, ← Nat.add_assoc, c1]
      exact hj
theorem SpAt.stepTo {L : Sps} {u : Value} {w V : World} (h : SpAt w w.heap.size u L) (hb : Below w.heap.size w V) : SpAt V V.heap.size u L := (h.below hb).mono hb.size
theorem below_far {W V wy : World} {H : Nat} (hb : Below W.heap.size W V) (hg : V.grownBy wy (some H)) (hH : W.heap.size ≤ H) : Below W.heap.size W wy :=
  ⟨hg.os.trans hb.os, hg.tape.trans hb.tape, hg.output.trans hb.output, Nat.le_trans hb.size hg.size, fun k hk => (hg.block k (by have := hb.size; omega) (fun e => by injection e with e; omega)).trans (hb.block k hk)⟩
theorem flat_one : ∀ L : Sps, ∀ u ∈ flat L, u.oneCell' = true
  | [], u, h => by simp [flat] at h
  | (a, b) :: t, u, h => by
    simp only [flat, List.mem_cons] at h
    rcases h with rfl | rfl | h
    · rfl
    · rfl
    · exact flat_one t u h

set_option maxRecDepth 100000 in
set_option maxHeartbeats 2000000 in
theorem rangeCopy_any (v : Value) (L : Sps) (w : World) (h : SpAt w w.heap.size v L) (hl : L.length ≤ 1048576) : Calls Try.prog 119 #[.agg #[v]] w (RP L w) := by
  obtain ⟨a, cap, rfl, hx⟩ := id h
  obtain ⟨i0, hi, hz0, hz1, hz2⟩ := info_parts infoSpan
  have H := Lib.hid h
  clear h
  rcases L with _ | ⟨x0, L0⟩
  · clear hx hl
    rcases a with _ | ad
    all_goals
      go_enter Try.func119, Try.ntmps119
      go_wp2_with fail
      exact bodyPost_ret (v := .agg #[.slice none 0 0]) (by simp [results, Try.results119, go_sem]) rfl ⟨_, rfl, ⟨_, _, rfl, .inl rfl⟩, by go_grown⟩
  · have hlen : 0 < (x0 :: L0).length := by simp
    obtain ⟨b, o, rfl, hB⟩ : ∃ b o, a = some ⟨b, o, none⟩ ∧ b < w.heap.size := by
      rcases hx with hx | ⟨b, o, e, hB, _⟩
      · simp at hx
      · exact ⟨b, o, e, hB⟩
    clear hx
    obtain ⟨L, hLe⟩ : ∃ N : Sps, x0 :: L0 = N := ⟨_, rfl⟩
    rw [hLe] at H hlen hl ⊢
    clear hLe
    go_enter Try.func119, Try.ntmps119
    go_wp2_with (at_builtin; refine wpList_append_lies _ rfl _ _ 93 rfl (w.heap.size + 2) 128 i0 (.agg #[.int .i64 0, .int .i64 0]) 2 16 Try.underlying93 hi hz0 hz1 hz2 rfl (by decide) (.slice none 0 0) 0 [] rfl (World.ownsRow_nil _ _ _ _) ⟨b, o, none⟩ L.length cap (flat L) rfl (flat_len L) (flat_news (SpAt.stepTo H.out (by go_grown))) (flat_one L) hlen (by unfold maxLen; omega) (by omega) (by first | (simp; done) | (simp; omega)) _ rfl ?_)
    intro g cap1 w1 hown hgrow hat hlt
    have ho : Owns w1 (w.heap.size + 2) (.slice (some ⟨g, 0, none⟩) L.length cap1) L := by simpa using hown
    have hres := Lib.hid ho.res
    have hg2 := ((World.ownsRow.lt ho) g rfl).1
    have hc : ∀ k, w1.cell? ⟨w.heap.size + 1, k, none⟩ = _ := fun k => World.cell?_of_block (a := ⟨w.heap.size + 1, k, none⟩) (hgrow.block (w.heap.size + 1) (by simp) (by simp [Value.ownBlock]))
    have hf : ∀ k, w1.frozen? ⟨w.heap.size + 1, k, none⟩ = _ := fun k => World.frozen?_of_block (a := ⟨w.heap.size + 1, k, none⟩) (hgrow.block (w.heap.size + 1) (by simp) (by simp [Value.ownBlock]))
    have n1 : Below w.heap.size w w1 := Below.grown (w := _) (by go_grown) hgrow (by first | (simp; done) | (simp; omega)) (fun k e => by exact absurd e (by simp [Value.ownBlock]))
    clear hown ho hgrow hat H
    go_wp2_with fail
    exact bodyPost_ret (v := .agg #[.slice (some ⟨g, 0, none⟩) L.length cap1]) (by simp [results, Try.results119, go_sem, hc]) rfl ⟨_, rfl, (hres.out.kept fun k hk _ => Below.heap_setCell _ _ _ _ (by simp; omega)).mono (by omega), by go_grown⟩

set_option maxRecDepth 100000 in
set_option maxHeartbeats 2000000 in
theorem l3Range_any (v : Value) (L : Sps) (w : World) (h : SpAt w w.heap.size v L) (hl : L.length ≤ 1048576) : Calls Try.prog 101 #[.agg #[v]] w (RP L w) := by
  obtain ⟨a, cap, rfl, hx⟩ := id h
  obtain ⟨i0, hi, hz0, hz1, hz2⟩ := info_parts infoSpan
  have H := Lib.hid h
  clear h
  rcases L with _ | ⟨x0, L0⟩
  · clear hx hl
    rcases a with _ | ad
    all_goals
      go_enter Try.func101, Try.ntmps101
      go_wp2_with fail
      exact bodyPost_ret (v := .agg #[.slice (some ⟨w.heap.size + 2, 0, none⟩) 0 0]) (by simp [results, Try.results101, go_sem]) rfl ⟨_, rfl, ⟨_, _, rfl, .inl rfl⟩, by go_grown⟩
  · have hlen : 0 < (x0 :: L0).length := by simp
    obtain ⟨b, o, rfl, hB⟩ : ∃ b o, a = some ⟨b, o, none⟩ ∧ b < w.heap.size := by
      rcases hx with hx | ⟨b, o, e, hB, _⟩
      · simp at hx
      · exact ⟨b, o, e, hB⟩
    clear hx
    obtain ⟨L, hLe⟩ : ∃ N : Sps, x0 :: L0 = N := ⟨_, rfl⟩
    rw [hLe] at H hlen hl ⊢
    clear hLe
    go_enter Try.func101, Try.ntmps101
    go_wp2_with (at_builtin; refine wpList_append_lies _ rfl _ _ 93 rfl (w.heap.size + 2) 128 i0 (.agg #[.int .i64 0, .int .i64 0]) 2 16 Try.underlying93 hi hz0 hz1 hz2 rfl (by decide) (.slice (some ⟨w.heap.size + 2, 0, none⟩) 0 0) 0 [] rfl (show World.ownsRow _ (w.heap.size + 2) 128 2 (.slice (some ⟨w.heap.size + 2, 0, none⟩) 0 0) 0 [] from ⟨rfl, .inr ⟨w.heap.size + 2, 0, #[], rfl, Nat.le_refl _, by rw [show w.heap.size + 2 = ((w.alloc (.cells #[.slice (some ⟨b, o, none⟩) L.length cap] 95)).alloc (.cells #[.slice none 0 0] 95)).heap.size by simp]; exact heap_alloc_new _ _, Nat.le_refl _, by unfold maxLen; omega, rfl, rfl⟩⟩) ⟨b, o, none⟩ L.length cap (flat L) rfl (flat_len L) (flat_news (SpAt.stepTo H.out (by go_grown))) (flat_one L) hlen (by unfold maxLen; omega) (by omega) (by first | (simp; done) | (simp; omega)) _ rfl ?_)
    intro g cap1 w1 hown hgrow hat hlt
    have ho : Owns w1 (w.heap.size + 2) (.slice (some ⟨g, 0, none⟩) L.length cap1) L := by simpa using hown
    have hres := Lib.hid ho.res
    have hg2 := ((World.ownsRow.lt ho) g rfl).1
    have hc : ∀ k, w1.cell? ⟨w.heap.size + 1, k, none⟩ = _ := fun k => World.cell?_of_block (a := ⟨w.heap.size + 1, k, none⟩) (hgrow.block (w.heap.size + 1) (by simp) (by simp [Value.ownBlock]))
    have hf : ∀ k, w1.frozen? ⟨w.heap.size + 1, k, none⟩ = _ := fun k => World.frozen?_of_block (a := ⟨w.heap.size + 1, k, none⟩) (hgrow.block (w.heap.size + 1) (by simp) (by simp [Value.ownBlock]))
    have n1 : Below w.heap.size w w1 := Below.grown (w := _) (by go_grown) hgrow (by first | (simp; done) | (simp; omega)) (fun k e => by have e1 : some (w.heap.size + 2) = some k := e; injection e1 with e1; omega)
    clear hown ho hgrow hat H
    go_wp2_with fail
    exact bodyPost_ret (v := .agg #[.slice (some ⟨g, 0, none⟩) L.length cap1]) (by simp [results, Try.results101, go_sem, hc]) rfl ⟨_, rfl, (hres.out.kept fun k hk _ => Below.heap_setCell _ _ _ _ (by simp; omega)).mono (by omega), by go_grown⟩

end Copy
end Go.Proofs.Ytdjnfmekbjmdhaa
