/- Groundwork over this seat's translation: Copy, Ncopy, Rcopy, Rgone, Rbef in one text; the conditions stand at each part. -/
import Derived.Test.YtgnjhmmedogcoaaImone
import Derived.Test.YtgnjhmmedogcoaaGf
import Derived.Deep.AppendLies
import Derived.Deep.RegionHeld3
import Derived.Test.YtgnjhmmedogcoaaGd

/- Contracts of the functions that copy a range, over this seat's translation, the program's and the model's: a new row with the same spans, or none; nothing that was there before the call has changed. Condition: at most 1048576 spans. -/
namespace Go.Proofs.Ytgnjhmmedogcoaa
open Go.RowKit Go.Sort

namespace Copy
theorem flat_news {w : World} {B b o cap : Nat} {L : Sps} (h : SpAt w B (.slice (some ⟨b, o, none⟩) L.length cap) L) : ∀ j u, (flat L)[j]? = some u → w.cell? ((⟨b, o, none⟩ : Addr).add j) = some u := by
  intro j u hj
  have hlt : j < L.length * 2 := by have := (List.getElem?_eq_some_iff.1 hj).1; rwa [flat_len] at this
  obtain ⟨a, c, e, h⟩ := h
  simp only [Value.slice.injEq] at e
  obtain ⟨e1, _, _⟩ := e
  rcases h with rfl | ⟨b', o', e2, _, hc⟩
  · simp at hlt
  · rw [← e1] at e2
    simp only [Option.some.injEq, Addr.mk.injEq, and_true] at e2
    obtain ⟨rfl, rfl⟩ := e2
    have hadd : (⟨b, o, none⟩ : Addr).add j = ⟨b, o + j, none⟩ := by unfold Addr.add; split <;> simp_all
    rw [hadd]
    have hi : j / 2 < L.length := by omega
    obtain ⟨c0, c1⟩ := hc (j / 2) hi
    obtain ⟨f0, f1⟩ := flat_at L (j / 2) hi
    rcases Nat.mod_two_eq_zero_or_one j with hm | hm
    · have ej : j = j / 2 * 2 := by omega
      rw [ej] at hj
      rw [f0] at hj
      rw [ej, c0]
      exact hj
    · have ej : j = j / 2 * 2 + 1 := by omega
      rw [ej] at hj
      rw [f1] at hj
      rw [ej, ← Nat.add_assoc, c1]
      exact hj
theorem SpAt.stepTo {L : Sps} {u : Value} {w V : World} (h : SpAt w w.heap.size u L) (hb : Below w.heap.size w V) : SpAt V V.heap.size u L := (h.below hb).mono hb.size
theorem below_far {W V wy : World} {H : Nat} (hb : Below W.heap.size W V) (hg : V.grownBy wy (some H)) (hH : W.heap.size ≤ H) : Below W.heap.size W wy :=
  ⟨hg.os.trans hb.os, hg.tape.trans hb.tape, hg.output.trans hb.output, Nat.le_trans hb.size hg.size, fun k hk => (hg.block k (by have := hb.size; omega) (fun e => by injection e with e; omega)).trans (hb.block k hk)⟩
theorem flat_one : ∀ L : Sps, ∀ u ∈ flat L, u.oneCell' = true
  | [], u, h => by simp [flat] at h
  | (a, b) :: t, u, h => by
    simp only [flat, List.mem_cons] at h
    rcases h with rfl | rfl | h
    · rfl
    · rfl
    · exact flat_one t u h


set_option maxRecDepth 100000 in
set_option maxHeartbeats 2000000 in
theorem l3Range_any (v : Value) (L : Sps) (w : World) (h : SpAt w w.heap.size v L) (hl : L.length ≤ 1048576) : Calls Try.prog 88 #[.agg #[v]] w (RP L w) := by
  obtain ⟨a, cap, rfl, hx⟩ := id h
  obtain ⟨i0, hi, hz0, hz1, hz2⟩ := info_parts infoSpan
  have H := Lib.hid h
  clear h
  rcases L with _ | ⟨x0, L0⟩
  · clear hx hl
    rcases a with _ | ad
    all_goals
      go_enter Try.func88, Try.ntmps88
      go_wp2_with fail
      exact bodyPost_ret (v := .agg #[.slice (some ⟨w.heap.size + 2, 0, none⟩) 0 0]) (by simp [results, Try.results88, go_sem]) rfl ⟨_, rfl, ⟨_, _, rfl, .inl rfl⟩, by go_grown⟩
  · have hlen : 0 < (x0 :: L0).length := by simp
    obtain ⟨b, o, rfl, hB⟩ : ∃ b o, a = some ⟨b, o, none⟩ ∧ b < w.heap.size := by
      rcases hx with hx | ⟨b, o, e, hB, _⟩
      · simp at hx
      · exact ⟨b, o, e, hB⟩
    clear hx
    obtain ⟨L, hLe⟩ : ∃ N : Sps, x0 :: L0 = N := ⟨_, rfl⟩
    rw [hLe] at H hlen hl ⊢
    clear hLe
    go_enter Try.func88, Try.ntmps88
    go_wp2_with (at_builtin; refine wpList_append_lies _ rfl _ _ 55 rfl (w.heap.size + 2) 73 i0 (.agg #[.int .i64 0, .int .i64 0]) 2 16 Try.underlying55 hi hz0 hz1 hz2 rfl (by decide) (.slice (some ⟨w.heap.size + 2, 0, none⟩) 0 0) 0 [] rfl (show World.ownsRow _ (w.heap.size + 2) 73 2 (.slice (some ⟨w.heap.size + 2, 0, none⟩) 0 0) 0 [] from ⟨rfl, .inr ⟨w.heap.size + 2, 0, #[], rfl, Nat.le_refl _, by rw [show w.heap.size + 2 = ((w.alloc (.cells #[.slice (some ⟨b, o, none⟩) L.length cap] 57)).alloc (.cells #[.slice none 0 0] 57)).heap.size by simp]; exact heap_alloc_new _ _, Nat.le_refl _, by unfold maxLen; omega, rfl, rfl⟩⟩) ⟨b, o, none⟩ L.length cap (flat L) rfl (flat_len L) (flat_news (SpAt.stepTo H.out (by go_grown))) (flat_one L) hlen (by unfold maxLen; omega) (by omega) (by first | (simp; done) | (simp; omega)) _ rfl ?_)
    intro g cap1 w1 hown hgrow hat hlt
    have ho : Owns w1 (w.heap.size + 2) (.slice (some ⟨g, 0, none⟩) L.length cap1) L := by simpa using hown
    have hres := Lib.hid ho.res
    have hg2 := ((World.ownsRow.lt ho) g rfl).1
    have hc : ∀ k, w1.cell? ⟨w.heap.size + 1, k, none⟩ = _ := fun k => World.cell?_of_block (a := ⟨w.heap.size + 1, k, none⟩) (hgrow.block (w.heap.size + 1) (by simp) (by simp [Value.ownBlock]))
    have hf : ∀ k, w1.frozen? ⟨w.heap.size + 1, k, none⟩ = _ := fun k => World.frozen?_of_block (a := ⟨w.heap.size + 1, k, none⟩) (hgrow.block (w.heap.size + 1) (by simp) (by simp [Value.ownBlock]))
    have n1 : Below w.heap.size w w1 := Below.grown (w := _) (by go_grown) hgrow (by first | (simp; done) | (simp; omega)) (fun k e => by have e1 : some (w.heap.size + 2) = some k := e; injection e1 with e1; omega)
    clear hown ho hgrow hat H
    go_wp2_with fail
    exact bodyPost_ret (v := .agg #[.slice (some ⟨g, 0, none⟩) L.length cap1]) (by simp [results, Try.results88, go_sem, hc]) rfl ⟨_, rfl, (hres.out.kept fun k hk _ => Below.heap_setCell _ _ _ _ (by simp; omega)).mono (by omega), by go_grown⟩

end Copy
end Go.Proofs.Ytgnjhmmedogcoaa

/- Contracts of the functions that copy needs, over this seat's translation, the program's and the model's: a new row with the same needs, the spans of each in new memory; nothing that was there before the call has changed. Condition: at most 1048576 needs, and spans of each. -/
namespace Go.Proofs.Ytgnjhmmedogcoaa
open Go.RowKit Go.Sort

namespace Copy
open Foot
theorem need_new {w V : World} {x : Int} {u : Value} (hV : V.heap = (w.alloc (.cells #[.int .i64 x, u] 59)).heap) : ∀ j z, [Value.int .i64 x, u][j]? = some z → V.cell? ((⟨w.heap.size, 0, none⟩ : Addr).add j) = some z := by
  have hb : V.heap[w.heap.size]? = some (.cells #[.int .i64 x, u] 59 (0, 0)) := by rw [hV]; exact heap_alloc_new w _
  intro j z hz
  have hadd : (⟨w.heap.size, 0, none⟩ : Addr).add j = ⟨w.heap.size, j, none⟩ := by unfold Addr.add; split <;> simp_all
  rw [hadd, cell_of_row V _ j _ _ (0, 0) hb]
  match j, hz with
  | 0, hz => exact hz
  | 1, hz => exact hz
theorem need_one {x : Int} {a : Option Addr} {n cap : Nat} : ∀ u ∈ [Value.int .i64 x, .slice a n cap], u.oneCell' = true := by
  intro u hu
  simp at hu
  rcases hu with rfl | rfl <;> rfl


/-- What the loops that copy needs keep. -/
def NcRel (M : List Nd) (w : World) (v i : Value) (wr : World) : Prop :=
  ∃ (k : Nat) (fs : List (List Nat)), k ≤ M.length ∧ i = .int .i64 (k : Int) ∧ NGrow wr w.heap.size v (M.take k) fs ∧ Below w.heap.size w wr
def NcPost (M : List Nd) (w : World) (e : Ending) (w' : World) : Prop := ∃ v fs, e = .returned v ∧ NGrow w' w.heap.size v M fs ∧ Below w.heap.size w w'

theorem nc_next {M T : List Nd} {w w3 : World} {k : Nat} {x : Int} {L : Sps} {v : Value} {fs : List (List Nat)} (hT : M.take k = T) (hxy : M[k]? = some (x, L)) (h : NGrow w3 w.heap.size v (T ++ [(x, L)]) fs) (hb : Below w.heap.size w w3) :
    NcRel M w v (.int .i64 ((k : Int) + 1)) w3 := by
  have hk : k < M.length := (List.getElem?_eq_some_iff.1 hxy).1
  refine ⟨k + 1, fs, by omega, by go_num, ?_, hb⟩
  rw [List.take_add_one, hxy, hT]
  exact h


set_option maxRecDepth 100000 in
set_option maxHeartbeats 4000000 in
theorem l3Needs_any (v : Value) (M : List Nd) (w : World) (h : NdAt w w.heap.size v M) (hl : M.length ≤ 1048576) (hq : ∀ q ∈ M, q.2.length ≤ 1048576) : Calls Try.prog 54 #[v] w (NcPost M w) := by
  obtain ⟨a, cap, rfl, h⟩ := h
  obtain ⟨i0, hi, hz0, hz1, hz2⟩ := info_parts infoNeed
  have h0 := h
  clear h
  go_enter Try.func54, Try.ntmps54
  go_wp2_with fail
  go_loopw [3, 4] (fun v i wr => NcRel M w v i wr) (fun _ i _ => M.length - (intOf i).toNat)
  case atStart => exact ⟨0, [], Nat.zero_le _, rfl, by rw [List.take_zero]; exact NGrow.made rfl (Nat.le_refl _), (Below.refl _ _).alloc (Nat.le_refl _) _⟩
  case round =>
    obtain ⟨k, fs, hk, rfl, hown, hb⟩ := hrel
    obtain ⟨T, hT⟩ : ∃ T, M.take k = T := ⟨_, rfl⟩
    have hTl := Lib.hid (show T.length = k by rw [← hT]; simp; omega)
    have hTm : T.length ≤ M.length := by rw [hTl.out]; exact hk
    rw [hT] at hown
    obtain ⟨va, vc, hv, hx⟩ := id hown.own.at
    subst hv
    clear hx
    have S1 := Lib.hid hown
    clear hown
    by_cases hlt : k < M.length
    · rcases h0 with h0 | ⟨b, o, rfl, hB, hc⟩
      · subst h0
        exact absurd hlt (by simp)
      obtain ⟨x, L, hxy⟩ : ∃ x L, M[k] = (x, L) := ⟨_, _, rfl⟩
      have c := (hc k hlt).below hb hB
      rw [hxy] at c
      obtain ⟨e0, a1, cap1, e1, hs⟩ := c
      have hL : L.length ≤ 1048576 := by have := hq _ (List.getElem_mem hlt); rwa [hxy] at this
      simp only at e0 e1 hs
      have HXY := Lib.hid (show M[k]? = some (x, L) by rw [List.getElem?_eq_getElem hlt, hxy])
      have HT := Lib.hid hT
      have zb := hb.size
      have HS := Lib.hid (hs.mono zb)
      have hB2 : b < wr.heap.size := by omega
      have hbne : b ≠ wr.heap.size := by omega
      clear hxy hc hs hT
      go_wp2_with fail
      go_region_held3 (fun V => V.cell? ⟨b, o + k * 2, none⟩ = some (.int .i64 x) ∧ V.cell? ⟨b, o + k * 2 + 1, none⟩ = some (.slice a1 L.length cap1)) (go_keep)
        (first
        | (go_at_call 88; refine (l3Range_any _ L _ (SpAt.stepTo HS.out (by go_grown)) hL).mono ?_; rintro e w2 ⟨u2, rfl, sr2, hb2⟩; obtain ⟨na, ncap, rfl, _⟩ := id sr2; have n2 : Below wr.heap.size wr w2 := Below.step (by go_grown) hb2; have y0 : w2.cell? ⟨b, o + k * 2, none⟩ = some (.int .i64 x) := (n2.cell (p := ⟨b, o + k * 2, none⟩) hB2).trans e0; have y1 : w2.cell? ⟨b, o + k * 2 + 1, none⟩ = some (.slice a1 L.length cap1) := (n2.cell (p := ⟨b, o + k * 2 + 1, none⟩) hB2).trans e1; have z2 := n2.size; have z3 := hb2.size; (try simp at z3); have nw2 : Below w.heap.size w w2 := hb.trans (n2.mono hb.size); obtain ⟨cs, hown2, he2, hnd2, _⟩ := S1.out.below n2; obtain ⟨_, _, _, _, hin1⟩ := id S1.out; have hlt2 := World.ownsRow.lt hown2; have hlt1 := S1.out.own.lt; obtain ⟨F, hsF, hF0⟩ := SpF.of sr2; have hF := Lib.hid (show ∀ b ∈ F, wr.heap.size ≤ b from fun b k => by have := hF0 b k; first | (simp at this; omega) | omega); have HE := Lib.hid he2; have HD := Lib.hid hnd2; have HI := Lib.hid hin1; have HX := Lib.hid hsF; clear he2 hnd2 hin1 hsF hF0 sr2 hb2)
        | ((try rw [if_pos (by first | rfl | kernel_rfl | simp [Region.wanted])]); refine wp_append_lies _ _ _ 31 (by rfl) w.heap.size 59 i0 (.agg #[.int .i64 0, .slice none 0 0]) 2 32 Try.underlying31 hi hz0 hz1 hz2 rfl (by decide) _ _ cs (by rfl) (hown2.alloc (.cells #[.int .i64 x, .slice na L.length ncap] 59)) ⟨w2.heap.size, 0, none⟩ 1 1 [.int .i64 x, .slice na L.length ncap] (by rfl) rfl (need_new rfl) need_one (by omega) (by unfold maxLen; omega) (by omega) (by first | (simp; done) | (simp; omega)) _ rfl ?_; intro g cap3 w3 hown3 hgrow3 hat3 hlt3; have HP := Lib.hid (NGrow.push (Z := wr.heap.size) (W := w2.alloc (.cells #[.int .i64 x, .slice na L.length ncap] 59)) ((Below.refl _ _).alloc (Nat.le_refl _) _) HE.out hown2.1 HD.out HI.out (fun k e => (hlt1 k e).2) HX.out hF.out z2 zb hown3 hgrow3 (by simpa using hat3)); have n3 : Below w.heap.size w w3 := Below.grown (by go_grown) hgrow3 (by first | (simp; done) | (simp; omega)) (fun k e => (hlt2 k e).1); have v0 : w3.cell? ⟨b, o + k * 2, none⟩ = some (.int .i64 x) := (World.cell?_of_block (a := ⟨b, o + k * 2, none⟩) (hgrow3.block (b) (by first | (simp; omega) | omega) (fun e => by have := hlt1 _ e.symm; omega))).trans (by go_simp); have v1 : w3.cell? ⟨b, o + k * 2 + 1, none⟩ = some (.slice a1 L.length cap1) := (World.cell?_of_block (a := ⟨b, o + k * 2 + 1, none⟩) (hgrow3.block (b) (by first | (simp; omega) | omega) (fun e => by have := hlt1 _ e.symm; omega))).trans (by go_simp)))
      all_goals
        go_wp2_with fail
        go_roundw
        case rel => first | exact nc_next HT.out HXY.out HP.out n3 | (rw [hTl.out] at HP; exact nc_next HT.out HXY.out HP.out n3)
        case measure => simp [intOf]; omega
    · obtain rfl : k = M.length := by omega
      have hT' : T = M := by rw [← hT, List.take_length]
      subst hT'
      go_wp2_with fail
      go_ret
      exact ⟨_, _, rfl, S1.out, hb⟩

end Copy
end Go.Proofs.Ytgnjhmmedogcoaa

/- Contracts of the functions that copy releases, over this seat's translation, the program's and the model's: a new row with the same releases, all that it stands on new and different; nothing that was there before the call has changed. Condition: at most 1048576 releases, needs of each, and spans of those. -/
namespace Go.Proofs.Ytgnjhmmedogcoaa
open Go.RowKit Go.Sort

namespace Copy
open Foot
theorem bcells {V w : World} (hb : Below V.heap.size V w) : (∀ b o, b < V.heap.size → w.cell? ⟨b, o, none⟩ = V.cell? ⟨b, o, none⟩) ∧ (∀ b o, b < V.heap.size → w.frozen? ⟨b, o, none⟩ = V.frozen? ⟨b, o, none⟩) :=
  ⟨fun b o h => hb.cell (p := ⟨b, o, none⟩) h, fun b o h => hb.frozen (p := ⟨b, o, none⟩) h⟩
theorem rel_new {w V : World} {n a b c d : Int} {f : Bool} {u : Value} (hV : V.heap = (w.alloc (.cells #[.int .i64 n, .int .i64 a, .int .i64 b, .int .i64 c, .int .i64 d, .bool f, u] 63)).heap) :
    ∀ j z, [Value.int .i64 n, .int .i64 a, .int .i64 b, .int .i64 c, .int .i64 d, .bool f, u][j]? = some z → V.cell? ((⟨w.heap.size, 0, none⟩ : Addr).add j) = some z := by
  have hb : V.heap[w.heap.size]? = some (.cells #[.int .i64 n, .int .i64 a, .int .i64 b, .int .i64 c, .int .i64 d, .bool f, u] 63 (0, 0)) := by rw [hV]; exact heap_alloc_new w _
  intro j z hz
  have hadd : (⟨w.heap.size, 0, none⟩ : Addr).add j = ⟨w.heap.size, j, none⟩ := by unfold Addr.add; split <;> simp_all
  rw [hadd, cell_of_row V _ j _ _ (0, 0) hb, List.getElem?_toArray]
  exact hz
theorem rel_one {n a b c d : Int} {f : Bool} {ad : Option Addr} {l cap : Nat} : ∀ u ∈ [Value.int .i64 n, .int .i64 a, .int .i64 b, .int .i64 c, .int .i64 d, .bool f, .slice ad l cap], u.oneCell' = true := by
  intro u hu
  simp only [List.mem_cons, List.not_mem_nil, or_false] at hu
  rcases hu with rfl | rfl | rfl | rfl | rfl | rfl | rfl <;> rfl
theorem own_kept {w w' : World} {B : Nat} {t : TypeId} {s n : Nat} {v : Value} {cs : List Value} (ho : w.ownsRow B t s v n cs) (hk : ∀ k, v.ownBlock = some k → w'.heap[k]? = w.heap[k]?) : w'.ownsRow B t s v n cs := by
  refine ⟨ho.1, ?_⟩
  rcases ho.2 with hn | ⟨g, cap, cur, rfl, hb', hg, rest⟩
  · exact .inl hn
  · exact .inr ⟨g, cap, cur, rfl, hb', (hk g rfl).trans hg, rest⟩

theorem _root_.Go.Proofs.Ytgnjhmmedogcoaa.Foot.NGrow.mono {w : World} {B B' : Nat} {v : Value} {M : List Nd} {fs : List (List Nat)} (h : NGrow w B v M fs) (hB : B' ≤ B) : NGrow w B' v M fs := by
  obtain ⟨cs, ⟨hl, ho⟩, he, hn, hi⟩ := h
  refine ⟨cs, ⟨hl, ?_⟩, he, hn, fun b k => ⟨Nat.le_trans hB (hi b k).1, (hi b k).2⟩⟩
  rcases ho with hn | ⟨g, cap, cur, hv, hb', rest⟩
  · exact .inl hn
  · exact .inr ⟨g, cap, cur, hv, Nat.le_trans hB hb', rest⟩
theorem _root_.Go.Proofs.Ytgnjhmmedogcoaa.Foot.NGrow.set {w : World} {B k o : Nat} {x v : Value} {M : List Nd} {fs : List (List Nat)} (h : NGrow w B v M fs) (hk : k < B) : NGrow (w.setCell ⟨k, o, none⟩ x) B v M fs := by
  obtain ⟨cs, ho, he, hn, hi⟩ := h
  have hlt := World.ownsRow.lt ho
  refine ⟨cs, own_kept ho fun j e => Below.heap_setCell w ⟨k, o, none⟩ x j (by have := (hlt j e).1; show j ≠ k; omega), he.kept fun b hb => Below.heap_setCell w ⟨k, o, none⟩ x b (by have := (hi b hb).1; show b ≠ k; omega), hn, fun b hb => ⟨(hi b hb).1, ?_, (hi b hb).2.2⟩⟩
  rw [show (w.setCell ⟨k, o, none⟩ x).heap.size = w.heap.size by simp [World.setCell]]
  exact (hi b hb).2.1


/-- What the loops that copy releases keep. -/
def ScRel (S : List Rel) (w : World) (v i : Value) (wr : World) : Prop :=
  ∃ (k : Nat) (fs : List (List Nat)), k ≤ S.length ∧ i = .int .i64 (k : Int) ∧ RGrow wr w.heap.size v (S.take k) fs ∧ Below w.heap.size w wr
def ScPost (S : List Rel) (w : World) (e : Ending) (w' : World) : Prop := ∃ v fs, e = .returned v ∧ RGrow w' w.heap.size v S fs ∧ Below w.heap.size w w'
theorem sc_next {S T : List Rel} {w w3 : World} {k : Nat} {x : Rel} {v : Value} {fs : List (List Nat)} (hT : S.take k = T) (hxy : S[k]? = some x) (h : RGrow w3 w.heap.size v (T ++ [x]) fs) (hb : Below w.heap.size w w3) :
    ScRel S w v (.int .i64 ((k : Int) + 1)) w3 := by
  have hk : k < S.length := (List.getElem?_eq_some_iff.1 hxy).1
  refine ⟨k + 1, fs, by omega, by go_num, ?_, hb⟩
  rw [List.take_add_one, hxy, hT]
  exact h

set_option maxRecDepth 100000 in
set_option maxHeartbeats 4000000 in
theorem l3Shelf_any (v : Value) (S : List Rel) (w : World) (h : RlAt w w.heap.size v S) (hl : S.length ≤ 1048576) (hq : ∀ q ∈ S, q.2.2.2.length ≤ 1048576 ∧ ∀ p ∈ q.2.2.2, p.2.length ≤ 1048576) : Calls Try.prog 108 #[v] w (ScPost S w) := by
  obtain ⟨a, cap, rfl, h⟩ := h
  obtain ⟨i0, hi, hz0, hz1, hz2⟩ := info_parts infoRelease
  have h0 := h
  clear h
  go_enter Try.func108, Try.ntmps108
  go_wp2_with fail
  go_loopw [3, 4] (fun v i wr => ScRel S w v i wr) (fun _ i _ => S.length - (intOf i).toNat)
  case atStart => exact ⟨0, [], Nat.zero_le _, rfl, by rw [List.take_zero]; exact RGrow.made rfl (Nat.le_refl _), (Below.refl _ _).alloc (Nat.le_refl _) _⟩
  case round =>
    obtain ⟨k, fs, hk, rfl, hown, hb⟩ := hrel
    obtain ⟨T, hT⟩ : ∃ T, S.take k = T := ⟨_, rfl⟩
    have hTl := Lib.hid (show T.length = k by rw [← hT]; simp; omega)
    have hTm : T.length ≤ S.length := by rw [hTl.out]; exact hk
    rw [hT] at hown
    obtain ⟨va, vc, hv, hx⟩ := id hown.at
    subst hv
    clear hx
    have S1 := Lib.hid hown
    clear hown
    by_cases hlt : k < S.length
    · rcases h0 with h0 | ⟨b, o, rfl, hB, hc⟩
      · subst h0
        exact absurd hlt (by simp)
      obtain ⟨x, a1, b1, c1, d1, gn, M, hxy⟩ : ∃ x a1 b1 c1 d1 gn M, S[k] = (x, (a1, b1, c1, d1), gn, M) := ⟨_, _, _, _, _, _, _, rfl⟩
      have c := (hc k hlt).below hb hB
      rw [hxy] at c
      obtain ⟨⟨e0, e1, e2, e3, e4, e5⟩, ad, cap1, e6, hs⟩ := c
      have hL : M.length ≤ 1048576 ∧ ∀ p ∈ M, p.2.length ≤ 1048576 := by have := hq _ (List.getElem_mem hlt); rwa [hxy] at this
      simp only at e0 e1 e2 e3 e4 e5 e6 hs
      have HXY := Lib.hid (show S[k]? = some (x, (a1, b1, c1, d1), gn, M) by rw [List.getElem?_eq_getElem hlt, hxy])
      have HT := Lib.hid hT
      have zb := hb.size
      have HS := Lib.hid (hs.mono zb)
      have hB2 : b < wr.heap.size := by omega
      have hbne : b ≠ wr.heap.size := by omega
      clear hxy hc hs hT
      go_wp2_with fail
      refine (l3Needs_any _ M _ (HS.out.stepAt (by go_grown)) hL.1 hL.2).mono ?_
      rintro e w2 ⟨u2, fsN, rfl, gN, hb2⟩
      obtain ⟨na, ncap, hv2, hx2⟩ := id gN.own.at
      subst hv2
      clear hx2
      have n2 : Below wr.heap.size wr w2 := Below.step (by go_grown) hb2
      have nw2 : Below w.heap.size w w2 := hb.trans (n2.mono zb)
      have z2 : wr.heap.size + 1 ≤ w2.heap.size := by have := hb2.size; simp at this; omega
      obtain ⟨hc2, hf2⟩ := bcells hb2
      have y0 : w2.cell? ⟨wr.heap.size, 0, none⟩ = some (.int .i64 x) := (hc2 wr.heap.size 0 (by simp)).trans (by go_simp)
      have y1 : w2.cell? ⟨wr.heap.size, 1, none⟩ = some (.int .i64 a1) := (hc2 wr.heap.size 1 (by simp)).trans (by go_simp)
      have y2 : w2.cell? ⟨wr.heap.size, 2, none⟩ = some (.int .i64 b1) := (hc2 wr.heap.size 2 (by simp)).trans (by go_simp)
      have y3 : w2.cell? ⟨wr.heap.size, 3, none⟩ = some (.int .i64 c1) := (hc2 wr.heap.size 3 (by simp)).trans (by go_simp)
      have y4 : w2.cell? ⟨wr.heap.size, 4, none⟩ = some (.int .i64 d1) := (hc2 wr.heap.size 4 (by simp)).trans (by go_simp)
      have y5 : w2.cell? ⟨wr.heap.size, 5, none⟩ = some (.bool gn) := (hc2 wr.heap.size 5 (by simp)).trans (by go_simp)
      have y6 : w2.cell? ⟨wr.heap.size, 6, none⟩ = some (.slice ad M.length cap1) := (hc2 wr.heap.size 6 (by simp)).trans (by go_simp)
      have yf : w2.frozen? ⟨wr.heap.size, 6, none⟩ = false := (hf2 wr.heap.size 6 (by simp)).trans (by go_simp)
      clear hc2 hf2
      obtain ⟨F, hNF, hFn, hF0⟩ := gN.foot
      have hF := Lib.hid (show ∀ b ∈ F, wr.heap.size + 1 ≤ b from fun b k => by have := hF0 b k; simp at this; omega)
      obtain ⟨cs, hown1, he2, hnd2, _⟩ := S1.out.below n2
      obtain ⟨_, _, _, _, hin1⟩ := id S1.out
      have hlt2 := World.ownsRow.lt hown1
      have hlt1 := S1.out.lt
      have zW : (w2.setCell ⟨wr.heap.size, 6, none⟩ (.slice na M.length ncap)).heap.size = w2.heap.size := by simp [World.setCell]
      have hown2 : (w2.setCell ⟨wr.heap.size, 6, none⟩ (.slice na M.length ncap)).ownsRow w.heap.size 63 7 (.slice va T.length vc) T.length cs := own_kept hown1 fun j e => Below.heap_setCell w2 ⟨wr.heap.size, 6, none⟩ _ j (by have := (hlt1 j e).2; show j ≠ wr.heap.size; omega)
      have HE := Lib.hid (show REl (w2.setCell ⟨wr.heap.size, 6, none⟩ (.slice na M.length ncap)) cs T fs from he2.kept fun b h => Below.heap_setCell w2 ⟨wr.heap.size, 6, none⟩ _ b (by have := (hin1 b h).2.1; show b ≠ wr.heap.size; omega))
      have HX := Lib.hid (show NdF (w2.setCell ⟨wr.heap.size, 6, none⟩ (.slice na M.length ncap)) (.slice na M.length ncap) M F from hNF.kept fun b h => Below.heap_setCell w2 ⟨wr.heap.size, 6, none⟩ _ b (by have := hF.out b h; show b ≠ wr.heap.size; omega))
      have hnew := rel_new (w := w2.setCell ⟨wr.heap.size, 6, none⟩ (.slice na M.length ncap)) (V := (w2.setCell ⟨wr.heap.size, 6, none⟩ (.slice na M.length ncap)).alloc (.cells #[.int .i64 x, .int .i64 a1, .int .i64 b1, .int .i64 c1, .int .i64 d1, .bool gn, .slice na M.length ncap] 63)) rfl
      rw [zW] at hnew
      have HD := Lib.hid hnd2
      have HI := Lib.hid hin1
      have HN := Lib.hid hFn
      have HW := Lib.hid hnew
      have HO := Lib.hid hown2
      clear he2 hnd2 hin1 hNF hF0 hFn gN hb2 e0 e1 e2 e3 e4 e5 e6 hown1 hnew hown2
      go_wp2_with (at_builtin; refine wpList_append_lies _ rfl _ _ 29 rfl w.heap.size 63 i0 (.agg #[.int .i64 0, .int .i64 0, .int .i64 0, .int .i64 0, .int .i64 0, .bool false, .slice none 0 0]) 7 72 Try.underlying29 hi hz0 hz1 hz2 rfl (by decide) _ _ cs rfl (HO.out.alloc (.cells #[.int .i64 x, .int .i64 a1, .int .i64 b1, .int .i64 c1, .int .i64 d1, .bool gn, .slice na M.length ncap] 63)) ⟨w2.heap.size, 0, none⟩ 1 1 [.int .i64 x, .int .i64 a1, .int .i64 b1, .int .i64 c1, .int .i64 d1, .bool gn, .slice na M.length ncap] rfl rfl HW.out rel_one (by omega) (by unfold maxLen; omega) (by omega) (by first | (simp; done) | (simp; omega)) _ rfl ?_)
      intro g cap3 w3 hown3 hgrow3 hat3 hlt3
      have HP := Lib.hid (RGrow.push (x := (x, (a1, b1, c1, d1), gn, M)) (Z := wr.heap.size) (w2 := w2.setCell ⟨wr.heap.size, 6, none⟩ (.slice na M.length ncap)) (W := (w2.setCell ⟨wr.heap.size, 6, none⟩ (.slice na M.length ncap)).alloc (.cells #[.int .i64 x, .int .i64 a1, .int .i64 b1, .int .i64 c1, .int .i64 d1, .bool gn, .slice na M.length ncap] 63)) ((Below.refl _ _).alloc (Nat.le_refl _) _) HE.out HO.out.1 HD.out HI.out (fun k e => (hlt1 k e).2) HX.out HN.out (fun b h => by have := hF.out b h; omega) zb hown3 hgrow3 (by simpa [World.setCell] using hat3) (by rw [zW]; omega))
      have n3 : Below w.heap.size w w3 := Below.grown (by go_grown) hgrow3 (by first | (simp; done) | (simp; omega)) (fun k e => (hlt2 k e).1)
      clear hown3 hgrow3 hat3
      go_wp2_with fail
      go_roundw
      case rel => first | exact sc_next HT.out HXY.out HP.out n3 | (rw [hTl.out] at HP; exact sc_next HT.out HXY.out HP.out n3)
      case measure => simp [intOf]; omega
    · obtain rfl : k = S.length := by omega
      have hT' : T = S := by rw [← hT, List.take_length]
      subst hT'
      go_wp2_with fail
      go_ret
      exact ⟨_, _, rfl, S1.out, hb⟩
end Copy
end Go.Proofs.Ytgnjhmmedogcoaa

/- Contracts of ShelfGone, the program's and the model's, over this seat's translation: a new shelf with one release withdrawn, all that it stands on new and different, or none; nothing that was there before the call has changed. Condition: at most 1048576 releases, needs of each, and spans of those. -/
namespace Go.Proofs.Ytgnjhmmedogcoaa
open Go.RowKit Go.Sort

namespace Foot
theorem RGrow.gone {w : World} {B g cap i : Nat} {S : List Rel} {fs : List (List Nat)} {x : Rel} (h : RGrow w B (.slice (some ⟨g, 0, none⟩) S.length cap) S fs) (hx : S[i]? = some x) :
    RGrow (w.setCell ⟨g, i * 7 + 5, none⟩ (.bool true)) B (.slice (some ⟨g, 0, none⟩) S.length cap) (S.set i (x.1, x.2.1, true, x.2.2.2)) fs := by
  obtain ⟨hi, hxi⟩ := List.getElem?_eq_some_iff.1 hx
  obtain ⟨cs, ⟨hl, ho⟩, he, hn, hin⟩ := h
  have hlen : (S.set i (x.1, x.2.1, true, x.2.2.2)).length = S.length := by simp
  rcases ho with ⟨hv, h0⟩ | ⟨g', cap', cur, e, hb, hg, hnc, hcm, hcs, htk⟩
  · omega
  · simp only [Value.slice.injEq, Option.some.injEq, Addr.mk.injEq, and_true] at e
    obtain ⟨rfl, _, rfl⟩ := e
    have hne : ∀ b ∈ fs.flatten, b ≠ g := fun b k e => (hin b k).2.2 (by rw [e]; rfl)
    refine ⟨cs.set (i * 7 + 5) (.bool true), ?_, ⟨by rw [hlen]; exact he.1, fun j hj => ?_⟩, hn, fun b k => ⟨(hin b k).1, by rw [show (w.setCell ⟨g, i * 7 + 5, none⟩ (.bool true)).heap.size = w.heap.size by simp [World.setCell]]; exact (hin b k).2.1, (hin b k).2.2⟩⟩
    · rw [hlen]
      refine ⟨by rw [List.length_set]; exact hl, .inr ⟨g, cap, cur.setIfInBounds (i * 7 + 5) (.bool true), rfl, hb, by simp [World.setCell, Array.getElem?_modify, hg], hnc, hcm, by simpa using hcs, ?_⟩⟩
      rw [Array.toList_setIfInBounds, List.take_set, htk]
    · obtain ⟨a, c, h1, h2⟩ := he.2 j (by omega)
      have kp : ∀ b ∈ fs.getD j [], (w.setCell ⟨g, i * 7 + 5, none⟩ (.bool true)).heap[b]? = w.heap[b]? := fun b k => Below.heap_setCell w ⟨g, i * 7 + 5, none⟩ _ b (hne b (mem_flat k))
      by_cases e : j = i
      · subst e
        rw [hxi] at h1 h2
        rw [List.getElem_set_self]
        refine ⟨a, c, fun m hm => ?_, h2.kept kp⟩
        by_cases e5 : m = 5
        · subst e5
          rw [List.getElem?_set_self (by omega)]
          rfl
        · rw [List.getElem?_set_ne (by omega), h1 m hm]
          have : m = 0 ∨ m = 1 ∨ m = 2 ∨ m = 3 ∨ m = 4 ∨ m = 6 := by omega
          rcases this with rfl | rfl | rfl | rfl | rfl | rfl <;> rfl
      · rw [List.getElem_set_ne (by omega)]
        exact ⟨a, c, fun m hm => by rw [List.getElem?_set_ne (by omega)]; exact h1 m hm, h2.kept kp⟩
/-- The place where the store goes. -/
theorem RGrow.place {w : World} {B g cap i : Nat} {S : List Rel} {fs : List (List Nat)} (h : RGrow w B (.slice (some ⟨g, 0, none⟩) S.length cap) S fs) (hi : i < S.length) :
    (∃ f, w.cell? ⟨g, i * 7 + 5, none⟩ = some (.bool f)) ∧ w.frozen? ⟨g, i * 7 + 5, none⟩ = false := by
  obtain ⟨cs, ⟨hl, ho⟩, he, hn, hin⟩ := h
  rcases ho with ⟨hv, h0⟩ | ⟨g', cap', cur, e, hb, hg, hnc, hcm, hcs, htk⟩
  · omega
  · simp only [Value.slice.injEq, Option.some.injEq, Addr.mk.injEq, and_true] at e
    obtain ⟨rfl, _, rfl⟩ := e
    obtain ⟨a, c, h1, _⟩ := he.2 i hi
    have h5 := h1 5 (by omega)
    rw [← htk, List.getElem?_take, if_pos (by omega)] at h5
    refine ⟨⟨S[i].2.2.1, (cell_of_row w g _ cur _ (0, 0) hg).trans (by simpa using h5)⟩, by simp [World.frozen?, hg]⟩
theorem RGrow.mono {w : World} {B B' : Nat} {v : Value} {S : List Rel} {fs : List (List Nat)} (h : RGrow w B v S fs) (hB : B' ≤ B) : RGrow w B' v S fs := by
  obtain ⟨cs, ⟨hl, ho⟩, he, hn, hi⟩ := h
  refine ⟨cs, ⟨hl, ?_⟩, he, hn, fun b k => ⟨Nat.le_trans hB (hi b k).1, (hi b k).2⟩⟩
  rcases ho with hn | ⟨g, cap, cur, hv, hb', rest⟩
  · exact .inl hn
  · exact .inr ⟨g, cap, cur, hv, Nat.le_trans hB hb', rest⟩
theorem RGrow.some {w : World} {B : Nat} {v : Value} {S : List Rel} {fs : List (List Nat)} (h : RGrow w B v S fs) (hp : 0 < S.length) : ∃ g cap, v = .slice (some ⟨g, 0, none⟩) S.length cap ∧ B ≤ g ∧ g < w.heap.size ∧ S.length ≤ cap := by
  obtain ⟨cs, ⟨hl, ho⟩, _⟩ := h
  rcases ho with ⟨_, h0⟩ | ⟨g, cap, cur, e, hb, hg, hnc, _⟩
  · omega
  · exact ⟨g, cap, e, hb, (Array.getElem?_eq_some_iff.1 hg).1, hnc⟩
end Foot

namespace Copy
open Foot
/-- A shelf on which one release is withdrawn. -/
def goneL (S : List Rel) (i : Nat) : List Rel := match S[i]? with
  | some x => S.set i (x.1, x.2.1, true, x.2.2.2)
  | none => S
def GonePost (S : List Rel) (at' : Int) (w : World) (e : Ending) (w' : World) : Prop :=
  ∃ v fs, e = .returned (.tuple #[v, .bool (decide (0 ≤ at'))]) ∧ RGrow w' w.heap.size v (if 0 ≤ at' then goneL S at'.toNat else []) fs ∧ Below w.heap.size w w'
theorem shFind_range (n : Int) (v : Int × Int × Int × Int) : ∀ (S : List Rel) (k : Nat), shFind n v k S = -1 ∨ ∃ j, shFind n v k S = ((k + j : Nat) : Int) ∧ j < S.length
  | [], k => .inl rfl
  | x :: t, k => by
    have hs := shFind_step (S := x :: t) (k := 0) (q := x) rfl n v
    unfold shFind
    split
    · exact .inr ⟨0, by simp, by simp⟩
    · rcases shFind_range n v t (k + 1) with h | ⟨j, h, hj⟩
      · exact .inl h
      · exact .inr ⟨j + 1, by rw [h]; omega, by simp; omega⟩
theorem shAt_range (S : List Rel) (n : Int) (v : Int × Int × Int × Int) : shAt S n v = -1 ∨ ∃ j : Nat, shAt S n v = (j : Int) ∧ j < S.length := by
  unfold shAt
  split
  · rcases shFind_range n v S 0 with h | ⟨j, h, hj⟩
    · exact .inl h
    · exact .inr ⟨j, by simpa using h, hj⟩
  · exact .inl rfl


end Copy
end Go.Proofs.Ytgnjhmmedogcoaa

/- Contract of the program's releasesBefore, over this seat's translation: the number of releases at the front of a row that stand before a release; nothing that was there before the call has changed. Condition: at most 1048576 releases. -/
namespace Go.Proofs.Ytgnjhmmedogcoaa
open Go.RowKit Go.Sort

namespace Copy
def befL (x : Rel) : List Rel → Nat
  | [] => 0
  | y :: t => if relLess y x = true then befL x t + 1 else 0
theorem befL_le (x : Rel) : ∀ S : List Rel, befL x S ≤ S.length
  | [] => Nat.le_refl _
  | y :: t => by
    unfold befL
    split
    · have := befL_le x t
      simp; omega
    · omega
def BfRel (S : List Rel) (x : Rel) (w1 : World) (i : Value) (wr : World) : Prop :=
  ∃ k : Nat, k ≤ S.length ∧ i = .int .i64 (k : Int) ∧ befL x S = k + befL x (S.drop k) ∧ Below w1.heap.size w1 wr
theorem bef_yes {S : List Rel} {x y : Rel} {k : Nat} (hy : S[k]? = some y) (hl : relLess y x = true) (h : befL x S = k + befL x (S.drop k)) : befL x S = (k + 1) + befL x (S.drop (k + 1)) := by
  have hk : k < S.length := (List.getElem?_eq_some_iff.1 hy).1
  rw [List.drop_eq_getElem_cons hk, (List.getElem?_eq_some_iff.1 hy).2, befL, if_pos hl] at h
  omega
theorem bef_no {S : List Rel} {x y : Rel} {k : Nat} (hy : S[k]? = some y) (hl : relLess y x = false) (h : befL x S = k + befL x (S.drop k)) : befL x S = k := by
  have hk : k < S.length := (List.getElem?_eq_some_iff.1 hy).1
  rw [List.drop_eq_getElem_cons hk, (List.getElem?_eq_some_iff.1 hy).2, befL, if_neg (by simp [hl])] at h
  omega

end Copy
end Go.Proofs.Ytgnjhmmedogcoaa
