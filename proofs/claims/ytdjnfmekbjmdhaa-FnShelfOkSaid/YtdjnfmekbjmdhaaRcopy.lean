/- Contracts of the functions that copy releases, over this seat's translation, the program's and the model's: a new row with the same releases, all that it stands on new and different; nothing that was there before the call has changed. Condition: at most 1048576 releases, needs of each, and spans of those. -/
import Derived.Test.YtdjnfmekbjmdhaaNcopy
import Derived.Test.YtdjnfmekbjmdhaaFootr
import Derived.Deep.RegionHeld3
namespace Go.Proofs.Ytdjnfmekbjmdhaa
open Go.RowKit Go.Sort

namespace Copy
open Foot
theorem bcells {V w : World} (hb : Below V.heap.size V w) : (∀ b o, b < V.heap.size → w.cell? ⟨b, o, none⟩ = V.cell? ⟨b, o, none⟩) ∧ (∀ b o, b < V.heap.size → w.frozen? ⟨b, o, none⟩ = V.frozen? ⟨b, o, none⟩) :=
  ⟨fun b o h => hb.cell (p := ⟨b, o, none⟩) h, fun b o h => hb.frozen (p := ⟨b, o, none⟩) h⟩
theorem rel_new {w V : World} {n a b c d : Int} {f : Bool} {u : Value} (hV : V.heap = (w.alloc (.cells #[.int .i64 n, .int .i64 a, .int .i64 b, .int .i64 c, .int .i64 d, .bool f, u] 41)).heap) :
    ∀ j z, [Value.int .i64 n, .int .i64 a, .int .i64 b, .int .i64 c, .int .i64 d, .bool f, u][j]? = some z → V.cell? ((⟨w.heap.size, 0, none⟩ : Addr).add j) = some z := by
  have hb : V.heap[w.heap.size]? = some (.cells #[.int .i64 n, .int .i64 a, .int .i64 b, .int .i64 c, .int .i64 d, .bool f, u] 41 (0, 0)) := by rw [hV]; exact heap_alloc_new w _
  intro j z hz
  have hadd : (⟨w.heap.size, 0, none⟩ : Addr).add j = ⟨w.heap.size, j, none⟩ := by unfold Addr.add; split <;> simp_all
  rw [hadd, cell_of_row V _ j _ _ (0, 0) hb, List.getElem?_toArray]
  exact hz
theorem rel_one {n a b c d : Int} {f : Bool} {ad : Option Addr} {l cap : Nat} : ∀ u ∈ [Value.int .i64 n, .int .i64 a, .int .i64 b, .int .i64 c, .int .i64 d, .bool f, .slice ad l cap], u.oneCell' = true := by
  intro u hu
  simp only [List.mem_cons, List.not_mem_nil, or_false] at hu
  rcases hu with rfl | rfl | rfl | rfl | rfl | rfl | rfl <;> rfl
theorem own_kept {w w' : World} {B : Nat} {t : TypeId} {s n : Nat} {v : Value} {cs : List Value} (ho : w.ownsRow B t s v n cs) (hk : ∀ k, v.ownBlock = some k → w'.heap[k]? = w.heap[k]?) : w'.ownsRow B t s v n cs := by
  refine ⟨ho.1, ?_⟩
  rcases ho.2 with hn | ⟨g, cap, cur, rfl, hb', hg, rest⟩
  · exact .inl hn
  · exact .inr ⟨g, cap, cur, rfl, hb', (hk g rfl).trans hg, rest⟩

theorem _root_.Go.Proofs.Ytdjnfmekbjmdhaa.Foot.NGrow.mono {w : World} {B B' : Nat} {v : Value} {M : List Nd} {fs : List (List Nat)} (h : NGrow w B v M fs) (hB : B' ≤ B) : NGrow w B' v M fs := by
  obtain ⟨cs, ⟨hl, ho⟩, he, hn, hi⟩ := h
  refine ⟨cs, ⟨hl, ?_⟩, he, hn, fun b k => ⟨Nat.le_trans hB (hi b k).1, (hi b k).2⟩⟩
  rcases ho with hn | ⟨g, cap, cur, hv, hb', rest⟩
  · exact .inl hn
  · exact .inr ⟨g, cap, cur, hv, Nat.le_trans hB hb', rest⟩
theorem _root_.Go.Proofs.Ytdjnfmekbjmdhaa.Foot.NGrow.set {w : World} {B k o : Nat} {x v : Value} {M : List Nd} {fs : List (List Nat)} (h : NGrow w B v M fs) (hk : k < B) : NGrow (w.setCell ⟨k, o, none⟩ x) B v M fs := by
  obtain ⟨cs, ho, he, hn, hi⟩ := h
  have hlt := World.ownsRow.lt ho
  refine ⟨cs, own_kept ho fun j e => Below.heap_setCell w ⟨k, o, none⟩ x j (by have := (hlt j e).1; show j ≠ k; omega), he.kept fun b hb => Below.heap_setCell w ⟨k, o, none⟩ x b (by have := (hi b hb).1; show b ≠ k; omega), hn, fun b hb => ⟨(hi b hb).1, ?_, (hi b hb).2.2⟩⟩
  rw [show (w.setCell ⟨k, o, none⟩ x).heap.size = w.heap.size by simp [World.setCell]]
  exact (hi b hb).2.1

set_option maxRecDepth 100000 in
set_option maxHeartbeats 4000000 in
theorem releaseCopy_any (n a b c d : Int) (f : Bool) (v : Value) (M : List Nd) (w : World) (h : NdAt w w.heap.size v M) (hl : M.length ≤ 1048576) (hq : ∀ q ∈ M, q.2.length ≤ 1048576) :
    Calls Try.prog 68 #[rels n a b c d f v] w fun e w' => ∃ na ncap fs, e = .returned (rels n a b c d f (.slice na M.length ncap)) ∧ NGrow w' w.heap.size (.slice na M.length ncap) M fs ∧ Below w.heap.size w w' := by
  obtain ⟨ad, cap, rfl, hx⟩ := id h
  clear hx
  have H := Lib.hid h
  clear h
  go_enter Try.func68, Try.ntmps68
  go_wp2_with fail
  go_region_held3 (fun V => V.cell? ⟨w.heap.size, 0, none⟩ = some (.int .i64 n) ∧ V.cell? ⟨w.heap.size, 1, none⟩ = some (.int .i64 a) ∧ V.cell? ⟨w.heap.size, 2, none⟩ = some (.int .i64 b) ∧ V.cell? ⟨w.heap.size, 3, none⟩ = some (.int .i64 c) ∧ V.cell? ⟨w.heap.size, 4, none⟩ = some (.int .i64 d) ∧ V.cell? ⟨w.heap.size, 5, none⟩ = some (.bool f) ∧ V.cell? ⟨w.heap.size, 6, none⟩ = some (.slice ad M.length cap)) (go_keep)
    (first | (go_at_call 97; refine (needsCopy_any _ M _ (H.out.stepAt (by go_grown)) hl hq).mono ?_; rintro e w2 ⟨u2, fs, rfl, gr2, hb2⟩; obtain ⟨na, ncap, hv2, hx2⟩ := id gr2.own.at; subst hv2; have n2 : Below w.heap.size w w2 := Below.step (by go_grown) hb2; have GR := Lib.hid (gr2.mono (B' := w.heap.size + 2) (by simp)); obtain ⟨hc, hf⟩ := bcells hb2; have z2 := hb2.size; (try simp at z2); have k0 : w2.cell? ⟨w.heap.size, 0, none⟩ = some (.int .i64 n) := (hc w.heap.size 0 (by simp; omega)).trans (by go_simp); have k1 : w2.cell? ⟨w.heap.size, 1, none⟩ = some (.int .i64 a) := (hc w.heap.size 1 (by simp; omega)).trans (by go_simp); have k2 : w2.cell? ⟨w.heap.size, 2, none⟩ = some (.int .i64 b) := (hc w.heap.size 2 (by simp; omega)).trans (by go_simp); have k3 : w2.cell? ⟨w.heap.size, 3, none⟩ = some (.int .i64 c) := (hc w.heap.size 3 (by simp; omega)).trans (by go_simp); have k4 : w2.cell? ⟨w.heap.size, 4, none⟩ = some (.int .i64 d) := (hc w.heap.size 4 (by simp; omega)).trans (by go_simp); have k5 : w2.cell? ⟨w.heap.size, 5, none⟩ = some (.bool f) := (hc w.heap.size 5 (by simp; omega)).trans (by go_simp); have k6 : w2.cell? ⟨w.heap.size, 6, none⟩ = some (.slice ad M.length cap) := (hc w.heap.size 6 (by simp; omega)).trans (by go_simp); clear gr2 hx2 hb2))
  all_goals
    go_wp2_with fail
    exact bodyPost_ret (v := rels n a b c d f (.slice na M.length ncap)) (by simp [results, Try.results68, go_sem, hc]) rfl
      ⟨na, ncap, fs, rfl, NGrow.mono (B := w.heap.size + 2) (NGrow.set (k := w.heap.size + 1) (NGrow.set (k := w.heap.size + 1) (NGrow.set (k := w.heap.size + 1) (NGrow.set (k := w.heap.size + 1) (NGrow.set (k := w.heap.size + 1) (NGrow.set (k := w.heap.size + 1) (NGrow.set (k := w.heap.size + 1) GR.out (by omega)) (by omega)) (by omega)) (by omega)) (by omega)) (by omega)) (by omega)) (by omega), by go_grown⟩

/-- What the loops that copy releases keep. -/
def ScRel (S : List Rel) (w : World) (v i : Value) (wr : World) : Prop :=
  ∃ (k : Nat) (fs : List (List Nat)), k ≤ S.length ∧ i = .int .i64 (k : Int) ∧ RGrow wr w.heap.size v (S.take k) fs ∧ Below w.heap.size w wr
def ScPost (S : List Rel) (w : World) (e : Ending) (w' : World) : Prop := ∃ v fs, e = .returned v ∧ RGrow w' w.heap.size v S fs ∧ Below w.heap.size w w'
theorem sc_next {S T : List Rel} {w w3 : World} {k : Nat} {x : Rel} {v : Value} {fs : List (List Nat)} (hT : S.take k = T) (hxy : S[k]? = some x) (h : RGrow w3 w.heap.size v (T ++ [x]) fs) (hb : Below w.heap.size w w3) :
    ScRel S w v (.int .i64 ((k : Int) + 1)) w3 := by
  have hk : k < S.length := (List.getElem?_eq_some_iff.1 hxy).1
  refine ⟨k + 1, fs, by omega, by go_num, ?_, hb⟩
  rw [List.take_add_one, hxy, hT]
  exact h

set_option maxRecDepth 100000 in
set_option maxHeartbeats 4000000 in
theorem shelfCopy_any (v : Value) (S : List Rel) (w : World) (h : RlAt w w.heap.size v S) (hl : S.length ≤ 1048576) (hq : ∀ q ∈ S, q.2.2.2.length ≤ 1048576 ∧ ∀ p ∈ q.2.2.2, p.2.length ≤ 1048576) : Calls Try.prog 67 #[v] w (ScPost S w) := by
  obtain ⟨a, cap, rfl, h⟩ := h
  obtain ⟨i0, hi, hz0, hz1, hz2⟩ := info_parts infoRelease
  have h0 := h
  clear h
  go_enter Try.func67, Try.ntmps67
  go_wp2_with fail
  go_loopw [3, 8] (fun v i wr => ScRel S w v i wr) (fun _ i _ => S.length - (intOf i).toNat)
  case atStart => exact ⟨0, [], Nat.zero_le _, rfl, by rw [List.take_zero]; exact RGrow.nil _ _, Below.refl _ _⟩
  case round =>
    obtain ⟨k, fs, hk, rfl, hown, hb⟩ := hrel
    obtain ⟨T, hT⟩ : ∃ T, S.take k = T := ⟨_, rfl⟩
    have hTl := Lib.hid (show T.length = k by rw [← hT]; simp; omega)
    have hTm : T.length ≤ S.length := by rw [hTl.out]; exact hk
    rw [hT] at hown
    obtain ⟨va, vc, hv, hx⟩ := id hown.at
    subst hv
    clear hx
    have S1 := Lib.hid hown
    clear hown
    by_cases hlt : k < S.length
    · rcases h0 with h0 | ⟨b, o, rfl, hB, hc⟩
      · subst h0
        exact absurd hlt (by simp)
      obtain ⟨x, a1, b1, c1, d1, gn, M, hxy⟩ : ∃ x a1 b1 c1 d1 gn M, S[k] = (x, (a1, b1, c1, d1), gn, M) := ⟨_, _, _, _, _, _, _, rfl⟩
      have c := (hc k hlt).below hb hB
      rw [hxy] at c
      obtain ⟨⟨e0, e1, e2, e3, e4, e5⟩, ad, cap1, e6, hs⟩ := c
      have hL : M.length ≤ 1048576 ∧ ∀ p ∈ M, p.2.length ≤ 1048576 := by have := hq _ (List.getElem_mem hlt); rwa [hxy] at this
      simp only at e0 e1 e2 e3 e4 e5 e6 hs
      have HXY := Lib.hid (show S[k]? = some (x, (a1, b1, c1, d1), gn, M) by rw [List.getElem?_eq_getElem hlt, hxy])
      have HT := Lib.hid hT
      have zb := hb.size
      have HS := Lib.hid (hs.mono zb)
      have hB2 : b < wr.heap.size := by omega
      have hbne : b ≠ wr.heap.size := by omega
      clear hxy hc hs hT
      go_wp2_with fail
      refine (releaseCopy_any x a1 b1 c1 d1 gn _ M _ (HS.out.stepAt (by go_grown)) hL.1 hL.2).mono ?_
      rintro e w2 ⟨na, ncap, fsN, rfl, gN, hb2⟩
      have n2 : Below wr.heap.size wr w2 := Below.step (by go_grown) hb2
      have nw2 : Below w.heap.size w w2 := hb.trans (n2.mono zb)
      have z2 := n2.size
      obtain ⟨F, hNF, hFn, hF0⟩ := gN.foot
      have hF := Lib.hid (show ∀ b ∈ F, wr.heap.size ≤ b from fun b k => by have := hF0 b k; simp at this; omega)
      obtain ⟨cs, hown2, he2, hnd2, _⟩ := S1.out.below n2
      obtain ⟨_, _, _, _, hin1⟩ := id S1.out
      have hlt2 := World.ownsRow.lt hown2
      have hlt1 := S1.out.lt
      have HE := Lib.hid he2
      have HD := Lib.hid hnd2
      have HI := Lib.hid hin1
      have HX := Lib.hid hNF
      have HN := Lib.hid hFn
      clear he2 hnd2 hin1 hNF hF0 hFn gN hb2 e0 e1 e2 e3 e4 e5 e6
      go_wp2_with (at_builtin; refine wpList_append_lies _ rfl _ _ 27 rfl w.heap.size 41 i0 (.agg #[.int .i64 0, .int .i64 0, .int .i64 0, .int .i64 0, .int .i64 0, .bool false, .slice none 0 0]) 7 72 Try.underlying27 hi hz0 hz1 hz2 rfl (by decide) _ _ cs rfl (hown2.alloc (.cells #[.int .i64 x, .int .i64 a1, .int .i64 b1, .int .i64 c1, .int .i64 d1, .bool gn, .slice na M.length ncap] 41)) ⟨w2.heap.size, 0, none⟩ 1 1 [.int .i64 x, .int .i64 a1, .int .i64 b1, .int .i64 c1, .int .i64 d1, .bool gn, .slice na M.length ncap] rfl rfl (rel_new rfl) rel_one (by omega) (by unfold maxLen; omega) (by omega) (by first | (simp; done) | (simp; omega)) _ rfl ?_)
      intro g cap3 w3 hown3 hgrow3 hat3 hlt3
      have HP := Lib.hid (RGrow.push (x := (x, (a1, b1, c1, d1), gn, M)) (Z := wr.heap.size) (W := w2.alloc (.cells #[.int .i64 x, .int .i64 a1, .int .i64 b1, .int .i64 c1, .int .i64 d1, .bool gn, .slice na M.length ncap] 41)) ((Below.refl _ _).alloc (Nat.le_refl _) _) HE.out hown2.1 HD.out HI.out (fun k e => (hlt1 k e).2) HX.out HN.out hF.out zb hown3 hgrow3 (by simpa using hat3) z2)
      have n3 : Below w.heap.size w w3 := Below.grown (by go_grown) hgrow3 (by first | (simp; done) | (simp; omega)) (fun k e => (hlt2 k e).1)
      clear hown3 hgrow3 hat3 hown2
      go_wp2_with fail
      go_roundw
      case rel => first | exact sc_next HT.out HXY.out HP.out n3 | (rw [hTl.out] at HP; exact sc_next HT.out HXY.out HP.out n3)
      case measure => simp [intOf]; omega
    · obtain rfl : k = S.length := by omega
      have hT' : T = S := by rw [← hT, List.take_length]
      subst hT'
      go_wp2_with fail
      go_ret
      exact ⟨_, _, rfl, S1.out, hb⟩
set_option maxRecDepth 100000 in
set_option maxHeartbeats 4000000 in
theorem l3Shelf_any (v : Value) (S : List Rel) (w : World) (h : RlAt w w.heap.size v S) (hl : S.length ≤ 1048576) (hq : ∀ q ∈ S, q.2.2.2.length ≤ 1048576 ∧ ∀ p ∈ q.2.2.2, p.2.length ≤ 1048576) : Calls Try.prog 64 #[v] w (ScPost S w) := by
  obtain ⟨a, cap, rfl, h⟩ := h
  obtain ⟨i0, hi, hz0, hz1, hz2⟩ := info_parts infoRelease
  have h0 := h
  clear h
  go_enter Try.func64, Try.ntmps64
  go_wp2_with fail
  go_loopw [3, 4] (fun v i wr => ScRel S w v i wr) (fun _ i _ => S.length - (intOf i).toNat)
  case atStart => exact ⟨0, [], Nat.zero_le _, rfl, by rw [List.take_zero]; exact RGrow.made rfl (Nat.le_refl _), (Below.refl _ _).alloc (Nat.le_refl _) _⟩
  case round =>
    obtain ⟨k, fs, hk, rfl, hown, hb⟩ := hrel
    obtain ⟨T, hT⟩ : ∃ T, S.take k = T := ⟨_, rfl⟩
    have hTl := Lib.hid (show T.length = k by rw [← hT]; simp; omega)
    have hTm : T.length ≤ S.length := by rw [hTl.out]; exact hk
    rw [hT] at hown
    obtain ⟨va, vc, hv, hx⟩ := id hown.at
    subst hv
    clear hx
    have S1 := Lib.hid hown
    clear hown
    by_cases hlt : k < S.length
    · rcases h0 with h0 | ⟨b, o, rfl, hB, hc⟩
      · subst h0
        exact absurd hlt (by simp)
      obtain ⟨x, a1, b1, c1, d1, gn, M, hxy⟩ : ∃ x a1 b1 c1 d1 gn M, S[k] = (x, (a1, b1, c1, d1), gn, M) := ⟨_, _, _, _, _, _, _, rfl⟩
      have c := (hc k hlt).below hb hB
      rw [hxy] at c
      obtain ⟨⟨e0, e1, e2, e3, e4, e5⟩, ad, cap1, e6, hs⟩ := c
      have hL : M.length ≤ 1048576 ∧ ∀ p ∈ M, p.2.length ≤ 1048576 := by have := hq _ (List.getElem_mem hlt); rwa [hxy] at this
      simp only at e0 e1 e2 e3 e4 e5 e6 hs
      have HXY := Lib.hid (show S[k]? = some (x, (a1, b1, c1, d1), gn, M) by rw [List.getElem?_eq_getElem hlt, hxy])
      have HT := Lib.hid hT
      have zb := hb.size
      have HS := Lib.hid (hs.mono zb)
      have hB2 : b < wr.heap.size := by omega
      have hbne : b ≠ wr.heap.size := by omega
      clear hxy hc hs hT
      go_wp2_with fail
      refine (l3Needs_any _ M _ (HS.out.stepAt (by go_grown)) hL.1 hL.2).mono ?_
      rintro e w2 ⟨u2, fsN, rfl, gN, hb2⟩
      obtain ⟨na, ncap, hv2, hx2⟩ := id gN.own.at
      subst hv2
      clear hx2
      have n2 : Below wr.heap.size wr w2 := Below.step (by go_grown) hb2
      have nw2 : Below w.heap.size w w2 := hb.trans (n2.mono zb)
      have z2 : wr.heap.size + 1 ≤ w2.heap.size := by have := hb2.size; simp at this; omega
      obtain ⟨hc2, hf2⟩ := bcells hb2
      have y0 : w2.cell? ⟨wr.heap.size, 0, none⟩ = some (.int .i64 x) := (hc2 wr.heap.size 0 (by simp)).trans (by go_simp)
      have y1 : w2.cell? ⟨wr.heap.size, 1, none⟩ = some (.int .i64 a1) := (hc2 wr.heap.size 1 (by simp)).trans (by go_simp)
      have y2 : w2.cell? ⟨wr.heap.size, 2, none⟩ = some (.int .i64 b1) := (hc2 wr.heap.size 2 (by simp)).trans (by go_simp)
      have y3 : w2.cell? ⟨wr.heap.size, 3, none⟩ = some (.int .i64 c1) := (hc2 wr.heap.size 3 (by simp)).trans (by go_simp)
      have y4 : w2.cell? ⟨wr.heap.size, 4, none⟩ = some (.int .i64 d1) := (hc2 wr.heap.size 4 (by simp)).trans (by go_simp)
      have y5 : w2.cell? ⟨wr.heap.size, 5, none⟩ = some (.bool gn) := (hc2 wr.heap.size 5 (by simp)).trans (by go_simp)
      have y6 : w2.cell? ⟨wr.heap.size, 6, none⟩ = some (.slice ad M.length cap1) := (hc2 wr.heap.size 6 (by simp)).trans (by go_simp)
      have yf : w2.frozen? ⟨wr.heap.size, 6, none⟩ = false := (hf2 wr.heap.size 6 (by simp)).trans (by go_simp)
      clear hc2 hf2
      obtain ⟨F, hNF, hFn, hF0⟩ := gN.foot
      have hF := Lib.hid (show ∀ b ∈ F, wr.heap.size + 1 ≤ b from fun b k => by have := hF0 b k; simp at this; omega)
      obtain ⟨cs, hown1, he2, hnd2, _⟩ := S1.out.below n2
      obtain ⟨_, _, _, _, hin1⟩ := id S1.out
      have hlt2 := World.ownsRow.lt hown1
      have hlt1 := S1.out.lt
      have zW : (w2.setCell ⟨wr.heap.size, 6, none⟩ (.slice na M.length ncap)).heap.size = w2.heap.size := by simp [World.setCell]
      have hown2 : (w2.setCell ⟨wr.heap.size, 6, none⟩ (.slice na M.length ncap)).ownsRow w.heap.size 41 7 (.slice va T.length vc) T.length cs := own_kept hown1 fun j e => Below.heap_setCell w2 ⟨wr.heap.size, 6, none⟩ _ j (by have := (hlt1 j e).2; show j ≠ wr.heap.size; omega)
      have HE := Lib.hid (show REl (w2.setCell ⟨wr.heap.size, 6, none⟩ (.slice na M.length ncap)) cs T fs from he2.kept fun b h => Below.heap_setCell w2 ⟨wr.heap.size, 6, none⟩ _ b (by have := (hin1 b h).2.1; show b ≠ wr.heap.size; omega))
      have HX := Lib.hid (show NdF (w2.setCell ⟨wr.heap.size, 6, none⟩ (.slice na M.length ncap)) (.slice na M.length ncap) M F from hNF.kept fun b h => Below.heap_setCell w2 ⟨wr.heap.size, 6, none⟩ _ b (by have := hF.out b h; show b ≠ wr.heap.size; omega))
      have hnew := rel_new (w := w2.setCell ⟨wr.heap.size, 6, none⟩ (.slice na M.length ncap)) (V := (w2.setCell ⟨wr.heap.size, 6, none⟩ (.slice na M.length ncap)).alloc (.cells #[.int .i64 x, .int .i64 a1, .int .i64 b1, .int .i64 c1, .int .i64 d1, .bool gn, .slice na M.length ncap] 41)) rfl
      rw [zW] at hnew
      have HD := Lib.hid hnd2
      have HI := Lib.hid hin1
      have HN := Lib.hid hFn
      have HW := Lib.hid hnew
      have HO := Lib.hid hown2
      clear he2 hnd2 hin1 hNF hF0 hFn gN hb2 e0 e1 e2 e3 e4 e5 e6 hown1 hnew hown2
      go_wp2_with (at_builtin; refine wpList_append_lies _ rfl _ _ 27 rfl w.heap.size 41 i0 (.agg #[.int .i64 0, .int .i64 0, .int .i64 0, .int .i64 0, .int .i64 0, .bool false, .slice none 0 0]) 7 72 Try.underlying27 hi hz0 hz1 hz2 rfl (by decide) _ _ cs rfl (HO.out.alloc (.cells #[.int .i64 x, .int .i64 a1, .int .i64 b1, .int .i64 c1, .int .i64 d1, .bool gn, .slice na M.length ncap] 41)) ⟨w2.heap.size, 0, none⟩ 1 1 [.int .i64 x, .int .i64 a1, .int .i64 b1, .int .i64 c1, .int .i64 d1, .bool gn, .slice na M.length ncap] rfl rfl HW.out rel_one (by omega) (by unfold maxLen; omega) (by omega) (by first | (simp; done) | (simp; omega)) _ rfl ?_)
      intro g cap3 w3 hown3 hgrow3 hat3 hlt3
      have HP := Lib.hid (RGrow.push (x := (x, (a1, b1, c1, d1), gn, M)) (Z := wr.heap.size) (w2 := w2.setCell ⟨wr.heap.size, 6, none⟩ (.slice na M.length ncap)) (W := (w2.setCell ⟨wr.heap.size, 6, none⟩ (.slice na M.length ncap)).alloc (.cells #[.int .i64 x, .int .i64 a1, .int .i64 b1, .int .i64 c1, .int .i64 d1, .bool gn, .slice na M.length ncap] 41)) ((Below.refl _ _).alloc (Nat.le_refl _) _) HE.out HO.out.1 HD.out HI.out (fun k e => (hlt1 k e).2) HX.out HN.out (fun b h => by have := hF.out b h; omega) zb hown3 hgrow3 (by simpa [World.setCell] using hat3) (by rw [zW]; omega))
      have n3 : Below w.heap.size w w3 := Below.grown (by go_grown) hgrow3 (by first | (simp; done) | (simp; omega)) (fun k e => (hlt2 k e).1)
      clear hown3 hgrow3 hat3
      go_wp2_with fail
      go_roundw
      case rel => first | exact sc_next HT.out HXY.out HP.out n3 | (rw [hTl.out] at HP; exact sc_next HT.out HXY.out HP.out n3)
      case measure => simp [intOf]; omega
    · obtain rfl : k = S.length := by omega
      have hT' : T = S := by rw [← hT, List.take_length]
      subst hT'
      go_wp2_with fail
      go_ret
      exact ⟨_, _, rfl, S1.out, hb⟩
end Copy
end Go.Proofs.Ytdjnfmekbjmdhaa
