/- Contracts of the program's scriptCopy (the same lines in a row of their own) and placesAmong (where in a row some numbers of it stand, in order, in a row of their own), over this seat's translation; nothing that was there before a call has changed. Conditions: at most 1048576 lines and numbers. -/
import Derived.Test.YtopplljilmjjgaaWpg
import Derived.Test.YtopplljilmjjgaaPot
import Derived.Test.YtopplljilmjjgaaRxm
import Derived.Test.YtopplljilmjjgaaLnto
import Derived.Deep.AppendLies
namespace Go.Proofs.Ytopplljilmjjgaa
open Go.RowKit Go.Sort

namespace Wpp
open Tg Drm Dtg Pot Rx
theorem lcs_news {w : World} {B b o cap : Nat} {L : List Ln} (h : LnAt w B (.slice (some ⟨b, o, none⟩) L.length cap) L) : ∀ j u, (lcs L)[j]? = some u → w.cell? ((⟨b, o, none⟩ : Addr).add j) = some u := by
  intro j u hj
  have hlt : j < L.length * 4 := by have := (List.getElem?_eq_some_iff.1 hj).1; rwa [lcs_len] at this
  obtain ⟨a, c, e, h⟩ := h
  simp only [Value.slice.injEq] at e
  obtain ⟨e1, _, _⟩ := e
  rcases h with rfl | ⟨b', o', e2, _, hc⟩
  · simp at hlt
  · rw [← e1] at e2
    simp only [Option.some.injEq, Addr.mk.injEq, and_true] at e2
    obtain ⟨rfl, rfl⟩ := e2
    have hadd : (⟨b, o, none⟩ : Addr).add j = ⟨b, o + j, none⟩ := by unfold Addr.add; split <;> simp_all
    rw [hadd]
    have hi : j / 4 < L.length := by omega
    obtain ⟨c0, c1, c2, c3⟩ := hc (j / 4) hi
    obtain ⟨f0, f1, f2, f3⟩ := lcs_at L (j / 4) hi
    have hcase : j = j / 4 * 4 ∨ j = j / 4 * 4 + 1 ∨ j = j / 4 * 4 + 2 ∨ j = j / 4 * 4 + 3 := by omega
    rcases hcase with ej | ej | ej | ej
    · rw [ej, f0] at hj
      rw [ej, c0]
      exact hj
    · rw [ej, f1] at hj
      rw [ej, ← Nat.add_assoc, c1]
      exact hj
    · rw [ej, f2] at hj
      rw [ej, ← Nat.add_assoc, c2]
      exact hj
    · rw [ej, f3] at hj
      rw [ej, ← Nat.add_assoc, c3]
      exact hj
set_option maxRecDepth 100000 in
set_option maxHeartbeats 2000000 in
theorem scriptCopy_any (v : Value) (L : List Ln) (w : World) (h : LnAt w w.heap.size v L) (hl : L.length ≤ 1048576) :
    Calls Try.prog 92 #[v] w fun e w' => ∃ v, e = .returned v ∧ LnB L w.heap.size w'.heap.size v w' ∧ Below w.heap.size w w' := by
  obtain ⟨a, cap, rfl, hx⟩ := id h
  obtain ⟨i0, hi, hz0, hz1, hz2⟩ := info_parts Lnt.infoLine
  have H := Lib.hid h
  clear h
  rcases L with _ | ⟨x0, L0⟩
  · clear hx hl
    rcases a with _ | ad
    all_goals
      go_enter Try.func92, Try.ntmps92
      go_wp2_with fail
      go_ret
      exact ⟨_, rfl, ⟨_, _, rfl, .inl rfl⟩, Below.refl _ _⟩
  · have hlen : 0 < (x0 :: L0).length := by simp
    obtain ⟨b, o, rfl, hB⟩ : ∃ b o, a = some ⟨b, o, none⟩ ∧ b < w.heap.size := by
      rcases hx with hx | ⟨b, o, e, hB, _⟩
      · simp at hx
      · exact ⟨b, o, e, hB⟩
    clear hx
    obtain ⟨L, hLe⟩ : ∃ N : List Ln, x0 :: L0 = N := ⟨_, rfl⟩
    rw [hLe] at H hlen hl ⊢
    clear hLe
    go_enter Try.func92, Try.ntmps92
    go_wp2_with (at_builtin; refine wpList_append_lies _ rfl _ _ 31 rfl w.heap.size 99 i0 (.agg #[.int .i64 0, .int .i64 0, .int .i64 0, .string ByteArray.empty]) 4 40 Try.underlying31 hi hz0 hz1 hz2 rfl (by decide) (.slice none 0 0) 0 [] rfl (World.ownsRow_nil _ _ _ _) ⟨b, o, none⟩ L.length cap (lcs L) rfl (lcs_len L) (lcs_news H.out) (lcs_one L) hlen (by unfold maxLen; omega) (by omega) (by first | (simp; done) | (simp; omega)) _ rfl ?_)
    intro g cap1 w1 hown hgrow hat hlt
    have ho : LOwn w1 w.heap.size (.slice (some ⟨g, 0, none⟩) L.length cap1) L := by
      have h9 : w1.ownsRow w.heap.size 99 4 (.slice (some ⟨g, 0, none⟩) L.length cap1) L.length (lcs L) := by simpa using hown
      exact h9
    have hres := Lib.hid (Dtg.LOwn.lb ho)
    have n1 : Below w.heap.size w w1 := Below.grown (w := _) (by go_grown) hgrow (by first | (simp; done) | (simp; omega)) (fun k e => by exact absurd e (by simp [Value.ownBlock]))
    clear hown ho hgrow hat H
    go_wp2_with fail
    go_ret
    exact ⟨_, rfl, hres.out, n1⟩
/-- What the loop of placesAmong keeps. -/
def PaRel (R N : List Int) (w : World) (v i : Value) (wr : World) : Prop :=
  ∃ k : Nat, k ≤ R.length ∧ i = .int .i64 (k : Int) ∧ IOwn wr w.heap.size v (plF (R.map fun x => decide (x ∈ N)) k) ∧ Below w.heap.size w wr
set_option maxRecDepth 100000 in
set_option maxHeartbeats 4000000 in
theorem placesAmong_any (u u' : Value) (R N : List Int) (w : World) (hl : R.length ≤ 1048576) (hn : N.length ≤ 1048576) (h : InAt w w.heap.size u R) (h' : InAt w w.heap.size u' N) :
    Calls Try.prog 106 #[u, u'] w fun e w' => ∃ v, e = .returned v ∧ IB (plF (R.map fun x => decide (x ∈ N)) R.length) w.heap.size w'.heap.size v w' ∧ Below w.heap.size w w' := by
  obtain ⟨i0, hi, hz0, hz1, hz2⟩ := info_parts infoInt
  have HST := Lib.hid (show PaRel R N w (.slice none 0 0) (.int .i64 0) w from ⟨0, Nat.zero_le _, rfl, World.ownsRow_nil _ _ _ _, Below.refl _ _⟩)
  obtain ⟨a, cap, rfl, hh⟩ := id h
  obtain ⟨a', cap', rfl, xx⟩ := id h'
  have KN := Lib.hid fun V (x : Int) (g : Below w.heap.size w V) => numberAmong_any (.slice a' N.length cap') N x V hn (h'.stepAt g)
  have HH := Lib.hid hh
  clear h h' hh xx
  go_enter Try.func106, Try.ntmps106
  go_wp2_with fail
  go_loopw [5, 10] (fun v i wr => PaRel R N w v i wr) (fun _ i _ => R.length - (intOf i).toNat)
  case atStart => exact HST.out
  case round =>
    obtain ⟨k, hk, rfl, hown, hb⟩ := hrel
    obtain ⟨ga, gc, hv, hx⟩ := id (IOwn.ib hown).at
    subst hv
    clear hx
    have hnl := plF_len (R.map fun x => decide (x ∈ N)) k
    by_cases hlt : k < R.length
    · have j1 : (0 : Int) ≤ (k : Int) := by omega
      have j2 : (k : Int) < (R.length : Int) := by omega
      rcases HH.out with hx | ⟨b, o, rfl, hB, hc⟩
      · subst hx
        exact absurd hlt (by simp)
      obtain ⟨x, hx⟩ : ∃ x, R[k] = x := ⟨_, rfl⟩
      have k0 := (hb.cell (p := ⟨b, o + k, none⟩) hB).trans (hc k hlt)
      rw [hx] at k0
      have HG := Lib.hid (show (R.map fun x => decide (x ∈ N)).getD k true = decide (x ∈ N) from by
        rw [List.getD_eq_getElem?_getD, List.getElem?_map, List.getElem?_eq_getElem hlt, hx]
        rfl)
      obtain ⟨c, hcc⟩ : ∃ c, (R.map fun x => decide (x ∈ N)) = c := ⟨_, rfl⟩
      have HCC := Lib.hid hcc
      rw [hcc] at hown hnl HG ⊢
      obtain ⟨q, hq⟩ : ∃ q, decide (x ∈ N) = q := ⟨_, rfl⟩
      have KX := Lib.hid (KN.out wr x hb)
      rw [hq] at KX HG
      have HO := Lib.hid hown
      have HB := Lib.hid hb
      clear hx hc hcc hq hown hb
      go_wp2_with fail
      refine KX.out.mono ?_
      rintro e w2 ⟨rfl, hb2⟩
      have HO2 := Lib.hid (row_below HO.out hb2)
      have b2 := HB.out.trans (hb2.mono HB.out.size)
      clear hb2 HO HB KX k0
      rcases q
      · have HT := Lib.hid (show plF c (k + 1) = plF c k by show plF c k ++ _ = _; rw [HG.out]; simp)
        have HR := Lib.hid (show PaRel R N w (.slice ga (plF c k).length gc) (.int .i64 ((k : Int) + 1)) w2 from ⟨k + 1, by omega, by go_num, by rw [HCC.out, HT.out]; exact HO2.out, b2⟩)
        go_wp2_with fail
        go_roundw
        case rel => exact HR.out
        case measure => simp [intOf]; omega
      · have HT := Lib.hid (show plF c (k + 1) = plF c k ++ [(k : Int)] by show plF c k ++ _ = _; rw [HG.out]; simp)
        have z4 := b2.size
        have HB2 := Lib.hid b2
        clear b2
        go_wp2_with (at_builtin; refine wpList_append_own _ rfl _ _ 43 rfl w.heap.size 3 i0 (.int .i64 0) 1 8 Try.underlying43 hi hz0 hz1 hz2 rfl (by decide) _ _ _ rfl (World.ownsRow.alloc HO2.out (.cells #[.int .i64 (k : Int)] 3)) ⟨w2.heap.size, 0, none⟩ 1 1 [.int .i64 (k : Int)] rfl rfl (one_new w2 (k : Int)) (one_one _) (by unfold maxLen; omega) (by omega) (by simp; omega) ?_)
        intro v' w5 hown' hgrow hnn
        have HR := Lib.hid (show PaRel R N w v' (.int .i64 ((k : Int) + 1)) w5 from ⟨k + 1, by omega, by go_num, by rw [HCC.out, HT.out]; exact IOwn.push hown', IOwn.gone HO2.out HB2.out z4 hgrow⟩)
        clear hown' hgrow hnn
        go_wp2_with fail
        go_roundw
        case rel => exact HR.out
        case measure => simp [intOf]; omega
    · obtain rfl : k = R.length := by omega
      have HO := Lib.hid hown
      clear hown
      go_wp2_with fail
      go_ret
      exact ⟨_, rfl, IOwn.ib HO.out, hb⟩
end Wpp
end Go.Proofs.Ytopplljilmjjgaa
