/- The contracts of the model's l2Fit and RangeNot over this seat's translation: they answer as the plain functions of the spans tell. Nothing that was there before the call has changed. Condition: at most 1048576 spans. -/
import Derived.Test.YtgnjhmmedogcoaaImset
import Derived.Deep.CutRange
import Derived.Deep.AppendLies
import Derived.Deep.RegionLaw
namespace Go.Proofs.Ytgnjhmmedogcoaa
open Go.RowKit Go.Sort

set_option maxRecDepth 100000 in
set_option maxHeartbeats 400000 in
theorem l2Fit_any (a : Option Addr) (cap : Nat) (L : Sps) (w : World) (hl : L.length ≤ 1048576) (h : SpAt w w.heap.size (.slice a L.length cap) L) :
    Calls Try.prog 109 #[.agg #[.slice a L.length cap]] w fun e w' => e = .returned (.tuple #[.agg #[if spOk L then .slice a L.length cap else .slice none 0 0], .bool (spOk L)]) ∧ Below w.heap.size w w' := by
  have K := Lib.hid fun V (hV : SpAt V V.heap.size (.slice a L.length cap) L) => specRangeOk_any a cap L V hl hV
  have b0 := ((Below.refl w.heap.size w).alloc (Nat.le_refl _) (.cells #[.slice a L.length cap] 57)).alloc (by simp) (.cells #[.slice none 0 0] 57)
  have hB : w.heap.size + 2 ≤ ((w.alloc (.cells #[.slice a L.length cap] 57)).alloc (.cells #[.slice none 0 0] 57)).heap.size := by simp
  have hb := Below.refl (w.heap.size + 2) ((w.alloc (.cells #[.slice a L.length cap] 57)).alloc (.cells #[.slice none 0 0] 57))
  have hs := (h.below b0).mono b0.size
  clear h
  rcases hk : spOk L
  · rw [hk] at K
    clear hk
    go_enter Try.func109, Try.ntmps109
    go_wp2_with fail
    refine (rel hB hb (K.out _ hs)).mono ?_
    clear hb hs
    rintro e w1 ⟨rfl, hb⟩
    obtain ⟨hc, hf⟩ := (show (∀ b o, b < w.heap.size + 2 → w1.cell? ⟨b, o, none⟩ = _) ∧ (∀ b o, b < w.heap.size + 2 → w1.frozen? ⟨b, o, none⟩ = _) from ⟨fun b o h => hb.cell (p := ⟨b, o, none⟩) h, fun b o h => hb.frozen (p := ⟨b, o, none⟩) h⟩)
    have b1 := b0.trans (hb.mono (by omega))
    clear hb b0
    go_wp2_with fail
    exact bodyPost_ret (v := .tuple #[.agg #[.slice none 0 0], .bool false]) (by simp [results, Try.results109, go_sem, hc]) rfl ⟨rfl, by go_grown⟩
  · rw [hk] at K
    clear hk
    go_enter Try.func109, Try.ntmps109
    go_wp2_with fail
    refine (rel hB hb (K.out _ hs)).mono ?_
    clear hb hs
    rintro e w1 ⟨rfl, hb⟩
    obtain ⟨hc, hf⟩ := (show (∀ b o, b < w.heap.size + 2 → w1.cell? ⟨b, o, none⟩ = _) ∧ (∀ b o, b < w.heap.size + 2 → w1.frozen? ⟨b, o, none⟩ = _) from ⟨fun b o h => hb.cell (p := ⟨b, o, none⟩) h, fun b o h => hb.frozen (p := ⟨b, o, none⟩) h⟩)
    have b1 := b0.trans (hb.mono (by omega))
    clear hb b0
    go_wp2_with fail
    exact bodyPost_ret (v := .tuple #[.agg #[.slice a L.length cap], .bool true]) (by simp [results, Try.results109, go_sem, hc]) rfl ⟨rfl, by go_grown⟩

set_option maxRecDepth 100000 in
/-- Spans in order that were newly made: the range of them, if there are not too many. -/
theorem l2Fit_res (v : Value) (L : Sps) (B : Nat) (w : World) (hn : L.length ≤ 1048576) (hwf : Wf 0 L) (h : SRes L B v w) :
    Calls Try.prog 109 #[.agg #[v]] w fun e w' => ∃ u, e = .returned (.tuple #[.agg #[u], .bool (fitOk L)]) ∧ SRes (fitR L) B u w' ∧ Below w.heap.size w w' := by
  have hf := fit_res h
  have ha := h.at
  obtain ⟨a, cap, rfl, _⟩ := h
  refine (l2Fit_any a cap L w hn ha).mono ?_
  rintro e w' ⟨rfl, hb⟩
  have e1 : spOk L = fitOk L := spOk_wf hwf
  refine ⟨_, by rw [e1], ?_, hb⟩
  have := hf.below hb
  unfold fitOk
  by_cases hc : L.length ≤ 40
  · rw [if_pos hc] at this
    rw [if_pos (decide_eq_true hc)]
    exact this
  · rw [if_neg hc] at this
    rw [if_neg (by simp [hc])]
    exact this

/-- What the loop of the model's RangeNot keeps. -/
def SNotRel (L : Sps) (w1 : World) (lo i : Value) (wr : World) : Prop :=
  ∃ (k : Nat) (low : Int) (G : Sps) (v : Value), k ≤ L.length ∧ i = .int .i64 (k : Int) ∧ lo = .int .i64 low ∧ 0 ≤ low ∧ low ≤ 10000000 ∧ Wf low (L.drop k) ∧ notL L = G ++ notFrom low (L.drop k) ∧ G.length ≤ k ∧
    Owns wr (w1.heap.size + 1) v G ∧ wr.cell? ⟨w1.heap.size, 0, none⟩ = some v ∧ wr.frozen? ⟨w1.heap.size, 0, none⟩ = false ∧ Below w1.heap.size w1 wr ∧ w1.heap.size < wr.heap.size

set_option maxRecDepth 100000 in
theorem snot_yes {L G : Sps} {w1 wr : World} {v : Value} {k : Nat} {x y low : Int} (hL : L[k]? = some (x, y)) (hw : Wf low (L.drop k)) (h0 : 0 ≤ low) (he : notL L = G ++ notFrom low (L.drop k)) (hn : G.length ≤ k) (hlt : low < x)
    (ho : Owns wr (w1.heap.size + 1) v (G ++ [(low, x - 1)])) (hc : wr.cell? ⟨w1.heap.size, 0, none⟩ = some v) (hf : wr.frozen? ⟨w1.heap.size, 0, none⟩ = false) (hb : Below w1.heap.size w1 wr) (hs : w1.heap.size < wr.heap.size) :
    SNotRel L w1 (.int .i64 (y + 1)) (.int .i64 ((k : Int) + 1)) wr := by
  have hk : k < L.length := (List.getElem?_eq_some_iff.1 hL).1
  rw [drop_at hL] at hw he
  obtain ⟨h1, h2, h3, h4⟩ := hw
  refine ⟨k + 1, y + 1, _, v, by omega, by go_num, rfl, by omega, by omega, h4.mono (by omega), ?_, by simp; omega, ho, hc, hf, hb, hs⟩
  rw [he, notFrom, if_pos hlt, List.append_assoc]
  rfl
set_option maxRecDepth 100000 in
theorem snot_no {L G : Sps} {w1 wr : World} {v : Value} {k : Nat} {x y low : Int} (hL : L[k]? = some (x, y)) (hw : Wf low (L.drop k)) (h0 : 0 ≤ low) (he : notL L = G ++ notFrom low (L.drop k)) (hn : G.length ≤ k) (hlt : ¬ low < x)
    (ho : Owns wr (w1.heap.size + 1) v G) (hc : wr.cell? ⟨w1.heap.size, 0, none⟩ = some v) (hf : wr.frozen? ⟨w1.heap.size, 0, none⟩ = false) (hb : Below w1.heap.size w1 wr) (hs : w1.heap.size < wr.heap.size) :
    SNotRel L w1 (.int .i64 (y + 1)) (.int .i64 ((k : Int) + 1)) wr := by
  have hk : k < L.length := (List.getElem?_eq_some_iff.1 hL).1
  rw [drop_at hL] at hw he
  obtain ⟨h1, h2, h3, h4⟩ := hw
  refine ⟨k + 1, y + 1, _, v, by omega, by go_num, rfl, by omega, by omega, h4.mono (by omega), ?_, by omega, ho, hc, hf, hb, hs⟩
  rw [he, notFrom, if_neg hlt]

set_option maxRecDepth 100000 in
theorem Owns.far {w w' : World} {base b : Nat} {v u : Value} {L : Sps} (h : Owns w base v L) (hg : w.grownBy w' v.ownBlock) (hb : b < base) (hc : w.cell? ⟨b, 0, none⟩ = some u) : w'.cell? ⟨b, 0, none⟩ = some u :=
  hg.cell hc fun e => by have := (World.ownsRow.lt h) b e.symm; omega
set_option maxRecDepth 100000 in
theorem Owns.farf {w w' : World} {base b : Nat} {v : Value} {L : Sps} (h : Owns w base v L) (hg : w.grownBy w' v.ownBlock) (hb : b < base) (hs : b < w.heap.size) (hc : w.frozen? ⟨b, 0, none⟩ = false) : w'.frozen? ⟨b, 0, none⟩ = false :=
  (World.frozen?_of_block (a := ⟨b, 0, none⟩) (hg.block b hs fun e => by have := (World.ownsRow.lt h) b e.symm; omega)).trans hc

set_option maxRecDepth 100000 in
set_option maxHeartbeats 4000000 in
theorem specNot_any (v : Value) (A : Sps) (w : World) (hl : A.length ≤ 1048576) (h : SpAt w w.heap.size v A) : Calls Try.prog 102 #[.agg #[v]] w (TPost (notOk A) (notR A) w) := by
  have hh := h
  obtain ⟨a, cap, rfl, hcc⟩ := hh
  have HH := Lib.hid hcc
  clear hcc
  have K := Lib.hid fun V (hV : SpAt V V.heap.size (.slice a A.length cap) A) => specRangeOk_any a cap A V hl hV
  obtain ⟨ti, hi, hz0, hz1, hz2⟩ := info_parts infoSpan
  have b0 := ((Below.refl w.heap.size w).alloc (Nat.le_refl _) (.cells #[.slice a A.length cap] 57)).alloc (by simp) (.cells #[.slice none 0 0] 57)
  have hB : w.heap.size + 2 ≤ ((w.alloc (.cells #[.slice a A.length cap] 57)).alloc (.cells #[.slice none 0 0] 57)).heap.size := by simp
  have hb := Below.refl (w.heap.size + 2) ((w.alloc (.cells #[.slice a A.length cap] 57)).alloc (.cells #[.slice none 0 0] 57))
  have hs := (h.below b0).mono b0.size
  rcases hk : spOk A
  · have HO := Lib.hid (show notOk A = false by simp [notOk, hk])
    have HR := Lib.hid (show notR A = [] by simp [notR, hk])
    rw [hk] at K
    clear hk h
    go_enter Try.func102, Try.ntmps102
    go_wp2_with fail
    refine (rel hB hb (K.out _ hs)).mono ?_
    clear hb hs
    rintro e w1 ⟨rfl, hb⟩
    obtain ⟨hc, hf⟩ := (show (∀ b o, b < w.heap.size + 2 → w1.cell? ⟨b, o, none⟩ = _) ∧ (∀ b o, b < w.heap.size + 2 → w1.frozen? ⟨b, o, none⟩ = _) from ⟨fun b o h => hb.cell (p := ⟨b, o, none⟩) h, fun b o h => hb.frozen (p := ⟨b, o, none⟩) h⟩)
    have b1 := b0.trans (hb.mono (by omega))
    clear hb b0
    go_wp2_with fail
    exact bodyPost_ret (v := .tuple #[.agg #[.slice none 0 0], .bool false]) (by simp [results, Try.results102, go_sem, hc]) rfl ⟨_, by rw [HO.out], by rw [HR.out]; exact res_nil _ _, by go_grown⟩
  · have hw := (spOk_iff.1 hk).1
    have hlen : (notL A).length ≤ 41 := Nat.le_trans notFrom_len (by have := (spOk_iff.1 hk).2; omega)
    have HO := Lib.hid (show notOk A = fitOk (notL A) by simp [notOk, hk])
    have HR := Lib.hid (show notR A = fitR (notL A) by simp [notR, hk])
    have hl40 := (spOk_iff.1 hk).2
    rw [hk] at K
    clear hk
    go_enter Try.func102, Try.ntmps102
    go_wp2_with fail
    refine (rel hB hb (K.out _ hs)).mono ?_
    clear hb hs
    rintro e w1 ⟨rfl, hb⟩
    have hc := cells_of hb
    have p0 : w1.cell? ⟨w.heap.size, 0, none⟩ = some (.slice a A.length cap) := (hc _ _ (by omega)).trans (by go_simp)
    have P1 := Lib.hid (show w1.cell? ⟨w.heap.size + 1, 0, none⟩ = some (.slice none 0 0) from (hc _ _ (by omega)).trans (by go_simp))
    have F1 := Lib.hid (show w1.frozen? ⟨w.heap.size + 1, 0, none⟩ = false from (hb.frozen (p := ⟨w.heap.size + 1, 0, none⟩) (by simp)).trans (by go_simp))
    have z1 : w.heap.size + 2 ≤ w1.heap.size := by have := hb.size; simp at this; omega
    have zl : w.heap.size < w1.heap.size := by omega
    have b1 := b0.trans (hb.mono (by omega))
    clear hb hc b0 h
    go_wp2_with fail
    go_loopw [5, 6] (fun lo i wr => SNotRel A w1 lo i wr) (fun _ i _ => A.length - (intOf i).toNat)
    case atStart => exact ⟨0, 0, [], .slice none 0 0, Nat.zero_le _, rfl, rfl, Int.le_refl _, by omega, hw, rfl, Nat.le_refl _, World.ownsRow_nil _ _ _ _, by go_simp, by go_simp, (Below.refl _ _).alloc (Nat.le_refl _) _, by simp⟩
    case round =>
      obtain ⟨k, low, G, v, hk, rfl, rfl, h0, hlo, hww, he, hn, hown, hcell, hfro, hb, hsz⟩ := hrel
      have HW := Lib.hid hww
      have HE := Lib.hid he
      clear hww he
      have q0 := (hb.cell (p := ⟨w.heap.size, 0, none⟩) zl).trans p0
      have zr : w.heap.size < wr.heap.size := by omega
      by_cases hlt : k < A.length
      · rcases HH.out with h1 | ⟨b, o, rfl, hBb, hcb⟩
        · subst h1
          exact absurd hlt (by simp)
        obtain ⟨x, y, hxy⟩ : ∃ x y, A[k] = (x, y) := ⟨_, _, rfl⟩
        have c := hcb k hlt
        rw [hxy] at c
        have bx := b1.trans (hb.mono b1.size)
        have c0 := (bx.cell (p := ⟨b, o + k * 2, none⟩) hBb).trans c.1
        have c1 := (bx.cell (p := ⟨b, o + k * 2 + 1, none⟩) hBb).trans c.2
        have CC := Lib.hid c.2
        have HX := Lib.hid (show A[k]? = some (x, y) by rw [List.getElem?_eq_getElem hlt, hxy])
        clear c hxy hcb bx
        simp only at c0 c1
        have bz : b < wr.heap.size := by omega
        have i0 : (0 : Int) ≤ (k : Int) := by omega
        have i1 : (k : Int) < (A.length : Int) := by omega
        have xb : low ≤ x ∧ x ≤ y ∧ y ≤ 9999999 := by
          have := HW.out
          rw [drop_at HX.out] at this
          exact ⟨this.1, this.2.1, this.2.2.1⟩
        have hwr : IntKind.i64.wrap (x - 1) = x - 1 := by rw [IntKind.wrap_i64]; omega
        by_cases hgap : low < x
        · have HB := Lib.hid hb
          have HOW := Lib.hid hown
          clear hb hown
          go_upto_region 9 with fail
          go_cut [5] from 12 to 47 (fun p wx => p = .int .i64 low ∧ ∃ v', Owns wx (w1.heap.size + 1) v' (G ++ [(low, x - 1)]) ∧ wx.cell? ⟨w1.heap.size, 0, none⟩ = some v' ∧ wx.frozen? ⟨w1.heap.size, 0, none⟩ = false ∧ Below w1.heap.size w1 wx ∧ w1.heap.size < wx.heap.size)
          case first =>
            have o2 := Owns.below HOW.out (w' := (wr.alloc (.cells #[.int .i64 low, .int .i64 (x - 1)] 73)).drew) (by go_grown)
            have x0 : (wr.alloc (.cells #[.int .i64 low, .int .i64 (x - 1)] 73)).drew.cell? ⟨w1.heap.size, 0, none⟩ = some v := by go_simp
            have x1 : (wr.alloc (.cells #[.int .i64 low, .int .i64 (x - 1)] 73)).drew.frozen? ⟨w1.heap.size, 0, none⟩ = false := by go_simp
            have x2 := Lib.hid (two_new0 wr low (x - 1))
            have x3 : w1.heap.size + 1 ≤ (wr.alloc (.cells #[.int .i64 low, .int .i64 (x - 1)] 73)).drew.heap.size := by simp; omega
            have x4 := Lib.hid (show Below w1.heap.size w1 (wr.alloc (.cells #[.int .i64 low, .int .i64 (x - 1)] 73)).drew from (HB.out.alloc (by omega) _).drew)
            go_region_law (first | (refine step_append_lies _ rfl (.tmp 28) (.tmp 38) 55 rfl (w1.heap.size + 1) 73 ti (.agg #[.int .i64 0, .int .i64 0]) 2 16 Try.underlying55 hi hz0 hz1 hz2 rfl (by decide) _ _ _ rfl o2 ⟨wr.heap.size, 0, none⟩ 1 1 [.int .i64 low, .int .i64 (x - 1)] rfl rfl x2.out (two_one _ _) (by omega) (by unfold maxLen; omega) (by omega) x3 _ rfl ?_; intro g cp w2 hown2 hgrow hat hlt2; have e0 := o2.far hgrow (by omega) x0; have f0 := o2.farf hgrow (by omega) (by omega) x1; have y1 := x4.out.grown hgrow (by omega) (fun k hk => Nat.le_trans (Nat.le_succ _) ((World.ownsRow.lt o2) k hk).1); have y2 := hgrow.size))
            all_goals
              go_wp2_with fail
              go_meet
              case rel => exact ⟨rfl, _, ownsRow_setCell_below (Owns.push hown2) (by show w1.heap.size < w1.heap.size + 1; omega) _, by go_simp, by go_simp, y1.setCell (Nat.le_refl _) _, by simp; omega⟩
          case rest =>
            obtain ⟨rfl, v', ho', hc', hf', hb', hs'⟩ := hcut
            have HP := Lib.hid (snot_yes HX.out HW.out h0 HE.out hn hgap ho' hc' hf' hb' hs')
            have q1 := (hb'.cell (p := ⟨w.heap.size, 0, none⟩) zl).trans p0
            have e1 := ((b1.trans (hb'.mono b1.size)).cell (p := ⟨b, o + k * 2 + 1, none⟩) hBb).trans CC.out
            clear ho' hc' hf' hb' c0 c1 q0 hcell hfro
            go_wp2_with fail
            go_roundw
            case rel => exact HP.out
            case measure => simp [intOf]; omega
        · have HP := Lib.hid (snot_no HX.out HW.out h0 HE.out hn hgap hown hcell hfro hb hsz)
          clear hown hb
          go_wp2_with fail
          go_roundw
          case rel => exact HP.out
          case measure => simp [intOf]; omega
      · obtain rfl : k = A.length := by omega
        have he := HE.out
        rw [List.drop_length, notFrom] at he
        have g1 : ∀ V, Below w1.heap.size w1 V → V.cell? ⟨w.heap.size + 1, 0, none⟩ = some (.slice none 0 0) := fun V hV => (hV.cell (p := ⟨w.heap.size + 1, 0, none⟩) (by show w.heap.size + 1 < w1.heap.size; omega)).trans P1.out
        have g2 : ∀ V, Below w1.heap.size w1 V → V.frozen? ⟨w.heap.size + 1, 0, none⟩ = false := fun V hV => (hV.frozen (p := ⟨w.heap.size + 1, 0, none⟩) (by show w.heap.size + 1 < w1.heap.size; omega)).trans F1.out
        have G1 := Lib.hid g1
        have G2 := Lib.hid g2
        clear g1 g2
        by_cases hlow : low ≤ 9999999
        · rw [if_pos hlow] at he
          have HE' := Lib.hid he
          have HB := Lib.hid hb
          clear he hb
          have o2 := Owns.below hown (w' := wr.alloc (.cells #[.int .i64 low, .int .i64 9999999] 73)) ((Below.refl wr.heap.size wr).alloc (Nat.le_refl _) _)
          have x0 : (wr.alloc (.cells #[.int .i64 low, .int .i64 9999999] 73)).cell? ⟨w1.heap.size, 0, none⟩ = some v := by go_simp
          have x1 : (wr.alloc (.cells #[.int .i64 low, .int .i64 9999999] 73)).frozen? ⟨w1.heap.size, 0, none⟩ = false := by go_simp
          have x4 := Lib.hid (HB.out.alloc (by omega) (.cells #[.int .i64 low, .int .i64 9999999] 73))
          go_wp2_with (at_builtin; refine wpList_append_lies _ rfl _ _ 55 rfl (w1.heap.size + 1) 73 ti (.agg #[.int .i64 0, .int .i64 0]) 2 16 Try.underlying55 hi hz0 hz1 hz2 rfl (by decide) _ _ _ rfl o2 ⟨wr.heap.size, 0, none⟩ 1 1 [.int .i64 low, .int .i64 9999999] rfl rfl (two_new0 wr low 9999999) (two_one _ _) (by omega) (by unfold maxLen; omega) (by omega) (by simp; omega) _ rfl ?_)
          intro g cp w2 hown2 hgrow hat hlt2
          have e0 := o2.far hgrow (by omega) x0
          have f0 := o2.farf hgrow (by omega) (by simp; omega) x1
          have y1 := x4.out.grown hgrow (by simp; omega) (fun k hk => Nat.le_trans (Nat.le_succ _) ((World.ownsRow.lt o2) k hk).1)
          have y2 := y1.setCell (Nat.le_refl w1.heap.size) (p := ⟨w1.heap.size, 0, none⟩) (.slice (some ⟨g, 0, none⟩) (G.length + 1) cp)
          have Y2 := Lib.hid y2
          have rr : SRes (notL A) w1.heap.size (.slice (some ⟨g, 0, none⟩) (G.length + 1) cp) (w2.setCell ⟨w1.heap.size, 0, none⟩ (.slice (some ⟨g, 0, none⟩) (G.length + 1) cp)) := by
            rw [HE'.out]
            exact (Owns.res (ownsRow_setCell_below (Owns.push hown2) (a := ⟨w1.heap.size, 0, none⟩) (by show w1.heap.size < w1.heap.size + 1; omega) _)).mono (by omega)
          clear x0 x1 hown hown2 hgrow hat hcell hfro y1 y2 q0 o2
          go_wp2_with fail
          refine (l2Fit_res _ (notL A) _ _ (by omega) (notL_wf hw) rr).mono ?_
          rintro e w5 ⟨u5, rfl, r5, hb5⟩
          have y3 := Y2.out.trans (hb5.mono Y2.out.size)
          have g1 := G1.out w5 y3
          have g2 := G2.out w5 y3
          have b5 := b1.trans (y3.mono b1.size)
          have r6 : SRes (fitR (notL A)) w.heap.size u5 (w5.setCell ⟨w.heap.size + 1, 0, none⟩ u5) := (r5.kept fun g hg _ => Below.heap_setCell _ _ _ _ (by show g ≠ w.heap.size + 1; omega)).mono (by omega)
          clear y3 hb5 r5 rr
          obtain ⟨a3, cap3, rfl, _⟩ := id r6
          go_wp2_with fail
          exact bodyPost_ret (v := .tuple #[.agg #[.slice a3 (fitR (notL A)).length cap3], .bool (fitOk (notL A))]) (by simp [results, Try.results102, go_sem, g1]) rfl ⟨_, by rw [HO.out], by rw [HR.out]; exact r6, by go_grown⟩
        · rw [if_neg hlow, List.append_nil] at he
          have rr := (Owns.res hown).mono (Nat.le_succ w1.heap.size)
          rw [← he] at rr
          have HB := Lib.hid hb
          clear he hown hb
          go_wp2_with fail
          refine (l2Fit_res _ (notL A) _ _ (by omega) (notL_wf hw) rr).mono ?_
          rintro e w5 ⟨u5, rfl, r5, hb5⟩
          have y3 := HB.out.trans (hb5.mono HB.out.size)
          have g1 := G1.out w5 y3
          have g2 := G2.out w5 y3
          have b5 := b1.trans (y3.mono b1.size)
          have r6 : SRes (fitR (notL A)) w.heap.size u5 (w5.setCell ⟨w.heap.size + 1, 0, none⟩ u5) := (r5.kept fun g hg _ => Below.heap_setCell _ _ _ _ (by show g ≠ w.heap.size + 1; omega)).mono (by omega)
          clear y3 hb5 r5 rr
          obtain ⟨a3, cap3, rfl, _⟩ := id r6
          go_wp2_with fail
          exact bodyPost_ret (v := .tuple #[.agg #[.slice a3 (fitR (notL A)).length cap3], .bool (fitOk (notL A))]) (by simp [results, Try.results102, go_sem, g1]) rfl ⟨_, by rw [HO.out], by rw [HR.out]; exact r6, by go_grown⟩

end Go.Proofs.Ytgnjhmmedogcoaa
