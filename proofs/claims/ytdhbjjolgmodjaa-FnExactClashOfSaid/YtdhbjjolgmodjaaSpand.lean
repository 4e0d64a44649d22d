/- The contract of the model's RangeAnd over this seat's translation: it answers as the plain functions of the spans tell. Nothing that was there before the call has changed. Condition: at most 1048576 spans. -/
import Derived.Test.YtdhbjjolgmodjaaSpnot
import Derived.Deep.RegionHeld3
namespace Go.Proofs.Ytdhbjjolgmodjaa
open Go.RowKit Go.Sort

/-- What each way through a round keeps of the row that grows, in its box. -/
def BoxOwn (w1 : World) (G : Sps) (v : Value) (wr : World) : Prop :=
  Owns wr (w1.heap.size + 1) v G ∧ wr.cell? ⟨w1.heap.size, 0, none⟩ = some v ∧ wr.frozen? ⟨w1.heap.size, 0, none⟩ = false ∧ Below w1.heap.size w1 wr ∧ w1.heap.size < wr.heap.size

set_option maxRecDepth 100000 in
theorem BoxOwn.grow {w1 wr w2 : World} {G : Sps} {v : Value} (h : BoxOwn w1 G v wr) (hb : Below wr.heap.size wr w2) : BoxOwn w1 G v w2 :=
  ⟨h.1.below hb, (hb.cell (p := ⟨w1.heap.size, 0, none⟩) h.2.2.2.2).trans h.2.1, (hb.frozen (p := ⟨w1.heap.size, 0, none⟩) h.2.2.2.2).trans h.2.2.1, h.2.2.2.1.trans (hb.mono (Nat.le_of_lt h.2.2.2.2)), Nat.lt_of_lt_of_le h.2.2.2.2 hb.size⟩
set_option maxRecDepth 100000 in
/-- An append, and the new value stored into the box. -/
theorem BoxOwn.push {w1 W w2 : World} {G : Sps} {v u : Value} {x y : Int} (h : BoxOwn w1 G v W) (ho : w2.ownsRow (w1.heap.size + 1) 139 2 u (G.length + 1) (flat G ++ [.int .i64 x, .int .i64 y])) (hg : W.grownBy w2 v.ownBlock) :
    BoxOwn w1 (G ++ [(x, y)]) u (w2.setCell ⟨w1.heap.size, 0, none⟩ u) := by
  obtain ⟨h1, h2, h3, h4, h5⟩ := h
  have c := h1.far hg (Nat.lt_succ_self _) h2
  have f := h1.farf hg (Nat.lt_succ_self _) h5 h3
  have b := h4.grown hg (Nat.le_of_lt h5) (fun k hk => Nat.le_trans (Nat.le_succ _) ((World.ownsRow.lt h1) k hk).1)
  have s := hg.size
  refine ⟨ownsRow_setCell_below (Owns.push ho) (Nat.lt_succ_self _) _, by go_simp, by go_simp, b.setCell (Nat.le_refl _) _, by simp; omega⟩

set_option maxRecDepth 100000 in
theorem andS_split {A B : Sps} {k : Nat} {x y : Int} (h : A[k]? = some (x, y)) : andS (A.drop k) B = cutOne x y B ++ andS (A.drop (k + 1)) B := by
  rw [drop_at h]
  simp [andS]
set_option maxRecDepth 100000 in
theorem cutOne_split {B : Sps} {j : Nat} {x y a b : Int} (h : B[j]? = some (x, y)) : cutOne a b (B.drop j) = (if max a x ≤ min b y then [(max a x, min b y)] else []) ++ cutOne a b (B.drop (j + 1)) := by
  rw [drop_at h]
  simp [cutOne]

def SAndOut (A B : Sps) (w1 : World) (si : Value) (wr : World) : Prop :=
  ∃ (k : Nat) (G : Sps) (v : Value), k ≤ A.length ∧ si = .int .i64 (k : Int) ∧ andS A B = G ++ andS (A.drop k) B ∧ G.length ≤ k * 40 ∧ BoxOwn w1 G v wr
def SAndIn (A B : Sps) (k : Nat) (x y : Int) (w1 : World) (sj : Value) (wr : World) : Prop :=
  ∃ (j : Nat) (G : Sps) (v : Value), j ≤ B.length ∧ sj = .int .i64 (j : Int) ∧ andS A B = G ++ (cutOne x y (B.drop j) ++ andS (A.drop (k + 1)) B) ∧ G.length ≤ k * 40 + j ∧ BoxOwn w1 G v wr

set_option maxRecDepth 100000 in
theorem sand_in {A B G : Sps} {k j : Nat} {x y a b : Int} {w1 wr : World} {v : Value} (hB : B[j]? = some (a, b)) (he : andS A B = G ++ (cutOne x y (B.drop j) ++ andS (A.drop (k + 1)) B)) (hn : G.length ≤ k * 40 + j)
    (hv : BoxOwn w1 (G ++ if max x a ≤ min y b then [(max x a, min y b)] else []) v wr) : SAndIn A B k x y w1 (.int .i64 ((j : Int) + 1)) wr := by
  have hj : j < B.length := (List.getElem?_eq_some_iff.1 hB).1
  refine ⟨j + 1, _, v, by omega, by go_num, ?_, ?_, hv⟩
  · rw [he, cutOne_split hB, List.append_assoc, List.append_assoc]
  · rw [List.length_append]
    split <;> simp <;> omega

set_option maxRecDepth 100000 in
set_option maxHeartbeats 8000000 in
theorem specAnd_any (v v' : Value) (A B : Sps) (w : World) (hl : A.length ≤ 1048576) (hm : B.length ≤ 1048576) (h : SpAt w w.heap.size v A) (h' : SpAt w w.heap.size v' B) : Calls Try.prog 49 #[.agg #[v], .agg #[v']] w (TPost (andOk A B) (andR A B) w) := by
  have hh := h
  obtain ⟨a, cap, rfl, hcc⟩ := hh
  have HH := Lib.hid hcc
  clear hcc
  have hh := h'
  obtain ⟨a', cap', rfl, hcc⟩ := hh
  have HH' := Lib.hid hcc
  clear hcc
  obtain ⟨ti, hi, hz0, hz1, hz2⟩ := info_parts infoSpan
  have K := Lib.hid fun V (hV : SpAt V V.heap.size (.slice a A.length cap) A) => specRangeOk_any a cap A V hl hV
  have K' := Lib.hid fun V (hV : SpAt V V.heap.size (.slice a' B.length cap') B) => specRangeOk_any a' cap' B V hm hV
  have b0 := (((Below.refl w.heap.size w).alloc (Nat.le_refl _) (.cells #[.slice a A.length cap] 81)).alloc (by simp) (.cells #[.slice a' B.length cap'] 81)).alloc (by simp; omega) (.cells #[.slice none 0 0] 81)
  have hB : w.heap.size + 3 ≤ (((w.alloc (.cells #[.slice a A.length cap] 81)).alloc (.cells #[.slice a' B.length cap'] 81)).alloc (.cells #[.slice none 0 0] 81)).heap.size := by simp
  have hb := Below.refl (w.heap.size + 3) (((w.alloc (.cells #[.slice a A.length cap] 81)).alloc (.cells #[.slice a' B.length cap'] 81)).alloc (.cells #[.slice none 0 0] 81))
  have hs := (h.below b0).mono b0.size
  rcases hk : spOk A
  · have HO := Lib.hid (show andOk A B = false by simp [andOk, hk])
    have HR := Lib.hid (show andR A B = [] by simp [andR, hk])
    rw [hk] at K
    clear hk h h' K'
    go_enter Try.func49, Try.ntmps49
    go_wp2_with fail
    refine (rel hB hb (K.out _ hs)).mono ?_
    clear hb hs
    rintro e w1 ⟨rfl, hb⟩
    obtain ⟨hc, hf⟩ := (show (∀ b o, b < w.heap.size + 3 → w1.cell? ⟨b, o, none⟩ = _) ∧ (∀ b o, b < w.heap.size + 3 → w1.frozen? ⟨b, o, none⟩ = _) from ⟨fun b o h => hb.cell (p := ⟨b, o, none⟩) h, fun b o h => hb.frozen (p := ⟨b, o, none⟩) h⟩)
    have b1 := b0.trans (hb.mono (by omega))
    clear hb b0
    go_wp2_with fail
    exact bodyPost_ret (v := .tuple #[.agg #[.slice none 0 0], .bool false]) (by simp [results, Try.results49, go_sem, hc]) rfl ⟨_, by rw [HO.out], by rw [HR.out]; exact res_nil _ _, by go_grown⟩
  rcases hk' : spOk B
  · have HO := Lib.hid (show andOk A B = false by simp [andOk, hk'])
    have HR := Lib.hid (show andR A B = [] by simp [andR, hk'])
    rw [hk] at K
    rw [hk'] at K'
    clear hk hk'
    go_enter Try.func49, Try.ntmps49
    go_wp2_with fail
    refine (rel hB hb (K.out _ hs)).mono ?_
    clear hb hs
    rintro e w1 ⟨rfl, hb⟩
    have hc := cells_of hb
    have b1 := b0.trans (hb.mono (by omega))
    have hs' := (h'.below b1).mono b1.size
    go_wp2_with fail
    refine (rel hB hb (K'.out _ hs')).mono ?_
    clear hb hc hs' b1
    rintro e w2 ⟨rfl, hb⟩
    obtain ⟨hc, hf⟩ := (show (∀ b o, b < w.heap.size + 3 → w2.cell? ⟨b, o, none⟩ = _) ∧ (∀ b o, b < w.heap.size + 3 → w2.frozen? ⟨b, o, none⟩ = _) from ⟨fun b o h => hb.cell (p := ⟨b, o, none⟩) h, fun b o h => hb.frozen (p := ⟨b, o, none⟩) h⟩)
    have b1 := b0.trans (hb.mono (by omega))
    clear hb b0
    go_wp2_with fail
    exact bodyPost_ret (v := .tuple #[.agg #[.slice none 0 0], .bool false]) (by simp [results, Try.results49, go_sem, hc]) rfl ⟨_, by rw [HO.out], by rw [HR.out]; exact res_nil _ _, by go_grown⟩
  · obtain ⟨hwA, hlA⟩ := spOk_iff.1 hk
    obtain ⟨hwB, hlB⟩ := spOk_iff.1 hk'
    rw [hk] at K
    rw [hk'] at K'
    have HO := Lib.hid (show andOk A B = fitOk (andS A B) by rw [and_same hwA hwB]; simp [andOk, hk, hk'])
    have HR := Lib.hid (show andR A B = fitR (andS A B) by rw [and_same hwA hwB]; simp [andR, hk, hk'])
    clear hk hk'
    go_enter Try.func49, Try.ntmps49
    go_wp2_with fail
    refine (rel hB hb (K.out _ hs)).mono ?_
    clear hb hs
    rintro e w1 ⟨rfl, hb⟩
    have hc := cells_of hb
    have b1 := b0.trans (hb.mono (by omega))
    have hs' := (h'.below b1).mono b1.size
    go_wp2_with fail
    refine (rel hB hb (K'.out _ hs')).mono ?_
    clear hb hc hs' b1 w1
    rintro e w1 ⟨rfl, hb⟩
    have hc := cells_of hb
    have p0 : w1.cell? ⟨w.heap.size, 0, none⟩ = some (.slice a A.length cap) := (hc _ _ (by omega)).trans (by go_simp)
    have p1 : w1.cell? ⟨w.heap.size + 1, 0, none⟩ = some (.slice a' B.length cap') := (hc _ _ (by omega)).trans (by go_simp)
    have P2 := Lib.hid (show w1.cell? ⟨w.heap.size + 2, 0, none⟩ = some (.slice none 0 0) from (hc _ _ (by omega)).trans (by go_simp))
    have F2 := Lib.hid (show w1.frozen? ⟨w.heap.size + 2, 0, none⟩ = false from (hb.frozen (p := ⟨w.heap.size + 2, 0, none⟩) (by simp)).trans (by go_simp))
    have z1 : w.heap.size + 3 ≤ w1.heap.size := by have := hb.size; simp at this; omega
    have zl : w.heap.size < w1.heap.size := by omega
    have zm : w.heap.size + 1 < w1.heap.size := by omega
    have b1 := b0.trans (hb.mono (by omega))
    have G1 : Hid (∀ V, Below w1.heap.size w1 V → V.cell? ⟨w.heap.size + 2, 0, none⟩ = some (.slice none 0 0)) := Lib.hid fun V hV => (hV.cell (p := ⟨w.heap.size + 2, 0, none⟩) (by show w.heap.size + 2 < w1.heap.size; omega)).trans P2.out
    have G2 : Hid (∀ V, Below w1.heap.size w1 V → V.frozen? ⟨w.heap.size + 2, 0, none⟩ = false) := Lib.hid fun V hV => (hV.frozen (p := ⟨w.heap.size + 2, 0, none⟩) (by show w.heap.size + 2 < w1.heap.size; omega)).trans F2.out
    clear hb hc b0 h h'
    go_wp2_with fail
    go_loopw [7] (fun si wr => SAndOut A B w1 si wr) (fun si _ => A.length - (intOf si).toNat)
    case atStart => exact ⟨0, [], .slice none 0 0, Nat.zero_le _, rfl, rfl, Nat.zero_le _, World.ownsRow_nil _ _ _ _, by go_simp, by go_simp, (Below.refl _ _).alloc (Nat.le_refl _) _, by simp⟩
    case round =>
      obtain ⟨k, G0, v0, hk, rfl, he0, hn0, hbox0⟩ := hrel
      have HE0 := Lib.hid he0
      have HBX0 := Lib.hid hbox0
      have q0 := (hbox0.2.2.2.1.cell (p := ⟨w.heap.size, 0, none⟩) zl).trans p0
      have q1 := (hbox0.2.2.2.1.cell (p := ⟨w.heap.size + 1, 0, none⟩) zm).trans p1
      have qv := hbox0.2.1
      have zr := hbox0.2.2.2.2
      have za : w.heap.size < wr.heap.size := by omega
      have zb : w.heap.size + 1 < wr.heap.size := by omega
      clear he0 hbox0
      by_cases hlt : k < A.length
      · rcases HH.out with h1 | ⟨b, o, rfl, hBb, hcb⟩
        · subst h1
          exact absurd hlt (by simp)
        obtain ⟨x, y, hxy⟩ : ∃ x y, A[k] = (x, y) := ⟨_, _, rfl⟩
        have c := hcb k hlt
        rw [hxy] at c
        have C0 := Lib.hid ((b1.cell (p := ⟨b, o + k * 2, none⟩) hBb).trans c.1)
        have C1 := Lib.hid ((b1.cell (p := ⟨b, o + k * 2 + 1, none⟩) hBb).trans c.2)
        have HX := Lib.hid (show A[k]? = some (x, y) by rw [List.getElem?_eq_getElem hlt, hxy])
        have bz : b < w1.heap.size := by omega
        have i0 : (0 : Int) ≤ (k : Int) := by omega
        have i1 : (k : Int) < (A.length : Int) := by omega
        have START := Lib.hid (show SAndIn A B k x y w1 (.int .i64 0) wr from ⟨0, G0, v0, Nat.zero_le _, rfl, by rw [HE0.out, andS_split HX.out]; rfl, by omega, HBX0.out⟩)
        clear c hxy hcb q0 q1 qv
        have q1 := (HBX0.out.2.2.2.1.cell (p := ⟨w.heap.size + 1, 0, none⟩) zm).trans p1
        have q0 := (HBX0.out.2.2.2.1.cell (p := ⟨w.heap.size, 0, none⟩) zl).trans p0
        clear HBX0 HE0 hn0
        go_wp2_with fail
        clear q0 q1 zr za zb
        go_loopw [8] (fun sj wr => SAndIn A B k x y w1 sj wr) (fun sj _ => B.length - (intOf sj).toNat)
        case atStart => exact START.out
        case round =>
          clear START
          obtain ⟨j, G, v, hj, rfl, he, hn, hbox⟩ := hrel
          have HE := Lib.hid he
          have HBX := Lib.hid hbox
          have q0 := (hbox.2.2.2.1.cell (p := ⟨w.heap.size, 0, none⟩) zl).trans p0
          have q1 := (hbox.2.2.2.1.cell (p := ⟨w.heap.size + 1, 0, none⟩) zm).trans p1
          have zr := hbox.2.2.2.2
          have za : w.heap.size < wr.heap.size := by omega
          have zb : w.heap.size + 1 < wr.heap.size := by omega
          have c0 := (hbox.2.2.2.1.cell (p := ⟨b, o + k * 2, none⟩) bz).trans C0.out
          have c1 := (hbox.2.2.2.1.cell (p := ⟨b, o + k * 2 + 1, none⟩) bz).trans C1.out
          have bzz : b < wr.heap.size := by omega
          clear he hbox
          by_cases hlt' : j < B.length
          · rcases HH'.out with h1 | ⟨b', o', rfl, hBb', hcb'⟩
            · subst h1
              exact absurd hlt' (by simp)
            obtain ⟨x', y', hxy'⟩ : ∃ x y, B[j] = (x, y) := ⟨_, _, rfl⟩
            have c' := hcb' j hlt'
            rw [hxy'] at c'
            have bx := b1.trans (HBX.out.2.2.2.1.mono b1.size)
            have d0 := (bx.cell (p := ⟨b', o' + j * 2, none⟩) hBb').trans c'.1
            have d1 := (bx.cell (p := ⟨b', o' + j * 2 + 1, none⟩) hBb').trans c'.2
            have HX' := Lib.hid (show B[j]? = some (x', y') by rw [List.getElem?_eq_getElem hlt', hxy'])
            have bz' : b' < wr.heap.size := by omega
            have j0 : (0 : Int) ≤ (j : Int) := by omega
            have j1 : (j : Int) < (B.length : Int) := by omega
            clear c' hxy' hcb' bx
            simp only at d0 d1
            obtain ⟨lo, hlo⟩ : ∃ lo, max x x' = lo := ⟨_, rfl⟩
            obtain ⟨hi', hhi⟩ : ∃ hi', min y y' = hi' := ⟨_, rfl⟩
            have HLO := Lib.hid hlo
            have HHI := Lib.hid hhi
            clear hlo hhi
            go_upto_region 10 with fail
            go_cut [9] from 27 to 71 (fun p wx => ∃ g, p = .pointer (some ⟨g, 0, none⟩) ∧ wr.heap.size ≤ g ∧ g < wx.heap.size ∧ wx.cell? ⟨g, 0, none⟩ = some (.int .i64 lo) ∧ wx.cell? ⟨g, 1, none⟩ = some (.int .i64 hi') ∧ Below wr.heap.size wr wx)
            case first =>
              have emax : (if x < x' then x' else x) = lo := by rw [← HLO.out]; split <;> omega
              have emin : (if y' < y then y' else y) = hi' := by rw [← HHI.out]; split <;> omega
              have y1 : w.heap.size ≠ wr.heap.size := by omega
              have y2 : w.heap.size + 1 ≠ wr.heap.size := by omega
              have y3 : b ≠ wr.heap.size := by omega
              have y4 : b' ≠ wr.heap.size := by omega
              go_region_held3 (fun V => V.cell? ⟨w.heap.size, 0, none⟩ = some (.slice (some ⟨b, o, none⟩) A.length cap) ∧ V.cell? ⟨w.heap.size + 1, 0, none⟩ = some (.slice (some ⟨b', o', none⟩) B.length cap') ∧ V.cell? ⟨b, o + k * 2, none⟩ = some (.int .i64 x) ∧ V.cell? ⟨b, o + k * 2 + 1, none⟩ = some (.int .i64 y) ∧ V.cell? ⟨b', o' + j * 2, none⟩ = some (.int .i64 x') ∧ V.cell? ⟨b', o' + j * 2 + 1, none⟩ = some (.int .i64 y')) (go_keep) (first | fail)
              all_goals
                go_wp2_with fail
                go_meet
                case rel => exact ⟨_, rfl, Nat.le_refl _, by simp, by go_simp, by go_simp, by go_grown⟩
            case rest =>
              obtain ⟨g, rfl, hg, hgl, k0, k1, hb3⟩ := hcut
              have hbx := HBX.out.grow hb3
              have q0 := (hbx.2.2.2.1.cell (p := ⟨w.heap.size, 0, none⟩) zl).trans p0
              have q1 := (hbx.2.2.2.1.cell (p := ⟨w.heap.size + 1, 0, none⟩) zm).trans p1
              have qc := hbx.2.1
              have qf := hbx.2.2.1
              have qs := hbx.2.2.2.2
              clear c0 c1 d0 d1
              by_cases hcut0 : lo ≤ hi'
              · have HG := Lib.hid (show G ++ [(lo, hi')] = G ++ if max x x' ≤ min y y' then [(max x x', min y y')] else [] by rw [if_pos (by rw [HLO.out, HHI.out]; exact hcut0), HLO.out, HHI.out])
                have hbw := hbx.grow ((Below.refl wc.heap.size wc).alloc (Nat.le_refl _) (.cells #[.int .i64 lo, .int .i64 hi'] 139))
                have o2 := hbw.1
                have HBW := Lib.hid hbw
                clear hbx hbw
                have hk40 : k ≤ 40 := by omega
                go_wp2_with (at_builtin; refine wpList_append_lies _ rfl _ _ 79 rfl (w1.heap.size + 1) 139 ti (.agg #[.int .i64 0, .int .i64 0]) 2 16 Try.underlying79 hi hz0 hz1 hz2 rfl (by decide) _ _ _ rfl o2 ⟨wc.heap.size, 0, none⟩ 1 1 [.int .i64 lo, .int .i64 hi'] rfl rfl (two_new0 wc lo hi') (two_one _ _) (by omega) (by unfold maxLen; omega) (by omega) (by simp; omega) _ rfl ?_)
                intro g2 cp w2 hown2 hgrow hat hlt2
                have hbp := HBW.out.push hown2 hgrow
                have e0 := o2.far hgrow (by omega) HBW.out.2.1
                have f0 := o2.farf hgrow (by omega) HBW.out.2.2.2.2 HBW.out.2.2.1
                rw [HG.out] at hbp
                have HP := Lib.hid (sand_in HX'.out HE.out hn hbp)
                clear hbp hown2 hgrow hat o2 q0 q1 qc qf k0 k1
                go_wp2_with fail
                go_roundw
                case rel => exact HP.out
                case measure => simp [intOf]; omega
              · have HG := Lib.hid (show G = G ++ if max x x' ≤ min y y' then [(max x x', min y y')] else [] by rw [if_neg (by rw [HLO.out, HHI.out]; exact hcut0), List.append_nil])
                rw [HG.out] at hbx
                have HP := Lib.hid (sand_in HX'.out HE.out hn hbx)
                clear hbx
                go_wp2_with fail
                go_roundw
                case rel => exact HP.out
                case measure => simp [intOf]; omega
          · obtain rfl : j = B.length := by omega
            have HP := Lib.hid (show SAndOut A B w1 (.int .i64 ((k : Int) + 1)) wr from ⟨k + 1, G, v, by omega, by go_num, by rw [HE.out, List.drop_length]; rfl, by omega, HBX.out⟩)
            go_wp2_with fail
            go_roundw
            case rel => exact HP.out
            case measure => simp [intOf]; omega
      · obtain rfl : k = A.length := by omega
        have he := HE0.out
        rw [List.drop_length, show andS [] B = [] from rfl, List.append_nil] at he
        have rr := HBX0.out.1.res.mono (Nat.le_succ w1.heap.size)
        have HLEN : (andS A B).length ≤ 1048576 := by rw [he]; omega
        have HWF := andS_wf hwB hwA
        rw [← he] at rr
        have HB := Lib.hid HBX0.out.2.2.2.1
        clear he
        go_wp2_with fail
        refine (l2Fit_res _ (andS A B) _ _ HLEN HWF rr).mono ?_
        rintro e w5 ⟨u5, rfl, r5, hb5⟩
        have y3 := HB.out.trans (hb5.mono HB.out.size)
        have g1 := G1.out w5 y3
        have g2 := G2.out w5 y3
        have b5 := b1.trans (y3.mono b1.size)
        have r6 : SRes (fitR (andS A B)) w.heap.size u5 (w5.setCell ⟨w.heap.size + 2, 0, none⟩ u5) := (r5.kept fun g hg _ => Below.heap_setCell _ _ _ _ (by show g ≠ w.heap.size + 2; omega)).mono (by omega)
        clear y3 hb5 r5 rr
        obtain ⟨a3, cap3, rfl, _⟩ := id r6
        go_wp2_with fail
        exact bodyPost_ret (v := .tuple #[.agg #[.slice a3 (fitR (andS A B)).length cap3], .bool (fitOk (andS A B))]) (by simp [results, Try.results49, go_sem, g1]) rfl ⟨_, by rw [HO.out], by rw [HR.out]; exact r6, by go_grown⟩

end Go.Proofs.Ytdhbjjolgmodjaa
