/- The contract of the model's RangeOr over this seat's translation: it answers as the plain functions of the spans tell, in a row of its own. Nothing that was there before the call has changed. Condition: at most 1048576 spans. -/
import Derived.Test.YtdhbjjolgmodjaaSown
import Derived.Deep.RegionHeld3
import Derived.BigQuiet
import Derived.Deep.RegionLaw
import Derived.IntWalk
namespace Go.Proofs.Ytdhbjjolgmodjaa
open Go.RowKit Go.Sort

/-- Whether the next span is one of the first row. -/
def tkA (A B : Sps) (i j : Nat) : Bool :=
  match A[i]?, B[j]? with
  | some a, some b => decide (a.1 ≤ b.1)
  | some _, none => true
  | none, _ => false
theorem or_takeA {A B G : Sps} {i j : Nat} {x : Int × Int} (h : A[i]? = some x) (ht : tkA A B i j = true) : orGo (A.drop i) (B.drop j) G = orGo (A.drop (i + 1)) (B.drop j) (orPush G x) := by
  obtain ⟨a, b⟩ := x
  rw [drop_at h]
  cases hB : B[j]? with
  | none =>
    have e : B.drop j = [] := List.drop_eq_nil_of_le (by simpa using hB)
    rw [e, orGo]
  | some y =>
    obtain ⟨c, d⟩ := y
    simp only [tkA, h, hB, decide_eq_true_eq] at ht
    rw [drop_at hB]
    rw [orGo, if_pos ht]
theorem or_takeB {A B G : Sps} {i j : Nat} {x : Int × Int} (h : B[j]? = some x) (ht : tkA A B i j = false) : orGo (A.drop i) (B.drop j) G = orGo (A.drop i) (B.drop (j + 1)) (orPush G x) := by
  obtain ⟨c, d⟩ := x
  rw [drop_at h]
  cases hA : A[i]? with
  | none =>
    have e : A.drop i = [] := List.drop_eq_nil_of_le (by simpa using hA)
    rw [e, orGo]
  | some y =>
    obtain ⟨a, b⟩ := y
    simp only [tkA, h, hA, decide_eq_false_iff_not] at ht
    rw [drop_at hA]
    rw [orGo, if_neg ht]

def Bd (G : Sps) : Prop := ∀ p ∈ G, 0 ≤ p.2 ∧ p.2 ≤ 9999999
theorem Bd.push {G : Sps} {x y : Int} (h : Bd G) (h0 : 0 ≤ y) (h1 : y ≤ 9999999) : Bd (orPush G (x, y)) := by
  unfold orPush
  split
  · intro p hp
    simp at hp
    subst hp
    exact ⟨h0, h1⟩
  · rename_i l hl
    have hm : l ∈ G := List.mem_of_getLast? hl
    have := h l hm
    split
    · intro p hp
      rcases List.mem_append.1 hp with hp | hp
      · exact h p (List.dropLast_subset _ hp)
      · simp at hp
        subst hp
        exact ⟨by simp only; omega, by simp only; omega⟩
    · intro p hp
      rcases List.mem_append.1 hp with hp | hp
      · exact h p hp
      · simp at hp
        subst hp
        exact ⟨h0, h1⟩
theorem orPush_len (G : Sps) (x : Int × Int) : (orPush G x).length ≤ G.length + 1 := by
  unfold orPush
  split
  · simp
  · split
    · simp
    · simp

/-- What the loop keeps. -/
def SOrRel (A B : Sps) (w1 : World) (si sj : Value) (wr : World) : Prop :=
  ∃ (i j : Nat) (G : Sps) (v : Value), i ≤ A.length ∧ j ≤ B.length ∧ si = .int .i64 (i : Int) ∧ sj = .int .i64 (j : Int) ∧ orS A B = orGo (A.drop i) (B.drop j) G ∧ G.length ≤ i + j ∧ Bd G ∧ BoxOwn w1 G v wr
/-- Behind the choice of the next span: it lies in its box. -/
def SOrMid (A B : Sps) (n : Nat) (G : Sps) (wr : World) (si sj : Value) (wx : World) : Prop :=
  ∃ (i j : Nat) (x y : Int), i ≤ A.length ∧ j ≤ B.length ∧ i + j = n + 1 ∧ si = .int .i64 (i : Int) ∧ sj = .int .i64 (j : Int) ∧ orS A B = orGo (A.drop i) (B.drop j) (orPush G (x, y)) ∧ 0 ≤ x ∧ 0 ≤ y ∧ x ≤ 9999999 ∧ y ≤ 9999999 ∧
    wr.heap.size < wx.heap.size ∧ wx.cell? ⟨wr.heap.size, 0, none⟩ = some (.int .i64 x) ∧ wx.cell? ⟨wr.heap.size, 1, none⟩ = some (.int .i64 y) ∧ Below wr.heap.size wr wx
theorem wf_get : ∀ {M : Sps} {lo : Int} {k : Nat} {x y : Int}, Wf lo M → M[k]? = some (x, y) → lo ≤ x ∧ x ≤ y ∧ y ≤ 9999999
  | [], _, _, _, _, _, h => by simp at h
  | (a, b) :: t, lo, 0, x, y, ⟨e1, e2, e3, _⟩, h => by
    simp at h
    obtain ⟨rfl, rfl⟩ := h
    exact ⟨e1, e2, e3⟩
  | (a, b) :: t, lo, k + 1, x, y, ⟨e1, e2, e3, e4⟩, h => by
    have := wf_get (k := k) e4 (by simpa using h)
    exact ⟨by omega, this.2.1, this.2.2⟩
theorem SOrMid.end {A B G G' : Sps} {w1 wx : World} {n i j : Nat} {x y : Int} {v : Value} (hi : i ≤ A.length) (hj : j ≤ B.length) (hs : i + j = n + 1) (he : orS A B = orGo (A.drop i) (B.drop j) (orPush G (x, y))) (hn : G.length ≤ n) (hd : Bd G) (h0 : 0 ≤ y) (h1 : y ≤ 9999999)
    (hG : G' = orPush G (x, y)) (hv : BoxOwn w1 G' v wx) : SOrRel A B w1 (.int .i64 (i : Int)) (.int .i64 (j : Int)) wx := by
  subst hG
  exact ⟨i, j, _, v, hi, hj, rfl, rfl, he, by have := orPush_len G (x, y); omega, hd.push h0 h1, hv⟩

/-- Whether the next span goes on the last one. -/
def extB (G : Sps) (x : Int) : Bool :=
  match G.getLast? with
  | some l => decide (x ≤ l.2 + 1)
  | none => false
theorem ext_snoc (G : Sps) (a b x : Int) : extB (G ++ [(a, b)]) x = decide (x ≤ b + 1) := by simp [extB]
theorem ext_no {G : Sps} {x y : Int} (h : extB G x = false) : G ++ [(x, y)] = orPush G (x, y) := by
  unfold extB at h
  rcases hG : G.getLast? with _ | ⟨a0, b0⟩
  · obtain rfl : G = [] := List.getLast?_eq_none_iff.1 hG
    rfl
  · rw [hG] at h
    simp only [decide_eq_false_iff_not] at h
    unfold orPush
    rw [hG]
    simp only
    rw [if_neg (by omega)]
theorem snoc_of {G : Sps} {l : Int × Int} (h : G.getLast? = some l) : ∃ G', G = G' ++ [l] := by
  obtain ⟨G', rfl⟩ := List.getLast?_eq_some_iff.1 h
  exact ⟨G', rfl⟩
theorem BoxOwn.setLast {w1 W : World} {G : Sps} {a b : Int} {g n cap : Nat} (h : BoxOwn w1 (G ++ [(a, b)]) (.slice (some ⟨g, 0, none⟩) n cap) W) (m : Int) :
    BoxOwn w1 (G ++ [(a, m)]) (.slice (some ⟨g, 0, none⟩) n cap) (W.setCell ⟨g, G.length * 2 + 1, none⟩ (.int .i64 m)) := by
  obtain ⟨g', cap', e, _, _, _, _, _, h6⟩ := h.last
  cases e
  exact h6 m

theorem BoxOwn.lastAt {w1 W : World} {av : Option Addr} {cv : Nat} {G G' : Sps} {a b : Int} (h : BoxOwn w1 G (.slice av G.length cv) W) (hG : G = G' ++ [(a, b)]) :
    ∃ g q, av = some ⟨g, 0, none⟩ ∧ w1.heap.size < g ∧ g < W.heap.size ∧ W.cell? ⟨g, q * 2 + 1, none⟩ = some (.int .i64 b) ∧ W.frozen? ⟨g, q * 2 + 1, none⟩ = false ∧ G.length = q + 1 ∧
      ∀ V, Below W.heap.size W V → ∀ m, BoxOwn w1 (G' ++ [(a, m)]) (.slice av G.length cv) (V.setCell ⟨g, q * 2 + 1, none⟩ (.int .i64 m)) := by
  subst hG
  obtain ⟨g, cap2, e, l1, l2, l3, l4, l5, l6⟩ := h.last
  rw [Value.slice.injEq] at e
  obtain ⟨rfl, e2, rfl⟩ := e
  refine ⟨g, G'.length, rfl, l1, l2, l4, l5, e2, fun V hV m => ?_⟩
  exact BoxOwn.setLast (h.grow hV) m

set_option maxRecDepth 100000 in
set_option maxHeartbeats 8000000 in
theorem specOr_own (v v' : Value) (A B : Sps) (w : World) (hl : A.length ≤ 1048576) (hm : B.length ≤ 1048576) (h : SpAt w w.heap.size v A) (h' : SpAt w w.heap.size v' B) : Calls Try.prog 46 #[.agg #[v], .agg #[v']] w (OTPost (orOk A B) (orR A B) w) := by
  have hh := h
  obtain ⟨a, cap, rfl, hcc⟩ := hh
  have HH := Lib.hid hcc
  clear hcc
  have hh := h'
  obtain ⟨a', cap', rfl, hcc⟩ := hh
  have HH' := Lib.hid hcc
  clear hcc
  obtain ⟨ti, hi, hz0, hz1, hz2⟩ := info_parts infoSpan
  have K := Lib.hid fun V (hV : SpAt V V.heap.size (.slice a A.length cap) A) => specRangeOk_any a cap A V hl hV
  have K' := Lib.hid fun V (hV : SpAt V V.heap.size (.slice a' B.length cap') B) => specRangeOk_any a' cap' B V hm hV
  have b0 := (((Below.refl w.heap.size w).alloc (Nat.le_refl _) (.cells #[.slice a A.length cap] 81)).alloc (by simp) (.cells #[.slice a' B.length cap'] 81)).alloc (by simp; omega) (.cells #[.slice none 0 0] 81)
  have hB : w.heap.size + 3 ≤ (((w.alloc (.cells #[.slice a A.length cap] 81)).alloc (.cells #[.slice a' B.length cap'] 81)).alloc (.cells #[.slice none 0 0] 81)).heap.size := by simp
  have hb := Below.refl (w.heap.size + 3) (((w.alloc (.cells #[.slice a A.length cap] 81)).alloc (.cells #[.slice a' B.length cap'] 81)).alloc (.cells #[.slice none 0 0] 81))
  have hs := (h.below b0).mono b0.size
  rcases hk : spOk A
  · have HO := Lib.hid (show orOk A B = false by simp [orOk, hk])
    have HR := Lib.hid (show orR A B = [] by simp [orR, hk])
    rw [hk] at K
    clear hk h h' K'
    go_enter Try.func46, Try.ntmps46
    go_wp2_with fail
    refine (rel hB hb (K.out _ hs)).mono ?_
    clear hb hs
    rintro e w1 ⟨rfl, hb⟩
    obtain ⟨hc, hf⟩ := (show (∀ b o, b < w.heap.size + 3 → w1.cell? ⟨b, o, none⟩ = _) ∧ (∀ b o, b < w.heap.size + 3 → w1.frozen? ⟨b, o, none⟩ = _) from ⟨fun b o h => hb.cell (p := ⟨b, o, none⟩) h, fun b o h => hb.frozen (p := ⟨b, o, none⟩) h⟩)
    have b1 := b0.trans (hb.mono (by omega))
    clear hb b0
    go_wp2_with fail
    exact bodyPost_ret (v := .tuple #[.agg #[.slice none 0 0], .bool false]) (by simp [results, Try.results46, go_sem, hc]) rfl ⟨_, by rw [HO.out], by rw [HR.out]; exact owns_nil _ _, by go_grown⟩
  rcases hk' : spOk B
  · have HO := Lib.hid (show orOk A B = false by simp [orOk, hk'])
    have HR := Lib.hid (show orR A B = [] by simp [orR, hk'])
    rw [hk] at K
    rw [hk'] at K'
    clear hk hk'
    go_enter Try.func46, Try.ntmps46
    go_wp2_with fail
    refine (rel hB hb (K.out _ hs)).mono ?_
    clear hb hs
    rintro e w1 ⟨rfl, hb⟩
    have hc := cells_of hb
    have b1 := b0.trans (hb.mono (by omega))
    have hs' := (h'.below b1).mono b1.size
    go_wp2_with fail
    refine (rel hB hb (K'.out _ hs')).mono ?_
    clear hb hc hs' b1
    rintro e w2 ⟨rfl, hb⟩
    obtain ⟨hc, hf⟩ := (show (∀ b o, b < w.heap.size + 3 → w2.cell? ⟨b, o, none⟩ = _) ∧ (∀ b o, b < w.heap.size + 3 → w2.frozen? ⟨b, o, none⟩ = _) from ⟨fun b o h => hb.cell (p := ⟨b, o, none⟩) h, fun b o h => hb.frozen (p := ⟨b, o, none⟩) h⟩)
    have b1 := b0.trans (hb.mono (by omega))
    clear hb b0
    go_wp2_with fail
    exact bodyPost_ret (v := .tuple #[.agg #[.slice none 0 0], .bool false]) (by simp [results, Try.results46, go_sem, hc]) rfl ⟨_, by rw [HO.out], by rw [HR.out]; exact owns_nil _ _, by go_grown⟩
  · obtain ⟨hwA, hlA⟩ := spOk_iff.1 hk
    obtain ⟨hwB, hlB⟩ := spOk_iff.1 hk'
    rw [hk] at K
    rw [hk'] at K'
    have HO := Lib.hid (show orOk A B = fitOk (orS A B) by rw [or_same hwA hwB]; simp [orOk, hk, hk'])
    have HR := Lib.hid (show orR A B = fitR (orS A B) by rw [or_same hwA hwB]; simp [orR, hk, hk'])
    clear hk hk'
    go_enter Try.func46, Try.ntmps46
    go_wp2_with fail
    refine (rel hB hb (K.out _ hs)).mono ?_
    clear hb hs
    rintro e w1 ⟨rfl, hb⟩
    have hc := cells_of hb
    have b1 := b0.trans (hb.mono (by omega))
    have hs' := (h'.below b1).mono b1.size
    go_wp2_with fail
    refine (rel hB hb (K'.out _ hs')).mono ?_
    clear hb hc hs' b1 w1
    rintro e w1 ⟨rfl, hb⟩
    have hc := cells_of hb
    have p0 : w1.cell? ⟨w.heap.size, 0, none⟩ = some (.slice a A.length cap) := (hc _ _ (by omega)).trans (by go_simp)
    have p1 : w1.cell? ⟨w.heap.size + 1, 0, none⟩ = some (.slice a' B.length cap') := (hc _ _ (by omega)).trans (by go_simp)
    have P2 := Lib.hid (show w1.cell? ⟨w.heap.size + 2, 0, none⟩ = some (.slice none 0 0) from (hc _ _ (by omega)).trans (by go_simp))
    have F2 := Lib.hid (show w1.frozen? ⟨w.heap.size + 2, 0, none⟩ = false from (hb.frozen (p := ⟨w.heap.size + 2, 0, none⟩) (by simp)).trans (by go_simp))
    have z1 : w.heap.size + 3 ≤ w1.heap.size := by have := hb.size; simp at this; omega
    have zl : w.heap.size < w1.heap.size := by omega
    have zm : w.heap.size + 1 < w1.heap.size := by omega
    have b1 := b0.trans (hb.mono (by omega))
    have G1 : Hid (∀ V, Below w1.heap.size w1 V → V.cell? ⟨w.heap.size + 2, 0, none⟩ = some (.slice none 0 0)) := Lib.hid fun V hV => (hV.cell (p := ⟨w.heap.size + 2, 0, none⟩) (by show w.heap.size + 2 < w1.heap.size; omega)).trans P2.out
    have G2 : Hid (∀ V, Below w1.heap.size w1 V → V.frozen? ⟨w.heap.size + 2, 0, none⟩ = false) := Lib.hid fun V hV => (hV.frozen (p := ⟨w.heap.size + 2, 0, none⟩) (by show w.heap.size + 2 < w1.heap.size; omega)).trans F2.out
    clear hb hc b0 h h'
    go_wp2_with fail
    go_loopw [7, 8] (fun si sj wr => SOrRel A B w1 si sj wr) (fun si sj _ => A.length + B.length - (intOf si).toNat - (intOf sj).toNat)
    case atStart => exact ⟨0, 0, [], .slice none 0 0, Nat.zero_le _, Nat.zero_le _, rfl, rfl, rfl, Nat.zero_le _, fun p hp => (by cases hp), World.ownsRow_nil _ _ _ _, by go_simp, by go_simp, (Below.refl _ _).alloc (Nat.le_refl _) _, by simp⟩
    case round =>
      obtain ⟨i, j, G, v, hiL, hjL, rfl, rfl, he, hn, hd, hbox⟩ := hrel
      have HE := Lib.hid he
      have HD := Lib.hid hd
      have HBX := Lib.hid hbox
      have q0 := (hbox.2.2.2.1.cell (p := ⟨w.heap.size, 0, none⟩) zl).trans p0
      have q1 := (hbox.2.2.2.1.cell (p := ⟨w.heap.size + 1, 0, none⟩) zm).trans p1
      have zr := hbox.2.2.2.2
      have za : w.heap.size < wr.heap.size := by omega
      have zb : w.heap.size + 1 < wr.heap.size := by omega
      have zi : i ≤ 40 := by omega
      have zj : j ≤ 40 := by omega
      by_cases hdone : i = A.length ∧ j = B.length
      · obtain ⟨rfl, rfl⟩ := hdone
        rw [List.drop_length, List.drop_length, show orGo [] [] G = G by rw [orGo]] at he
        have rr := Owns.mono hbox.1 (Nat.le_succ w1.heap.size)
        have HLEN : (orS A B).length ≤ 1048576 := by rw [he]; omega
        have HWF := (orS_fine hwA hwB).1
        rw [← he] at rr
        have HB := Lib.hid hbox.2.2.2.1
        have qv := hbox.2.1
        clear he hbox hd
        go_wp2_with fail
        refine (l2Fit_own _ (orS A B) _ _ HLEN HWF rr).mono ?_
        rintro e w5 ⟨u5, rfl, r5, hb5⟩
        have y3 := HB.out.trans (hb5.mono HB.out.size)
        have g1 := G1.out w5 y3
        have g2 := G2.out w5 y3
        have b5 := b1.trans (y3.mono b1.size)
        have r6 : Owns (w5.setCell ⟨w.heap.size + 2, 0, none⟩ u5) w.heap.size u5 (fitR (orS A B)) := Owns.mono (ownsRow_setCell_below r5 (show w.heap.size + 2 < w1.heap.size by omega) _) (by omega)
        obtain ⟨a3, cap3, rfl, _⟩ := id r6.res
        clear y3 hb5 r5 rr
        go_wp2_with fail
        exact bodyPost_ret (v := .tuple #[.agg #[.slice a3 (fitR (orS A B)).length cap3], .bool (fitOk (orS A B))]) (by simp [results, Try.results46, go_sem, g1]) rfl ⟨_, by rw [HO.out], by rw [HR.out]; exact r6, by go_grown⟩
      · clear he hbox hd
        go_upto_region 6 with fail
        go_cut [32] from 21 to 114 (fun p wx => p = .bool true ∧ wx = wr)
        case first =>
          by_cases hlt : i < A.length
          · have i1 : (i : Int) < (A.length : Int) := by omega
            go_wp2_with fail
            go_meet
            case rel => exact ⟨rfl, rfl⟩
          · have i1 : ¬ (i : Int) < (A.length : Int) := by omega
            have i2 : (j : Int) < (B.length : Int) := by omega
            go_wp2_with fail
            go_meet
            case rel => exact ⟨rfl, rfl⟩
        case rest =>
          obtain ⟨rfl, rfl⟩ := hcut
          rename World => wr
          go_upto_region 8 with fail
          go_cut [60] from 21 to 114 (fun p wx => p = .bool (tkA A B i j) ∧ Below (wr.heap.size + 1) (wr.alloc (.cells #[.int .i64 0, .int .i64 0] 139)) wx)
          case first =>
            by_cases hjB : j < B.length
            · rcases HH'.out with h1 | ⟨b', o', rfl, hBb', hcb'⟩
              · subst h1
                exact absurd hjB (by simp)
              have hz : ((j : Int) == (B.length : Int)) = false := by rw [beq_eq_false_iff_ne]; omega
              by_cases hiA : i < A.length
              · rcases HH.out with h1 | ⟨b, o, rfl, hBb, hcb⟩
                · subst h1
                  exact absurd hiA (by simp)
                obtain ⟨x, y, hxy⟩ : ∃ x y, A[i] = (x, y) := ⟨_, _, rfl⟩
                obtain ⟨x', y', hxy'⟩ : ∃ x y, B[j] = (x, y) := ⟨_, _, rfl⟩
                have c := hcb i hiA
                have c' := hcb' j hjB
                rw [hxy] at c
                rw [hxy'] at c'
                have bx := b1.trans (HBX.out.2.2.2.1.mono b1.size)
                have d0 := (bx.cell (p := ⟨b, o + i * 2, none⟩) hBb).trans c.1
                have d1 := (bx.cell (p := ⟨b', o' + j * 2, none⟩) hBb').trans c'.1
                have HT := Lib.hid (show tkA A B i j = decide (x ≤ x') by simp [tkA, List.getElem?_eq_getElem hiA, List.getElem?_eq_getElem hjB, hxy, hxy'])
                have bz : b < wr.heap.size := by omega
                have bz' : b' < wr.heap.size := by omega
                have i0 : (0 : Int) ≤ (i : Int) := by omega
                have i1 : (i : Int) < (A.length : Int) := by omega
                have j0 : (0 : Int) ≤ (j : Int) := by omega
                have j1 : (j : Int) < (B.length : Int) := by omega
                clear c c' hcb hcb' hxy hxy' bx
                simp only at d0 d1
                by_cases hle : x ≤ x'
                · have hd : decide (x ≤ x') = true := decide_eq_true hle
                  go_quiet (fail)
                  go_wp2_with fail
                  go_meet
                  case rel => exact ⟨by rw [HT.out, hd], ⟨rfl, rfl, rfl, Nat.le_refl _, fun _ _ => rfl⟩⟩
                · have hd : decide (x ≤ x') = false := decide_eq_false hle
                  go_quiet (fail)
                  go_wp2_with fail
                  go_meet
                  case rel => exact ⟨by rw [HT.out, hd], ⟨rfl, rfl, rfl, Nat.le_refl _, fun _ _ => rfl⟩⟩
              · have i2 : ¬ (i : Int) < (A.length : Int) := by omega
                have hd : decide ((i : Int) < (A.length : Int)) = false := decide_eq_false i2
                have HT := Lib.hid (show tkA A B i j = false by simp [tkA, List.getElem?_eq_none (show A.length ≤ i by omega)])
                go_quiet (fail)
                go_wp2_with fail
                go_meet
                case rel => exact ⟨by rw [HT.out], ⟨rfl, rfl, rfl, Nat.le_refl _, fun _ _ => rfl⟩⟩
            · obtain rfl : j = B.length := by omega
              have hiA : i < A.length := by omega
              have HT := Lib.hid (show tkA A B i B.length = true by simp [tkA, List.getElem?_eq_getElem hiA])
              go_quiet (fail)
              go_wp2_with fail
              go_meet
              case rel => exact ⟨by rw [HT.out], ⟨rfl, rfl, rfl, Nat.le_refl _, fun _ _ => rfl⟩⟩
          case rest =>
            rename World => wk
            obtain ⟨rfl, hb2⟩ := hcut
            have hb3 : Below wr.heap.size wr wk := ((Below.refl wr.heap.size wr).alloc (Nat.le_refl _) (.cells #[.int .i64 0, .int .i64 0] 139)).trans (hb2.mono (by omega))
            have x0 : wk.cell? ⟨wr.heap.size, 0, none⟩ = some (.int .i64 0) := (hb2.cell (p := ⟨wr.heap.size, 0, none⟩) (by simp)).trans (by go_simp)
            have x1 : wk.cell? ⟨wr.heap.size, 1, none⟩ = some (.int .i64 0) := (hb2.cell (p := ⟨wr.heap.size, 1, none⟩) (by simp)).trans (by go_simp)
            have xf0 : wk.frozen? ⟨wr.heap.size, 0, none⟩ = false := (hb2.frozen (p := ⟨wr.heap.size, 0, none⟩) (by simp)).trans (by go_simp)
            have xf1 : wk.frozen? ⟨wr.heap.size, 1, none⟩ = false := (hb2.frozen (p := ⟨wr.heap.size, 1, none⟩) (by simp)).trans (by go_simp)
            have sk : wr.heap.size + 1 ≤ wk.heap.size := by have := hb2.size; simpa using this
            have hbx := HBX.out.grow hb3
            have k0 := (hb3.cell (p := ⟨w.heap.size, 0, none⟩) za).trans q0
            have k1 := (hb3.cell (p := ⟨w.heap.size + 1, 0, none⟩) zb).trans q1
            have bk := b1.trans (hbx.2.2.2.1.mono b1.size)
            have HBK := Lib.hid hbx
            clear hb2 hbx q0 q1
            go_upto_if 60 with fail
            go_cut [7, 8] from 21 to 114 (fun si sj wx => SOrMid A B (i + j) G wr si sj wx)
            case first =>
              rcases htk : tkA A B i j
              · have hjB : j < B.length := by
                  by_cases h : j < B.length
                  · exact h
                  · have hiA : i < A.length := by omega
                    simp [tkA, List.getElem?_eq_getElem hiA, List.getElem?_eq_none (show B.length ≤ j by omega)] at htk
                rcases HH'.out with h1 | ⟨b', o', rfl, hBb', hcb'⟩
                · subst h1
                  exact absurd hjB (by simp)
                obtain ⟨x', y', hxy'⟩ : ∃ x y, B[j] = (x, y) := ⟨_, _, rfl⟩
                have c' := hcb' j hjB
                rw [hxy'] at c'
                have d0 := (bk.cell (p := ⟨b', o' + j * 2, none⟩) hBb').trans c'.1
                have d1 := (bk.cell (p := ⟨b', o' + j * 2 + 1, none⟩) hBb').trans c'.2
                have hX : B[j]? = some (x', y') := by rw [List.getElem?_eq_getElem hjB, hxy']
                have hr := wf_get hwB hX
                have HO1 := Lib.hid (show orS A B = orGo (A.drop i) (B.drop (j + 1)) (orPush G (x', y')) by rw [HE.out, or_takeB hX htk])
                have j0 : (0 : Int) ≤ (j : Int) := by omega
                have j1 : (j : Int) < (B.length : Int) := by omega
                have bz' : b' ≠ wr.heap.size := by omega
                clear c' hcb' hxy' hX htk
                simp only at d0 d1
                go_wp2_with fail
                go_meet
                case rel => exact ⟨i, j + 1, x', y', by omega, by omega, by omega, rfl, by go_num, HO1.out, by omega, by omega, by omega, by omega, by simp; omega, by go_simp, by go_simp, by go_grown⟩
              · have hiA : i < A.length := by
                  by_cases h : i < A.length
                  · exact h
                  · simp [tkA, List.getElem?_eq_none (show A.length ≤ i by omega)] at htk
                rcases HH.out with h1 | ⟨b', o', rfl, hBb', hcb'⟩
                · subst h1
                  exact absurd hiA (by simp)
                obtain ⟨x', y', hxy'⟩ : ∃ x y, A[i] = (x, y) := ⟨_, _, rfl⟩
                have c' := hcb' i hiA
                rw [hxy'] at c'
                have d0 := (bk.cell (p := ⟨b', o' + i * 2, none⟩) hBb').trans c'.1
                have d1 := (bk.cell (p := ⟨b', o' + i * 2 + 1, none⟩) hBb').trans c'.2
                have hX : A[i]? = some (x', y') := by rw [List.getElem?_eq_getElem hiA, hxy']
                have hr := wf_get hwA hX
                have HO1 := Lib.hid (show orS A B = orGo (A.drop (i + 1)) (B.drop j) (orPush G (x', y')) by rw [HE.out, or_takeA hX htk])
                have j0 : (0 : Int) ≤ (i : Int) := by omega
                have j1 : (i : Int) < (A.length : Int) := by omega
                have bz' : b' ≠ wr.heap.size := by omega
                clear c' hcb' hxy' hX htk
                simp only at d0 d1
                go_wp2_with fail
                go_meet
                case rel => exact ⟨i + 1, j, x', y', by omega, by omega, by omega, by go_num, rfl, HO1.out, by omega, by omega, by omega, by omega, by simp; omega, by go_simp, by go_simp, by go_grown⟩
            case rest =>
              rename World => wm
              obtain ⟨i2, j2, x, y, hi2, hj2, hs2, rfl, rfl, he2, hx0, hy0, hx1, hy1, zm2, m0, m1, hbm⟩ := hcut
              clear HBK k0 k1 bk x0 x1 xf0 xf1 sk hb3
              have hbox2 := HBX.out.grow hbm
              have HB2 := Lib.hid hbox2
              have HE2 := Lib.hid he2
              have qv := hbox2.2.1
              have qf := hbox2.2.2.1
              have zr2 := hbox2.2.2.2.2
              have znw : w1.heap.size ≠ wr.heap.size := by omega
              have znw' : ¬ wr.heap.size = w1.heap.size := by omega
              clear he2
              obtain ⟨av, cv, rfl, _⟩ := hbox2.1.res
              go_upto_region 14 with fail
              go_cut [92] from 21 to 114 (fun p wx => p = .bool (extB G x) ∧ Below wm.heap.size wm wx)
              case first =>
                rcases hG : G.getLast? with _ | ⟨a0, b0⟩
                · obtain rfl : G = [] := List.getLast?_eq_none_iff.1 hG
                  have HT := Lib.hid (show extB [] x = false from rfl)
                  have n0 : decide (0 < ([] : Sps).length) = false := by simp
                  clear hG
                  go_quiet (fail)
                  go_wp2_with fail
                  go_meet
                  case rel => exact ⟨by rw [HT.out], ⟨rfl, rfl, rfl, Nat.le_refl _, fun _ _ => rfl⟩⟩
                · obtain ⟨G', hGG⟩ := snoc_of hG
                  have HT := Lib.hid (show extB G x = decide (x ≤ b0 + 1) by rw [hGG]; exact ext_snoc G' a0 b0 x)
                  obtain ⟨g, q, rfl, l1, l2, l4, l5, lq, l6⟩ := hbox2.lastAt hGG
                  have n1 : 0 ≤ b0 ∧ b0 ≤ 9999999 := HD.out (a0, b0) (by rw [hGG]; simp)
                  obtain ⟨n2, n3⟩ := n1
                  have n0 : decide (0 < G.length) = true := decide_eq_true (by omega)
                  have n4 : (0 : Int) ≤ (q : Int) := by omega
                  have n5 : (q : Int) < (G.length : Int) := by omega
                  have wr0 : (G.length : Int) - 1 = (q : Int) := by omega
                  have wr1 : IntKind.i64.wrap ((G.length : Int) - 1) = (q : Int) := by rw [wr0]; exact IntWalk.i64_in _ (by omega)
                  clear l6 hG l5 hbox2 lq hGG wr0
                  by_cases hle : x ≤ b0 + 1
                  · have hd2 : decide (x ≤ b0 + 1) = true := decide_eq_true hle
                    go_quiet (fail)
                    go_wp2_with fail
                    go_meet
                    case rel => exact ⟨by rw [HT.out, hd2], ⟨rfl, rfl, rfl, Nat.le_refl _, fun _ _ => rfl⟩⟩
                  · have hd2 : decide (x ≤ b0 + 1) = false := decide_eq_false hle
                    go_quiet (fail)
                    go_wp2_with fail
                    go_meet
                    case rel => exact ⟨by rw [HT.out, hd2], ⟨rfl, rfl, rfl, Nat.le_refl _, fun _ _ => rfl⟩⟩
              case rest =>
                rename World => wd
                obtain ⟨rfl, hbd⟩ := hcut
                have hbx := HB2.out.grow hbd
                have HB3 := Lib.hid hbx
                have k0 := (hbd.cell (p := ⟨wr.heap.size, 0, none⟩) zm2).trans m0
                have k1 := (hbd.cell (p := ⟨wr.heap.size, 1, none⟩) zm2).trans m1
                have qc := hbx.2.1
                have qf' := hbx.2.2.1
                have qs := hbx.2.2.2.2
                clear m0 m1 qv qf hbox2
                rcases hext : extB G x
                · have HG := Lib.hid (ext_no (y := y) hext)
                  obtain ⟨v4, hbx4⟩ : ∃ v, BoxOwn w1 G v wd := ⟨_, hbx⟩
                  clear hbx qc qf' qs HB2 HB3 HBX
                  have hbx := hbx4
                  have qc := hbx.2.1
                  have qf' := hbx.2.2.1
                  have qs := hbx.2.2.2.2
                  clear hbx4
                  have hbw := hbx.grow ((Below.refl wd.heap.size wd).alloc (Nat.le_refl _) (.cells #[.int .i64 x, .int .i64 y] 139))
                  have o2 := hbw.1
                  have HBW := Lib.hid hbw
                  clear hbx hbw hext
                  have hn80 : G.length ≤ 80 := by omega
                  go_wp2_with (at_builtin; refine wpList_append_lies _ rfl _ _ 79 rfl (w1.heap.size + 1) 139 ti (.agg #[.int .i64 0, .int .i64 0]) 2 16 Try.underlying79 hi hz0 hz1 hz2 rfl (by decide) _ _ _ rfl o2 ⟨wd.heap.size, 0, none⟩ 1 1 [.int .i64 x, .int .i64 y] rfl rfl (two_new0 wd x y) (two_one _ _) (by omega) (by unfold maxLen; omega) (by omega) (by simp; omega) _ rfl ?_)
                  intro g2 cp w2 hown2 hgrow hat hlt2
                  have hbp := HBW.out.push hown2 hgrow
                  have e0 := o2.far hgrow (by omega) HBW.out.2.1
                  have f0 := o2.farf hgrow (by omega) HBW.out.2.2.2.2 HBW.out.2.2.1
                  have HP := Lib.hid (SOrMid.end hi2 hj2 hs2 HE2.out hn HD.out hy0 hy1 HG.out hbp)
                  clear hbp hown2 hgrow hat o2 qc qf' k0 k1
                  go_wp2_with fail
                  go_roundw
                  case rel => exact HP.out
                  case measure => simp [intOf]; omega
                · rcases hG : G.getLast? with _ | ⟨a0, b0⟩
                  · simp [extB, hG] at hext
                  obtain ⟨G', hGG⟩ := snoc_of hG
                  rw [hGG, ext_snoc] at hext
                  have hle : x ≤ b0 + 1 := of_decide_eq_true hext
                  have HG := Lib.hid (show orPush G (x, y) = G' ++ [(a0, max b0 y)] by rw [hGG]; exact orPush_yes (G := G') (a := a0) (y := y) hle)
                  obtain ⟨g, q, rfl, l1, l2, l4, l5, lq, l6⟩ := hbx.lastAt hGG
                  have L6 := Lib.hid l6
                  have n0 : g ≠ wr.heap.size := by
                    obtain ⟨g', q', e', _, hlt', _⟩ := HBX.out.lastAt hGG
                    cases e'
                    omega
                  obtain ⟨mx, hmx⟩ : ∃ mx, max b0 y = mx := ⟨_, rfl⟩
                  have HMX := Lib.hid hmx
                  have emax : (if b0 < y then y else b0) = mx := by rw [← hmx]; split <;> omega
                  have n1 : g ≠ w1.heap.size := by omega
                  have n4 : (0 : Int) ≤ (q : Int) := by omega
                  have n5 : (q : Int) < (G.length : Int) := by omega
                  have wr0 : (G.length : Int) - 1 = (q : Int) := by omega
                  have wr1 : IntKind.i64.wrap ((G.length : Int) - 1) = (q : Int) := by rw [wr0]; exact IntWalk.i64_in _ (by omega)
                  clear l6 hG hbx hmx hle hext lq hGG wr0
                  go_wp2_with fail
                  go_region_law (fail)
                  all_goals
                    go_wp2_with fail
                    go_roundw
                    case rel => exact SOrMid.end hi2 hj2 hs2 HE2.out hn HD.out hy0 hy1 (by rw [HG.out, HMX.out]) ((L6.out _ (Below.refl _ _) _).grow (Below.refl _ _).drew)
                    case measure => simp [intOf]; omega

theorem specOr_any (v v' : Value) (A B : Sps) (w : World) (hl : A.length ≤ 1048576) (hm : B.length ≤ 1048576) (h : SpAt w w.heap.size v A) (h' : SpAt w w.heap.size v' B) : Calls Try.prog 46 #[.agg #[v], .agg #[v']] w (TPost (orOk A B) (orR A B) w) :=
  (specOr_own v v' A B w hl hm h h').mono fun _ _ k => k.tp

end Go.Proofs.Ytdhbjjolgmodjaa
