/- The model's RangeAll, RangeOne, RangeFrom and l2Fit over this seat's translation once more: what they answer is a row of their own that can be grown. Also: what it is to change the last span of such a row. Condition: the spans of l2Fit are in order. -/
import Derived.Test.YtgnjhmmedogcoaaSpand
import Derived.Test.YtgnjhmmedogcoaaImfrom
namespace Go.Proofs.Ytgnjhmmedogcoaa
open Go.RowKit Go.Sort

/-- A range by value whose spans are a row of its own, new since w. -/
def OPost (L : Sps) (w : World) (e : Ending) (w' : World) : Prop := ∃ u, e = .returned (.agg #[u]) ∧ Owns w' w.heap.size u L ∧ Below w.heap.size w w'
def OTPost (ok : Bool) (L : Sps) (w : World) (e : Ending) (w' : World) : Prop := ∃ u, e = .returned (.tuple #[.agg #[u], .bool ok]) ∧ Owns w' w.heap.size u L ∧ Below w.heap.size w w'
set_option maxRecDepth 100000 in
theorem OPost.rp {L : Sps} {w : World} {e : Ending} {w' : World} (h : OPost L w e w') : RP L w e w' := by
  obtain ⟨u, rfl, ho, hb⟩ := h
  exact ⟨u, rfl, ho.res, hb⟩
set_option maxRecDepth 100000 in
theorem OTPost.tp {ok : Bool} {L : Sps} {w : World} {e : Ending} {w' : World} (h : OTPost ok L w e w') : TPost ok L w e w' := by
  obtain ⟨u, rfl, ho, hb⟩ := h
  exact ⟨u, rfl, ho.res, hb⟩

set_option maxRecDepth 100000 in
theorem Owns.mono {w : World} {B B' : Nat} {v : Value} {L : Sps} (h : Owns w B v L) (hb : B' ≤ B) : Owns w B' v L := by
  obtain ⟨h1, h2⟩ := h
  refine ⟨h1, ?_⟩
  rcases h2 with h2 | ⟨g, cap, cur, e, hg, r⟩
  · exact .inl h2
  · exact .inr ⟨g, cap, cur, e, Nat.le_trans hb hg, r⟩

set_option maxRecDepth 100000 in
theorem owns_nil (B : Nat) (w : World) : Owns w B (.slice none 0 0) [] := World.ownsRow_nil _ _ _ _
set_option maxRecDepth 100000 in
theorem own_one {w : World} {g B : Nat} {x y : Int} (h : SpBlk w g 1 [(x, y)]) (hg : B ≤ g) : Owns w B (.slice (some ⟨g, 0, none⟩) 1 1) [(x, y)] := by
  obtain ⟨C, hC, hs, _, hc⟩ := h
  obtain ⟨h0, h1⟩ := hc 0 (by simp)
  have e : C.toList = [.int .i64 x, .int .i64 y] := by
    have hl : C.toList.length = 2 := by simpa using hs
    match hx : C.toList, hl with
    | [p, q], _ =>
      have e0 : C.toList[0]? = some (.int .i64 x) := by simpa using h0
      have e1 : C.toList[1]? = some (.int .i64 y) := by simpa using h1
      rw [hx] at e0 e1
      simp at e0 e1
      rw [e0, e1]
  exact ⟨rfl, .inr ⟨g, 1, C, rfl, hg, hC, Nat.le_refl _, by decide, by simpa using hs, by rw [e]; rfl⟩⟩

set_option maxRecDepth 100000 in
set_option maxHeartbeats 400000 in
theorem specAll_own (w : World) : Calls Try.prog 99 #[] w (OPost [(0, 9999999)] w) := by
  have hs := one_span (w.alloc (.cells #[.slice (some ⟨w.heap.size + 1, 0, none⟩) 1 1] 57)) 0 9999999
  rw [show (w.alloc (.cells #[.slice (some ⟨w.heap.size + 1, 0, none⟩) 1 1] 57)).heap.size = w.heap.size + 1 from by simp] at hs
  go_enter Try.func99, Try.ntmps99
  go_wp2
  refine bodyPost_ret (v := .agg #[.slice (some ⟨w.heap.size + 1, 0, none⟩) 1 1]) (by simp [results, Try.results99, go_sem]) rfl ⟨_, rfl, own_one ?_ (by omega), ?_⟩
  · exact hs
  · go_grown

set_option maxRecDepth 100000 in
set_option maxHeartbeats 1000000 in
theorem specOne_own (a b c d : Int) (w : World) : Calls Try.prog 100 #[ver a b c d] w (OPost (oneL a b c d) w) := by
  have K := Lib.hid fun V => specOk_any a b c d V
  have R := Lib.hid fun V => specRank_any a b c d V
  have hB : w.heap.size + 2 ≤ ((w.alloc (.cells #[.int .i64 a, .int .i64 b, .int .i64 c, .int .i64 d] 61)).alloc (.cells #[.slice none 0 0] 57)).heap.size := by simp
  have hb := Below.refl (w.heap.size + 2) ((w.alloc (.cells #[.int .i64 a, .int .i64 b, .int .i64 c, .int .i64 d] 61)).alloc (.cells #[.slice none 0 0] 57))
  rcases hk : vOk a b c d
  · have HL := Lib.hid (show oneL a b c d = [] by simp [oneL, hk])
    rw [hk] at K
    clear hk R
    go_enter Try.func100, Try.ntmps100
    go_wp2_with fail
    refine (rel hB hb (K.out _)).mono ?_
    clear hb
    rintro e w1 ⟨rfl, hb⟩
    obtain ⟨hc, hf⟩ := (show (∀ b o, b < w.heap.size + 2 → w1.cell? ⟨b, o, none⟩ = _) ∧ (∀ b o, b < w.heap.size + 2 → w1.frozen? ⟨b, o, none⟩ = _) from ⟨fun b o h => hb.cell (p := ⟨b, o, none⟩) h, fun b o h => hb.frozen (p := ⟨b, o, none⟩) h⟩)
    have hbx := (((Below.refl w.heap.size w).alloc (Nat.le_refl _) (.cells #[.int .i64 a, .int .i64 b, .int .i64 c, .int .i64 d] 61)).alloc (by simp) (.cells #[.slice none 0 0] 57)).trans (hb.mono (by omega))
    go_wp2_with fail
    exact bodyPost_ret (v := .agg #[.slice none 0 0]) (by simp [results, Try.results100, go_sem, hc]) rfl ⟨_, rfl, by rw [HL.out]; exact owns_nil _ _, by go_grown⟩
  · rw [show oneL a b c d = [(rk a b c d, rk a b c d)] by simp [oneL, hk]]
    rw [show vRank a b c d = rk a b c d from by simp [vRank, hk]] at R
    rw [hk] at K
    clear hk
    generalize rk a b c d = r at *
    go_enter Try.func100, Try.ntmps100
    go_wp2_with fail
    refine (rel hB hb (K.out _)).mono ?_
    clear hb
    rintro e w1 ⟨rfl, hb⟩
    obtain ⟨hc, hf⟩ := (show (∀ b o, b < w.heap.size + 2 → w1.cell? ⟨b, o, none⟩ = _) ∧ (∀ b o, b < w.heap.size + 2 → w1.frozen? ⟨b, o, none⟩ = _) from ⟨fun b o h => hb.cell (p := ⟨b, o, none⟩) h, fun b o h => hb.frozen (p := ⟨b, o, none⟩) h⟩)
    go_wp2_with fail
    go_region_with ((go_at_call 66; refine (rel hB (by first | exact hb.drew | exact hb) (R.out _)).mono ?_; clear hc hf hb; rintro e w1 ⟨rfl, hb⟩; obtain ⟨hc, hf⟩ := (show (∀ b o, b < w.heap.size + 2 → w1.cell? ⟨b, o, none⟩ = _) ∧ (∀ b o, b < w.heap.size + 2 → w1.frozen? ⟨b, o, none⟩ = _) from ⟨fun b o h => hb.cell (p := ⟨b, o, none⟩) h, fun b o h => hb.frozen (p := ⟨b, o, none⟩) h⟩); have z1 : w.heap.size + 1 < w1.heap.size := by (have := hb.size; simp at this; omega)))
    all_goals
      have hbx := (((Below.refl w.heap.size w).alloc (Nat.le_refl _) (.cells #[.int .i64 a, .int .i64 b, .int .i64 c, .int .i64 d] 61)).alloc (by simp) (.cells #[.slice none 0 0] 57)).trans (hb.mono (by omega))
      go_wp2_with fail
      exact bodyPost_ret (v := .agg #[.slice (some ⟨w1.heap.size, 0, none⟩) 1 1]) (by simp [results, Try.results100, go_sem, hc, z1]) rfl ⟨_, rfl, own_one (one_span_set _ _ _ _ _) (by omega), by go_grown⟩

set_option maxRecDepth 100000 in
set_option maxHeartbeats 1000000 in
theorem specFrom_own (a b c d : Int) (w : World) : Calls Try.prog 101 #[ver a b c d] w (OPost (fromL a b c d) w) := by
  have K := Lib.hid fun V => specOk_any a b c d V
  have R := Lib.hid fun a b c d V => specRank_any a b c d V
  have b0 := ((Below.refl w.heap.size w).alloc (Nat.le_refl _) (.cells #[.int .i64 a, .int .i64 b, .int .i64 c, .int .i64 d] 61)).alloc (by simp) (.cells #[.slice none 0 0] 57)
  have hB : w.heap.size + 2 ≤ ((w.alloc (.cells #[.int .i64 a, .int .i64 b, .int .i64 c, .int .i64 d] 61)).alloc (.cells #[.slice none 0 0] 57)).heap.size := by simp
  have hb := Below.refl (w.heap.size + 2) ((w.alloc (.cells #[.int .i64 a, .int .i64 b, .int .i64 c, .int .i64 d] 61)).alloc (.cells #[.slice none 0 0] 57))
  rcases hk : vOk a b c d
  · have HL := Lib.hid (show fromL a b c d = [] by simp [fromL, hk])
    rw [hk] at K
    clear hk R
    go_enter Try.func101, Try.ntmps101
    go_wp2_with fail
    refine (rel hB hb (K.out _)).mono ?_
    clear hb
    rintro e w1 ⟨rfl, hb⟩
    obtain ⟨hc, hf⟩ := (show (∀ b o, b < w.heap.size + 2 → w1.cell? ⟨b, o, none⟩ = _) ∧ (∀ b o, b < w.heap.size + 2 → w1.frozen? ⟨b, o, none⟩ = _) from ⟨fun b o h => hb.cell (p := ⟨b, o, none⟩) h, fun b o h => hb.frozen (p := ⟨b, o, none⟩) h⟩)
    have hbx := b0.trans (hb.mono (by omega))
    clear hb
    go_wp2_with fail
    exact bodyPost_ret (v := .agg #[.slice none 0 0]) (by simp [results, Try.results101, go_sem, hc]) rfl ⟨_, rfl, by rw [HL.out]; exact owns_nil _ _, by go_grown⟩
  · by_cases ha : a = 0
    · have HL := Lib.hid (show fromL a b c d = [(vRank a b c d, vRank 0 b 99 0)] by unfold fromL; rw [if_pos hk, if_pos ha])
      rw [hk] at K
      clear hk
      subst ha
      go_enter Try.func101, Try.ntmps101
      go_wp2_with fail
      refine (rel hB hb (K.out _)).mono ?_
      clear hb
      rintro e w1 ⟨rfl, hb⟩
      have hc := cells_of hb
      go_wp2_with fail
      refine (rel hB hb (R.out _ _ _ _ _)).mono ?_
      clear hb hc
      rintro e w2 ⟨rfl, hb⟩
      have hc := cells_of hb
      go_wp2_with fail
      refine (rel hB hb (R.out _ _ _ _ _)).mono ?_
      clear hb hc
      rintro e w3 ⟨rfl, hb⟩
      have hc := cells_of hb
      go_wp2_with fail
      refine (rel hB hb (R.out _ _ _ _ _)).mono ?_
      clear hb hc
      rintro e w4 ⟨rfl, hb⟩
      obtain ⟨hc, hf⟩ := (show (∀ b o, b < w.heap.size + 2 → w4.cell? ⟨b, o, none⟩ = _) ∧ (∀ b o, b < w.heap.size + 2 → w4.frozen? ⟨b, o, none⟩ = _) from ⟨fun b o h => hb.cell (p := ⟨b, o, none⟩) h, fun b o h => hb.frozen (p := ⟨b, o, none⟩) h⟩)
      have z1 : w.heap.size + 2 ≤ w4.heap.size := by have := hb.size; simp at this; omega
      have z2 : w.heap.size + 1 < w4.heap.size := by omega
      have hbx := b0.trans (hb.mono (by omega))
      clear hb
      go_wp2_with fail
      exact bodyPost_ret (v := .agg #[.slice (some ⟨w4.heap.size, 0, none⟩) 1 1]) (by simp [results, Try.results101, go_sem, hc, z2]) rfl ⟨_, rfl, by rw [HL.out]; exact own_one (one_span_set _ _ _ _ _) (by omega), by go_grown⟩
    · have HL := Lib.hid (show fromL a b c d = [(vRank a b c d, vRank a 99 99 0)] by unfold fromL; rw [if_pos hk, if_neg ha])
      rw [hk] at K
      clear hk
      have hz : (a == 0) = false := by simp [ha]
      go_enter Try.func101, Try.ntmps101
      go_wp2_with fail
      refine (rel hB hb (K.out _)).mono ?_
      clear hb
      rintro e w1 ⟨rfl, hb⟩
      have hc := cells_of hb
      go_wp2_with fail
      refine (rel hB hb (R.out _ _ _ _ _)).mono ?_
      clear hb hc
      rintro e w2 ⟨rfl, hb⟩
      have hc := cells_of hb
      go_wp2_with fail
      refine (rel hB hb (R.out _ _ _ _ _)).mono ?_
      clear hb hc
      rintro e w4 ⟨rfl, hb⟩
      obtain ⟨hc, hf⟩ := (show (∀ b o, b < w.heap.size + 2 → w4.cell? ⟨b, o, none⟩ = _) ∧ (∀ b o, b < w.heap.size + 2 → w4.frozen? ⟨b, o, none⟩ = _) from ⟨fun b o h => hb.cell (p := ⟨b, o, none⟩) h, fun b o h => hb.frozen (p := ⟨b, o, none⟩) h⟩)
      have z1 : w.heap.size + 2 ≤ w4.heap.size := by have := hb.size; simp at this; omega
      have z2 : w.heap.size + 1 < w4.heap.size := by omega
      have hbx := b0.trans (hb.mono (by omega))
      clear hb
      go_wp2_with fail
      exact bodyPost_ret (v := .agg #[.slice (some ⟨w4.heap.size, 0, none⟩) 1 1]) (by simp [results, Try.results101, go_sem, hc, z2]) rfl ⟨_, rfl, by rw [HL.out]; exact own_one (one_span_set _ _ _ _ _) (by omega), by go_grown⟩


set_option maxRecDepth 100000 in
theorem l2Fit_own (v : Value) (L : Sps) (B : Nat) (w : World) (hn : L.length ≤ 1048576) (hwf : Wf 0 L) (h : Owns w B v L) :
    Calls Try.prog 109 #[.agg #[v]] w fun e w' => ∃ u, e = .returned (.tuple #[.agg #[u], .bool (fitOk L)]) ∧ Owns w' B u (fitR L) ∧ Below w.heap.size w w' := by
  have ha := h.res.at
  obtain ⟨a, cap, rfl, _⟩ := h.res
  refine (l2Fit_any a cap L w hn ha).mono ?_
  rintro e w' ⟨rfl, hb⟩
  have e1 : spOk L = fitOk L := spOk_wf hwf
  refine ⟨_, by rw [e1], ?_, hb⟩
  unfold fitOk fitR
  by_cases hc : L.length ≤ 40
  · rw [if_pos hc, if_pos (decide_eq_true hc)]
    exact Owns.below h hb
  · rw [if_neg hc, if_neg (by simp [hc])]
    exact owns_nil _ _

set_option maxRecDepth 100000 in
theorem flat_set (G : Sps) (a b m : Int) : (flat (G ++ [(a, b)])).set (G.length * 2 + 1) (.int .i64 m) = flat (G ++ [(a, m)]) := by
  rw [flat_append, flat_append, List.set_append, if_neg (by rw [flat_len]; omega), flat_len]
  rw [show G.length * 2 + 1 - G.length * 2 = 1 by omega]
  rfl

set_option maxRecDepth 100000 in
/-- The last span of a row of one's own: where it lies, that it may be written, and what the row is then. -/
theorem Owns.last {W : World} {B : Nat} {v : Value} {G : Sps} {a b : Int} (h : Owns W B v (G ++ [(a, b)])) :
    ∃ g cap, v = .slice (some ⟨g, 0, none⟩) (G.length + 1) cap ∧ B ≤ g ∧ g < W.heap.size ∧ W.cell? ⟨g, G.length * 2, none⟩ = some (.int .i64 a) ∧ W.cell? ⟨g, G.length * 2 + 1, none⟩ = some (.int .i64 b) ∧
      W.frozen? ⟨g, G.length * 2 + 1, none⟩ = false ∧ ∀ m, Owns (W.setCell ⟨g, G.length * 2 + 1, none⟩ (.int .i64 m)) B v (G ++ [(a, m)]) := by
  have hs := h.res
  obtain ⟨hl, ⟨rfl, hn⟩ | ⟨g, cap, cur, rfl, hb, hg, hnc, hcm, hcs, htk⟩⟩ := h
  · simp at hn
  have hlen : (G ++ [(a, b)]).length = G.length + 1 := by simp
  rw [hlen] at hnc htk
  have hf := flat_at (G ++ [(a, b)]) G.length (by simp)
  rw [List.getElem_append_right (Nat.le_refl _)] at hf
  simp only [Nat.sub_self, List.getElem_cons_zero] at hf
  rw [← htk, List.getElem?_take, List.getElem?_take, if_pos (by omega), if_pos (by omega)] at hf
  refine ⟨g, cap, by rw [hlen], hb, (Array.getElem?_eq_some_iff.1 hg).1, ?_, ?_, by simp [World.frozen?, hg], fun m => ⟨by rw [flat_len], .inr ⟨g, cap, cur.setIfInBounds (G.length * 2 + 1) (.int .i64 m), by simp, hb, ?_, by simpa using hnc, hcm, by simpa using hcs, ?_⟩⟩⟩
  · rw [cell_of_row W g _ cur _ (0, 0) hg]; simpa using hf.1
  · rw [cell_of_row W g _ cur _ (0, 0) hg]; simpa using hf.2
  · simp [World.setCell, Array.getElem?_modify, hg]
  · rw [show (G ++ [(a, m)]).length = G.length + 1 by simp, Array.toList_setIfInBounds, List.take_set, htk, flat_set]

set_option maxRecDepth 100000 in
theorem BoxOwn.last {w1 W : World} {v : Value} {G : Sps} {a b : Int} (h : BoxOwn w1 (G ++ [(a, b)]) v W) :
    ∃ g cap, v = .slice (some ⟨g, 0, none⟩) (G.length + 1) cap ∧ w1.heap.size < g ∧ g < W.heap.size ∧ W.cell? ⟨g, G.length * 2, none⟩ = some (.int .i64 a) ∧ W.cell? ⟨g, G.length * 2 + 1, none⟩ = some (.int .i64 b) ∧
      W.frozen? ⟨g, G.length * 2 + 1, none⟩ = false ∧ ∀ m, BoxOwn w1 (G ++ [(a, m)]) v (W.setCell ⟨g, G.length * 2 + 1, none⟩ (.int .i64 m)) := by
  obtain ⟨h1, h2, h3, h4, h5⟩ := h
  obtain ⟨g, cap, rfl, k1, k2, k3, k4, k5, k6⟩ := h1.last
  refine ⟨g, cap, rfl, by omega, k2, k3, k4, k5, fun m => ⟨k6 m, ?_, ?_, h4.setCell (by show w1.heap.size ≤ g; omega) _, by simpa [World.setCell] using h5⟩⟩
  · exact (World.cell?_of_block (a := ⟨w1.heap.size, 0, none⟩) (Below.heap_setCell _ _ _ _ (by show w1.heap.size ≠ g; omega))).trans h2
  · have : (W.setCell ⟨g, G.length * 2 + 1, none⟩ (.int .i64 m)).heap[w1.heap.size]? = W.heap[w1.heap.size]? := Below.heap_setCell _ _ _ _ (by show w1.heap.size ≠ g; omega)
    simpa [World.frozen?, this] using h3

set_option maxRecDepth 100000 in
theorem orPush_nil (x : Int × Int) : orPush [] x = [x] := rfl
set_option maxRecDepth 100000 in
theorem orPush_yes {G : Sps} {a b x y : Int} (h : x ≤ b + 1) : orPush (G ++ [(a, b)]) (x, y) = G ++ [(a, max b y)] := by
  simp only [orPush, List.getLast?_append, List.getLast?_singleton, Option.some_or, List.dropLast_concat]
  rw [if_pos (by omega)]
set_option maxRecDepth 100000 in
theorem orPush_no {G : Sps} {a b x y : Int} (h : ¬ x ≤ b + 1) : orPush (G ++ [(a, b)]) (x, y) = G ++ [(a, b)] ++ [(x, y)] := by
  simp only [orPush, List.getLast?_append, List.getLast?_singleton, Option.some_or, List.dropLast_concat]
  rw [if_neg (by omega)]

end Go.Proofs.Ytgnjhmmedogcoaa
