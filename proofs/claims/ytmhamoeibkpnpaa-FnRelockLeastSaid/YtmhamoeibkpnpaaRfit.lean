/- Contracts of releaseFits and of ShelfFits, the program's and the model's, over this seat's translation: both answer with the places that the plain function shFits tells, in a row of their own; nothing that was there before the call has changed. Condition: at most 1048576 releases, needs of each, and spans of those and of the need. -/
import Derived.Test.YtmhamoeibkpnpaaGd
import Derived.Test.YtmhamoeibkpnpaaHas
import Derived.Test.YtmhamoeibkpnpaaIn
namespace Go.Proofs.Ytmhamoeibkpnpaa
open Go.RowKit Go.Sort

def fitB (n : Int) (L : List (Int × Int)) (q : Rel) : Bool := decide (q.1 = n) && (!q.2.2.1 && hasL L q.2.1.1 q.2.1.2.1 q.2.1.2.2.1 q.2.1.2.2.2)
def fitFrom (n : Int) (L : List (Int × Int)) : Nat → List Rel → List Int
  | _, [] => []
  | k, q :: t => (if fitB n L q = true then [(k : Int)] else []) ++ fitFrom n L (k + 1) t
def shFits (S : List Rel) (n : Int) (L : List (Int × Int)) : List Int := if (shOk S && ndOk [(n, L)]) = true then fitFrom n L 0 S else []
theorem fitFrom_step {S : List Rel} {k : Nat} {q : Rel} (h : S[k]? = some q) (n : Int) (L : List (Int × Int)) : fitFrom n L k (S.drop k) = (if fitB n L q = true then [(k : Int)] else []) ++ fitFrom n L (k + 1) (S.drop (k + 1)) := by
  have hk : k < S.length := (List.getElem?_eq_some_iff.1 h).1
  rw [List.drop_eq_getElem_cons hk, (List.getElem?_eq_some_iff.1 h).2]
  rfl
theorem fitFrom_len (n : Int) (L : List (Int × Int)) : ∀ (S : List Rel) (k : Nat), (fitFrom n L k S).length ≤ S.length
  | [], _ => Nat.le_refl _
  | q :: t, k => by
    have := fitFrom_len n L t (k + 1)
    unfold fitFrom
    split <;> simp <;> omega
theorem shFits_len (S : List Rel) (n : Int) (L : List (Int × Int)) : (shFits S n L).length ≤ S.length := by
  unfold shFits
  split
  · exact fitFrom_len n L S 0
  · simp

theorem IOwn.below {w w' : World} {B : Nat} {v : Value} {N : List Int} (h : IOwn w B v N) (hb : Below w.heap.size w w') : IOwn w' B v N := by
  refine ⟨h.1, ?_⟩
  rcases h.2 with hn | ⟨g, cap, cur, hv, hb', hg, rest⟩
  · exact .inl hn
  · exact .inr ⟨g, cap, cur, hv, hb', (hb.block g (Array.getElem?_eq_some_iff.1 hg).1).trans hg, rest⟩
theorem IOwn.mono {w : World} {B B' : Nat} {v : Value} {N : List Int} (h : IOwn w B v N) (hB : B' ≤ B) : IOwn w B' v N := by
  refine ⟨h.1, ?_⟩
  rcases h.2 with hn | ⟨g, cap, cur, hv, hb', hg, rest⟩
  · exact .inl hn
  · exact .inr ⟨g, cap, cur, hv, by omega, hg, rest⟩

/-- A row that was just made of one need. -/
theorem one_need {w V : World} {n : Int} {na : Option Addr} {ncap : Nat} {L : List (Int × Int)} (hV : V.heap = (w.alloc (.cells #[.int .i64 n, .slice na L.length ncap] 110)).heap) (h : SpAt V V.heap.size (.slice na L.length ncap) L) :
    NdAt V V.heap.size (.slice (some ⟨w.heap.size, 0, none⟩) 1 1) [(n, L)] := by
  have hb : V.heap[w.heap.size]? = some (.cells #[.int .i64 n, .slice na L.length ncap] 110 (0, 0)) := by rw [hV]; exact heap_alloc_new w _
  refine ⟨_, _, rfl, .inr ⟨w.heap.size, 0, rfl, (Array.getElem?_eq_some_iff.1 hb).1, fun i hi => ?_⟩⟩
  obtain rfl : i = 0 := by simpa using hi
  exact ⟨(cell_of_row V _ 0 _ _ (0, 0) hb).trans rfl, na, ncap, (cell_of_row V _ 1 _ _ (0, 0) hb).trans rfl, h⟩

def FitRel (S : List Rel) (n : Int) (L : List (Int × Int)) (w1 : World) (v i : Value) (wr : World) : Prop :=
  ∃ (k : Nat) (G : List Int), k ≤ S.length ∧ i = .int .i64 (k : Int) ∧ fitFrom n L 0 S = G ++ fitFrom n L k (S.drop k) ∧ G.length ≤ k ∧ IOwn wr w1.heap.size v G ∧ Below w1.heap.size w1 wr
theorem fit_yes {S : List Rel} {n : Int} {L : List (Int × Int)} {w1 wr : World} {k : Nat} {q : Rel} {G : List Int} {v : Value} (hS : S[k]? = some q) (he : fitFrom n L 0 S = G ++ fitFrom n L k (S.drop k)) (hn : G.length ≤ k) (hf : fitB n L q = true) (ho : IOwn wr w1.heap.size v (G ++ [(k : Int)])) (hb : Below w1.heap.size w1 wr) :
    FitRel S n L w1 v (.int .i64 ((k : Int) + 1)) wr := by
  have hk : k < S.length := (List.getElem?_eq_some_iff.1 hS).1
  exact ⟨k + 1, G ++ [(k : Int)], by omega, by go_num, by rw [he, fitFrom_step hS, if_pos hf, List.append_assoc], by simp; omega, ho, hb⟩
theorem fit_no {S : List Rel} {n : Int} {L : List (Int × Int)} {w1 wr : World} {k : Nat} {q : Rel} {G : List Int} {v : Value} (hS : S[k]? = some q) (he : fitFrom n L 0 S = G ++ fitFrom n L k (S.drop k)) (hn : G.length ≤ k) (hf : fitB n L q = false) (ho : IOwn wr w1.heap.size v G) (hb : Below w1.heap.size w1 wr) :
    FitRel S n L w1 v (.int .i64 ((k : Int) + 1)) wr := by
  have hk : k < S.length := (List.getElem?_eq_some_iff.1 hS).1
  exact ⟨k + 1, G, by omega, by go_num, by rw [he, fitFrom_step hS, if_neg (by rw [hf]; simp), List.nil_append], by omega, ho, hb⟩

def SFitRel (S : List Rel) (n : Int) (L : List (Int × Int)) (B : Nat) (w1 : World) (v i : Value) (wr : World) : Prop :=
  ∃ (k : Nat) (G : List Int), k ≤ S.length ∧ i = .int .i64 (k : Int) ∧ fitFrom n L 0 S = G ++ fitFrom n L k (S.drop k) ∧ G.length ≤ k ∧ IOwn wr B v G ∧ Below B w1 wr ∧ (0 < k → shOk S = true ∧ ndOk [(n, L)] = true)
theorem sfit_no {S : List Rel} {n : Int} {L : List (Int × Int)} {w1 wr : World} {k B : Nat} {q : Rel} {G : List Int} {v : Value} (hS : S[k]? = some q) (he : fitFrom n L 0 S = G ++ fitFrom n L k (S.drop k)) (hn : G.length ≤ k) (hf : fitB n L q = false) (ho : IOwn wr B v G) (hb : Below B w1 wr) (h1 : shOk S = true) (h2 : ndOk [(n, L)] = true) :
    SFitRel S n L B w1 v (.int .i64 ((k : Int) + 1)) wr := by
  have hk : k < S.length := (List.getElem?_eq_some_iff.1 hS).1
  exact ⟨k + 1, G, by omega, by go_num, by rw [he, fitFrom_step hS, if_neg (by rw [hf]; simp), List.nil_append], by omega, ho, hb, fun _ => ⟨h1, h2⟩⟩
theorem sfit_yes {S : List Rel} {n : Int} {L : List (Int × Int)} {w1 wr : World} {k B : Nat} {q : Rel} {G : List Int} {v : Value} (hS : S[k]? = some q) (he : fitFrom n L 0 S = G ++ fitFrom n L k (S.drop k)) (hn : G.length ≤ k) (hf : fitB n L q = true) (ho : IOwn wr B v (G ++ [(k : Int)])) (hb : Below B w1 wr) (h1 : shOk S = true) (h2 : ndOk [(n, L)] = true) :
    SFitRel S n L B w1 v (.int .i64 ((k : Int) + 1)) wr := by
  have hk : k < S.length := (List.getElem?_eq_some_iff.1 hS).1
  exact ⟨k + 1, G ++ [(k : Int)], by omega, by go_num, by rw [he, fitFrom_step hS, if_pos hf, List.append_assoc], by simp; omega, ho, hb, fun _ => ⟨h1, h2⟩⟩

def IPost (N : List Int) (w : World) (e : Ending) (w' : World) : Prop := ∃ v, e = .returned v ∧ IB N w.heap.size w'.heap.size v w' ∧ Below w.heap.size w w'
theorem ib_nil (B H : Nat) (w : World) : IB [] B H (.slice none 0 0) w := ⟨none, 0, rfl, .inl rfl⟩
theorem IB.mono {N : List Int} {lo lo' hi : Nat} {v : Value} {w : World} (h : IB N lo hi v w) (hl : lo' ≤ lo) : IB N lo' hi v w := by
  obtain ⟨a, cap, rfl, h⟩ := h
  refine ⟨_, _, rfl, ?_⟩
  rcases h with h | ⟨g, m, rfl, hk, h1, h2⟩
  · exact .inl h
  · exact .inr ⟨g, m, rfl, hk, by omega, h2⟩

set_option maxRecDepth 100000 in
set_option maxHeartbeats 8000000 in
theorem specShelfFits_any (v u : Value) (S : List Rel) (n : Int) (L : List (Int × Int)) (w : World) (hl : S.length ≤ 1048576) (hq : ∀ q ∈ S, q.2.2.2.length ≤ 1048576 ∧ ∀ p ∈ q.2.2.2, p.2.length ≤ 1048576) (hL : L.length ≤ 1048576) (h : RlAt w w.heap.size v S) (h' : SpAt w w.heap.size u L) :
    Calls Try.prog 96 #[v, need n u] w (IPost (shFits S n L) w) := by
  obtain ⟨sa, caps, rfl, hx⟩ := id h
  obtain ⟨na, ncap, rfl, hy⟩ := id h'
  clear hy
  have H := Lib.hid h
  have H' := Lib.hid h'
  have HX := Lib.hid hx
  clear h h' hx
  obtain ⟨i0, hi, hz0, hz1, hz2⟩ := info_parts infoInt
  obtain ⟨w1, hw1⟩ : ∃ V : World, V = (w.alloc (.cells #[.int .i64 n, .slice na L.length ncap] 110)).alloc (.cells #[] 3) := ⟨_, rfl⟩
  have b1 : Below w.heap.size w w1 := by
    rw [hw1]
    exact ((Below.refl w.heap.size w).alloc (Nat.le_refl _) _).alloc (by simp) _
  have s1 : w.heap.size + 1 ≤ w1.heap.size := by rw [hw1]; simp
  have o1 : IOwn w1 (w.heap.size + 1) (.slice (some ⟨w.heap.size + 1, 0, none⟩) 0 0) [] := by
    rw [hw1]
    have := World.ownsRow_made (base := w.heap.size + 1) (e := 3) (size := 1) (w.alloc (.cells #[.int .i64 n, .slice na L.length ncap] 110)) #[] 0 (by simp) (by unfold maxLen; omega) rfl
    simp at this
    exact this
  have y1_0 : w1.cell? ⟨w.heap.size, 0, none⟩ = some (.int .i64 n) := by rw [hw1]; go_simp
  have y1_1 : w1.cell? ⟨w.heap.size, 1, none⟩ = some (.slice na L.length ncap) := by rw [hw1]; go_simp
  have KO : Hid (∀ V, RlAt V V.heap.size (.slice sa S.length caps) S → Calls Try.prog 51 #[.slice sa S.length caps] V fun e w' => e = .returned (.bool (shOk S)) ∧ Below V.heap.size V w') := Lib.hid fun V g => specShelfOk_any _ S V hl hq g
  have KN : Hid (∀ V z, NdAt V V.heap.size z [(n, L)] → Calls Try.prog 52 #[z] V fun e w' => e = .returned (.bool (ndOk [(n, L)])) ∧ Below V.heap.size V w') := Lib.hid fun V z g => specNeedsOk_any z [(n, L)] V (by simp) (by simpa using hL) g
  have HB1 := Lib.hid b1
  go_enter Try.func96, Try.ntmps96
  go_upto_region 2 with fail
  rw [← hw1]
  clear hw1
  go_wp2_with fail
  go_loopw [5, 6] (fun v i wr => SFitRel S n L (w.heap.size + 1) w1 v i wr) (fun _ i _ => S.length - (intOf i).toNat)
  case atStart => exact ⟨0, [], Nat.zero_le _, rfl, rfl, Nat.le_refl _, o1, Below.refl _ _, fun h => absurd h (Nat.lt_irrefl 0)⟩
  case round =>
    obtain ⟨k, G, hk, rfl, he, hn, hown, hb, hpos⟩ := hrel
    have HE := Lib.hid he
    have HPos := Lib.hid hpos
    clear he hpos
    have OW := Lib.hid hown
    clear hown o1
    by_cases hlt : k < S.length
    · have bw := HB1.out.trans (hb.mono (Nat.le_succ _))
      have BW := Lib.hid bw
      have sr := hb.size
      have z0 := (hb.cell (p := ⟨w.heap.size, 0, none⟩) (by show w.heap.size < w.heap.size + 1; omega)).trans y1_0
      have z1 := (hb.cell (p := ⟨w.heap.size, 1, none⟩) (by show w.heap.size < w.heap.size + 1; omega)).trans y1_1
      have HB := Lib.hid hb
      clear hb bw y1_0 y1_1
      rcases hok : shOk S
      · have hk0 : k = 0 := by
          rcases Nat.eq_zero_or_pos k with h | h
          · exact h
          · have := (HPos.out h).1; rw [hok] at this; cases this
        obtain rfl : G = [] := List.eq_nil_of_length_eq_zero (by omega)
        have HF := Lib.hid (show shFits S n L = [] by unfold shFits; rw [hok]; simp)
        rw [hok] at KO
        clear hok
        go_wp2_with fail
        refine (KO.out _ (H.out.stepAt BW.out)).mono ?_
        rintro e w2 ⟨rfl, hb⟩
        have o2 := Lib.hid ((OW.out.below hb).ib.mono (lo' := w.heap.size) (by omega))
        go_wp2_with fail
        go_ret
        exact ⟨_, rfl, by rw [HF.out]; exact o2.out, BW.out.trans (hb.mono BW.out.size)⟩
      · have HOK := Lib.hid hok
        rw [hok] at KO
        clear hok
        go_wp2_with fail
        refine (KO.out _ (H.out.stepAt BW.out)).mono ?_
        rintro e w2 ⟨rfl, hb⟩
        have b2 := BW.out.trans (hb.mono BW.out.size)
        have O2 := Lib.hid (OW.out.below hb)
        have s2 := hb.size
        have u0 := (hb.cell (p := ⟨w.heap.size, 0, none⟩) (by show w.heap.size < wr.heap.size; omega)).trans z0
        have u1 := (hb.cell (p := ⟨w.heap.size, 1, none⟩) (by show w.heap.size < wr.heap.size; omega)).trans z1
        have HB2 := Lib.hid (HB.out.trans (hb.mono (show w.heap.size + 1 ≤ wr.heap.size by omega)))
        clear hb z0 z1
        have b2a := b2.alloc b2.size (.cells #[.int .i64 n, .slice na L.length ncap] 110)
        have n2 := (Below.refl w2.heap.size w2).alloc (Nat.le_refl _) (.cells #[.int .i64 n, .slice na L.length ncap] 110)
        rcases hnk : ndOk [(n, L)]
        · have hk0 : k = 0 := by
            rcases Nat.eq_zero_or_pos k with h | h
            · exact h
            · have := (HPos.out h).2; rw [hnk] at this; cases this
          obtain rfl : G = [] := List.eq_nil_of_length_eq_zero (by omega)
          have HF := Lib.hid (show shFits S n L = [] by unfold shFits; rw [hnk]; simp)
          rw [hnk] at KN
          clear hnk
          go_wp2_with fail
          refine (KN.out _ _ (one_need (w := w2) rfl (H'.out.stepAt b2a))).mono ?_
          rintro e w3 ⟨rfl, hb3⟩
          have n3 := n2.trans (hb3.mono n2.size)
          have o3 := Lib.hid ((O2.out.below n3).ib.mono (lo' := w.heap.size) (by omega))
          go_wp2_with fail
          go_ret
          exact ⟨_, rfl, by rw [HF.out]; exact o3.out, b2.trans (n3.mono b2.size)⟩
        · have HNK := Lib.hid hnk
          rw [hnk] at KN
          clear hnk
          go_wp2_with fail
          refine (KN.out _ _ (one_need (w := w2) rfl (H'.out.stepAt b2a))).mono ?_
          rintro e w3 ⟨rfl, hb3⟩
          have n3 := n2.trans (hb3.mono n2.size)
          have O3 := Lib.hid (O2.out.below n3)
          have bw3 := b2.trans (n3.mono b2.size)
          have B3 := Lib.hid (HB2.out.trans (n3.mono (show w.heap.size + 1 ≤ w2.heap.size by omega)))
          have v0 := (n3.cell (p := ⟨w.heap.size, 0, none⟩) (by show w.heap.size < w2.heap.size; omega)).trans u0
          have v1 := (n3.cell (p := ⟨w.heap.size, 1, none⟩) (by show w.heap.size < w2.heap.size; omega)).trans u1
          clear u0 u1 n2 b2a hb3
          rcases HX.out with h | ⟨g, o, rfl, hB, hc⟩
          · subst h
            exact absurd hlt (by simp)
          obtain ⟨x, a, b, c, d, f, M, hxy⟩ : ∃ x a b c d f M, S[k] = (x, (a, b, c, d), f, M) := ⟨_, _, _, _, _, _, _, rfl⟩
          have m1 := (hc k hlt).below bw3 hB
          rw [hxy] at m1
          obtain ⟨⟨k0, k1, k2, k3, k4, k5⟩, ad, cap, k6, hs⟩ := m1
          simp only at k0 k1 k2 k3 k4 k5
          have HY := Lib.hid (show S[k]? = some (x, (a, b, c, d), f, M) by rw [List.getElem?_eq_getElem hlt, hxy])
          have HS3 := Lib.hid (H'.out.stepAt bw3)
          have BW3 := Lib.hid bw3
          have u0 := cell_regrown v0
          have u1 := cell_regrown v1
          have t0 := cell_regrown k0
          have t1 := cell_regrown k1
          have t2 := cell_regrown k2
          have t3 := cell_regrown k3
          have t4 := cell_regrown k4
          have t5 := cell_regrown k5
          have q0 : (0 : Int) ≤ (k : Int) := by omega
          have q1 : (k : Int) < (S.length : Int) := by omega
          have m3 := n3.size
          clear hxy hc hs bw3 v0 v1 k0 k1 k2 k3 k4 k5 k6 n3 b2
          have KH : Hid (∀ V, SpAt V V.heap.size (.slice na L.length ncap) L → Calls Try.prog 121 #[.agg #[.slice na L.length ncap], ver a b c d] V fun e w' => e = .returned (.bool (hasL L a b c d)) ∧ Below V.heap.size V w') := Lib.hid fun V g => specHas_any _ L a b c d V hL g
          by_cases hxn : x = n
          · have hz : (x == n) = true := by simp [hxn]
            cases f
            · rcases hr : hasL L a b c d
              · have HFF := Lib.hid (show fitB n L (x, (a, b, c, d), false, M) = false by unfold fitB; simp [hr])
                rw [hr] at KH
                clear hr
                subst hxn
                go_wp2_with fail
                refine wp_region_quiet_below (by kernel_rfl) (by kernel_rfl) ?_
                repeat (any_goals (first | go_big_quiet_step ((go_at_call 121; exact Calls.regrown_of (KH.out _ (HS3.out.stepAt (below_regrown _ _ _))))) | quiet_step ((go_at_call 121; exact Calls.regrown_of (KH.out _ (HS3.out.stepAt (below_regrown _ _ _)))))))
                refine wpQuiet_nil ?_
                intro W2 hw
                have nn := quiet_end hw
                clear hw t0 t1 t2 t3 t4 t5 u0 u1
                have o4 := O3.out.below nn
                have b4 := B3.out.trans (nn.mono (show w.heap.size + 1 ≤ w3.heap.size by omega))
                have HP := Lib.hid (sfit_no HY.out HE.out hn HFF.out o4 b4 HOK.out HNK.out)
                go_wp2_with fail
                go_roundw
                case rel => exact HP.out
                case measure => simp [intOf]; omega
              · have HFF := Lib.hid (show fitB n L (x, (a, b, c, d), false, M) = true by unfold fitB; simp [hr, hxn])
                rw [hr] at KH
                clear hr
                subst hxn
                go_wp2_with fail
                refine wp_region_quiet_below (by kernel_rfl) (by kernel_rfl) ?_
                repeat (any_goals (first | go_big_quiet_step ((go_at_call 121; exact Calls.regrown_of (KH.out _ (HS3.out.stepAt (below_regrown _ _ _))))) | quiet_step ((go_at_call 121; exact Calls.regrown_of (KH.out _ (HS3.out.stepAt (below_regrown _ _ _)))))))
                refine wpQuiet_nil ?_
                intro W2 hw
                have nn := quiet_end hw
                clear hw t0 t1 t2 t3 t4 t5 u0 u1
                have o4 := O3.out.below nn
                have z4 : w.heap.size + 1 ≤ W2.heap.size := by have := nn.size; omega
                have b4 := B3.out.trans (nn.mono (show w.heap.size + 1 ≤ w3.heap.size by omega))
                go_wp2_with (at_builtin; refine wpList_append_own _ rfl _ _ 24 rfl (w.heap.size + 1) 3 i0 (.int .i64 0) 1 8 Try.underlying24 hi hz0 hz1 hz2 rfl (by decide) _ _ _ rfl (o4.below ((Below.refl W2.heap.size W2).alloc (Nat.le_refl _) (.cells #[.int .i64 (k : Int)] 3))) ⟨W2.heap.size, 0, none⟩ 1 1 [.int .i64 (k : Int)] rfl rfl (one_new W2 (k : Int)) (one_one _) (by unfold maxLen; omega) (by omega) (by simp; omega) ?_)
                intro v' w5 hown' hgrow hnn
                have b5 := IOwn.gone o4 b4 z4 hgrow
                have HP := Lib.hid (sfit_yes HY.out HE.out hn HFF.out (IOwn.push hown') b5 HOK.out HNK.out)
                clear hown' hgrow o4 b4 b5 hnn
                go_wp2_with fail
                go_roundw
                case rel => exact HP.out
                case measure => simp [intOf]; omega
            · have HFF := Lib.hid (show fitB n L (x, (a, b, c, d), true, M) = false by unfold fitB; simp)
              clear KH
              subst hxn
              go_wp2_with fail
              refine wp_region_quiet_below (by kernel_rfl) (by kernel_rfl) ?_
              repeat (any_goals (first | go_big_quiet_step (fail) | quiet_step (fail)))
              refine wpQuiet_nil ?_
              intro W2 hw
              have nn := quiet_end hw
              clear hw t0 t1 t2 t3 t4 t5 u0 u1
              have o4 := O3.out.below nn
              have b4 := B3.out.trans (nn.mono (show w.heap.size + 1 ≤ w3.heap.size by omega))
              have HP := Lib.hid (sfit_no HY.out HE.out hn HFF.out o4 b4 HOK.out HNK.out)
              go_wp2_with fail
              go_roundw
              case rel => exact HP.out
              case measure => simp [intOf]; omega
          · have hz : (x == n) = false := by rw [beq_eq_false_iff_ne]; exact hxn
            have hz2 : decide (x = n) = false := decide_eq_false hxn
            have HFF := Lib.hid (show fitB n L (x, (a, b, c, d), f, M) = false by unfold fitB; simp [hxn])
            clear KH
            go_wp2_with fail
            refine wp_region_quiet_below (by kernel_rfl) (by kernel_rfl) ?_
            repeat (any_goals (first | go_big_quiet_step (fail) | quiet_step (fail)))
            refine wpQuiet_nil ?_
            intro W2 hw
            have nn := quiet_end hw
            clear hw t0 t1 t2 t3 t4 t5 u0 u1
            have o4 := O3.out.below nn
            have b4 := B3.out.trans (nn.mono (show w.heap.size + 1 ≤ w3.heap.size by omega))
            have HP := Lib.hid (sfit_no HY.out HE.out hn HFF.out o4 b4 HOK.out HNK.out)
            go_wp2_with fail
            go_roundw
            case rel => exact HP.out
            case measure => simp [intOf]; omega
    · obtain rfl : k = S.length := by omega
      have HF := Lib.hid (show shFits S n L = G by
        have he := HE.out
        rw [List.drop_length] at he
        simp only [fitFrom, List.append_nil] at he
        rcases Nat.eq_zero_or_pos S.length with h0 | h0
        · have e0 : S = [] := List.eq_nil_of_length_eq_zero h0
          rw [← he, e0]
          unfold shFits
          split <;> rfl
        · unfold shFits
          rw [(HPos.out h0).1, (HPos.out h0).2]
          simpa using he)
      go_wp2_with fail
      go_ret
      exact ⟨_, rfl, by rw [HF.out]; exact OW.out.ib.mono (by omega), HB1.out.trans (hb.mono (Nat.le_succ _))⟩

end Go.Proofs.Ytmhamoeibkpnpaa
