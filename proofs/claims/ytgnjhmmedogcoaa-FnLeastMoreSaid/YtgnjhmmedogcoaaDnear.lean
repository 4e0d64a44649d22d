/- Contracts of the model's draws of small versions and of near ranges, over this seat's translation: whatever is drawn, a range of at most three spans lies in memory of its own, the reader was asked some more, and nothing else has changed. Condition: the reader was not asked too often. -/
import Derived.Test.YtgnjhmmedogcoaaSown
import Derived.Test.YtgnjhmmedogcoaaSpnot
import Derived.Test.YtgnjhmmedogcoaaGe
import Derived.Test.YtgnjhmmedogcoaaGc
namespace Go.Proofs.Ytgnjhmmedogcoaa
open Go.RowKit Go.Sort

set_option maxRecDepth 100000 in
theorem drawn_trans {w w1 w2 : World} {R p q c c' : Nat} (h : w.grownBy w1 (some R)) (hq : q ≤ p + c) (hpq : p ≤ q) (k : Drawn w1 R q c' w2) : Drawn w R p (c + c') w2 := by
  obtain ⟨q', h1, h2, h3, h4⟩ := k
  exact ⟨q', by omega, by omega, h3, grown_trans h h4⟩
set_option maxRecDepth 100000 in
theorem drawn_one {wr w2 : World} {R q : Nat} (hr : RdAt w2 R (q + 1)) (hg : wr.grownBy w2 (some R)) : Drawn wr R q 1 w2 := ⟨q + 1, by omega, by omega, hr, hg⟩

def SmallPost (R p : Nat) (w : World) (e : Ending) (w' : World) : Prop := ∃ a b c d : Int, e = .returned (ver a b c d) ∧ RdAt w' R (p + 4) ∧ w.grownBy w' (some R)

set_option maxRecDepth 100000 in
set_option maxHeartbeats 2000000 in
theorem l20Small_any (R p : Nat) (w : World) (h : RdAt w R p) (hp : p ≤ 900000000) : Calls Try.prog 96 #[.pointer (some ⟨R, 0, none⟩)] w (SmallPost R p w) := by
  have hR := rdAt_lt h
  have h1 := rdAt_alloc h (.cells #[.int .i64 0, .int .i64 0, .int .i64 0, .int .i64 0] 61)
  have b1 := VerBlk.new w 0 0 0 0
  have g1 := grown_start w (.cells #[.int .i64 0, .int .i64 0, .int .i64 0, .int .i64 0] 61) R
  go_enter Try.func96, Try.ntmps96
  go_wp2_with fail
  refine (pick_any R p _ _ h1 (by omega)).mono ?_
  rintro e w1 ⟨k1, rfl, k10, x1, y1, hr1, hg1⟩
  clear x1 y1
  go_wp2_with fail
  refine (pick_any R _ _ _ hr1 (by omega)).mono ?_
  rintro e w2 ⟨k2, rfl, k20, x2, y2, hr2, hg2⟩
  clear x2 y2
  go_wp2_with fail
  refine (pick_any R _ _ _ hr2 (by omega)).mono ?_
  rintro e w3 ⟨k3, rfl, k30, x3, y3, hr3, hg3⟩
  clear x3 y3
  go_wp2_with fail
  refine (pick_any R _ _ _ hr3 (by omega)).mono ?_
  rintro e w4 ⟨k4, rfl, k40, x4, y4, hr4, hg4⟩
  clear y4
  have k49 : k4 < 9 := x4 (by omega)
  have g4 := grown_trans (grown_trans (grown_trans (grown_trans g1 hg1) hg2) hg3) hg4
  have b4 := (((b1.kept hg1 (by omega)).kept hg2 (by omega)).kept hg3 (by omega)).kept hg4 (by omega)
  obtain ⟨c0, c1, c2, c3, fz⟩ := b4.cells
  clear x4 b1 g1 h1 hr1 hr2 hr3 hg1 hg2 hg3 hg4
  have HR := Lib.hid hr4
  have HG := Lib.hid g4
  clear hr4 g4
  go_wp2_with fail
  exact bodyPost_ret (v := ver k1 k2 k3 (k4 / 8)) (by simp [results, Try.results96, go_sem, c0, c1, c2, c3]) rfl
    ⟨k1, k2, k3, k4 / 8, rfl, rdAt_set (rdAt_set (rdAt_set (rdAt_set HR.out (by omega)) (by omega)) (by omega)) (by omega), grown_set (grown_set (grown_set (grown_set HG.out (Nat.le_refl _)) (Nat.le_refl _)) (Nat.le_refl _)) (Nat.le_refl _)⟩

def NearPost (R p : Nat) (w : World) (e : Ending) (w' : World) : Prop :=
  ∃ L u, e = .returned (.agg #[u]) ∧ SRes L w.heap.size u w' ∧ L.length ≤ 3 ∧ Drawn w R p 20 w'
set_option maxRecDepth 100000 in
theorem notR_40 (x y : Int) : (notR [(x, y)]).length ≤ 3 := by
  unfold notR
  split
  · unfold fitR
    split
    · have : (notL [(x, y)]).length ≤ [(x, y)].length + 1 := notFrom_len
      simp at this
      omega
    · simp
  · simp
set_option maxRecDepth 100000 in
theorem fromL_41 (a b c d : Int) : (fromL a b c d).length ≤ 3 := by
  unfold fromL
  split <;> simp
set_option maxRecDepth 100000 in
theorem oneL_41 (a b c d : Int) : (oneL a b c d).length ≤ 3 := by
  unfold oneL
  split <;> simp
set_option maxRecDepth 100000 in
theorem SRes.setOther' {L : Sps} {base b o : Nat} {v x : Value} {w : World} (h : SRes L base v w) (hb : b < base) : SRes L base v (w.setCell ⟨b, o, none⟩ x) :=
  h.kept fun g hg _ => Below.heap_setCell _ _ _ _ (by show g ≠ b; omega)
set_option maxRecDepth 100000 in
theorem grownCell {w w' : World} {R b o : Nat} (h : w.grownBy w' (some R)) (hb : b < w.heap.size) (hne : b ≠ R) : w'.cell? ⟨b, o, none⟩ = w.cell? ⟨b, o, none⟩ :=
  World.cell?_of_block (a := ⟨b, o, none⟩) (h.block b hb (fun e => hne (by injection e)))
set_option maxRecDepth 100000 in
theorem grownFrozen {w w' : World} {R b o : Nat} (h : w.grownBy w' (some R)) (hb : b < w.heap.size) (hne : b ≠ R) : w'.frozen? ⟨b, o, none⟩ = w.frozen? ⟨b, o, none⟩ :=
  World.frozen?_of_block (a := ⟨b, o, none⟩) (h.block b hb (fun e => hne (by injection e)))

set_option maxRecDepth 100000 in
set_option maxHeartbeats 4000000 in
theorem l20Near_any (R p : Nat) (w : World) (h : RdAt w R p) (hp : p ≤ 800000000) : Calls Try.prog 82 #[.pointer (some ⟨R, 0, none⟩)] w (NearPost R p w) := by
  have hR := rdAt_lt h
  have h1 := rdAt_alloc h (.cells #[.slice none 0 0] 57)
  have g1 := grown_start w (.cells #[.slice none 0 0] 57) R
  go_enter Try.func82, Try.ntmps82
  go_wp2_with fail
  refine (l20Small_any R p _ h1 (by omega)).mono ?_
  rintro e w1 ⟨a, b, c, d, rfl, hr1, hg1⟩
  have g2 := grown_trans g1 hg1
  have c0 : w1.cell? ⟨w.heap.size, 0, none⟩ = some (.slice none 0 0) := (grownCell hg1 (by simp) (by omega)).trans (by go_simp)
  have f0 : w1.frozen? ⟨w.heap.size, 0, none⟩ = false := (grownFrozen hg1 (by simp) (by omega)).trans (by go_simp)
  have s1 : w.heap.size + 1 ≤ w1.heap.size := by have := hg1.size; simpa using this
  obtain ⟨w2, hw2⟩ : ∃ Z : World, Z = w1.alloc (.cells #[.int .i64 a, .int .i64 b, .int .i64 c, .int .i64 d] 61) := ⟨_, rfl⟩
  have n2 : Below w1.heap.size w1 w2 := by rw [hw2]; exact (Below.refl _ _).alloc (Nat.le_refl _) _
  have s2 : w1.heap.size + 1 ≤ w2.heap.size := by rw [hw2]; simp
  have v2 : VerBlk w2 w1.heap.size a b c d := by rw [hw2]; exact VerBlk.new w1 a b c d
  have hr2 := rdAt_below hr1 n2 (by omega)
  have g3 := grown_below g2 (n2.mono (by omega))
  have c2 := (n2.cell (p := ⟨w.heap.size, 0, none⟩) (by show w.heap.size < w1.heap.size; omega)).trans c0
  have f2 := (n2.frozen (p := ⟨w.heap.size, 0, none⟩) (by show w.heap.size < w1.heap.size; omega)).trans f0
  clear h1 g1 hg1 g2 c0 f0 n2 hr1
  go_upto_region 2 with fail
  rw [← hw2]
  clear hw2
  go_wp2_with fail
  refine (pick_any R _ _ _ hr2 (by omega)).mono ?_
  rintro e w3 ⟨k, rfl, k0, k1, y1, hr3, hg3⟩
  have k6 : k < 6 := k1 (by omega)
  have HG := Lib.hid (grown_trans g3 hg3)
  have v3 := v2.kept hg3 (by omega)
  have s3 := hg3.size
  have c3 := (grownCell hg3 (b := w.heap.size) (by omega) (by omega)).trans c2
  have f3 := (grownFrozen hg3 (b := w.heap.size) (by omega) (by omega)).trans f2
  obtain ⟨x0, x1, x2, x3, fx⟩ := v3.cells
  have HV := Lib.hid v3
  have HR := Lib.hid hr3
  clear k1 y1 g3 hg3 v2 v3 c2 f2 hr2 hr3 fx
  have fin : ∀ {W : World} {L : Sps} {u : Value}, SRes L w3.heap.size u W → L.length ≤ 3 → Below w3.heap.size w3 W → NearPost R p w (.returned (.agg #[u])) (W.setCell ⟨w.heap.size, 0, none⟩ u) := fun {W L u} hs hl hb =>
    ⟨L, u, rfl, (hs.setOther' (by omega)).mono (by omega), hl, p + 4 + 1, by omega, by omega, rdAt_set (rdAt_below HR.out hb (by omega)) (by omega), grown_set (grown_below HG.out (hb.mono (by omega))) (Nat.le_refl _)⟩
  by_cases e0 : k = 0
  · subst e0
    go_wp2_with fail
    refine (((specAll_any _).mono fun _ _ h => h.rp)).mono ?_
    rintro e w4 ⟨u, rfl, q, hb⟩
    obtain ⟨ua, uc, rfl, hx⟩ := id q
    clear hx
    have c4 := (hb.cell (p := ⟨w.heap.size, 0, none⟩) (by show w.heap.size < w3.heap.size; omega)).trans c3
    have f4 := (hb.frozen (p := ⟨w.heap.size, 0, none⟩) (by show w.heap.size < w3.heap.size; omega)).trans f3
    have HF := Lib.hid (fin q (by simp) hb)
    clear q hb
    go_wp2_with fail
    exact bodyPost_ret (v := .agg #[.slice ua 1 uc]) (by simp [results, Try.results82, go_sem, c4]) rfl HF.out
  by_cases e1 : k = 1
  · subst e1
    go_wp2_with fail
    refine (specOne_own a b c d _).mono ?_
    rintro e w4 ⟨u, rfl, ho, hb⟩
    have q := ho.res
    obtain ⟨ua, uc, rfl, hx⟩ := id q
    clear hx ho
    have c4 := (hb.cell (p := ⟨w.heap.size, 0, none⟩) (by show w.heap.size < w3.heap.size; omega)).trans c3
    have f4 := (hb.frozen (p := ⟨w.heap.size, 0, none⟩) (by show w.heap.size < w3.heap.size; omega)).trans f3
    have HF := Lib.hid (fin q (oneL_41 a b c d) hb)
    clear q hb
    go_wp2_with fail
    exact bodyPost_ret (v := .agg #[.slice ua (oneL a b c d).length uc]) (by simp [results, Try.results82, go_sem, c4]) rfl HF.out
  have z0 : (k == 0) = false := by rw [beq_eq_false_iff_ne]; exact e0
  have z1 : (k == 1) = false := by rw [beq_eq_false_iff_ne]; exact e1
  by_cases e23 : k = 2 ∨ k = 3
  · have go2 : ∀ kk : Int, kk = k → True := fun _ _ => trivial
    rcases e23 with e2 | e2
    all_goals
      subst e2
      go_wp2_with fail
      refine (specFrom_own a b c d _).mono ?_
      rintro e w4 ⟨u, rfl, ho, hb⟩
      have q := ho.res
      obtain ⟨ua, uc, rfl, hx⟩ := id q
      clear hx ho
      have c4 := (hb.cell (p := ⟨w.heap.size, 0, none⟩) (by show w.heap.size < w3.heap.size; omega)).trans c3
      have f4 := (hb.frozen (p := ⟨w.heap.size, 0, none⟩) (by show w.heap.size < w3.heap.size; omega)).trans f3
      have HF := Lib.hid (fin q (fromL_41 a b c d) hb)
      clear q hb
      go_wp2_with fail
      exact bodyPost_ret (v := .agg #[.slice ua (fromL a b c d).length uc]) (by simp [results, Try.results82, go_sem, c4]) rfl HF.out
  have z2 : (k == 2) = false := by rw [beq_eq_false_iff_ne]; exact fun e => e23 (.inl e)
  have z3 : (k == 3) = false := by rw [beq_eq_false_iff_ne]; exact fun e => e23 (.inr e)
  clear fin e0 e1 e23
  go_wp2_with fail
  refine (specRank_any a b c d _).mono ?_
  rintro e w4 ⟨rfl, hb⟩
  have c4 := (hb.cell (p := ⟨w.heap.size, 0, none⟩) (by show w.heap.size < w3.heap.size; omega)).trans c3
  have f4 := (hb.frozen (p := ⟨w.heap.size, 0, none⟩) (by show w.heap.size < w3.heap.size; omega)).trans f3
  have G4 := Lib.hid (grown_below HG.out (hb.mono (by omega)))
  have hr4 := rdAt_below HR.out hb (by omega)
  have s4 := hb.size
  generalize vRank a b c d = x
  clear hb c3 f3 HG HR HV x0 x1 x2 x3
  go_wp2_with fail
  refine (l20Small_any R _ _ hr4 (by omega)).mono ?_
  rintro e w5 ⟨a', b', c', d', rfl, hr5, hg5⟩
  have G5 := Lib.hid (grown_trans G4.out hg5)
  have c5 := (grownCell hg5 (b := w.heap.size) (by omega) (by omega)).trans c4
  have f5 := (grownFrozen hg5 (b := w.heap.size) (by omega) (by omega)).trans f4
  have s5 := hg5.size
  clear c4 f4 G4 hr4 hg5
  go_wp2_with fail
  refine (specRank_any a' b' c' d' _).mono ?_
  rintro e w6 ⟨rfl, hb⟩
  have c6 := (hb.cell (p := ⟨w.heap.size, 0, none⟩) (by show w.heap.size < w5.heap.size; omega)).trans c5
  have f6 := (hb.frozen (p := ⟨w.heap.size, 0, none⟩) (by show w.heap.size < w5.heap.size; omega)).trans f5
  have G6 := Lib.hid (grown_below G5.out (hb.mono (by omega)))
  have hr6 := rdAt_below hr5 hb (by omega)
  have s6 := hb.size
  generalize vRank a' b' c' d' = y
  clear hb c5 f5 G5 hr5
  obtain ⟨lo, elo⟩ : ∃ lo, (if y < x then y else x) = lo := ⟨_, rfl⟩
  obtain ⟨hi, ehi⟩ : ∃ hi, (if x < y then y else x) = hi := ⟨_, rfl⟩
  go_upto_region 13 with fail
  obtain ⟨w8, hw8⟩ : ∃ Z : World, Z = (w6.alloc (.cells #[.int .i64 lo, .int .i64 hi] 73)).alloc (.cells #[.slice (some ⟨w6.heap.size, 0, none⟩) 1 1] 57) := ⟨_, rfl⟩
  have n8 : Below w6.heap.size w6 w8 := by rw [hw8]; exact ((Below.refl _ _).alloc (Nat.le_refl _) _).alloc (by simp) _
  have s8 : w6.heap.size + 2 ≤ w8.heap.size := by rw [hw8]; simp
  have bx8 : w8.cell? ⟨w6.heap.size + 1, 0, none⟩ = some (.slice (some ⟨w6.heap.size, 0, none⟩) 1 1) := by rw [hw8]; go_simp
  have fx8 : w8.frozen? ⟨w6.heap.size + 1, 0, none⟩ = false := by rw [hw8]; go_simp
  have k8 : SpBlk w8 w6.heap.size 1 [(lo, hi)] := by
    rw [hw8]
    exact (one_span w6 lo hi).kept (Below.heap_alloc _ _ _ (by simp))
  have hr8 := rdAt_below hr6 n8 (by omega)
  have G8 := Lib.hid (grown_below G6.out (n8.mono (by omega)))
  have c8 := (n8.cell (p := ⟨w.heap.size, 0, none⟩) (by show w.heap.size < w6.heap.size; omega)).trans c6
  have f8 := (n8.frozen (p := ⟨w.heap.size, 0, none⟩) (by show w.heap.size < w6.heap.size; omega)).trans f6
  rw [← hw8]
  clear hw8 n8 G6 c6 f6 hr6 elo ehi
  go_wp2_with fail
  refine (pick_any R _ _ _ hr8 (by omega)).mono ?_
  rintro e w9 ⟨k', rfl, q0, q1, y1, hr9, hg9⟩
  have HG9 := Lib.hid (grown_trans G8.out hg9)
  have bx9 := (grownCell hg9 (b := w6.heap.size + 1) (by omega) (by omega)).trans bx8
  have fx9 := (grownFrozen hg9 (b := w6.heap.size + 1) (by omega) (by omega)).trans fx8
  have k9 := k8.kept (hg9.block w6.heap.size (by omega) (fun e => by injection e with e; omega))
  have c9 := (grownCell hg9 (b := w.heap.size) (by omega) (by omega)).trans c8
  have f9 := (grownFrozen hg9 (b := w.heap.size) (by omega) (by omega)).trans f8
  have s9 := hg9.size
  have HR9 := Lib.hid hr9
  clear q1 y1 hg9 bx8 fx8 k8 c8 f8 hr8 hr9 G8
  by_cases e0 : k' = 0
  · subst e0
    have K := specNot_any (.slice (some ⟨w6.heap.size, 0, none⟩) 1 1) [(lo, hi)] w9 (by simp) (k9.at k9.lt)
    have HL := notR_40 lo hi
    generalize notOk [(lo, hi)] = ok at K
    generalize notR [(lo, hi)] = A at K HL
    have HK := Lib.hid K
    clear K k9
    go_wp2_with fail
    refine HK.out.mono ?_
    rintro e w10 ⟨u, rfl, q, hb⟩
    obtain ⟨ua, uc, rfl, hx⟩ := id q
    clear hx HK
    have bx10 := (hb.cell (p := ⟨w6.heap.size + 1, 0, none⟩) (by show w6.heap.size + 1 < w9.heap.size; omega)).trans bx9
    have fx10 := (hb.frozen (p := ⟨w6.heap.size + 1, 0, none⟩) (by show w6.heap.size + 1 < w9.heap.size; omega)).trans fx9
    have c10 := (hb.cell (p := ⟨w.heap.size, 0, none⟩) (by show w.heap.size < w9.heap.size; omega)).trans c9
    have f10 := (hb.frozen (p := ⟨w.heap.size, 0, none⟩) (by show w.heap.size < w9.heap.size; omega)).trans f9
    have ne' : w.heap.size ≠ w6.heap.size + 1 := by omega
    have HF := Lib.hid (show NearPost R p w (.returned (.agg #[.slice ua A.length uc])) ((w10.setCell ⟨w6.heap.size + 1, 0, none⟩ (.slice ua A.length uc)).setCell ⟨w.heap.size, 0, none⟩ (.slice ua A.length uc)) from
      ⟨A, _, rfl, ((q.setOther' (by omega)).setOther' (by omega)).mono (by omega), HL, p + 4 + 1 + 4 + 1, by omega, by omega, rdAt_set (rdAt_set (rdAt_below HR9.out hb (by omega)) (by omega)) (by omega), grown_set (grown_set (grown_below HG9.out (hb.mono (by omega))) (by omega)) (Nat.le_refl _)⟩)
    clear q hb
    go_wp2_with fail
    exact bodyPost_ret (v := .agg #[.slice ua A.length uc]) (by simp [results, Try.results82, go_sem, c10]) rfl HF.out
  · have z0 : (k' == 0) = false := by rw [beq_eq_false_iff_ne]; exact e0
    have HF := Lib.hid (show NearPost R p w (.returned (.agg #[.slice (some ⟨w6.heap.size, 0, none⟩) 1 1])) (w9.setCell ⟨w.heap.size, 0, none⟩ (.slice (some ⟨w6.heap.size, 0, none⟩) 1 1)) from
      ⟨[(lo, hi)], _, rfl, ⟨some ⟨w6.heap.size, 0, none⟩, 1, rfl, .inr ⟨w6.heap.size, 1, rfl, k9.kept (Below.heap_setCell _ _ _ _ (by show w6.heap.size ≠ w.heap.size; omega)), by omega⟩⟩, by simp, p + 4 + 1 + 4 + 1, by omega, by omega, rdAt_set HR9.out (by omega), grown_set HG9.out (Nat.le_refl _)⟩)
    clear k9
    go_wp2_with fail
    exact bodyPost_ret (v := .agg #[.slice (some ⟨w6.heap.size, 0, none⟩) 1 1]) (by simp [results, Try.results82, go_sem, c9]) rfl HF.out

end Go.Proofs.Ytgnjhmmedogcoaa
