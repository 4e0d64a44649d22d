/- Contracts of ShelfAt, the program's and the model's, over this seat's translation: both answer as the plain function shAt; nothing that was there before the call has changed. Condition: at most 1048576 releases, needs of each, and spans of those. -/
import Derived.Test.YtdjnfmekbjmdhaaRoks
namespace Go.Proofs.Ytdjnfmekbjmdhaa
open Go.RowKit Go.Sort

/-- The place of the first release of a name and a version, from place k on. -/
def shFind (n : Int) (v : Int × Int × Int × Int) : Nat → List Rel → Int
  | _, [] => -1
  | k, q :: t => if q.1 = n ∧ q.2.1 = v then (k : Int) else shFind n v (k + 1) t
def shAt (S : List Rel) (n : Int) (v : Int × Int × Int × Int) : Int := if shOk S = true then shFind n v 0 S else -1
theorem shFind_step {S : List Rel} {k : Nat} {q : Rel} (h : S[k]? = some q) (n : Int) (v : Int × Int × Int × Int) : shFind n v k (S.drop k) = if q.1 = n ∧ q.2.1 = v then (k : Int) else shFind n v (k + 1) (S.drop (k + 1)) := by
  have hk : k < S.length := (List.getElem?_eq_some_iff.1 h).1
  rw [List.drop_eq_getElem_cons hk, (List.getElem?_eq_some_iff.1 h).2]
  rfl

theorem ver_alike' {a b c d p q r s : Int} (h : a = p ∧ b = q ∧ c = r ∧ d = s) (V : World) : (binOp .eql 29 (ver a b c d) (ver p q r s)).run Try.prog V = .ok (.bool true) V := by
  obtain ⟨rfl, rfl, rfl, rfl⟩ := h
  go_simp
theorem ver_differ' {a b c d p q r s : Int} (h : ¬ (a = p ∧ b = q ∧ c = r ∧ d = s)) (V : World) : (binOp .eql 29 (ver a b c d) (ver p q r s)).run Try.prog V = .ok (.bool false) V := by
  by_cases h1 : a = p
  · by_cases h2 : b = q
    · by_cases h3 : c = r
      · have b4 : (d == s) = false := by rw [beq_eq_false_iff_ne]; exact fun e => h ⟨h1, h2, h3, e⟩
        subst h1; subst h2; subst h3
        go_simp
      · have b3 : (c == r) = false := by rw [beq_eq_false_iff_ne]; exact h3
        subst h1; subst h2
        go_simp
    · have b2 : (b == q) = false := by rw [beq_eq_false_iff_ne]; exact h2
      subst h1
      go_simp
  · have b1 : (a == p) = false := by rw [beq_eq_false_iff_ne]; exact h1
    go_simp

/-- What the loops of ShelfAt keep: what is left decides. -/
def AtRel (S : List Rel) (n : Int) (v : Int × Int × Int × Int) (w1 : World) (i : Value) (wr : World) : Prop :=
  ∃ k : Nat, k ≤ S.length ∧ i = .int .i64 (k : Int) ∧ shFind n v 0 S = shFind n v k (S.drop k) ∧ Below w1.heap.size w1 wr
theorem at_push {S : List Rel} {n : Int} {v : Int × Int × Int × Int} {w1 wr : World} {k : Nat} {q : Rel} (hS : S[k]? = some q) (ho : shFind n v 0 S = shFind n v k (S.drop k)) (hn : ¬ (q.1 = n ∧ q.2.1 = v)) (hb : Below w1.heap.size w1 wr) :
    AtRel S n v w1 (.int .i64 ((k : Int) + 1)) wr := by
  have hk : k < S.length := (List.getElem?_eq_some_iff.1 hS).1
  exact ⟨k + 1, by omega, by go_num, by rw [ho, shFind_step hS, if_neg hn], hb⟩
theorem at_found {S : List Rel} {n : Int} {v : Int × Int × Int × Int} {k : Nat} {q : Rel} (hS : S[k]? = some q) (ho : shFind n v 0 S = shFind n v k (S.drop k)) (hok : shOk S = true) (hn : q.1 = n ∧ q.2.1 = v) : shAt S n v = (k : Int) := by
  unfold shAt
  rw [if_pos hok, ho, shFind_step hS, if_pos hn]

theorem found_at {S : List Rel} {n : Int} {v : Int × Int × Int × Int} {k : Nat} {q : Rel} (hS : S[k]? = some q) (ho : shFind n v 0 S = shFind n v k (S.drop k)) (hn : q.1 = n ∧ q.2.1 = v) : shFind n v 0 S = (k : Int) := by
  rw [ho, shFind_step hS, if_pos hn]

set_option maxRecDepth 100000 in
set_option maxHeartbeats 4000000 in
theorem placeOf_any (u : Value) (S : List Rel) (n p q r s : Int) (w : World) (hl : S.length ≤ 1048576) (h : RlAt w w.heap.size u S) :
    Calls Try.prog 62 #[u, .int .i64 n, ver p q r s] w fun e w' => e = .returned (.int .i64 (shFind n (p, q, r, s) 0 S)) ∧ Below w.heap.size w w' := by
  obtain ⟨sa, caps, rfl, hx⟩ := id h
  have HX := Lib.hid hx
  clear h hx
  obtain ⟨w2, hw1⟩ : ∃ V : World, V = w.alloc (.cells #[.int .i64 p, .int .i64 q, .int .i64 r, .int .i64 s] 29) := ⟨_, rfl⟩
  have HB2 : Hid (Below w.heap.size w w2) := Lib.hid (by
    rw [hw1]
    exact (Below.refl w.heap.size w).alloc (Nat.le_refl _) _)
  have s2 : w.heap.size + 1 ≤ w2.heap.size := by rw [hw1]; simp
  have y2_0 : w2.cell? ⟨w.heap.size, 0, none⟩ = some (.int .i64 p) := by rw [hw1]; go_simp
  have y2_1 : w2.cell? ⟨w.heap.size, 1, none⟩ = some (.int .i64 q) := by rw [hw1]; go_simp
  have y2_2 : w2.cell? ⟨w.heap.size, 2, none⟩ = some (.int .i64 r) := by rw [hw1]; go_simp
  have y2_3 : w2.cell? ⟨w.heap.size, 3, none⟩ = some (.int .i64 s) := by rw [hw1]; go_simp
  go_enter Try.func62, Try.ntmps62
  go_upto_region 1 with fail
  rw [← hw1]
  clear hw1
  go_wp2_with fail
  go_loopw [11] (fun i wr => AtRel S n (p, q, r, s) w2 i wr) (fun i _ => S.length - (intOf i).toNat)
  case atStart => exact ⟨0, Nat.zero_le _, rfl, rfl, Below.refl _ _⟩
  case round =>
    obtain ⟨k, hk, rfl, ho, hb⟩ := hrel
    have HO := Lib.hid ho
    have HB := Lib.hid hb
    clear ho
    by_cases hlt : k < S.length
    · have bw := HB2.out.trans (hb.mono HB2.out.size)
      have sr := hb.size
      rcases HX.out with h | ⟨g, o, rfl, hB, hc⟩
      · subst h
        exact absurd hlt (by simp)
      obtain ⟨x, a, b, c, d, f, M, hxy⟩ : ∃ x a b c d f M, S[k] = (x, (a, b, c, d), f, M) := ⟨_, _, _, _, _, _, _, rfl⟩
      have m1 := (hc k hlt).below bw hB
      rw [hxy] at m1
      obtain ⟨⟨k0, k1, k2, k3, k4, k5⟩, ad, cap, k6, hs⟩ := m1
      simp only at k0 k1 k2 k3 k4 k5 k6
      have HY := Lib.hid (show S[k]? = some (x, (a, b, c, d), f, M) by rw [List.getElem?_eq_getElem hlt, hxy])
      have mg : g < wr.heap.size := Nat.lt_of_lt_of_le hB bw.size
      have mn : w.heap.size < wr.heap.size := by omega
      have BB := Lib.hid (hb.alloc hb.size (.cells #[.int .i64 x, .int .i64 a, .int .i64 b, .int .i64 c, .int .i64 d, .bool f, .slice ad M.length cap] 41))
      have z0 := (hb.cell (p := ⟨w.heap.size, 0, none⟩) (by show w.heap.size < w2.heap.size; omega)).trans y2_0
      have z1 := (hb.cell (p := ⟨w.heap.size, 1, none⟩) (by show w.heap.size < w2.heap.size; omega)).trans y2_1
      have z2 := (hb.cell (p := ⟨w.heap.size, 2, none⟩) (by show w.heap.size < w2.heap.size; omega)).trans y2_2
      have z3 := (hb.cell (p := ⟨w.heap.size, 3, none⟩) (by show w.heap.size < w2.heap.size; omega)).trans y2_3
      clear hxy hc hs bw hb y2_0 y2_1 y2_2 y2_3
      by_cases hn : x = n
      · by_cases hv : a = p ∧ b = q ∧ c = r ∧ d = s
        · have HF := Lib.hid (found_at HY.out HO.out ⟨hn, by simp only [hv.1, hv.2.1, hv.2.2.1, hv.2.2.2]⟩)
          obtain ⟨rfl, rfl, rfl, rfl⟩ := hv
          subst hn
          go_wp2_with fail
          go_ret
          exact ⟨by rw [HF.out]; rfl, HB2.out.trans (BB.out.mono HB2.out.size)⟩
        · have HP := Lib.hid (at_push HY.out HO.out (fun e => hv (by have := e.2; simp only [Prod.mk.injEq] at this; exact this)) BB.out)
          have hD := ver_differ' hv
          clear hv
          subst hn
          go_wp2_with fail
          go_roundw
          case rel => exact HP.out
          case measure => simp [intOf]; omega
      · have HP := Lib.hid (at_push HY.out HO.out (fun e => hn e.1) BB.out)
        have hz : (x == n) = false := by rw [beq_eq_false_iff_ne]; exact hn
        go_wp2_with fail
        go_roundw
        case rel => exact HP.out
        case measure => simp [intOf]; omega
    · obtain rfl : k = S.length := by omega
      have HF := Lib.hid (show shFind n (p, q, r, s) 0 S = -1 by rw [HO.out, List.drop_length]; rfl)
      go_wp2_with fail
      go_ret
      exact ⟨by rw [HF.out]; rfl, HB2.out.trans (hb.mono HB2.out.size)⟩

set_option maxRecDepth 100000 in
set_option maxHeartbeats 4000000 in
theorem implShelfAt_any (u : Value) (S : List Rel) (n p q r s : Int) (w : World) (hl : S.length ≤ 1048576) (hq : ∀ q ∈ S, q.2.2.2.length ≤ 1048576 ∧ ∀ p ∈ q.2.2.2, p.2.length ≤ 1048576) (h : RlAt w w.heap.size u S) :
    Calls Try.prog 19 #[u, .int .i64 n, ver p q r s] w fun e w' => e = .returned (.int .i64 (shAt S n (p, q, r, s))) ∧ Below w.heap.size w w' := by
  obtain ⟨sa, caps, rfl, hx⟩ := id h
  have H := Lib.hid h
  clear h hx
  obtain ⟨w1, hw1⟩ : ∃ V : World, V = w.alloc (.cells #[.int .i64 p, .int .i64 q, .int .i64 r, .int .i64 s] 29) := ⟨_, rfl⟩
  have b1 : Below w.heap.size w w1 := by
    rw [hw1]
    exact (Below.refl w.heap.size w).alloc (Nat.le_refl _) _
  have s1 : w.heap.size + 1 ≤ w1.heap.size := by rw [hw1]; simp
  have y1_0 : w1.cell? ⟨w.heap.size, 0, none⟩ = some (.int .i64 p) := by rw [hw1]; go_simp
  have y1_1 : w1.cell? ⟨w.heap.size, 1, none⟩ = some (.int .i64 q) := by rw [hw1]; go_simp
  have y1_2 : w1.cell? ⟨w.heap.size, 2, none⟩ = some (.int .i64 r) := by rw [hw1]; go_simp
  have y1_3 : w1.cell? ⟨w.heap.size, 3, none⟩ = some (.int .i64 s) := by rw [hw1]; go_simp
  have KO : Hid (∀ V, RlAt V V.heap.size (.slice sa S.length caps) S → Calls Try.prog 60 #[.slice sa S.length caps] V fun e w' => e = .returned (.bool (shOk S)) ∧ Below V.heap.size V w') := Lib.hid fun V g => implShelfOk_any _ S V hl hq g
  rcases hok : shOk S
  · have HF := Lib.hid (show shAt S n (p, q, r, s) = -1 by unfold shAt; rw [hok]; rfl)
    rw [hok] at KO
    clear hok
    go_enter Try.func19, Try.ntmps19
    go_upto_region 1 with fail
    rw [← hw1]
    clear hw1
    go_wp2_with fail
    refine (KO.out _ (H.out.stepAt b1)).mono ?_
    rintro e w2 ⟨rfl, hb⟩
    go_wp2_with fail
    go_ret
    exact ⟨by rw [HF.out]; rfl, b1.trans (hb.mono b1.size)⟩
  · have HF := Lib.hid (show shAt S n (p, q, r, s) = shFind n (p, q, r, s) 0 S by unfold shAt; rw [if_pos hok])
    rw [hok] at KO
    clear hok
    go_enter Try.func19, Try.ntmps19
    go_upto_region 1 with fail
    rw [← hw1]
    clear hw1
    go_wp2_with fail
    refine (KO.out _ (H.out.stepAt b1)).mono ?_
    rintro e w2 ⟨rfl, hb⟩
    have b2 := b1.trans (hb.mono b1.size)
    have y2_0 := (hb.cell (p := ⟨w.heap.size, 0, none⟩) (by show w.heap.size < w1.heap.size; omega)).trans y1_0
    have y2_1 := (hb.cell (p := ⟨w.heap.size, 1, none⟩) (by show w.heap.size < w1.heap.size; omega)).trans y1_1
    have y2_2 := (hb.cell (p := ⟨w.heap.size, 2, none⟩) (by show w.heap.size < w1.heap.size; omega)).trans y1_2
    have y2_3 := (hb.cell (p := ⟨w.heap.size, 3, none⟩) (by show w.heap.size < w1.heap.size; omega)).trans y1_3
    clear hb y1_0 y1_1 y1_2 y1_3
    go_wp2_with fail
    refine (placeOf_any _ S n p q r s _ hl (H.out.stepAt b2)).mono ?_
    rintro e w3 ⟨rfl, hb⟩
    have b3 := b2.trans (hb.mono b2.size)
    go_wp2_with fail
    go_ret
    exact ⟨by rw [HF.out]; rfl, b3⟩

set_option maxRecDepth 100000 in
set_option maxHeartbeats 4000000 in
theorem specShelfAt_any (u : Value) (S : List Rel) (n p q r s : Int) (w : World) (hl : S.length ≤ 1048576) (hq : ∀ q ∈ S, q.2.2.2.length ≤ 1048576 ∧ ∀ p ∈ q.2.2.2, p.2.length ≤ 1048576) (h : RlAt w w.heap.size u S) :
    Calls Try.prog 16 #[u, .int .i64 n, ver p q r s] w fun e w' => e = .returned (.int .i64 (shAt S n (p, q, r, s))) ∧ Below w.heap.size w w' := by
  obtain ⟨sa, caps, rfl, hx⟩ := id h
  have H := Lib.hid h
  have HX := Lib.hid hx
  clear h hx
  obtain ⟨w1, hw1⟩ : ∃ V : World, V = w.alloc (.cells #[.int .i64 p, .int .i64 q, .int .i64 r, .int .i64 s] 29) := ⟨_, rfl⟩
  have b1 : Below w.heap.size w w1 := by
    rw [hw1]
    exact (Below.refl w.heap.size w).alloc (Nat.le_refl _) _
  have s1 : w.heap.size + 1 ≤ w1.heap.size := by rw [hw1]; simp
  have y1_0 : w1.cell? ⟨w.heap.size, 0, none⟩ = some (.int .i64 p) := by rw [hw1]; go_simp
  have y1_1 : w1.cell? ⟨w.heap.size, 1, none⟩ = some (.int .i64 q) := by rw [hw1]; go_simp
  have y1_2 : w1.cell? ⟨w.heap.size, 2, none⟩ = some (.int .i64 r) := by rw [hw1]; go_simp
  have y1_3 : w1.cell? ⟨w.heap.size, 3, none⟩ = some (.int .i64 s) := by rw [hw1]; go_simp
  have KO : Hid (∀ V, RlAt V V.heap.size (.slice sa S.length caps) S → Calls Try.prog 61 #[.slice sa S.length caps] V fun e w' => e = .returned (.bool (shOk S)) ∧ Below V.heap.size V w') := Lib.hid fun V g => specShelfOk_any _ S V hl hq g
  have HB1 := Lib.hid b1
  go_enter Try.func16, Try.ntmps16
  go_upto_region 1 with fail
  rw [← hw1]
  clear hw1
  go_wp2_with fail
  go_loopw [7] (fun i wr => AtRel S n (p, q, r, s) w1 i wr) (fun i _ => S.length - (intOf i).toNat)
  case atStart => exact ⟨0, Nat.zero_le _, rfl, rfl, Below.refl _ _⟩
  case round =>
    obtain ⟨k, hk, rfl, ho, hb⟩ := hrel
    have HO := Lib.hid ho
    clear ho
    by_cases hlt : k < S.length
    · have bw := HB1.out.trans (hb.mono HB1.out.size)
      have BW := Lib.hid bw
      have sr := hb.size
      have z0 := (hb.cell (p := ⟨w.heap.size, 0, none⟩) (by show w.heap.size < w1.heap.size; omega)).trans y1_0
      have z1 := (hb.cell (p := ⟨w.heap.size, 1, none⟩) (by show w.heap.size < w1.heap.size; omega)).trans y1_1
      have z2 := (hb.cell (p := ⟨w.heap.size, 2, none⟩) (by show w.heap.size < w1.heap.size; omega)).trans y1_2
      have z3 := (hb.cell (p := ⟨w.heap.size, 3, none⟩) (by show w.heap.size < w1.heap.size; omega)).trans y1_3
      have HB := Lib.hid hb
      clear hb bw y1_0 y1_1 y1_2 y1_3
      rcases hok : shOk S
      · have HF := Lib.hid (show shAt S n (p, q, r, s) = -1 by unfold shAt; rw [hok]; rfl)
        rw [hok] at KO
        clear hok
        go_wp2_with fail
        refine (KO.out _ (H.out.stepAt BW.out)).mono ?_
        rintro e w2 ⟨rfl, hb⟩
        go_wp2_with fail
        go_ret
        exact ⟨by rw [HF.out]; rfl, BW.out.trans (hb.mono BW.out.size)⟩
      · have HOK := Lib.hid hok
        rw [hok] at KO
        clear hok
        go_wp2_with fail
        refine (KO.out _ (H.out.stepAt BW.out)).mono ?_
        rintro e w2 ⟨rfl, hb⟩
        have B2 := Lib.hid (HB.out.trans (hb.mono HB.out.size))
        have bw2 := HB1.out.trans (B2.out.mono HB1.out.size)
        have u0 := cell_regrown ((hb.cell (p := ⟨w.heap.size, 0, none⟩) (by show w.heap.size < wr.heap.size; omega)).trans z0)
        have u1 := cell_regrown ((hb.cell (p := ⟨w.heap.size, 1, none⟩) (by show w.heap.size < wr.heap.size; omega)).trans z1)
        have u2 := cell_regrown ((hb.cell (p := ⟨w.heap.size, 2, none⟩) (by show w.heap.size < wr.heap.size; omega)).trans z2)
        have u3 := cell_regrown ((hb.cell (p := ⟨w.heap.size, 3, none⟩) (by show w.heap.size < wr.heap.size; omega)).trans z3)
        rcases HX.out with h | ⟨g, o, rfl, hB, hc⟩
        · subst h
          exact absurd hlt (by simp)
        obtain ⟨x, a, b, c, d, f, M, hxy⟩ : ∃ x a b c d f M, S[k] = (x, (a, b, c, d), f, M) := ⟨_, _, _, _, _, _, _, rfl⟩
        have m1 := (hc k hlt).below bw2 hB
        rw [hxy] at m1
        obtain ⟨⟨k0, k1, k2, k3, k4, k5⟩, ad, cap, k6, hs⟩ := m1
        simp only at k0 k1 k2 k3 k4
        have HY := Lib.hid (show S[k]? = some (x, (a, b, c, d), f, M) by rw [List.getElem?_eq_getElem hlt, hxy])
        have t0 := cell_regrown k0
        have t1 := cell_regrown k1
        have t2 := cell_regrown k2
        have t3 := cell_regrown k3
        have t4 := cell_regrown k4
        have i0 : (0 : Int) ≤ (k : Int) := by omega
        have i1 : (k : Int) < (S.length : Int) := by omega
        have BW2 := Lib.hid bw2
        clear hxy hc hs bw2 hb z0 z1 z2 z3 k0 k1 k2 k3 k4 k5 k6
        by_cases hn : x = n
        · have hz : (x == n) = true := by simp [hn]
          by_cases hv : a = p ∧ b = q ∧ c = r ∧ d = s
          · have HF := Lib.hid (at_found HY.out HO.out HOK.out ⟨hn, by simp only [hv.1, hv.2.1, hv.2.2.1, hv.2.2.2]⟩)
            have hD := ver_alike' hv
            clear hv
            subst hn
            go_wp2_with fail
            refine wp_region_quiet_below (by kernel_rfl) (by kernel_rfl) ?_
            repeat (any_goals (first | go_big_quiet_step (fail) | quiet_step (fail)))
            refine wpQuiet_nil ?_
            intro W2 hw
            have nn := quiet_end hw
            clear hw t0 t1 t2 t3 t4 u0 u1 u2 u3
            go_wp2_with fail
            go_ret
            exact ⟨by rw [HF.out]; rfl, BW2.out.trans (nn.mono BW2.out.size)⟩
          · have HN := Lib.hid (show ¬ ((a, b, c, d) = (p, q, r, s)) from fun e => hv (by simp only [Prod.mk.injEq] at e; exact e))
            have hD := ver_differ' hv
            clear hv
            subst hn
            go_wp2_with fail
            refine wp_region_quiet_below (by kernel_rfl) (by kernel_rfl) ?_
            repeat (any_goals (first | go_big_quiet_step (fail) | quiet_step (fail)))
            refine wpQuiet_nil ?_
            intro W2 hw
            have nn := quiet_end hw
            clear hw t0 t1 t2 t3 t4 u0 u1 u2 u3
            have HP := Lib.hid (at_push HY.out HO.out (fun e => HN.out e.2) (B2.out.trans (nn.mono B2.out.size)))
            go_wp2_with fail
            go_roundw
            case rel => exact HP.out
            case measure => simp [intOf]; omega
        · have hz : (x == n) = false := by rw [beq_eq_false_iff_ne]; exact hn
          have hz2 : decide (x = n) = false := decide_eq_false hn
          go_wp2_with fail
          refine wp_region_quiet_below (by kernel_rfl) (by kernel_rfl) ?_
          repeat (any_goals (first | go_big_quiet_step (fail) | quiet_step (fail)))
          refine wpQuiet_nil ?_
          intro W2 hw
          have nn := quiet_end hw
          clear hw t0 t1 t2 t3 t4 u0 u1 u2 u3
          have HP := Lib.hid (at_push HY.out HO.out (fun e => hn e.1) (B2.out.trans (nn.mono B2.out.size)))
          go_wp2_with fail
          go_roundw
          case rel => exact HP.out
          case measure => simp [intOf]; omega
    · obtain rfl : k = S.length := by omega
      have HF := Lib.hid (show shAt S n (p, q, r, s) = -1 by
        unfold shAt
        split
        · rw [HO.out, List.drop_length]; rfl
        · rfl)
      go_wp2_with fail
      go_ret
      exact ⟨by rw [HF.out]; rfl, HB1.out.trans (hb.mono HB1.out.size)⟩

end Go.Proofs.Ytdjnfmekbjmdhaa
