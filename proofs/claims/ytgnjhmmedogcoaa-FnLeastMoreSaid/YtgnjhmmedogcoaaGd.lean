/- Groundwork over this seat's translation: Imok, Ndok, Rok, Roki, Roks, Rat in one text; the conditions stand at each part. -/
import Derived.Test.YtgnjhmmedogcoaaGb
import Derived.Test.YtgnjhmmedogcoaaGc
import Derived.BigQuiet
import Derived.Test.YtgnjhmmedogcoaaGa
import Derived.Deep.CutRange

/- The contract of the program's own RangeOk over this seat's translation: it answers as the plain function spOk of the spans; nothing that was there before the call has changed. Condition: at most 1048576 spans. -/
namespace Go.Proofs.Ytgnjhmmedogcoaa
open Go.RowKit Go.Sort

/-- The least rank at which the next span may begin. -/
def lowOf : Option Int → Int
  | none => 0
  | some h => h + 2

theorem im_step {L : List (Int × Int)} {k : Nat} {x y : Int} (h : L[k]? = some (x, y)) (hp : ∀ p, prevOf L k = some p → 0 ≤ p ∧ p ≤ 9999999) :
    okFrom (prevOf L k) (L.drop k) = (decide (¬ (x < lowOf (prevOf L k) ∨ y < x ∨ 9999999 < y)) && okFrom (some y) (L.drop (k + 1))) := by
  rw [okFrom_step h, Bool.eq_iff_iff]
  rcases hq : prevOf L k with _ | p
  · simp only [Bool.and_eq_true, inB_iff]
    constructor
    · rintro ⟨h1, h2, _, h4⟩; exact ⟨decide_eq_true (by show ¬ (x < 0 ∨ _); omega), h4⟩
    · rintro ⟨h1, h4⟩
      have h1 : ¬ (x < 0 ∨ y < x ∨ 9999999 < y) := of_decide_eq_true h1
      exact ⟨by omega, by omega, trivial, h4⟩
  · have := hp p hq
    simp only [Bool.and_eq_true, inB_iff]
    constructor
    · rintro ⟨h1, h2, h3, h4⟩
      have h3 := of_decide_eq_true h3
      exact ⟨decide_eq_true (by show ¬ (x < p + 2 ∨ _); omega), h4⟩
    · rintro ⟨h1, h4⟩
      have h1 : ¬ (x < p + 2 ∨ y < x ∨ 9999999 < y) := of_decide_eq_true h1
      exact ⟨by omega, by omega, decide_eq_true (by omega), h4⟩

/-- What the loop of RangeOk keeps: what is left decides, and the span before lies below the greatest rank. -/
def ImRel (L : List (Int × Int)) (w : World) (v1 : Value) (lo i : Value) (wr : World) : Prop :=
  ∃ k : Nat, k ≤ L.length ∧ i = .int .i64 (k : Int) ∧ lo = .int .i64 (lowOf (prevOf L k)) ∧ okFrom none L = okFrom (prevOf L k) (L.drop k) ∧ (∀ p, prevOf L k = some p → 0 ≤ p ∧ p ≤ 9999999) ∧
    Below (w.heap.size + 1) (w.alloc (.cells #[v1] 57)) wr

theorem im_low {L : List (Int × Int)} {k : Nat} (hp : ∀ p, prevOf L k = some p → 0 ≤ p ∧ p ≤ 9999999) : 0 ≤ lowOf (prevOf L k) ∧ lowOf (prevOf L k) ≤ 10000001 := by
  rcases hq : prevOf L k with _ | p
  · simp [lowOf]
  · have := hp p hq
    simp only [lowOf]; omega

theorem im_push {L : List (Int × Int)} {w wr : World} {v1 : Value} {k : Nat} {x y : Int} (hL : L[k]? = some (x, y)) (ho : okFrom none L = okFrom (prevOf L k) (L.drop k)) (hp : ∀ p, prevOf L k = some p → 0 ≤ p ∧ p ≤ 9999999)
    (hgood : ¬ (x < lowOf (prevOf L k) ∨ y < x ∨ 9999999 < y)) (hb : Below (w.heap.size + 1) (w.alloc (.cells #[v1] 57)) wr) : ImRel L w v1 (.int .i64 (y + 2)) (.int .i64 ((k : Int) + 1)) wr := by
  have hk : k < L.length := (List.getElem?_eq_some_iff.1 hL).1
  have h0 := im_low hp
  have e : prevOf L (k + 1) = some y := by simp [prevOf, hL]
  refine ⟨k + 1, by omega, by go_num, by rw [e]; rfl, ?_, fun p hp' => ?_, hb⟩
  · rw [ho, im_step hL hp, decide_eq_true hgood, e]; rfl
  · rw [e] at hp'
    cases hp'
    omega

set_option maxHeartbeats 1000000 in
theorem implRangeOk_any (a : Option Addr) (cap : Nat) (L : List (Int × Int)) (w : World) (hl : L.length ≤ 1048576) (h : SpAt w w.heap.size (.slice a L.length cap) L) :
    Calls Try.prog 80 #[.agg #[.slice a L.length cap]] w fun e w' => e = .returned (.bool (spOk L)) ∧ Below w.heap.size w w' := by
  have HH := Lib.hid h
  clear h
  have hb0 := (Below.refl w.heap.size w).alloc (Nat.le_refl _) (.cells #[.slice a L.length cap] 57)
  have v0 : (w.alloc (.cells #[.slice a L.length cap] 57)).cell? ⟨w.heap.size, 0, none⟩ = some (.slice a L.length cap) := by go_simp
  by_cases h40 : L.length ≤ 40
  · go_enter Try.func80, Try.ntmps80
    go_wp2
    go_loopw [3, 13] (fun lo i wr => ImRel L w (.slice a L.length cap) lo i wr) (fun _ i _ => L.length - (intOf i).toNat)
    case atStart => exact ⟨0, Nat.zero_le _, rfl, rfl, rfl, fun p hp => (by cases hp), Below.refl _ _⟩
    case round =>
      obtain ⟨k, hk, rfl, rfl, ho, hp, hb⟩ := hrel
      have HO := Lib.hid ho
      have HPB := Lib.hid hp
      have lw := im_low hp
      clear ho hp
      have z1 := hb.size
      simp at z1
      by_cases hlt : k < L.length
      · obtain ⟨a1, cap1, e1, h1⟩ := HH.out
        simp only [Value.slice.injEq] at e1
        obtain ⟨rfl, _, rfl⟩ := e1
        rcases h1 with h1 | ⟨b, o, rfl, hB, hc⟩
        · subst h1
          exact absurd hlt (by simp)
        have hbw := (hb0.trans (hb.mono (Nat.le_succ _)))
        obtain ⟨x, y, hxy⟩ : ∃ x y, L[k] = (x, y) := ⟨_, _, rfl⟩
        have c := hc k hlt
        rw [hxy] at c
        have c0 := (hbw.cell (p := ⟨b, o + k * 2, none⟩) hB).trans c.1
        have c1 := (hbw.cell (p := ⟨b, o + k * 2 + 1, none⟩) hB).trans c.2
        have HX := Lib.hid (show L[k]? = some (x, y) by rw [List.getElem?_eq_getElem hlt, hxy])
        clear c hxy hc
        simp only at c0 c1
        have step := im_step HX.out HPB.out
        by_cases hgood : x < lowOf (prevOf L k) ∨ y < x ∨ 9999999 < y
        · have HF := Lib.hid (show spOk L = false by unfold spOk; rw [HO.out, step]; simp [hgood])
          clear step
          have fin := Lib.hid hbw
          rcases hgood with h1 | h2
          · go_wp2_with fail
            go_ret
            exact ⟨by rw [HF.out]; rfl, fin.out.alloc fin.out.size _⟩
          by_cases h1 : x < lowOf (prevOf L k)
          · go_wp2_with fail
            go_ret
            exact ⟨by rw [HF.out]; rfl, fin.out.alloc fin.out.size _⟩
          rcases h2 with h2 | h3
          · go_wp2_with fail
            go_ret
            exact ⟨by rw [HF.out]; rfl, fin.out.alloc fin.out.size _⟩
          by_cases h2 : y < x
          · go_wp2_with fail
            go_ret
            exact ⟨by rw [HF.out]; rfl, fin.out.alloc fin.out.size _⟩
          go_wp2_with fail
          go_ret
          exact ⟨by rw [HF.out]; rfl, fin.out.alloc fin.out.size _⟩
        · have HP := Lib.hid (im_push (v1 := .slice (some ⟨b, o, none⟩) L.length cap) HX.out HO.out HPB.out hgood (hb.alloc (by omega) (.cells #[.int .i64 x, .int .i64 y] 73)))
          clear step hb hbw
          have g1 : ¬ x < lowOf (prevOf L k) := fun h => hgood (.inl h)
          have g2 : ¬ y < x := fun h => hgood (.inr (.inl h))
          have g3 : ¬ 9999999 < y := fun h => hgood (.inr (.inr h))
          have g4 : 0 ≤ y := by omega
          clear hgood
          go_wp2_with fail
          go_roundw
          case rel => exact HP.out
          case measure => simp [intOf]; omega
      · obtain rfl : k = L.length := by omega
        have HF := Lib.hid (show spOk L = true by unfold spOk; rw [HO.out, List.drop_length]; simp [okFrom, h40])
        have hbw := (hb0.trans (hb.mono (Nat.le_succ _)))
        clear hb
        go_wp2_with fail
        go_ret
        exact ⟨by rw [HF.out]; rfl, hbw⟩
  · have HF := Lib.hid (show spOk L = false by unfold spOk; simp [h40])
    have i1 : ¬ (L.length : Int) ≤ 40 := by omega
    go_enter Try.func80, Try.ntmps80
    go_wp2_with fail
    go_ret
    exact ⟨by rw [HF.out]; rfl, hb0⟩

end Go.Proofs.Ytgnjhmmedogcoaa

/- Contracts of NeedsOk, the program's and the model's, over this seat's translation: both answer as the plain function ndOk of the needs; nothing that was there before the call has changed. Condition: at most 1048576 needs, and spans of each. -/
namespace Go.Proofs.Ytgnjhmmedogcoaa
open Go.RowKit Go.Sort

/-- Needs with ascending names from a number on, up to 7, each with a range. -/
def ndFrom (lo : Int) : List Nd → Bool
  | [] => true
  | x :: t => decide (lo ≤ x.1 ∧ x.1 ≤ 7) && (spOk x.2 && ndFrom (x.1 + 1) t)
def ndOk (M : List Nd) : Bool := ndFrom 0 M && decide (M.length ≤ 5)

/-- The least name that the need at place k may have. -/
def ndLow (M : List Nd) : Nat → Int
  | 0 => 0
  | k + 1 => match M[k]? with | none => 0 | some x => x.1 + 1

theorem ndFrom_step {M : List Nd} {k : Nat} {x : Nd} (h : M[k]? = some x) (lo : Int) :
    ndFrom lo (M.drop k) = (decide (lo ≤ x.1 ∧ x.1 ≤ 7) && (spOk x.2 && ndFrom (x.1 + 1) (M.drop (k + 1)))) := by
  have hk : k < M.length := (List.getElem?_eq_some_iff.1 h).1
  rw [List.drop_eq_getElem_cons hk, (List.getElem?_eq_some_iff.1 h).2]
  rfl
theorem ndLow_next {M : List Nd} {k : Nat} {x : Nd} (h : M[k]? = some x) : ndLow M (k + 1) = x.1 + 1 := by simp [ndLow, h]

theorem rngOk_is {v : Value} {L : List (Int × Int)} {w : World} (hl : L.length ≤ 1048576) (h : SpAt w w.heap.size v L) :
    Calls Try.prog 80 #[.agg #[v]] w fun e w' => e = .returned (.bool (spOk L)) ∧ Below w.heap.size w w' := by
  obtain ⟨a, cap, rfl, hc⟩ := h
  exact implRangeOk_any a cap L w hl ⟨a, cap, rfl, hc⟩
theorem srngOk_is {v : Value} {L : List (Int × Int)} {w : World} (hl : L.length ≤ 1048576) (h : SpAt w w.heap.size v L) :
    Calls Try.prog 87 #[.agg #[v]] w fun e w' => e = .returned (.bool (spOk L)) ∧ Below w.heap.size w w' := by
  obtain ⟨a, cap, rfl, hc⟩ := h
  exact specRangeOk_any a cap L w hl ⟨a, cap, rfl, hc⟩

/-- What the loop of the program's NeedsOk keeps: what is left decides. -/
def INdRel (M : List Nd) (w : World) (lo i : Value) (wr : World) : Prop :=
  ∃ k : Nat, k ≤ M.length ∧ i = .int .i64 (k : Int) ∧ lo = .int .i64 (ndLow M k) ∧ ndFrom 0 M = ndFrom (ndLow M k) (M.drop k) ∧ 0 ≤ ndLow M k ∧ ndLow M k ≤ 8 ∧ Below w.heap.size w wr

theorem ind_push {M : List Nd} {w wr : World} {k : Nat} {x : Int} {L : List (Int × Int)} (hM : M[k]? = some (x, L)) (ho : ndFrom 0 M = ndFrom (ndLow M k) (M.drop k)) (h0 : 0 ≤ ndLow M k) (h1 : ndLow M k ≤ x) (h2 : x ≤ 7) (h3 : spOk L = true) (hb : Below w.heap.size w wr) :
    INdRel M w (.int .i64 (x + 1)) (.int .i64 ((k : Int) + 1)) wr := by
  have hk : k < M.length := (List.getElem?_eq_some_iff.1 hM).1
  have e := ndLow_next hM
  simp only at e
  refine ⟨k + 1, by omega, by go_num, by rw [e], ?_, by omega, by omega, hb⟩
  rw [ho, ndFrom_step hM, e]
  simp [h1, h2, h3]

set_option maxRecDepth 100000 in
set_option maxHeartbeats 2000000 in
theorem implNeedsOk_any (v : Value) (M : List Nd) (w : World) (hl : M.length ≤ 1048576) (hq : ∀ q ∈ M, q.2.length ≤ 1048576) (h : NdAt w w.heap.size v M) :
    Calls Try.prog 47 #[v] w fun e w' => e = .returned (.bool (ndOk M)) ∧ Below w.heap.size w w' := by
  obtain ⟨a, cap, rfl, h⟩ := h
  by_cases h5 : M.length ≤ 5
  · go_enter Try.func47, Try.ntmps47
    go_wp2
    go_loopw [3, 11] (fun lo i wr => INdRel M w lo i wr) (fun _ i _ => M.length - (intOf i).toNat)
    case atStart => exact ⟨0, Nat.zero_le _, rfl, rfl, rfl, by simp [ndLow], by simp [ndLow], Below.refl _ _⟩
    case round =>
      obtain ⟨k, hk, rfl, rfl, ho, l0, l8, hb⟩ := hrel
      have HO := Lib.hid ho
      clear ho
      by_cases hlt : k < M.length
      · rcases h with h | ⟨b, o, rfl, hB, hc⟩
        · subst h
          exact absurd hlt (by simp)
        obtain ⟨x, L, hxy⟩ : ∃ x L, M[k] = (x, L) := ⟨_, _, rfl⟩
        have c := (hc k hlt).below hb hB
        rw [hxy] at c
        obtain ⟨c0, a1, cap1, c1, hs⟩ := c
        have hL : L.length ≤ 1048576 := by have := hq _ (List.getElem_mem hlt); rwa [hxy] at this
        simp only at c0 c1 hs
        have hs := hs.mono hb.size
        have HX := Lib.hid (show M[k]? = some (x, L) by rw [List.getElem?_eq_getElem hlt, hxy])
        clear hxy hc
        have step := ndFrom_step HX.out (ndLow M k)
        simp only at step
        have bb := hb.alloc hb.size (.cells #[.int .i64 x, .slice a1 L.length cap1] 59)
        have hn := ndLow_next HX.out
        by_cases h1 : x < ndLow M k
        · have HF := Lib.hid (show ndOk M = false by unfold ndOk; rw [HO.out, step, decide_eq_false (by omega)]; simp)
          clear step hn
          generalize ndLow M k = lo at *
          go_wp2_with fail
          go_ret
          exact ⟨by rw [HF.out]; rfl, bb⟩
        by_cases h2 : 7 < x
        · have HF := Lib.hid (show ndOk M = false by unfold ndOk; rw [HO.out, step, decide_eq_false (by omega)]; simp)
          clear step hn
          generalize ndLow M k = lo at *
          go_wp2_with fail
          go_ret
          exact ⟨by rw [HF.out]; rfl, bb⟩
        have hx0 : 0 ≤ x := by omega
        rcases h3 : spOk L
        · have HF := Lib.hid (show ndOk M = false by unfold ndOk; rw [HO.out, step, h3]; simp)
          have KR := Lib.hid (show ∀ V, SpAt V V.heap.size (.slice a1 L.length cap1) L → _ from fun V g => rngOk_is (w := V) hL g)
          rw [h3] at KR
          clear step hn h3
          generalize ndLow M k = lo at *
          go_wp2_with fail
          refine (KR.out _ (hs.stepAt (by go_grown))).mono ?_
          rintro e w2 ⟨rfl, hb2⟩
          go_wp2_with fail
          go_ret
          exact ⟨by rw [HF.out]; rfl, bb.trans (hb2.mono bb.size)⟩
        · have KR := Lib.hid (show ∀ V, SpAt V V.heap.size (.slice a1 L.length cap1) L → _ from fun V g => rngOk_is (w := V) hL g)
          rw [h3] at KR
          have H3 := Lib.hid h3
          have L0 := Lib.hid l0
          have L1 := Lib.hid (show ndLow M k ≤ x by omega)
          clear step hn h3
          obtain ⟨lo, hlo⟩ : ∃ lo, ndLow M k = lo := ⟨_, rfl⟩
          have HLO := Lib.hid hlo
          rw [hlo] at l0 l8 h1 ⊢
          clear hlo
          go_wp2_with fail
          refine (KR.out _ (hs.stepAt (by go_grown))).mono ?_
          rintro e w2 ⟨rfl, hb2⟩
          have HP := Lib.hid (ind_push HX.out HO.out L0.out L1.out (by omega) H3.out (bb.trans (hb2.mono bb.size)))
          have bx : w2.cell? ⟨wr.heap.size, 0, none⟩ = some (.int .i64 x) := (hb2.cell (p := ⟨wr.heap.size, 0, none⟩) (by simp)).trans (by go_simp)
          clear hb hb2 bb
          go_wp2_with fail
          go_roundw
          case rel => exact HP.out
          case measure => simp [intOf]; omega
      · obtain rfl : k = M.length := by omega
        have HF := Lib.hid (show ndOk M = true by unfold ndOk; rw [HO.out, List.drop_length]; simp [ndFrom, h5])
        generalize ndLow M M.length = lo at *
        go_wp2_with fail
        go_ret
        exact ⟨by rw [HF.out]; rfl, hb⟩
  · have HF := Lib.hid (show ndOk M = false by unfold ndOk; simp [h5])
    clear h
    go_enter Try.func47, Try.ntmps47
    go_wp2
    go_ret
    exact ⟨by rw [HF.out]; rfl, Below.refl _ _⟩

/-- What the loop of the model's NeedsOk keeps: what is left decides. -/
def SNdRel (M : List Nd) (w : World) (i : Value) (wr : World) : Prop :=
  ∃ k : Nat, k ≤ M.length ∧ i = .int .i64 (k : Int) ∧ ndFrom 0 M = ndFrom (ndLow M k) (M.drop k) ∧ 0 ≤ ndLow M k ∧ Below w.heap.size w wr

theorem snd_push {M : List Nd} {w wr : World} {k : Nat} {x : Int} {L : List (Int × Int)} (hM : M[k]? = some (x, L)) (ho : ndFrom 0 M = ndFrom (ndLow M k) (M.drop k)) (h1 : ndLow M k ≤ x) (hI : inB x 0 7 = true) (h3 : spOk L = true) (hb : Below w.heap.size w wr) :
    SNdRel M w (.int .i64 ((k : Int) + 1)) wr := by
  have hk : k < M.length := (List.getElem?_eq_some_iff.1 hM).1
  have e := ndLow_next hM
  have h2 := inB_iff.1 hI
  simp only at e
  refine ⟨k + 1, by omega, by go_num, ?_, by omega, hb⟩
  rw [ho, ndFrom_step hM, e]
  simp [h1, h2.2, h3]

set_option maxRecDepth 100000 in
set_option maxHeartbeats 4000000 in
theorem specNeedsOk_any (v : Value) (M : List Nd) (w : World) (hl : M.length ≤ 1048576) (hq : ∀ q ∈ M, q.2.length ≤ 1048576) (h : NdAt w w.heap.size v M) :
    Calls Try.prog 53 #[v] w fun e w' => e = .returned (.bool (ndOk M)) ∧ Below w.heap.size w w' := by
  obtain ⟨a, cap, rfl, h⟩ := h
  go_enter Try.func53, Try.ntmps53
  go_wp2
  go_loopw [3] (fun i wr => SNdRel M w i wr) (fun i _ => M.length - (intOf i).toNat)
  case atStart => exact ⟨0, Nat.zero_le _, rfl, rfl, by simp [ndLow], Below.refl _ _⟩
  case round =>
    obtain ⟨k, hk, rfl, ho, l0, hb⟩ := hrel
    have HO := Lib.hid ho
    clear ho
    by_cases hlt : k < M.length
    · rcases h with h | ⟨b, o, rfl, hB, hc⟩
      · subst h
        exact absurd hlt (by simp)
      obtain ⟨x, L, hxy⟩ : ∃ x L, M[k] = (x, L) := ⟨_, _, rfl⟩
      have c := (hc k hlt).below hb hB
      rw [hxy] at c
      obtain ⟨c0, a1, cap1, c1, hs⟩ := c
      have hL : L.length ≤ 1048576 := by have := hq _ (List.getElem_mem hlt); rwa [hxy] at this
      simp only at c0 c1 hs
      have hs := hs.mono hb.size
      have mb : b < wr.heap.size := Nat.lt_of_lt_of_le hB hb.size
      have HX := Lib.hid (show M[k]? = some (x, L) by rw [List.getElem?_eq_getElem hlt, hxy])
      have HC := Lib.hid hc
      clear hxy hc
      have step := ndFrom_step HX.out (ndLow M k)
      simp only at step
      have i0 : (0 : Int) ≤ (k : Int) := by omega
      have i1 : (k : Int) < (M.length : Int) := by omega
      rcases hI : inB x 0 7
      · have HF := Lib.hid (show ndOk M = false by
          have : ¬ (0 ≤ x ∧ x ≤ 7) := fun e => by rw [inB_iff.2 e] at hI; cases hI
          unfold ndOk; rw [HO.out, step, decide_eq_false (by omega)]; simp)
        have KI : Hid (∀ V, Calls Try.prog 84 #[.int .i64 x, .int .i64 0, .int .i64 7] V fun e w' => e = .returned (.bool false) ∧ Below V.heap.size V w') := Lib.hid fun V => by have := l1In_below x 0 7 V; rwa [hI] at this
        clear step l0 hI
        have t0 := cell_regrown c0
        have t1 := cell_regrown c1
        go_wp2_with fail
        refine wp_region_quiet_below (by kernel_rfl) (by kernel_rfl) ?_
        repeat (any_goals (first | go_big_quiet_step ((first | (go_at_call 84; exact Calls.regrown_of (KI.out _)))) | quiet_step ((first | (go_at_call 84; exact Calls.regrown_of (KI.out _))))))
        refine wpQuiet_nil ?_
        intro W2 hw
        have nn := quiet_end hw
        clear hw t0 t1
        go_wp2_with fail
        go_ret
        exact ⟨by rw [HF.out]; rfl, hb.trans (nn.mono hb.size)⟩
      have HI := Lib.hid hI
      obtain ⟨x0, x7⟩ := inB_iff.1 hI
      have KI : Hid (∀ V, Calls Try.prog 84 #[.int .i64 x, .int .i64 0, .int .i64 7] V fun e w' => e = .returned (.bool true) ∧ Below V.heap.size V w') := Lib.hid fun V => by have := l1In_below x 0 7 V; rwa [hI] at this
      rcases h3 : spOk L
      · have HF := Lib.hid (show ndOk M = false by unfold ndOk; rw [HO.out, step, h3]; simp)
        have KR : Hid (∀ V, SpAt V V.heap.size (.slice a1 L.length cap1) L → Calls Try.prog 87 #[.agg #[.slice a1 L.length cap1]] V fun e w' => e = .returned (.bool false) ∧ Below V.heap.size V w') := Lib.hid fun V g => by have := srngOk_is (w := V) hL g; rwa [h3] at this
        clear step l0 hI h3
        have t0 := cell_regrown c0
        have t1 := cell_regrown c1
        go_wp2_with fail
        refine wp_region_quiet_below (by kernel_rfl) (by kernel_rfl) ?_
        repeat (any_goals (first | go_big_quiet_step ((first | (go_at_call 84; exact Calls.regrown_of (KI.out _)) | (go_at_call 87; exact Calls.regrown_of (KR.out _ (hs.stepAt (below_regrown _ _ _)))))) | quiet_step ((first | (go_at_call 84; exact Calls.regrown_of (KI.out _)) | (go_at_call 87; exact Calls.regrown_of (KR.out _ (hs.stepAt (below_regrown _ _ _))))))))
        refine wpQuiet_nil ?_
        intro W2 hw
        have nn := quiet_end hw
        clear hw t0 t1
        go_wp2_with fail
        go_ret
        exact ⟨by rw [HF.out]; rfl, hb.trans (nn.mono hb.size)⟩
      have H3 := Lib.hid h3
      have KR : Hid (∀ V, SpAt V V.heap.size (.slice a1 L.length cap1) L → Calls Try.prog 87 #[.agg #[.slice a1 L.length cap1]] V fun e w' => e = .returned (.bool true) ∧ Below V.heap.size V w') := Lib.hid fun V g => by have := srngOk_is (w := V) hL g; rwa [h3] at this
      rcases Nat.eq_zero_or_pos k with hkz | hkp
      · have HN := Lib.hid (show ndLow M k ≤ x by rw [hkz]; exact x0)
        have hk0 : decide ((0 : Int) < (k : Int)) = false := decide_eq_false (by omega)
        have hk1 : decide (0 < k) = false := decide_eq_false (by omega)
        clear step l0 hI h3 hkz
        have t0 := cell_regrown c0
        have t1 := cell_regrown c1
        go_wp2_with fail
        refine wp_region_quiet_below (by kernel_rfl) (by kernel_rfl) ?_
        repeat (any_goals (first | go_big_quiet_step ((first | (go_at_call 84; exact Calls.regrown_of (KI.out _)) | (go_at_call 87; exact Calls.regrown_of (KR.out _ (hs.stepAt (below_regrown _ _ _)))))) | quiet_step ((first | (go_at_call 84; exact Calls.regrown_of (KI.out _)) | (go_at_call 87; exact Calls.regrown_of (KR.out _ (hs.stepAt (below_regrown _ _ _))))))))
        refine wpQuiet_nil ?_
        intro W2 hw
        have nn := quiet_end hw
        clear hw t0 t1
        have HP := Lib.hid (snd_push HX.out HO.out HN.out HI.out H3.out (hb.trans (nn.mono hb.size)))
        go_wp2_with fail
        go_roundw
        case rel => exact HP.out
        case measure => simp [intOf]; omega
      · obtain ⟨m, rfl⟩ : ∃ m, k = m + 1 := ⟨k - 1, by omega⟩
        obtain ⟨p, Lp, hxp⟩ : ∃ p Lp, M[m] = (p, Lp) := ⟨_, _, rfl⟩
        have cm := ((HC.out m (by omega)).below hb hB).1
        rw [hxp] at cm
        simp only at cm
        have hlow : ndLow M (m + 1) = p + 1 := ndLow_next (x := (p, Lp)) (by rw [List.getElem?_eq_getElem (show m < M.length by omega), hxp])
        have j0 : (0 : Int) ≤ (m : Int) := by omega
        have j1 : (m : Int) < (M.length : Int) := by omega
        have hk0 : (0 : Int) < (m : Int) + 1 := by omega
        clear hxp
        by_cases hpx : p < x
        · have HN := Lib.hid (show ndLow M (m + 1) ≤ x by omega)
          clear step l0 hI h3 hlow
          have t0 := cell_regrown c0
          have t1 := cell_regrown c1
          have t2 := cell_regrown cm
          go_wp2_with fail
          refine wp_region_quiet_below (by kernel_rfl) (by kernel_rfl) ?_
          repeat (any_goals (first | go_big_quiet_step ((first | (go_at_call 84; exact Calls.regrown_of (KI.out _)) | (go_at_call 87; exact Calls.regrown_of (KR.out _ (hs.stepAt (below_regrown _ _ _)))))) | quiet_step ((first | (go_at_call 84; exact Calls.regrown_of (KI.out _)) | (go_at_call 87; exact Calls.regrown_of (KR.out _ (hs.stepAt (below_regrown _ _ _))))))))
          refine wpQuiet_nil ?_
          intro W2 hw
          have nn := quiet_end hw
          clear hw t0 t1 t2
          have HP := Lib.hid (snd_push HX.out HO.out HN.out HI.out H3.out (hb.trans (nn.mono hb.size)))
          go_wp2_with fail
          go_roundw
          case rel => exact HP.out
          case measure => simp [intOf]; omega
        · have HF := Lib.hid (show ndOk M = false by unfold ndOk; rw [HO.out, step, decide_eq_false (by omega)]; simp)
          clear step l0 hI h3 hlow
          have t0 := cell_regrown c0
          have t1 := cell_regrown c1
          have t2 := cell_regrown cm
          go_wp2_with fail
          refine wp_region_quiet_below (by kernel_rfl) (by kernel_rfl) ?_
          repeat (any_goals (first | go_big_quiet_step ((first | (go_at_call 84; exact Calls.regrown_of (KI.out _)) | (go_at_call 87; exact Calls.regrown_of (KR.out _ (hs.stepAt (below_regrown _ _ _)))))) | quiet_step ((first | (go_at_call 84; exact Calls.regrown_of (KI.out _)) | (go_at_call 87; exact Calls.regrown_of (KR.out _ (hs.stepAt (below_regrown _ _ _))))))))
          refine wpQuiet_nil ?_
          intro W2 hw
          have nn := quiet_end hw
          clear hw t0 t1 t2
          go_wp2_with fail
          go_ret
          exact ⟨by rw [HF.out]; rfl, hb.trans (nn.mono hb.size)⟩
    · obtain rfl : k = M.length := by omega
      have HF := Lib.hid (show ndOk M = decide ((M.length : Int) ≤ 5) by unfold ndOk; rw [HO.out, List.drop_length]; simp only [ndFrom, Bool.true_and]; exact decide_eq_decide.2 (by omega))
      go_wp2_with fail
      go_ret
      exact ⟨by rw [HF.out]; rfl, hb⟩

end Go.Proofs.Ytgnjhmmedogcoaa

/- Plain facts of shelves of releases (ascending by names, and by versions for one name), and contracts of the program's small functions on releases, over this seat's translation; nothing that was there before a call has changed. Condition: at most 1048576 needs of a release, and spans of each. -/
namespace Go.Proofs.Ytgnjhmmedogcoaa
open Go.RowKit Go.Sort

def hasName (x : Int) (M : List Nd) : Bool := M.any fun q => decide (q.1 = x)
def relOk (q : Rel) : Bool := inB q.1 0 7 && (vOk q.2.1.1 q.2.1.2.1 q.2.1.2.2.1 q.2.1.2.2.2 && (ndOk q.2.2.2 && !hasName q.1 q.2.2.2))
def relLess (p q : Rel) : Bool := if p.1 = q.1 then vLess p.2.1.1 p.2.1.2.1 p.2.1.2.2.1 p.2.1.2.2.2 q.2.1.1 q.2.1.2.1 q.2.1.2.2.1 q.2.1.2.2.2 else decide (p.1 < q.1)
def shFrom (prev : Option Rel) : List Rel → Bool
  | [] => true
  | q :: t => relOk q && ((match prev with | none => true | some p => relLess p q) && shFrom (some q) t)
def shOk (S : List Rel) : Bool := shFrom none S && decide (S.length ≤ 30)
/-- The release before place k. -/
def relAt (S : List Rel) : Nat → Option Rel
  | 0 => none
  | k + 1 => S[k]?
theorem shFrom_step {S : List Rel} {k : Nat} {q : Rel} (h : S[k]? = some q) (prev : Option Rel) : shFrom prev (S.drop k) = (relOk q && ((match prev with | none => true | some p => relLess p q) && shFrom (some q) (S.drop (k + 1)))) := by
  have hk : k < S.length := (List.getElem?_eq_some_iff.1 h).1
  rw [List.drop_eq_getElem_cons hk, (List.getElem?_eq_some_iff.1 h).2]
  rfl
theorem hasName_step {M : List Nd} {k : Nat} {q : Nd} (h : M[k]? = some q) (x : Int) : hasName x (M.drop k) = (decide (q.1 = x) || hasName x (M.drop (k + 1))) := by
  have hk : k < M.length := (List.getElem?_eq_some_iff.1 h).1
  rw [List.drop_eq_getElem_cons hk, (List.getElem?_eq_some_iff.1 h).2]
  rfl

set_option maxRecDepth 100000 in
set_option maxHeartbeats 400000 in
theorem nameOk_any (x : Int) (w : World) : Calls Try.prog 105 #[.int .i64 x] w fun e w' => e = .returned (.bool (inB x 0 7)) ∧ Below w.heap.size w w' := by
  have hr : inB x 0 7 = decide (0 ≤ x ∧ x ≤ 7) := by
    rw [Bool.eq_iff_iff, inB_iff, decide_eq_true_eq]
  rw [hr]
  by_cases h0 : 0 ≤ x
  · by_cases h7 : x ≤ 7
    · rw [decide_eq_true (p := 0 ≤ x ∧ x ≤ 7) ⟨h0, h7⟩]
      go_enter Try.func105, Try.ntmps105
      go_wp2_with fail
      go_ret
      exact ⟨rfl, Below.refl _ _⟩
    · rw [decide_eq_false (p := 0 ≤ x ∧ x ≤ 7) (fun e => h7 e.2)]
      go_enter Try.func105, Try.ntmps105
      go_wp2_with fail
      go_ret
      exact ⟨rfl, Below.refl _ _⟩
  · rw [decide_eq_false (p := 0 ≤ x ∧ x ≤ 7) (fun e => h0 e.1)]
    go_enter Try.func105, Try.ntmps105
    go_wp2_with fail
    go_ret
    exact ⟨rfl, Below.refl _ _⟩

def HNRel (M : List Nd) (x : Int) (w : World) (i : Value) (wr : World) : Prop :=
  ∃ k : Nat, k ≤ M.length ∧ i = .int .i64 (k : Int) ∧ hasName x M = hasName x (M.drop k) ∧ Below w.heap.size w wr

set_option maxRecDepth 100000 in
set_option maxHeartbeats 1000000 in
theorem needsName_any (v : Value) (M : List Nd) (x : Int) (w : World) (hl : M.length ≤ 1048576) (h : NdAt w w.heap.size v M) :
    Calls Try.prog 106 #[v, .int .i64 x] w fun e w' => e = .returned (.bool (hasName x M)) ∧ Below w.heap.size w w' := by
  obtain ⟨ad, cap, rfl, h⟩ := h
  go_enter Try.func106, Try.ntmps106
  go_wp2
  go_loopw [9] (fun i wr => HNRel M x w i wr) (fun i _ => M.length - (intOf i).toNat)
  case atStart => exact ⟨0, Nat.zero_le _, rfl, rfl, Below.refl _ _⟩
  case round =>
    obtain ⟨k, hk, rfl, ho, hb⟩ := hrel
    have HO := Lib.hid ho
    clear ho
    by_cases hlt : k < M.length
    · rcases h with h | ⟨b, o, rfl, hB, hc⟩
      · subst h
        exact absurd hlt (by simp)
      obtain ⟨y, L, hxy⟩ : ∃ y L, M[k] = (y, L) := ⟨_, _, rfl⟩
      have c := (hc k hlt).below hb hB
      rw [hxy] at c
      obtain ⟨c0, a1, cap1, c1, hs⟩ := c
      simp only at c0 c1
      have HX := Lib.hid (show M[k]? = some (y, L) by rw [List.getElem?_eq_getElem hlt, hxy])
      clear hxy hc hs
      have bb := hb.alloc hb.size (.cells #[.int .i64 y, .slice a1 L.length cap1] 59)
      by_cases hyx : y = x
      · have HF := Lib.hid (show hasName x M = true by rw [HO.out, hasName_step HX.out]; simp [hyx])
        subst hyx
        go_wp2_with fail
        go_ret
        exact ⟨by rw [HF.out]; rfl, bb⟩
      · have HP := Lib.hid (show HNRel M x w (.int .i64 ((k : Int) + 1)) _ from ⟨k + 1, by omega, by go_num, by rw [HO.out, hasName_step HX.out]; simp [hyx], bb⟩)
        have hz : (y == x) = false := by rw [beq_eq_false_iff_ne]; exact hyx
        clear bb hb
        go_wp2_with fail
        go_roundw
        case rel => exact HP.out
        case measure => simp [intOf]; omega
    · obtain rfl : k = M.length := by omega
      have HF := Lib.hid (show hasName x M = false by rw [HO.out, List.drop_length]; rfl)
      go_wp2_with fail
      go_ret
      exact ⟨by rw [HF.out]; rfl, hb⟩

set_option maxRecDepth 100000 in
set_option maxHeartbeats 2000000 in
theorem releaseOk_any (x a b c d : Int) (f : Bool) (v : Value) (M : List Nd) (w : World) (hl : M.length ≤ 1048576) (hq : ∀ q ∈ M, q.2.length ≤ 1048576) (h : NdAt w w.heap.size v M) :
    Calls Try.prog 91 #[rels x a b c d f v] w fun e w' => e = .returned (.bool (relOk (x, (a, b, c, d), f, M))) ∧ Below w.heap.size w w' := by
  have e1 := h
  obtain ⟨ad, cap, rfl, y1⟩ := e1
  clear y1
  have K1 := Lib.hid fun V => nameOk_any x V
  have K2 := Lib.hid fun V => implOk_any a b c d V
  have K3 := Lib.hid (show ∀ V, NdAt V V.heap.size (.slice ad M.length cap) M → _ from fun V g => implNeedsOk_any _ M V hl hq g)
  have K4 := Lib.hid (show ∀ V, NdAt V V.heap.size (.slice ad M.length cap) M → _ from fun V g => needsName_any _ M x V hl g)
  have H := Lib.hid h
  obtain ⟨w1, hw1⟩ : ∃ V : World, V = w.alloc (.cells #[.int .i64 x, .int .i64 a, .int .i64 b, .int .i64 c, .int .i64 d, .bool f, .slice ad M.length cap] 63) := ⟨_, rfl⟩
  have b1 : Below w.heap.size w w1 := by
    rw [hw1]
    exact (Below.refl w.heap.size w).alloc (Nat.le_refl _) _
  have s1 : w.heap.size + 1 ≤ w1.heap.size := by rw [hw1]; simp
  have y1_0 : w1.cell? ⟨w.heap.size, 0, none⟩ = some (.int .i64 x) := by rw [hw1]; go_simp
  have y1_1 : w1.cell? ⟨w.heap.size, 1, none⟩ = some (.int .i64 a) := by rw [hw1]; go_simp
  have y1_2 : w1.cell? ⟨w.heap.size, 2, none⟩ = some (.int .i64 b) := by rw [hw1]; go_simp
  have y1_3 : w1.cell? ⟨w.heap.size, 3, none⟩ = some (.int .i64 c) := by rw [hw1]; go_simp
  have y1_4 : w1.cell? ⟨w.heap.size, 4, none⟩ = some (.int .i64 d) := by rw [hw1]; go_simp
  have y1_6 : w1.cell? ⟨w.heap.size, 6, none⟩ = some (.slice ad M.length cap) := by rw [hw1]; go_simp
  clear h
  unfold relOk
  simp only
  rcases r1 : inB x 0 7
  all_goals rw [r1] at K1
  all_goals clear r1
  · go_enter Try.func91, Try.ntmps91
    go_upto_region 1 with fail
    rw [← hw1]
    clear hw1
    go_wp2_with fail
    refine (K1.out _).mono ?_
    rintro e w2 ⟨rfl, hb⟩
    have b2 := b1.trans (hb.mono b1.size)
    have s2 : w.heap.size + 1 ≤ w2.heap.size := Nat.le_trans s1 hb.size
    have y2_0 := (hb.cell (p := ⟨w.heap.size, 0, none⟩) (by show w.heap.size < w1.heap.size; omega)).trans y1_0
    have y2_1 := (hb.cell (p := ⟨w.heap.size, 1, none⟩) (by show w.heap.size < w1.heap.size; omega)).trans y1_1
    have y2_2 := (hb.cell (p := ⟨w.heap.size, 2, none⟩) (by show w.heap.size < w1.heap.size; omega)).trans y1_2
    have y2_3 := (hb.cell (p := ⟨w.heap.size, 3, none⟩) (by show w.heap.size < w1.heap.size; omega)).trans y1_3
    have y2_4 := (hb.cell (p := ⟨w.heap.size, 4, none⟩) (by show w.heap.size < w1.heap.size; omega)).trans y1_4
    have y2_6 := (hb.cell (p := ⟨w.heap.size, 6, none⟩) (by show w.heap.size < w1.heap.size; omega)).trans y1_6
    clear hb y1_0 y1_1 y1_2 y1_3 y1_4 y1_6
    go_wp2_with fail
    go_ret
    exact ⟨rfl, b2⟩
  · rcases r2 : vOk a b c d
    all_goals rw [r2] at K2
    all_goals clear r2
    · go_enter Try.func91, Try.ntmps91
      go_upto_region 1 with fail
      rw [← hw1]
      clear hw1
      go_wp2_with fail
      refine (K1.out _).mono ?_
      rintro e w2 ⟨rfl, hb⟩
      have b2 := b1.trans (hb.mono b1.size)
      have s2 : w.heap.size + 1 ≤ w2.heap.size := Nat.le_trans s1 hb.size
      have y2_0 := (hb.cell (p := ⟨w.heap.size, 0, none⟩) (by show w.heap.size < w1.heap.size; omega)).trans y1_0
      have y2_1 := (hb.cell (p := ⟨w.heap.size, 1, none⟩) (by show w.heap.size < w1.heap.size; omega)).trans y1_1
      have y2_2 := (hb.cell (p := ⟨w.heap.size, 2, none⟩) (by show w.heap.size < w1.heap.size; omega)).trans y1_2
      have y2_3 := (hb.cell (p := ⟨w.heap.size, 3, none⟩) (by show w.heap.size < w1.heap.size; omega)).trans y1_3
      have y2_4 := (hb.cell (p := ⟨w.heap.size, 4, none⟩) (by show w.heap.size < w1.heap.size; omega)).trans y1_4
      have y2_6 := (hb.cell (p := ⟨w.heap.size, 6, none⟩) (by show w.heap.size < w1.heap.size; omega)).trans y1_6
      clear hb y1_0 y1_1 y1_2 y1_3 y1_4 y1_6
      go_wp2_with fail
      refine (K2.out _).mono ?_
      rintro e w3 ⟨rfl, hb⟩
      have b3 := b2.trans (hb.mono b2.size)
      have s3 : w.heap.size + 1 ≤ w3.heap.size := Nat.le_trans s2 hb.size
      have y3_0 := (hb.cell (p := ⟨w.heap.size, 0, none⟩) (by show w.heap.size < w2.heap.size; omega)).trans y2_0
      have y3_1 := (hb.cell (p := ⟨w.heap.size, 1, none⟩) (by show w.heap.size < w2.heap.size; omega)).trans y2_1
      have y3_2 := (hb.cell (p := ⟨w.heap.size, 2, none⟩) (by show w.heap.size < w2.heap.size; omega)).trans y2_2
      have y3_3 := (hb.cell (p := ⟨w.heap.size, 3, none⟩) (by show w.heap.size < w2.heap.size; omega)).trans y2_3
      have y3_4 := (hb.cell (p := ⟨w.heap.size, 4, none⟩) (by show w.heap.size < w2.heap.size; omega)).trans y2_4
      have y3_6 := (hb.cell (p := ⟨w.heap.size, 6, none⟩) (by show w.heap.size < w2.heap.size; omega)).trans y2_6
      clear hb y2_0 y2_1 y2_2 y2_3 y2_4 y2_6
      go_wp2_with fail
      go_ret
      exact ⟨rfl, b3⟩
    · rcases r3 : ndOk M
      all_goals rw [r3] at K3
      all_goals clear r3
      · go_enter Try.func91, Try.ntmps91
        go_upto_region 1 with fail
        rw [← hw1]
        clear hw1
        go_wp2_with fail
        refine (K1.out _).mono ?_
        rintro e w2 ⟨rfl, hb⟩
        have b2 := b1.trans (hb.mono b1.size)
        have s2 : w.heap.size + 1 ≤ w2.heap.size := Nat.le_trans s1 hb.size
        have y2_0 := (hb.cell (p := ⟨w.heap.size, 0, none⟩) (by show w.heap.size < w1.heap.size; omega)).trans y1_0
        have y2_1 := (hb.cell (p := ⟨w.heap.size, 1, none⟩) (by show w.heap.size < w1.heap.size; omega)).trans y1_1
        have y2_2 := (hb.cell (p := ⟨w.heap.size, 2, none⟩) (by show w.heap.size < w1.heap.size; omega)).trans y1_2
        have y2_3 := (hb.cell (p := ⟨w.heap.size, 3, none⟩) (by show w.heap.size < w1.heap.size; omega)).trans y1_3
        have y2_4 := (hb.cell (p := ⟨w.heap.size, 4, none⟩) (by show w.heap.size < w1.heap.size; omega)).trans y1_4
        have y2_6 := (hb.cell (p := ⟨w.heap.size, 6, none⟩) (by show w.heap.size < w1.heap.size; omega)).trans y1_6
        clear hb y1_0 y1_1 y1_2 y1_3 y1_4 y1_6
        go_wp2_with fail
        refine (K2.out _).mono ?_
        rintro e w3 ⟨rfl, hb⟩
        have b3 := b2.trans (hb.mono b2.size)
        have s3 : w.heap.size + 1 ≤ w3.heap.size := Nat.le_trans s2 hb.size
        have y3_0 := (hb.cell (p := ⟨w.heap.size, 0, none⟩) (by show w.heap.size < w2.heap.size; omega)).trans y2_0
        have y3_1 := (hb.cell (p := ⟨w.heap.size, 1, none⟩) (by show w.heap.size < w2.heap.size; omega)).trans y2_1
        have y3_2 := (hb.cell (p := ⟨w.heap.size, 2, none⟩) (by show w.heap.size < w2.heap.size; omega)).trans y2_2
        have y3_3 := (hb.cell (p := ⟨w.heap.size, 3, none⟩) (by show w.heap.size < w2.heap.size; omega)).trans y2_3
        have y3_4 := (hb.cell (p := ⟨w.heap.size, 4, none⟩) (by show w.heap.size < w2.heap.size; omega)).trans y2_4
        have y3_6 := (hb.cell (p := ⟨w.heap.size, 6, none⟩) (by show w.heap.size < w2.heap.size; omega)).trans y2_6
        clear hb y2_0 y2_1 y2_2 y2_3 y2_4 y2_6
        go_wp2_with fail
        refine (K3.out _ (H.out.stepAt b3)).mono ?_
        rintro e w4 ⟨rfl, hb⟩
        have b4 := b3.trans (hb.mono b3.size)
        have s4 : w.heap.size + 1 ≤ w4.heap.size := Nat.le_trans s3 hb.size
        have y4_0 := (hb.cell (p := ⟨w.heap.size, 0, none⟩) (by show w.heap.size < w3.heap.size; omega)).trans y3_0
        have y4_1 := (hb.cell (p := ⟨w.heap.size, 1, none⟩) (by show w.heap.size < w3.heap.size; omega)).trans y3_1
        have y4_2 := (hb.cell (p := ⟨w.heap.size, 2, none⟩) (by show w.heap.size < w3.heap.size; omega)).trans y3_2
        have y4_3 := (hb.cell (p := ⟨w.heap.size, 3, none⟩) (by show w.heap.size < w3.heap.size; omega)).trans y3_3
        have y4_4 := (hb.cell (p := ⟨w.heap.size, 4, none⟩) (by show w.heap.size < w3.heap.size; omega)).trans y3_4
        have y4_6 := (hb.cell (p := ⟨w.heap.size, 6, none⟩) (by show w.heap.size < w3.heap.size; omega)).trans y3_6
        clear hb y3_0 y3_1 y3_2 y3_3 y3_4 y3_6
        go_wp2_with fail
        go_ret
        exact ⟨rfl, b4⟩
      · rcases r4 : hasName x M
        all_goals
          rw [r4] at K4
          clear r4
          go_enter Try.func91, Try.ntmps91
          go_upto_region 1 with fail
          rw [← hw1]
          clear hw1
          go_wp2_with fail
          refine (K1.out _).mono ?_
          rintro e w2 ⟨rfl, hb⟩
          have b2 := b1.trans (hb.mono b1.size)
          have s2 : w.heap.size + 1 ≤ w2.heap.size := Nat.le_trans s1 hb.size
          have y2_0 := (hb.cell (p := ⟨w.heap.size, 0, none⟩) (by show w.heap.size < w1.heap.size; omega)).trans y1_0
          have y2_1 := (hb.cell (p := ⟨w.heap.size, 1, none⟩) (by show w.heap.size < w1.heap.size; omega)).trans y1_1
          have y2_2 := (hb.cell (p := ⟨w.heap.size, 2, none⟩) (by show w.heap.size < w1.heap.size; omega)).trans y1_2
          have y2_3 := (hb.cell (p := ⟨w.heap.size, 3, none⟩) (by show w.heap.size < w1.heap.size; omega)).trans y1_3
          have y2_4 := (hb.cell (p := ⟨w.heap.size, 4, none⟩) (by show w.heap.size < w1.heap.size; omega)).trans y1_4
          have y2_6 := (hb.cell (p := ⟨w.heap.size, 6, none⟩) (by show w.heap.size < w1.heap.size; omega)).trans y1_6
          clear hb y1_0 y1_1 y1_2 y1_3 y1_4 y1_6
          go_wp2_with fail
          refine (K2.out _).mono ?_
          rintro e w3 ⟨rfl, hb⟩
          have b3 := b2.trans (hb.mono b2.size)
          have s3 : w.heap.size + 1 ≤ w3.heap.size := Nat.le_trans s2 hb.size
          have y3_0 := (hb.cell (p := ⟨w.heap.size, 0, none⟩) (by show w.heap.size < w2.heap.size; omega)).trans y2_0
          have y3_1 := (hb.cell (p := ⟨w.heap.size, 1, none⟩) (by show w.heap.size < w2.heap.size; omega)).trans y2_1
          have y3_2 := (hb.cell (p := ⟨w.heap.size, 2, none⟩) (by show w.heap.size < w2.heap.size; omega)).trans y2_2
          have y3_3 := (hb.cell (p := ⟨w.heap.size, 3, none⟩) (by show w.heap.size < w2.heap.size; omega)).trans y2_3
          have y3_4 := (hb.cell (p := ⟨w.heap.size, 4, none⟩) (by show w.heap.size < w2.heap.size; omega)).trans y2_4
          have y3_6 := (hb.cell (p := ⟨w.heap.size, 6, none⟩) (by show w.heap.size < w2.heap.size; omega)).trans y2_6
          clear hb y2_0 y2_1 y2_2 y2_3 y2_4 y2_6
          go_wp2_with fail
          refine (K3.out _ (H.out.stepAt b3)).mono ?_
          rintro e w4 ⟨rfl, hb⟩
          have b4 := b3.trans (hb.mono b3.size)
          have s4 : w.heap.size + 1 ≤ w4.heap.size := Nat.le_trans s3 hb.size
          have y4_0 := (hb.cell (p := ⟨w.heap.size, 0, none⟩) (by show w.heap.size < w3.heap.size; omega)).trans y3_0
          have y4_1 := (hb.cell (p := ⟨w.heap.size, 1, none⟩) (by show w.heap.size < w3.heap.size; omega)).trans y3_1
          have y4_2 := (hb.cell (p := ⟨w.heap.size, 2, none⟩) (by show w.heap.size < w3.heap.size; omega)).trans y3_2
          have y4_3 := (hb.cell (p := ⟨w.heap.size, 3, none⟩) (by show w.heap.size < w3.heap.size; omega)).trans y3_3
          have y4_4 := (hb.cell (p := ⟨w.heap.size, 4, none⟩) (by show w.heap.size < w3.heap.size; omega)).trans y3_4
          have y4_6 := (hb.cell (p := ⟨w.heap.size, 6, none⟩) (by show w.heap.size < w3.heap.size; omega)).trans y3_6
          clear hb y3_0 y3_1 y3_2 y3_3 y3_4 y3_6
          go_wp2_with fail
          refine (K4.out _ (H.out.stepAt b4)).mono ?_
          rintro e w5 ⟨rfl, hb⟩
          have b5 := b4.trans (hb.mono b4.size)
          have s5 : w.heap.size + 1 ≤ w5.heap.size := Nat.le_trans s4 hb.size
          have y5_0 := (hb.cell (p := ⟨w.heap.size, 0, none⟩) (by show w.heap.size < w4.heap.size; omega)).trans y4_0
          have y5_1 := (hb.cell (p := ⟨w.heap.size, 1, none⟩) (by show w.heap.size < w4.heap.size; omega)).trans y4_1
          have y5_2 := (hb.cell (p := ⟨w.heap.size, 2, none⟩) (by show w.heap.size < w4.heap.size; omega)).trans y4_2
          have y5_3 := (hb.cell (p := ⟨w.heap.size, 3, none⟩) (by show w.heap.size < w4.heap.size; omega)).trans y4_3
          have y5_4 := (hb.cell (p := ⟨w.heap.size, 4, none⟩) (by show w.heap.size < w4.heap.size; omega)).trans y4_4
          have y5_6 := (hb.cell (p := ⟨w.heap.size, 6, none⟩) (by show w.heap.size < w4.heap.size; omega)).trans y4_6
          clear hb y4_0 y4_1 y4_2 y4_3 y4_4 y4_6
          go_wp2_with fail
          go_ret
          exact ⟨rfl, b5⟩

set_option maxRecDepth 100000 in
set_option maxHeartbeats 2000000 in
theorem releaseLess_any (x a b c d x' a' b' c' d' : Int) (f f' : Bool) (v v' : Value) (M M' : List Nd) (w : World) (hv : ∃ ad n cap, v = .slice ad n cap) (hv' : ∃ ad n cap, v' = .slice ad n cap) :
    Calls Try.prog 92 #[rels x a b c d f v, rels x' a' b' c' d' f' v'] w fun e w' => e = .returned (.bool (relLess (x, (a, b, c, d), f, M) (x', (a', b', c', d'), f', M'))) ∧ Below w.heap.size w w' := by
  obtain ⟨ad, n, cap, rfl⟩ := hv
  obtain ⟨ad', n', cap', rfl⟩ := hv'
  have K := Lib.hid fun V => implLess_any a b c d a' b' c' d' V
  unfold relLess
  simp only
  have b0 := ((Below.refl w.heap.size w).alloc (Nat.le_refl _) (.cells #[.int .i64 x, .int .i64 a, .int .i64 b, .int .i64 c, .int .i64 d, .bool f, .slice ad n cap] 63)).alloc (by simp) (.cells #[.int .i64 x', .int .i64 a', .int .i64 b', .int .i64 c', .int .i64 d', .bool f', .slice ad' n' cap'] 63)
  by_cases hx : x = x'
  · rw [if_pos hx]
    subst hx
    generalize vLess a b c d a' b' c' d' = r at *
    have HB := Lib.hid b0
    clear b0
    go_enter Try.func92, Try.ntmps92
    go_wp2_with fail
    refine (K.out _).mono ?_
    rintro e w1 ⟨rfl, hb⟩
    go_wp2_with fail
    go_ret
    exact ⟨rfl, HB.out.trans (hb.mono HB.out.size)⟩
  · rw [if_neg hx]
    go_enter Try.func92, Try.ntmps92
    go_wp2_with fail
    go_ret
    exact ⟨rfl, b0⟩

end Go.Proofs.Ytgnjhmmedogcoaa

/- The contract of the program's ShelfOk over this seat's translation: it answers as the plain function shOk of the releases; nothing that was there before the call has changed. Condition: at most 1048576 releases, needs of each, and spans of those. -/
namespace Go.Proofs.Ytgnjhmmedogcoaa
open Go.RowKit Go.Sort

/-- What the loop of ShelfOk keeps: what is left decides. -/
def ShRel (S : List Rel) (w : World) (i : Value) (wr : World) : Prop :=
  ∃ k : Nat, k ≤ S.length ∧ i = .int .i64 (k : Int) ∧ shFrom none S = shFrom (relAt S k) (S.drop k) ∧ Below w.heap.size w wr
theorem sh_push {S : List Rel} {w wr : World} {k : Nat} {q : Rel} (hS : S[k]? = some q) (ho : shFrom none S = shFrom (relAt S k) (S.drop k)) (hq : relOk q = true) (hl : ∀ p, relAt S k = some p → relLess p q = true) (hb : Below w.heap.size w wr) :
    ShRel S w (.int .i64 ((k : Int) + 1)) wr := by
  have hk : k < S.length := (List.getElem?_eq_some_iff.1 hS).1
  refine ⟨k + 1, by omega, by go_num, ?_, hb⟩
  rw [ho, shFrom_step hS, hq, show relAt S (k + 1) = some q from hS]
  rcases hp : relAt S k with _ | p
  · simp
  · simp [hl p hp]
theorem sh_bad {S : List Rel} {k : Nat} {q : Rel} (hS : S[k]? = some q) (ho : shFrom none S = shFrom (relAt S k) (S.drop k)) (hq : relOk q = false) : shOk S = false := by
  unfold shOk
  rw [ho, shFrom_step hS, hq]
  simp
theorem sh_row {S : List Rel} {k : Nat} {p q : Rel} (hS : S[k]? = some q) (ho : shFrom none S = shFrom (relAt S k) (S.drop k)) (hp : relAt S k = some p) (hl : relLess p q = false) : shOk S = false := by
  unfold shOk
  rw [ho, shFrom_step hS, hp]
  simp [hl]

set_option maxRecDepth 100000 in
set_option maxHeartbeats 8000000 in
theorem implShelfOk_any (v : Value) (S : List Rel) (w : World) (hl : S.length ≤ 1048576) (hq : ∀ q ∈ S, q.2.2.2.length ≤ 1048576 ∧ ∀ p ∈ q.2.2.2, p.2.length ≤ 1048576) (h : RlAt w w.heap.size v S) :
    Calls Try.prog 58 #[v] w fun e w' => e = .returned (.bool (shOk S)) ∧ Below w.heap.size w w' := by
  obtain ⟨sa, caps, rfl, h⟩ := h
  by_cases h30 : S.length ≤ 30
  · go_enter Try.func58, Try.ntmps58
    go_wp2
    go_loopw [10] (fun i wr => ShRel S w i wr) (fun i _ => S.length - (intOf i).toNat)
    case atStart => exact ⟨0, Nat.zero_le _, rfl, rfl, Below.refl _ _⟩
    case round =>
      obtain ⟨k, hk, rfl, ho, hb⟩ := hrel
      have HO := Lib.hid ho
      clear ho
      by_cases hlt : k < S.length
      · rcases h with h | ⟨g, o, rfl, hB, hc⟩
        · subst h
          exact absurd hlt (by simp)
        obtain ⟨x, a, b, c, d, f, M, hxy⟩ : ∃ x a b c d f M, S[k] = (x, (a, b, c, d), f, M) := ⟨_, _, _, _, _, _, _, rfl⟩
        have m1 := (hc k hlt).below hb hB
        rw [hxy] at m1
        obtain ⟨⟨k0, k1, k2, k3, k4, k5⟩, ad, cap, k6, hs⟩ := m1
        have hL : M.length ≤ 1048576 ∧ ∀ p ∈ M, p.2.length ≤ 1048576 := by have := hq _ (List.getElem_mem hlt); rwa [hxy] at this
        simp only at k0 k1 k2 k3 k4 k5 k6 hs
        have HS := Lib.hid (hs.mono hb.size)
        have HX := Lib.hid (show S[k]? = some (x, (a, b, c, d), f, M) by rw [List.getElem?_eq_getElem hlt, hxy])
        have HC := Lib.hid hc
        have mb : g < wr.heap.size := Nat.lt_of_lt_of_le hB hb.size
        clear hxy hc hs
        have bb := hb.alloc hb.size (.cells #[.int .i64 x, .int .i64 a, .int .i64 b, .int .i64 c, .int .i64 d, .bool f, .slice ad M.length cap] 63)
        have BB := Lib.hid bb
        have HBR := Lib.hid hb
        clear bb
        have i0 : (0 : Int) ≤ (k : Int) := by omega
        have i1 : (k : Int) < (S.length : Int) := by omega
        have KR : Hid (∀ V, NdAt V V.heap.size (.slice ad M.length cap) M → Calls Try.prog 91 #[rels x a b c d f (.slice ad M.length cap)] V fun e w' => e = .returned (.bool (relOk (x, (a, b, c, d), f, M))) ∧ Below V.heap.size V w') := Lib.hid fun V g => releaseOk_any x a b c d f _ M V hL.1 hL.2 g
        rcases hr : relOk (x, (a, b, c, d), f, M)
        · have HF := Lib.hid (sh_bad HX.out HO.out hr)
          rw [hr] at KR
          clear hr
          go_wp2_with fail
          refine (KR.out _ (HS.out.stepAt (by go_grown))).mono ?_
          rintro e w2 ⟨rfl, hb2⟩
          go_wp2_with fail
          go_ret
          exact ⟨by rw [HF.out]; rfl, BB.out.trans (hb2.mono BB.out.size)⟩
        · have HR := Lib.hid hr
          rw [hr] at KR
          clear hr
          go_wp2_with fail
          refine (KR.out _ (HS.out.stepAt (by go_grown))).mono ?_
          rintro e w2 ⟨rfl, hb2⟩
          have b2 := BB.out.trans (hb2.mono BB.out.size)
          have y0 : w2.cell? ⟨wr.heap.size, 0, none⟩ = some (.int .i64 x) := (hb2.cell (p := ⟨wr.heap.size, 0, none⟩) (by simp)).trans (by go_simp)
          have y1 : w2.cell? ⟨wr.heap.size, 1, none⟩ = some (.int .i64 a) := (hb2.cell (p := ⟨wr.heap.size, 1, none⟩) (by simp)).trans (by go_simp)
          have y2 : w2.cell? ⟨wr.heap.size, 2, none⟩ = some (.int .i64 b) := (hb2.cell (p := ⟨wr.heap.size, 2, none⟩) (by simp)).trans (by go_simp)
          have y3 : w2.cell? ⟨wr.heap.size, 3, none⟩ = some (.int .i64 c) := (hb2.cell (p := ⟨wr.heap.size, 3, none⟩) (by simp)).trans (by go_simp)
          have y4 : w2.cell? ⟨wr.heap.size, 4, none⟩ = some (.int .i64 d) := (hb2.cell (p := ⟨wr.heap.size, 4, none⟩) (by simp)).trans (by go_simp)
          have y5 : w2.cell? ⟨wr.heap.size, 5, none⟩ = some (.bool f) := (hb2.cell (p := ⟨wr.heap.size, 5, none⟩) (by simp)).trans (by go_simp)
          have y6 : w2.cell? ⟨wr.heap.size, 6, none⟩ = some (.slice ad M.length cap) := (hb2.cell (p := ⟨wr.heap.size, 6, none⟩) (by simp)).trans (by go_simp)
          have B2 := Lib.hid b2
          clear b2 hb2 k0 k1 k2 k3 k4 k5 k6
          have t0 := cell_regrown y0
          have t1 := cell_regrown y1
          have t2 := cell_regrown y2
          have t3 := cell_regrown y3
          have t4 := cell_regrown y4
          have t5 := cell_regrown y5
          have t6 := cell_regrown y6
          clear y0 y1 y2 y3 y4 y5 y6
          rcases Nat.eq_zero_or_pos k with hkz | hkp
          · have hk0 : decide ((0 : Int) < (k : Int)) = false := decide_eq_false (by omega)
            have hk1 : decide (0 < k) = false := decide_eq_false (by omega)
            have HN := Lib.hid (show ∀ p, relAt S k = some p → relLess p (x, (a, b, c, d), f, M) = true from fun p hp => by rw [hkz] at hp; cases hp)
            clear hkz
            go_wp2_with fail
            refine wp_region_quiet_below (by kernel_rfl) (by kernel_rfl) ?_
            repeat (any_goals (first | go_big_quiet_step (fail) | quiet_step (fail)))
            refine wpQuiet_nil ?_
            intro W2 hw
            have nn := quiet_end hw
            clear hw t0 t1 t2 t3 t4 t5 t6
            have HP := Lib.hid (sh_push HX.out HO.out HR.out HN.out (B2.out.trans (nn.mono B2.out.size)))
            go_wp2_with fail
            go_roundw
            case rel => exact HP.out
            case measure => simp [intOf]; omega
          · obtain ⟨m, rfl⟩ : ∃ m, k = m + 1 := ⟨k - 1, by omega⟩
            have hmS : m < S.length := by omega
            obtain ⟨x', a', b', c', d', f', M', hxy'⟩ : ∃ x a b c d f M, S[m] = (x, (a, b, c, d), f, M) := ⟨_, _, _, _, _, _, _, rfl⟩
            have m1 := (HC.out m hmS).below B2.out hB
            rw [hxy'] at m1
            obtain ⟨⟨l0, l1, l2, l3, l4, l5⟩, ad', cap', l6, hs'⟩ := m1
            simp only at l0 l1 l2 l3 l4 l5 l6
            have hprev : relAt S (m + 1) = some (x', (a', b', c', d'), f', M') := by show S[m]? = _; rw [List.getElem?_eq_getElem hmS, hxy']
            have HPV := Lib.hid hprev
            clear hxy' hs' hprev
            have j0 : (0 : Int) ≤ (m : Int) := by omega
            have j1 : (m : Int) < (S.length : Int) := by omega
            have hk0 : (0 : Int) < (m : Int) + 1 := by omega
            have u0 := cell_regrown l0
            have u1 := cell_regrown l1
            have u2 := cell_regrown l2
            have u3 := cell_regrown l3
            have u4 := cell_regrown l4
            have u5 := cell_regrown l5
            have u6 := cell_regrown l6
            clear l0 l1 l2 l3 l4 l5 l6
            have KL : Hid (∀ V, Calls Try.prog 92 #[rels x' a' b' c' d' f' (.slice ad' M'.length cap'), rels x a b c d f (.slice ad M.length cap)] V fun e w' => e = .returned (.bool (relLess (x', (a', b', c', d'), f', M') (x, (a, b, c, d), f, M))) ∧ Below V.heap.size V w') := Lib.hid fun V => releaseLess_any x' a' b' c' d' x a b c d f' f _ _ M' M V ⟨_, _, _, rfl⟩ ⟨_, _, _, rfl⟩
            rcases hr : relLess (x', (a', b', c', d'), f', M') (x, (a, b, c, d), f, M)
            · have HF := Lib.hid (sh_row HX.out HO.out HPV.out hr)
              rw [hr] at KL
              clear hr
              go_wp2_with fail
              refine wp_region_quiet_below (by kernel_rfl) (by kernel_rfl) ?_
              repeat (any_goals (first | go_big_quiet_step ((go_at_call 92; exact Calls.regrown_of (KL.out _))) | quiet_step ((go_at_call 92; exact Calls.regrown_of (KL.out _)))))
              refine wpQuiet_nil ?_
              intro W2 hw
              have nn := quiet_end hw
              clear hw t0 t1 t2 t3 t4 t5 t6 u0 u1 u2 u3 u4 u5 u6
              go_wp2_with fail
              go_ret
              exact ⟨by rw [HF.out]; rfl, B2.out.trans (nn.mono B2.out.size)⟩
            · have HN := Lib.hid (show ∀ p, relAt S (m + 1) = some p → relLess p (x, (a, b, c, d), f, M) = true from fun p hp => by rw [HPV.out] at hp; cases hp; exact hr)
              rw [hr] at KL
              clear hr
              go_wp2_with fail
              refine wp_region_quiet_below (by kernel_rfl) (by kernel_rfl) ?_
              repeat (any_goals (first | go_big_quiet_step ((go_at_call 92; exact Calls.regrown_of (KL.out _))) | quiet_step ((go_at_call 92; exact Calls.regrown_of (KL.out _)))))
              refine wpQuiet_nil ?_
              intro W2 hw
              have nn := quiet_end hw
              clear hw t0 t1 t2 t3 t4 t5 t6 u0 u1 u2 u3 u4 u5 u6
              have HP := Lib.hid (sh_push HX.out HO.out HR.out HN.out (B2.out.trans (nn.mono B2.out.size)))
              go_wp2_with fail
              go_roundw
              case rel => exact HP.out
              case measure => simp [intOf]; omega
      · obtain rfl : k = S.length := by omega
        have HF := Lib.hid (show shOk S = true by unfold shOk; rw [HO.out, List.drop_length]; simp [shFrom, h30])
        go_wp2_with fail
        go_ret
        exact ⟨by rw [HF.out]; rfl, hb⟩
  · have HF := Lib.hid (show shOk S = false by unfold shOk; simp [h30])
    clear h
    go_enter Try.func58, Try.ntmps58
    go_wp2
    go_ret
    exact ⟨by rw [HF.out]; rfl, Below.refl _ _⟩

end Go.Proofs.Ytgnjhmmedogcoaa

/- The contract of the model's ShelfOk over this seat's translation: it answers as the plain function shOk of the releases; nothing that was there before the call has changed. Condition: at most 1048576 releases, needs of each, and spans of those. -/
namespace Go.Proofs.Ytgnjhmmedogcoaa
open Go.RowKit Go.Sort

set_option maxRecDepth 100000 in
set_option maxHeartbeats 8000000 in
theorem specShelfOk_any (v : Value) (S : List Rel) (w : World) (hl : S.length ≤ 1048576) (hq : ∀ q ∈ S, q.2.2.2.length ≤ 1048576 ∧ ∀ p ∈ q.2.2.2, p.2.length ≤ 1048576) (h : RlAt w w.heap.size v S) :
    Calls Try.prog 52 #[v] w fun e w' => e = .returned (.bool (shOk S)) ∧ Below w.heap.size w w' := by
  obtain ⟨sa, caps, rfl, h⟩ := h
  go_enter Try.func52, Try.ntmps52
  go_wp2
  go_loopw [3] (fun i wr => ShRel S w i wr) (fun i _ => S.length - (intOf i).toNat)
  case atStart => exact ⟨0, Nat.zero_le _, rfl, rfl, Below.refl _ _⟩
  case round =>
    obtain ⟨k, hk, rfl, ho, hb⟩ := hrel
    have HO := Lib.hid ho
    clear ho
    by_cases hlt : k < S.length
    · rcases h with h | ⟨g, o, rfl, hB, hc⟩
      · subst h
        exact absurd hlt (by simp)
      obtain ⟨x, a, b, c, d, f, M, hxy⟩ : ∃ x a b c d f M, S[k] = (x, (a, b, c, d), f, M) := ⟨_, _, _, _, _, _, _, rfl⟩
      have m1 := (hc k hlt).below hb hB
      rw [hxy] at m1
      obtain ⟨⟨k0, k1, k2, k3, k4, k5⟩, ad, cap, k6, hs⟩ := m1
      have hL : M.length ≤ 1048576 ∧ ∀ p ∈ M, p.2.length ≤ 1048576 := by have := hq _ (List.getElem_mem hlt); rwa [hxy] at this
      have hML := hL.1
      simp only at k0 k1 k2 k3 k4 k5 k6 hs
      have HS := Lib.hid (hs.mono hb.size)
      have HX := Lib.hid (show S[k]? = some (x, (a, b, c, d), f, M) by rw [List.getElem?_eq_getElem hlt, hxy])
      have HC := Lib.hid hc
      clear hxy hc hs
      have i0 : (0 : Int) ≤ (k : Int) := by omega
      have i1 : (k : Int) < (S.length : Int) := by omega
      obtain ⟨w1, hw1⟩ : ∃ V : World, V = wr.alloc (.cells #[.int .i64 x, .int .i64 a, .int .i64 b, .int .i64 c, .int .i64 d, .bool f, .slice ad M.length cap] 63) := ⟨_, rfl⟩
      have b1 : Below wr.heap.size wr w1 := by
        rw [hw1]
        exact (Below.refl wr.heap.size wr).alloc (Nat.le_refl _) _
      have s1 : wr.heap.size + 1 ≤ w1.heap.size := by rw [hw1]; simp
      have y1_0 : w1.cell? ⟨wr.heap.size, 0, none⟩ = some (.int .i64 x) := by rw [hw1]; go_simp
      have y1_1 : w1.cell? ⟨wr.heap.size, 1, none⟩ = some (.int .i64 a) := by rw [hw1]; go_simp
      have y1_2 : w1.cell? ⟨wr.heap.size, 2, none⟩ = some (.int .i64 b) := by rw [hw1]; go_simp
      have y1_3 : w1.cell? ⟨wr.heap.size, 3, none⟩ = some (.int .i64 c) := by rw [hw1]; go_simp
      have y1_4 : w1.cell? ⟨wr.heap.size, 4, none⟩ = some (.int .i64 d) := by rw [hw1]; go_simp
      have y1_6 : w1.cell? ⟨wr.heap.size, 6, none⟩ = some (.slice ad M.length cap) := by rw [hw1]; go_simp
      have HBR := Lib.hid hb
      have K1 := Lib.hid fun V => l1In_below x 0 7 V
      have K2 := Lib.hid fun V => specOk_any a b c d V
      have K3 := Lib.hid (show ∀ V, NdAt V V.heap.size (.slice ad M.length cap) M → _ from fun V g => specNeedsOk_any _ M V hL.1 hL.2 g)
      rcases r1 : inB x 0 7
      · have HF := Lib.hid (sh_bad HX.out HO.out (show relOk (x, (a, b, c, d), f, M) = false by simp [relOk, r1]))
        rw [r1] at K1
        clear r1
        go_upto_region 5 with fail
        rw [← hw1]
        clear hw1 hb k0 k1 k2 k3 k4 k5 k6
        go_wp2_with fail
        refine (K1.out _).mono ?_
        rintro e w2 ⟨rfl, hb⟩
        have b2 := b1.trans (hb.mono b1.size)
        have s2 : wr.heap.size + 1 ≤ w2.heap.size := Nat.le_trans s1 hb.size
        have y2_0 := (hb.cell (p := ⟨wr.heap.size, 0, none⟩) (by show wr.heap.size < w1.heap.size; omega)).trans y1_0
        have y2_1 := (hb.cell (p := ⟨wr.heap.size, 1, none⟩) (by show wr.heap.size < w1.heap.size; omega)).trans y1_1
        have y2_2 := (hb.cell (p := ⟨wr.heap.size, 2, none⟩) (by show wr.heap.size < w1.heap.size; omega)).trans y1_2
        have y2_3 := (hb.cell (p := ⟨wr.heap.size, 3, none⟩) (by show wr.heap.size < w1.heap.size; omega)).trans y1_3
        have y2_4 := (hb.cell (p := ⟨wr.heap.size, 4, none⟩) (by show wr.heap.size < w1.heap.size; omega)).trans y1_4
        have y2_6 := (hb.cell (p := ⟨wr.heap.size, 6, none⟩) (by show wr.heap.size < w1.heap.size; omega)).trans y1_6
        clear hb y1_0 y1_1 y1_2 y1_3 y1_4 y1_6
        go_wp2_with fail
        go_ret
        exact ⟨by rw [HF.out]; rfl, HBR.out.trans (b2.mono HBR.out.size)⟩
      rw [r1] at K1
      rcases r2 : vOk a b c d
      · have HF := Lib.hid (sh_bad HX.out HO.out (show relOk (x, (a, b, c, d), f, M) = false by simp [relOk, r2]))
        rw [r2] at K2
        clear r1 r2
        go_upto_region 5 with fail
        rw [← hw1]
        clear hw1 hb k0 k1 k2 k3 k4 k5 k6
        go_wp2_with fail
        refine (K1.out _).mono ?_
        rintro e w2 ⟨rfl, hb⟩
        have b2 := b1.trans (hb.mono b1.size)
        have s2 : wr.heap.size + 1 ≤ w2.heap.size := Nat.le_trans s1 hb.size
        have y2_0 := (hb.cell (p := ⟨wr.heap.size, 0, none⟩) (by show wr.heap.size < w1.heap.size; omega)).trans y1_0
        have y2_1 := (hb.cell (p := ⟨wr.heap.size, 1, none⟩) (by show wr.heap.size < w1.heap.size; omega)).trans y1_1
        have y2_2 := (hb.cell (p := ⟨wr.heap.size, 2, none⟩) (by show wr.heap.size < w1.heap.size; omega)).trans y1_2
        have y2_3 := (hb.cell (p := ⟨wr.heap.size, 3, none⟩) (by show wr.heap.size < w1.heap.size; omega)).trans y1_3
        have y2_4 := (hb.cell (p := ⟨wr.heap.size, 4, none⟩) (by show wr.heap.size < w1.heap.size; omega)).trans y1_4
        have y2_6 := (hb.cell (p := ⟨wr.heap.size, 6, none⟩) (by show wr.heap.size < w1.heap.size; omega)).trans y1_6
        clear hb y1_0 y1_1 y1_2 y1_3 y1_4 y1_6
        go_wp2_with fail
        refine (K2.out _).mono ?_
        rintro e w3 ⟨rfl, hb⟩
        have b3 := b2.trans (hb.mono b2.size)
        have s3 : wr.heap.size + 1 ≤ w3.heap.size := Nat.le_trans s2 hb.size
        have y3_0 := (hb.cell (p := ⟨wr.heap.size, 0, none⟩) (by show wr.heap.size < w2.heap.size; omega)).trans y2_0
        have y3_1 := (hb.cell (p := ⟨wr.heap.size, 1, none⟩) (by show wr.heap.size < w2.heap.size; omega)).trans y2_1
        have y3_2 := (hb.cell (p := ⟨wr.heap.size, 2, none⟩) (by show wr.heap.size < w2.heap.size; omega)).trans y2_2
        have y3_3 := (hb.cell (p := ⟨wr.heap.size, 3, none⟩) (by show wr.heap.size < w2.heap.size; omega)).trans y2_3
        have y3_4 := (hb.cell (p := ⟨wr.heap.size, 4, none⟩) (by show wr.heap.size < w2.heap.size; omega)).trans y2_4
        have y3_6 := (hb.cell (p := ⟨wr.heap.size, 6, none⟩) (by show wr.heap.size < w2.heap.size; omega)).trans y2_6
        clear hb y2_0 y2_1 y2_2 y2_3 y2_4 y2_6
        go_wp2_with fail
        go_ret
        exact ⟨by rw [HF.out]; rfl, HBR.out.trans (b3.mono HBR.out.size)⟩
      rw [r2] at K2
      rcases r3 : ndOk M
      · have HF := Lib.hid (sh_bad HX.out HO.out (show relOk (x, (a, b, c, d), f, M) = false by simp [relOk, r3]))
        rw [r3] at K3
        clear r1 r2 r3
        go_upto_region 5 with fail
        rw [← hw1]
        clear hw1 hb k0 k1 k2 k3 k4 k5 k6
        go_wp2_with fail
        refine (K1.out _).mono ?_
        rintro e w2 ⟨rfl, hb⟩
        have b2 := b1.trans (hb.mono b1.size)
        have s2 : wr.heap.size + 1 ≤ w2.heap.size := Nat.le_trans s1 hb.size
        have y2_0 := (hb.cell (p := ⟨wr.heap.size, 0, none⟩) (by show wr.heap.size < w1.heap.size; omega)).trans y1_0
        have y2_1 := (hb.cell (p := ⟨wr.heap.size, 1, none⟩) (by show wr.heap.size < w1.heap.size; omega)).trans y1_1
        have y2_2 := (hb.cell (p := ⟨wr.heap.size, 2, none⟩) (by show wr.heap.size < w1.heap.size; omega)).trans y1_2
        have y2_3 := (hb.cell (p := ⟨wr.heap.size, 3, none⟩) (by show wr.heap.size < w1.heap.size; omega)).trans y1_3
        have y2_4 := (hb.cell (p := ⟨wr.heap.size, 4, none⟩) (by show wr.heap.size < w1.heap.size; omega)).trans y1_4
        have y2_6 := (hb.cell (p := ⟨wr.heap.size, 6, none⟩) (by show wr.heap.size < w1.heap.size; omega)).trans y1_6
        clear hb y1_0 y1_1 y1_2 y1_3 y1_4 y1_6
        go_wp2_with fail
        refine (K2.out _).mono ?_
        rintro e w3 ⟨rfl, hb⟩
        have b3 := b2.trans (hb.mono b2.size)
        have s3 : wr.heap.size + 1 ≤ w3.heap.size := Nat.le_trans s2 hb.size
        have y3_0 := (hb.cell (p := ⟨wr.heap.size, 0, none⟩) (by show wr.heap.size < w2.heap.size; omega)).trans y2_0
        have y3_1 := (hb.cell (p := ⟨wr.heap.size, 1, none⟩) (by show wr.heap.size < w2.heap.size; omega)).trans y2_1
        have y3_2 := (hb.cell (p := ⟨wr.heap.size, 2, none⟩) (by show wr.heap.size < w2.heap.size; omega)).trans y2_2
        have y3_3 := (hb.cell (p := ⟨wr.heap.size, 3, none⟩) (by show wr.heap.size < w2.heap.size; omega)).trans y2_3
        have y3_4 := (hb.cell (p := ⟨wr.heap.size, 4, none⟩) (by show wr.heap.size < w2.heap.size; omega)).trans y2_4
        have y3_6 := (hb.cell (p := ⟨wr.heap.size, 6, none⟩) (by show wr.heap.size < w2.heap.size; omega)).trans y2_6
        clear hb y2_0 y2_1 y2_2 y2_3 y2_4 y2_6
        go_wp2_with fail
        refine (K3.out _ (HS.out.stepAt b3)).mono ?_
        rintro e w4 ⟨rfl, hb⟩
        have b4 := b3.trans (hb.mono b3.size)
        have s4 : wr.heap.size + 1 ≤ w4.heap.size := Nat.le_trans s3 hb.size
        have y4_0 := (hb.cell (p := ⟨wr.heap.size, 0, none⟩) (by show wr.heap.size < w3.heap.size; omega)).trans y3_0
        have y4_1 := (hb.cell (p := ⟨wr.heap.size, 1, none⟩) (by show wr.heap.size < w3.heap.size; omega)).trans y3_1
        have y4_2 := (hb.cell (p := ⟨wr.heap.size, 2, none⟩) (by show wr.heap.size < w3.heap.size; omega)).trans y3_2
        have y4_3 := (hb.cell (p := ⟨wr.heap.size, 3, none⟩) (by show wr.heap.size < w3.heap.size; omega)).trans y3_3
        have y4_4 := (hb.cell (p := ⟨wr.heap.size, 4, none⟩) (by show wr.heap.size < w3.heap.size; omega)).trans y3_4
        have y4_6 := (hb.cell (p := ⟨wr.heap.size, 6, none⟩) (by show wr.heap.size < w3.heap.size; omega)).trans y3_6
        clear hb y3_0 y3_1 y3_2 y3_3 y3_4 y3_6
        go_wp2_with fail
        go_ret
        exact ⟨by rw [HF.out]; rfl, HBR.out.trans (b4.mono HBR.out.size)⟩
      rw [r3] at K3
      have HRO := Lib.hid (show relOk (x, (a, b, c, d), f, M) = !hasName x M by simp [relOk, r1, r2, r3])
      clear r1 r2 r3
      go_upto_region 5 with fail
      rw [← hw1]
      clear hw1 hb k0 k1 k2 k3 k4 k5 k6
      go_wp2_with fail
      refine (K1.out _).mono ?_
      rintro e w2 ⟨rfl, hb⟩
      have b2 := b1.trans (hb.mono b1.size)
      have s2 : wr.heap.size + 1 ≤ w2.heap.size := Nat.le_trans s1 hb.size
      have y2_0 := (hb.cell (p := ⟨wr.heap.size, 0, none⟩) (by show wr.heap.size < w1.heap.size; omega)).trans y1_0
      have y2_1 := (hb.cell (p := ⟨wr.heap.size, 1, none⟩) (by show wr.heap.size < w1.heap.size; omega)).trans y1_1
      have y2_2 := (hb.cell (p := ⟨wr.heap.size, 2, none⟩) (by show wr.heap.size < w1.heap.size; omega)).trans y1_2
      have y2_3 := (hb.cell (p := ⟨wr.heap.size, 3, none⟩) (by show wr.heap.size < w1.heap.size; omega)).trans y1_3
      have y2_4 := (hb.cell (p := ⟨wr.heap.size, 4, none⟩) (by show wr.heap.size < w1.heap.size; omega)).trans y1_4
      have y2_6 := (hb.cell (p := ⟨wr.heap.size, 6, none⟩) (by show wr.heap.size < w1.heap.size; omega)).trans y1_6
      clear hb y1_0 y1_1 y1_2 y1_3 y1_4 y1_6
      go_wp2_with fail
      refine (K2.out _).mono ?_
      rintro e w3 ⟨rfl, hb⟩
      have b3 := b2.trans (hb.mono b2.size)
      have s3 : wr.heap.size + 1 ≤ w3.heap.size := Nat.le_trans s2 hb.size
      have y3_0 := (hb.cell (p := ⟨wr.heap.size, 0, none⟩) (by show wr.heap.size < w2.heap.size; omega)).trans y2_0
      have y3_1 := (hb.cell (p := ⟨wr.heap.size, 1, none⟩) (by show wr.heap.size < w2.heap.size; omega)).trans y2_1
      have y3_2 := (hb.cell (p := ⟨wr.heap.size, 2, none⟩) (by show wr.heap.size < w2.heap.size; omega)).trans y2_2
      have y3_3 := (hb.cell (p := ⟨wr.heap.size, 3, none⟩) (by show wr.heap.size < w2.heap.size; omega)).trans y2_3
      have y3_4 := (hb.cell (p := ⟨wr.heap.size, 4, none⟩) (by show wr.heap.size < w2.heap.size; omega)).trans y2_4
      have y3_6 := (hb.cell (p := ⟨wr.heap.size, 6, none⟩) (by show wr.heap.size < w2.heap.size; omega)).trans y2_6
      clear hb y2_0 y2_1 y2_2 y2_3 y2_4 y2_6
      go_wp2_with fail
      refine (K3.out _ (HS.out.stepAt b3)).mono ?_
      rintro e w4 ⟨rfl, hb⟩
      have b4 := b3.trans (hb.mono b3.size)
      have s4 : wr.heap.size + 1 ≤ w4.heap.size := Nat.le_trans s3 hb.size
      have y4_0 := (hb.cell (p := ⟨wr.heap.size, 0, none⟩) (by show wr.heap.size < w3.heap.size; omega)).trans y3_0
      have y4_1 := (hb.cell (p := ⟨wr.heap.size, 1, none⟩) (by show wr.heap.size < w3.heap.size; omega)).trans y3_1
      have y4_2 := (hb.cell (p := ⟨wr.heap.size, 2, none⟩) (by show wr.heap.size < w3.heap.size; omega)).trans y3_2
      have y4_3 := (hb.cell (p := ⟨wr.heap.size, 3, none⟩) (by show wr.heap.size < w3.heap.size; omega)).trans y3_3
      have y4_4 := (hb.cell (p := ⟨wr.heap.size, 4, none⟩) (by show wr.heap.size < w3.heap.size; omega)).trans y3_4
      have y4_6 := (hb.cell (p := ⟨wr.heap.size, 6, none⟩) (by show wr.heap.size < w3.heap.size; omega)).trans y3_6
      clear hb y3_0 y3_1 y3_2 y3_3 y3_4 y3_6
      have hM := HS.out.stepAt b4
      obtain ⟨ax, cx, e1, hM⟩ := hM
      simp only [Value.slice.injEq] at e1
      obtain ⟨rfl, e2, rfl⟩ := e1
      clear e2
      have HM := Lib.hid hM
      clear hM
      go_wp2_with fail
      go_loopw [5] (fun j w' => ∃ i : Nat, i ≤ M.length ∧ j = .int .i64 (i : Int) ∧ hasName x M = hasName x (M.drop i) ∧ Below w4.heap.size w4 w') (fun j _ => M.length - (intOf j).toNat)
      case atStart => exact ⟨0, Nat.zero_le _, rfl, rfl, Below.refl _ _⟩
      case round =>
        rename World => w5
        obtain ⟨i, hi, rfl, hh, hb⟩ := hrel
        have HH := Lib.hid hh
        have HB := Lib.hid hb
        have b5 := Lib.hid (HBR.out.trans ((b4.trans (hb.mono b4.size)).mono HBR.out.size))
        have y5_0 := (hb.cell (p := ⟨wr.heap.size, 0, none⟩) (by show wr.heap.size < w4.heap.size; omega)).trans y4_0
        have y5_1 := (hb.cell (p := ⟨wr.heap.size, 1, none⟩) (by show wr.heap.size < w4.heap.size; omega)).trans y4_1
        have y5_2 := (hb.cell (p := ⟨wr.heap.size, 2, none⟩) (by show wr.heap.size < w4.heap.size; omega)).trans y4_2
        have y5_3 := (hb.cell (p := ⟨wr.heap.size, 3, none⟩) (by show wr.heap.size < w4.heap.size; omega)).trans y4_3
        have y5_4 := (hb.cell (p := ⟨wr.heap.size, 4, none⟩) (by show wr.heap.size < w4.heap.size; omega)).trans y4_4
        have y5_6 := (hb.cell (p := ⟨wr.heap.size, 6, none⟩) (by show wr.heap.size < w4.heap.size; omega)).trans y4_6
        clear hh y4_0 y4_1 y4_2 y4_3 y4_4 y4_6
        by_cases hil : i < M.length
        · rcases HM.out with hM | ⟨b2, o2, rfl, hB2, hM⟩
          · subst hM
            exact absurd hil (by simp)
          obtain ⟨y, L, hyL⟩ : ∃ y L, M[i] = (y, L) := ⟨_, _, rfl⟩
          have c0 := ((hM i hil).below hb hB2).1
          rw [hyL] at c0
          simp only at c0
          have HY := Lib.hid (show M[i]? = some (y, L) by rw [List.getElem?_eq_getElem hil, hyL])
          clear hM hyL hb
          have q0 : (0 : Int) ≤ (i : Int) := by omega
          have q1 : (i : Int) < (M.length : Int) := by omega
          by_cases hyx : y = x
          · have HF := Lib.hid (sh_bad HX.out HO.out (show relOk (x, (a, b, c, d), f, M) = false by rw [HRO.out, HH.out, hasName_step HY.out]; simp [hyx]))
            subst hyx
            go_wp2_with fail
            go_quiet (fail)
            go_wp2_with fail
            go_ret
            exact ⟨by rw [HF.out]; rfl, b5.out.trans ⟨rfl, rfl, rfl, Nat.le_refl _, fun _ _ => rfl⟩⟩
          · have HP := Lib.hid (show hasName x M = hasName x (M.drop (i + 1)) by rw [HH.out, hasName_step HY.out]; simp [hyx])
            have hz : (y == x) = false := by rw [beq_eq_false_iff_ne]; exact hyx
            go_wp2_with fail
            go_quiet (fail)
            go_wp2_with fail
            go_roundw
            case rel => exact ⟨i + 1, by omega, by go_num, HP.out, HB.out.trans ⟨rfl, rfl, rfl, Nat.le_refl _, fun _ _ => rfl⟩⟩
            case measure => simp [intOf]; omega
        · obtain rfl : i = M.length := by omega
          have HR := Lib.hid (show relOk (x, (a, b, c, d), f, M) = true by rw [HRO.out, HH.out, List.drop_length]; rfl)
          clear hb
          have s5 : wr.heap.size < w5.heap.size := Nat.lt_of_lt_of_le (by omega) HB.out.size
          have t0 := cell_regrown y5_0
          have t1 := cell_regrown y5_1
          have t2 := cell_regrown y5_2
          have t3 := cell_regrown y5_3
          have t4 := cell_regrown y5_4
          clear y5_0 y5_1 y5_2 y5_3 y5_4
          rcases Nat.eq_zero_or_pos k with hkz | hkp
          · have hk0 : decide ((0 : Int) < (k : Int)) = false := decide_eq_false (by omega)
            have hk1 : decide (0 < k) = false := decide_eq_false (by omega)
            have HN := Lib.hid (show ∀ p, relAt S k = some p → relLess p (x, (a, b, c, d), f, M) = true from fun p hp => by rw [hkz] at hp; cases hp)
            clear hkz
            go_wp2_with fail
            refine wp_region_quiet_below (by kernel_rfl) (by kernel_rfl) ?_
            repeat (any_goals (first | go_big_quiet_step (fail) | quiet_step (fail)))
            refine wpQuiet_nil ?_
            intro W2 hw
            have nn := quiet_end hw
            clear hw t0 t1 t2 t3 t4
            have HP := Lib.hid (sh_push HX.out HO.out HR.out HN.out (b5.out.trans (nn.mono b5.out.size)))
            go_wp2_with fail
            go_roundw
            case rel => exact HP.out
            case measure => simp [intOf]; omega
          · obtain ⟨m, rfl⟩ : ∃ m, k = m + 1 := ⟨k - 1, by omega⟩
            have hmS : m < S.length := by omega
            obtain ⟨x', a', b', c', d', f', M', hxy'⟩ : ∃ x a b c d f M, S[m] = (x, (a, b, c, d), f, M) := ⟨_, _, _, _, _, _, _, rfl⟩
            have m1 := (HC.out m hmS).below b5.out hB
            rw [hxy'] at m1
            obtain ⟨⟨l0, l1, l2, l3, l4, l5⟩, ad', cap', l6, hs'⟩ := m1
            simp only at l0 l1 l2 l3 l4
            have hprev : relAt S (m + 1) = some (x', (a', b', c', d'), f', M') := by show S[m]? = _; rw [List.getElem?_eq_getElem hmS, hxy']
            have HPV := Lib.hid hprev
            clear hxy' hs' hprev l5 l6
            have j0 : (0 : Int) ≤ (m : Int) := by omega
            have j1 : (m : Int) < (S.length : Int) := by omega
            have hk0 : (0 : Int) < (m : Int) + 1 := by omega
            have u0 := cell_regrown l0
            have u1 := cell_regrown l1
            have u2 := cell_regrown l2
            have u3 := cell_regrown l3
            have u4 := cell_regrown l4
            clear l0 l1 l2 l3 l4
            have KL : Hid (∀ V, Calls Try.prog 86 #[ver a' b' c' d', ver a b c d] V fun e w' => e = .returned (.bool (vLess a' b' c' d' a b c d)) ∧ Below V.heap.size V w') := Lib.hid fun V => specLess_any a' b' c' d' a b c d V
            by_cases hgt : x < x'
            · have HF := Lib.hid (sh_row HX.out HO.out HPV.out (by unfold relLess; simp only; rw [if_neg (by omega)]; exact decide_eq_false (by omega)))
              go_wp2_with fail
              refine wp_region_quiet_below (by kernel_rfl) (by kernel_rfl) ?_
              repeat (any_goals (first | go_big_quiet_step (fail) | quiet_step (fail)))
              refine wpQuiet_nil ?_
              intro W2 hw
              have nn := quiet_end hw
              clear hw t0 t1 t2 t3 t4 u0 u1 u2 u3 u4
              go_wp2_with fail
              go_ret
              exact ⟨by rw [HF.out]; rfl, b5.out.trans (nn.mono b5.out.size)⟩
            by_cases heq : x' = x
            · have hz : (x' == x) = true := by simp [heq]
              rcases hv : vLess a' b' c' d' a b c d
              · have HF := Lib.hid (sh_row HX.out HO.out HPV.out (by unfold relLess; simp only; rw [if_pos heq]; exact hv))
                rw [hv] at KL
                clear hv
                subst heq
                go_wp2_with fail
                refine wp_region_quiet_below (by kernel_rfl) (by kernel_rfl) ?_
                repeat (any_goals (first | go_big_quiet_step ((go_at_call 86; exact Calls.regrown_of (KL.out _))) | quiet_step ((go_at_call 86; exact Calls.regrown_of (KL.out _)))))
                refine wpQuiet_nil ?_
                intro W2 hw
                have nn := quiet_end hw
                clear hw t0 t1 t2 t3 t4 u0 u1 u2 u3 u4
                go_wp2_with fail
                go_ret
                exact ⟨by rw [HF.out]; rfl, b5.out.trans (nn.mono b5.out.size)⟩
              · have HN := Lib.hid (show ∀ p, relAt S (m + 1) = some p → relLess p (x, (a, b, c, d), f, M) = true from fun p hp => by rw [HPV.out] at hp; cases hp; unfold relLess; simp only; rw [if_pos heq]; exact hv)
                rw [hv] at KL
                clear hv
                subst heq
                go_wp2_with fail
                refine wp_region_quiet_below (by kernel_rfl) (by kernel_rfl) ?_
                repeat (any_goals (first | go_big_quiet_step ((go_at_call 86; exact Calls.regrown_of (KL.out _))) | quiet_step ((go_at_call 86; exact Calls.regrown_of (KL.out _)))))
                refine wpQuiet_nil ?_
                intro W2 hw
                have nn := quiet_end hw
                clear hw t0 t1 t2 t3 t4 u0 u1 u2 u3 u4
                have HP := Lib.hid (sh_push HX.out HO.out HR.out HN.out (b5.out.trans (nn.mono b5.out.size)))
                go_wp2_with fail
                go_roundw
                case rel => exact HP.out
                case measure => simp [intOf]; omega
            · have hz : (x' == x) = false := by rw [beq_eq_false_iff_ne]; exact heq
              have hz2 : decide (x' = x) = false := decide_eq_false heq
              have hz3 : x' < x := by omega
              have hz4 : decide (x < x') = false := decide_eq_false hgt
              have HN := Lib.hid (show ∀ p, relAt S (m + 1) = some p → relLess p (x, (a, b, c, d), f, M) = true from fun p hp => by rw [HPV.out] at hp; cases hp; unfold relLess; simp only; rw [if_neg heq]; exact decide_eq_true (by omega))
              go_wp2_with fail
              refine wp_region_quiet_below (by kernel_rfl) (by kernel_rfl) ?_
              repeat (any_goals (first | go_big_quiet_step (fail) | quiet_step (fail)))
              refine wpQuiet_nil ?_
              intro W2 hw
              have nn := quiet_end hw
              clear hw t0 t1 t2 t3 t4 u0 u1 u2 u3 u4
              have HP := Lib.hid (sh_push HX.out HO.out HR.out HN.out (b5.out.trans (nn.mono b5.out.size)))
              go_wp2_with fail
              go_roundw
              case rel => exact HP.out
              case measure => simp [intOf]; omega
    · obtain rfl : k = S.length := by omega
      have HF := Lib.hid (show shOk S = decide ((S.length : Int) ≤ 30) by unfold shOk; rw [HO.out, List.drop_length]; simp only [shFrom, Bool.true_and]; exact decide_eq_decide.2 (by omega))
      go_wp2_with fail
      go_ret
      exact ⟨by rw [HF.out]; rfl, hb⟩

end Go.Proofs.Ytgnjhmmedogcoaa

/- Contracts of ShelfAt, the program's and the model's, over this seat's translation: both answer as the plain function shAt; nothing that was there before the call has changed. Condition: at most 1048576 releases, needs of each, and spans of those. -/
namespace Go.Proofs.Ytgnjhmmedogcoaa
open Go.RowKit Go.Sort

/-- The place of the first release of a name and a version, from place k on. -/
def shFind (n : Int) (v : Int × Int × Int × Int) : Nat → List Rel → Int
  | _, [] => -1
  | k, q :: t => if q.1 = n ∧ q.2.1 = v then (k : Int) else shFind n v (k + 1) t
def shAt (S : List Rel) (n : Int) (v : Int × Int × Int × Int) : Int := if shOk S = true then shFind n v 0 S else -1
theorem shFind_step {S : List Rel} {k : Nat} {q : Rel} (h : S[k]? = some q) (n : Int) (v : Int × Int × Int × Int) : shFind n v k (S.drop k) = if q.1 = n ∧ q.2.1 = v then (k : Int) else shFind n v (k + 1) (S.drop (k + 1)) := by
  have hk : k < S.length := (List.getElem?_eq_some_iff.1 h).1
  rw [List.drop_eq_getElem_cons hk, (List.getElem?_eq_some_iff.1 h).2]
  rfl

theorem ver_alike' {a b c d p q r s : Int} (h : a = p ∧ b = q ∧ c = r ∧ d = s) (V : World) : (binOp .eql 61 (ver a b c d) (ver p q r s)).run Try.prog V = .ok (.bool true) V := by
  obtain ⟨rfl, rfl, rfl, rfl⟩ := h
  go_simp
theorem ver_differ' {a b c d p q r s : Int} (h : ¬ (a = p ∧ b = q ∧ c = r ∧ d = s)) (V : World) : (binOp .eql 61 (ver a b c d) (ver p q r s)).run Try.prog V = .ok (.bool false) V := by
  by_cases h1 : a = p
  · by_cases h2 : b = q
    · by_cases h3 : c = r
      · have b4 : (d == s) = false := by rw [beq_eq_false_iff_ne]; exact fun e => h ⟨h1, h2, h3, e⟩
        subst h1; subst h2; subst h3
        go_simp
      · have b3 : (c == r) = false := by rw [beq_eq_false_iff_ne]; exact h3
        subst h1; subst h2
        go_simp
    · have b2 : (b == q) = false := by rw [beq_eq_false_iff_ne]; exact h2
      subst h1
      go_simp
  · have b1 : (a == p) = false := by rw [beq_eq_false_iff_ne]; exact h1
    go_simp

/-- What the loops of ShelfAt keep: what is left decides. -/
def AtRel (S : List Rel) (n : Int) (v : Int × Int × Int × Int) (w1 : World) (i : Value) (wr : World) : Prop :=
  ∃ k : Nat, k ≤ S.length ∧ i = .int .i64 (k : Int) ∧ shFind n v 0 S = shFind n v k (S.drop k) ∧ Below w1.heap.size w1 wr
theorem at_push {S : List Rel} {n : Int} {v : Int × Int × Int × Int} {w1 wr : World} {k : Nat} {q : Rel} (hS : S[k]? = some q) (ho : shFind n v 0 S = shFind n v k (S.drop k)) (hn : ¬ (q.1 = n ∧ q.2.1 = v)) (hb : Below w1.heap.size w1 wr) :
    AtRel S n v w1 (.int .i64 ((k : Int) + 1)) wr := by
  have hk : k < S.length := (List.getElem?_eq_some_iff.1 hS).1
  exact ⟨k + 1, by omega, by go_num, by rw [ho, shFind_step hS, if_neg hn], hb⟩
theorem at_found {S : List Rel} {n : Int} {v : Int × Int × Int × Int} {k : Nat} {q : Rel} (hS : S[k]? = some q) (ho : shFind n v 0 S = shFind n v k (S.drop k)) (hok : shOk S = true) (hn : q.1 = n ∧ q.2.1 = v) : shAt S n v = (k : Int) := by
  unfold shAt
  rw [if_pos hok, ho, shFind_step hS, if_pos hn]

theorem found_at {S : List Rel} {n : Int} {v : Int × Int × Int × Int} {k : Nat} {q : Rel} (hS : S[k]? = some q) (ho : shFind n v 0 S = shFind n v k (S.drop k)) (hn : q.1 = n ∧ q.2.1 = v) : shFind n v 0 S = (k : Int) := by
  rw [ho, shFind_step hS, if_pos hn]

set_option maxRecDepth 100000 in
set_option maxHeartbeats 4000000 in
theorem placeOf_any (u : Value) (S : List Rel) (n p q r s : Int) (w : World) (hl : S.length ≤ 1048576) (h : RlAt w w.heap.size u S) :
    Calls Try.prog 75 #[u, .int .i64 n, ver p q r s] w fun e w' => e = .returned (.int .i64 (shFind n (p, q, r, s) 0 S)) ∧ Below w.heap.size w w' := by
  obtain ⟨sa, caps, rfl, hx⟩ := id h
  have HX := Lib.hid hx
  clear h hx
  obtain ⟨w2, hw1⟩ : ∃ V : World, V = w.alloc (.cells #[.int .i64 p, .int .i64 q, .int .i64 r, .int .i64 s] 61) := ⟨_, rfl⟩
  have HB2 : Hid (Below w.heap.size w w2) := Lib.hid (by
    rw [hw1]
    exact (Below.refl w.heap.size w).alloc (Nat.le_refl _) _)
  have s2 : w.heap.size + 1 ≤ w2.heap.size := by rw [hw1]; simp
  have y2_0 : w2.cell? ⟨w.heap.size, 0, none⟩ = some (.int .i64 p) := by rw [hw1]; go_simp
  have y2_1 : w2.cell? ⟨w.heap.size, 1, none⟩ = some (.int .i64 q) := by rw [hw1]; go_simp
  have y2_2 : w2.cell? ⟨w.heap.size, 2, none⟩ = some (.int .i64 r) := by rw [hw1]; go_simp
  have y2_3 : w2.cell? ⟨w.heap.size, 3, none⟩ = some (.int .i64 s) := by rw [hw1]; go_simp
  go_enter Try.func75, Try.ntmps75
  go_upto_region 1 with fail
  rw [← hw1]
  clear hw1
  go_wp2_with fail
  go_loopw [11] (fun i wr => AtRel S n (p, q, r, s) w2 i wr) (fun i _ => S.length - (intOf i).toNat)
  case atStart => exact ⟨0, Nat.zero_le _, rfl, rfl, Below.refl _ _⟩
  case round =>
    obtain ⟨k, hk, rfl, ho, hb⟩ := hrel
    have HO := Lib.hid ho
    have HB := Lib.hid hb
    clear ho
    by_cases hlt : k < S.length
    · have bw := HB2.out.trans (hb.mono HB2.out.size)
      have sr := hb.size
      rcases HX.out with h | ⟨g, o, rfl, hB, hc⟩
      · subst h
        exact absurd hlt (by simp)
      obtain ⟨x, a, b, c, d, f, M, hxy⟩ : ∃ x a b c d f M, S[k] = (x, (a, b, c, d), f, M) := ⟨_, _, _, _, _, _, _, rfl⟩
      have m1 := (hc k hlt).below bw hB
      rw [hxy] at m1
      obtain ⟨⟨k0, k1, k2, k3, k4, k5⟩, ad, cap, k6, hs⟩ := m1
      simp only at k0 k1 k2 k3 k4 k5 k6
      have HY := Lib.hid (show S[k]? = some (x, (a, b, c, d), f, M) by rw [List.getElem?_eq_getElem hlt, hxy])
      have mg : g < wr.heap.size := Nat.lt_of_lt_of_le hB bw.size
      have mn : w.heap.size < wr.heap.size := by omega
      have BB := Lib.hid (hb.alloc hb.size (.cells #[.int .i64 x, .int .i64 a, .int .i64 b, .int .i64 c, .int .i64 d, .bool f, .slice ad M.length cap] 63))
      have z0 := (hb.cell (p := ⟨w.heap.size, 0, none⟩) (by show w.heap.size < w2.heap.size; omega)).trans y2_0
      have z1 := (hb.cell (p := ⟨w.heap.size, 1, none⟩) (by show w.heap.size < w2.heap.size; omega)).trans y2_1
      have z2 := (hb.cell (p := ⟨w.heap.size, 2, none⟩) (by show w.heap.size < w2.heap.size; omega)).trans y2_2
      have z3 := (hb.cell (p := ⟨w.heap.size, 3, none⟩) (by show w.heap.size < w2.heap.size; omega)).trans y2_3
      clear hxy hc hs bw hb y2_0 y2_1 y2_2 y2_3
      by_cases hn : x = n
      · by_cases hv : a = p ∧ b = q ∧ c = r ∧ d = s
        · have HF := Lib.hid (found_at HY.out HO.out ⟨hn, by simp only [hv.1, hv.2.1, hv.2.2.1, hv.2.2.2]⟩)
          obtain ⟨rfl, rfl, rfl, rfl⟩ := hv
          subst hn
          go_wp2_with fail
          go_ret
          exact ⟨by rw [HF.out]; rfl, HB2.out.trans (BB.out.mono HB2.out.size)⟩
        · have HP := Lib.hid (at_push HY.out HO.out (fun e => hv (by have := e.2; simp only [Prod.mk.injEq] at this; exact this)) BB.out)
          have hD := ver_differ' hv
          clear hv
          subst hn
          go_wp2_with fail
          go_roundw
          case rel => exact HP.out
          case measure => simp [intOf]; omega
      · have HP := Lib.hid (at_push HY.out HO.out (fun e => hn e.1) BB.out)
        have hz : (x == n) = false := by rw [beq_eq_false_iff_ne]; exact hn
        go_wp2_with fail
        go_roundw
        case rel => exact HP.out
        case measure => simp [intOf]; omega
    · obtain rfl : k = S.length := by omega
      have HF := Lib.hid (show shFind n (p, q, r, s) 0 S = -1 by rw [HO.out, List.drop_length]; rfl)
      go_wp2_with fail
      go_ret
      exact ⟨by rw [HF.out]; rfl, HB2.out.trans (hb.mono HB2.out.size)⟩

set_option maxRecDepth 100000 in
set_option maxHeartbeats 4000000 in
theorem implShelfAt_any (u : Value) (S : List Rel) (n p q r s : Int) (w : World) (hl : S.length ≤ 1048576) (hq : ∀ q ∈ S, q.2.2.2.length ≤ 1048576 ∧ ∀ p ∈ q.2.2.2, p.2.length ≤ 1048576) (h : RlAt w w.heap.size u S) :
    Calls Try.prog 40 #[u, .int .i64 n, ver p q r s] w fun e w' => e = .returned (.int .i64 (shAt S n (p, q, r, s))) ∧ Below w.heap.size w w' := by
  obtain ⟨sa, caps, rfl, hx⟩ := id h
  have H := Lib.hid h
  clear h hx
  obtain ⟨w1, hw1⟩ : ∃ V : World, V = w.alloc (.cells #[.int .i64 p, .int .i64 q, .int .i64 r, .int .i64 s] 61) := ⟨_, rfl⟩
  have b1 : Below w.heap.size w w1 := by
    rw [hw1]
    exact (Below.refl w.heap.size w).alloc (Nat.le_refl _) _
  have s1 : w.heap.size + 1 ≤ w1.heap.size := by rw [hw1]; simp
  have y1_0 : w1.cell? ⟨w.heap.size, 0, none⟩ = some (.int .i64 p) := by rw [hw1]; go_simp
  have y1_1 : w1.cell? ⟨w.heap.size, 1, none⟩ = some (.int .i64 q) := by rw [hw1]; go_simp
  have y1_2 : w1.cell? ⟨w.heap.size, 2, none⟩ = some (.int .i64 r) := by rw [hw1]; go_simp
  have y1_3 : w1.cell? ⟨w.heap.size, 3, none⟩ = some (.int .i64 s) := by rw [hw1]; go_simp
  have KO : Hid (∀ V, RlAt V V.heap.size (.slice sa S.length caps) S → Calls Try.prog 58 #[.slice sa S.length caps] V fun e w' => e = .returned (.bool (shOk S)) ∧ Below V.heap.size V w') := Lib.hid fun V g => implShelfOk_any _ S V hl hq g
  rcases hok : shOk S
  · have HF := Lib.hid (show shAt S n (p, q, r, s) = -1 by unfold shAt; rw [hok]; rfl)
    rw [hok] at KO
    clear hok
    go_enter Try.func40, Try.ntmps40
    go_upto_region 1 with fail
    rw [← hw1]
    clear hw1
    go_wp2_with fail
    refine (KO.out _ (H.out.stepAt b1)).mono ?_
    rintro e w2 ⟨rfl, hb⟩
    go_wp2_with fail
    go_ret
    exact ⟨by rw [HF.out]; rfl, b1.trans (hb.mono b1.size)⟩
  · have HF := Lib.hid (show shAt S n (p, q, r, s) = shFind n (p, q, r, s) 0 S by unfold shAt; rw [if_pos hok])
    rw [hok] at KO
    clear hok
    go_enter Try.func40, Try.ntmps40
    go_upto_region 1 with fail
    rw [← hw1]
    clear hw1
    go_wp2_with fail
    refine (KO.out _ (H.out.stepAt b1)).mono ?_
    rintro e w2 ⟨rfl, hb⟩
    have b2 := b1.trans (hb.mono b1.size)
    have y2_0 := (hb.cell (p := ⟨w.heap.size, 0, none⟩) (by show w.heap.size < w1.heap.size; omega)).trans y1_0
    have y2_1 := (hb.cell (p := ⟨w.heap.size, 1, none⟩) (by show w.heap.size < w1.heap.size; omega)).trans y1_1
    have y2_2 := (hb.cell (p := ⟨w.heap.size, 2, none⟩) (by show w.heap.size < w1.heap.size; omega)).trans y1_2
    have y2_3 := (hb.cell (p := ⟨w.heap.size, 3, none⟩) (by show w.heap.size < w1.heap.size; omega)).trans y1_3
    clear hb y1_0 y1_1 y1_2 y1_3
    go_wp2_with fail
    refine (placeOf_any _ S n p q r s _ hl (H.out.stepAt b2)).mono ?_
    rintro e w3 ⟨rfl, hb⟩
    have b3 := b2.trans (hb.mono b2.size)
    go_wp2_with fail
    go_ret
    exact ⟨by rw [HF.out]; rfl, b3⟩

end Go.Proofs.Ytgnjhmmedogcoaa
