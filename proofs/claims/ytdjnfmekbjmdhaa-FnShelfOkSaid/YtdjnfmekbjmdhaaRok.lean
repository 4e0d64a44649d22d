/- Plain facts of shelves of releases (ascending by names, and by versions for one name), and contracts of the program's small functions on releases, over this seat's translation; nothing that was there before a call has changed. Condition: at most 1048576 needs of a release, and spans of each. -/
import Derived.Test.YtdjnfmekbjmdhaaRm
import Derived.Test.YtdjnfmekbjmdhaaNdok
import Derived.Test.YtdjnfmekbjmdhaaVless
import Derived.Deep.CutRange
namespace Go.Proofs.Ytdjnfmekbjmdhaa
open Go.RowKit Go.Sort

def hasName (x : Int) (M : List Nd) : Bool := M.any fun q => decide (q.1 = x)
def relOk (q : Rel) : Bool := inB q.1 0 7 && (vOk q.2.1.1 q.2.1.2.1 q.2.1.2.2.1 q.2.1.2.2.2 && (ndOk q.2.2.2 && !hasName q.1 q.2.2.2))
def relLess (p q : Rel) : Bool := if p.1 = q.1 then vLess p.2.1.1 p.2.1.2.1 p.2.1.2.2.1 p.2.1.2.2.2 q.2.1.1 q.2.1.2.1 q.2.1.2.2.1 q.2.1.2.2.2 else decide (p.1 < q.1)
def shFrom (prev : Option Rel) : List Rel → Bool
  | [] => true
  | q :: t => relOk q && ((match prev with | none => true | some p => relLess p q) && shFrom (some q) t)
def shOk (S : List Rel) : Bool := shFrom none S && decide (S.length ≤ 30)
/-- The release before place k. -/
def relAt (S : List Rel) : Nat → Option Rel
  | 0 => none
  | k + 1 => S[k]?
theorem shFrom_step {S : List Rel} {k : Nat} {q : Rel} (h : S[k]? = some q) (prev : Option Rel) : shFrom prev (S.drop k) = (relOk q && ((match prev with | none => true | some p => relLess p q) && shFrom (some q) (S.drop (k + 1)))) := by
  have hk : k < S.length := (List.getElem?_eq_some_iff.1 h).1
  rw [List.drop_eq_getElem_cons hk, (List.getElem?_eq_some_iff.1 h).2]
  rfl
theorem hasName_step {M : List Nd} {k : Nat} {q : Nd} (h : M[k]? = some q) (x : Int) : hasName x (M.drop k) = (decide (q.1 = x) || hasName x (M.drop (k + 1))) := by
  have hk : k < M.length := (List.getElem?_eq_some_iff.1 h).1
  rw [List.drop_eq_getElem_cons hk, (List.getElem?_eq_some_iff.1 h).2]
  rfl

set_option maxRecDepth 100000 in
set_option maxHeartbeats 400000 in
theorem nameOk_any (x : Int) (w : World) : Calls Try.prog 96 #[.int .i64 x] w fun e w' => e = .returned (.bool (inB x 0 7)) ∧ Below w.heap.size w w' := by
  have hr : inB x 0 7 = decide (0 ≤ x ∧ x ≤ 7) := by
    rw [Bool.eq_iff_iff, inB_iff, decide_eq_true_eq]
  rw [hr]
  by_cases h0 : 0 ≤ x
  · by_cases h7 : x ≤ 7
    · rw [decide_eq_true (p := 0 ≤ x ∧ x ≤ 7) ⟨h0, h7⟩]
      go_enter Try.func96, Try.ntmps96
      go_wp2_with fail
      go_ret
      exact ⟨rfl, Below.refl _ _⟩
    · rw [decide_eq_false (p := 0 ≤ x ∧ x ≤ 7) (fun e => h7 e.2)]
      go_enter Try.func96, Try.ntmps96
      go_wp2_with fail
      go_ret
      exact ⟨rfl, Below.refl _ _⟩
  · rw [decide_eq_false (p := 0 ≤ x ∧ x ≤ 7) (fun e => h0 e.1)]
    go_enter Try.func96, Try.ntmps96
    go_wp2_with fail
    go_ret
    exact ⟨rfl, Below.refl _ _⟩

def HNRel (M : List Nd) (x : Int) (w : World) (i : Value) (wr : World) : Prop :=
  ∃ k : Nat, k ≤ M.length ∧ i = .int .i64 (k : Int) ∧ hasName x M = hasName x (M.drop k) ∧ Below w.heap.size w wr

set_option maxRecDepth 100000 in
set_option maxHeartbeats 1000000 in
theorem needsName_any (v : Value) (M : List Nd) (x : Int) (w : World) (hl : M.length ≤ 1048576) (h : NdAt w w.heap.size v M) :
    Calls Try.prog 77 #[v, .int .i64 x] w fun e w' => e = .returned (.bool (hasName x M)) ∧ Below w.heap.size w w' := by
  obtain ⟨ad, cap, rfl, h⟩ := h
  go_enter Try.func77, Try.ntmps77
  go_wp2
  go_loopw [9] (fun i wr => HNRel M x w i wr) (fun i _ => M.length - (intOf i).toNat)
  case atStart => exact ⟨0, Nat.zero_le _, rfl, rfl, Below.refl _ _⟩
  case round =>
    obtain ⟨k, hk, rfl, ho, hb⟩ := hrel
    have HO := Lib.hid ho
    clear ho
    by_cases hlt : k < M.length
    · rcases h with h | ⟨b, o, rfl, hB, hc⟩
      · subst h
        exact absurd hlt (by simp)
      obtain ⟨y, L, hxy⟩ : ∃ y L, M[k] = (y, L) := ⟨_, _, rfl⟩
      have c := (hc k hlt).below hb hB
      rw [hxy] at c
      obtain ⟨c0, a1, cap1, c1, hs⟩ := c
      simp only at c0 c1
      have HX := Lib.hid (show M[k]? = some (y, L) by rw [List.getElem?_eq_getElem hlt, hxy])
      clear hxy hc hs
      have bb := hb.alloc hb.size (.cells #[.int .i64 y, .slice a1 L.length cap1] 97)
      by_cases hyx : y = x
      · have HF := Lib.hid (show hasName x M = true by rw [HO.out, hasName_step HX.out]; simp [hyx])
        subst hyx
        go_wp2_with fail
        go_ret
        exact ⟨by rw [HF.out]; rfl, bb⟩
      · have HP := Lib.hid (show HNRel M x w (.int .i64 ((k : Int) + 1)) _ from ⟨k + 1, by omega, by go_num, by rw [HO.out, hasName_step HX.out]; simp [hyx], bb⟩)
        have hz : (y == x) = false := by rw [beq_eq_false_iff_ne]; exact hyx
        clear bb hb
        go_wp2_with fail
        go_roundw
        case rel => exact HP.out
        case measure => simp [intOf]; omega
    · obtain rfl : k = M.length := by omega
      have HF := Lib.hid (show hasName x M = false by rw [HO.out, List.drop_length]; rfl)
      go_wp2_with fail
      go_ret
      exact ⟨by rw [HF.out]; rfl, hb⟩

set_option maxRecDepth 100000 in
set_option maxHeartbeats 2000000 in
theorem releaseOk_any (x a b c d : Int) (f : Bool) (v : Value) (M : List Nd) (w : World) (hl : M.length ≤ 1048576) (hq : ∀ q ∈ M, q.2.length ≤ 1048576) (h : NdAt w w.heap.size v M) :
    Calls Try.prog 65 #[rels x a b c d f v] w fun e w' => e = .returned (.bool (relOk (x, (a, b, c, d), f, M))) ∧ Below w.heap.size w w' := by
  have e1 := h
  obtain ⟨ad, cap, rfl, y1⟩ := e1
  clear y1
  have K1 := Lib.hid fun V => nameOk_any x V
  have K2 := Lib.hid fun V => implOk_any a b c d V
  have K3 := Lib.hid (show ∀ V, NdAt V V.heap.size (.slice ad M.length cap) M → _ from fun V g => implNeedsOk_any _ M V hl hq g)
  have K4 := Lib.hid (show ∀ V, NdAt V V.heap.size (.slice ad M.length cap) M → _ from fun V g => needsName_any _ M x V hl g)
  have H := Lib.hid h
  obtain ⟨w1, hw1⟩ : ∃ V : World, V = w.alloc (.cells #[.int .i64 x, .int .i64 a, .int .i64 b, .int .i64 c, .int .i64 d, .bool f, .slice ad M.length cap] 41) := ⟨_, rfl⟩
  have b1 : Below w.heap.size w w1 := by
    rw [hw1]
    exact (Below.refl w.heap.size w).alloc (Nat.le_refl _) _
  have s1 : w.heap.size + 1 ≤ w1.heap.size := by rw [hw1]; simp
  have y1_0 : w1.cell? ⟨w.heap.size, 0, none⟩ = some (.int .i64 x) := by rw [hw1]; go_simp
  have y1_1 : w1.cell? ⟨w.heap.size, 1, none⟩ = some (.int .i64 a) := by rw [hw1]; go_simp
  have y1_2 : w1.cell? ⟨w.heap.size, 2, none⟩ = some (.int .i64 b) := by rw [hw1]; go_simp
  have y1_3 : w1.cell? ⟨w.heap.size, 3, none⟩ = some (.int .i64 c) := by rw [hw1]; go_simp
  have y1_4 : w1.cell? ⟨w.heap.size, 4, none⟩ = some (.int .i64 d) := by rw [hw1]; go_simp
  have y1_6 : w1.cell? ⟨w.heap.size, 6, none⟩ = some (.slice ad M.length cap) := by rw [hw1]; go_simp
  clear h
  unfold relOk
  simp only
  rcases r1 : inB x 0 7
  all_goals rw [r1] at K1
  all_goals clear r1
  · go_enter Try.func65, Try.ntmps65
    go_upto_region 1 with fail
    rw [← hw1]
    clear hw1
    go_wp2_with fail
    refine (K1.out _).mono ?_
    rintro e w2 ⟨rfl, hb⟩
    have b2 := b1.trans (hb.mono b1.size)
    have s2 : w.heap.size + 1 ≤ w2.heap.size := Nat.le_trans s1 hb.size
    have y2_0 := (hb.cell (p := ⟨w.heap.size, 0, none⟩) (by show w.heap.size < w1.heap.size; omega)).trans y1_0
    have y2_1 := (hb.cell (p := ⟨w.heap.size, 1, none⟩) (by show w.heap.size < w1.heap.size; omega)).trans y1_1
    have y2_2 := (hb.cell (p := ⟨w.heap.size, 2, none⟩) (by show w.heap.size < w1.heap.size; omega)).trans y1_2
    have y2_3 := (hb.cell (p := ⟨w.heap.size, 3, none⟩) (by show w.heap.size < w1.heap.size; omega)).trans y1_3
    have y2_4 := (hb.cell (p := ⟨w.heap.size, 4, none⟩) (by show w.heap.size < w1.heap.size; omega)).trans y1_4
    have y2_6 := (hb.cell (p := ⟨w.heap.size, 6, none⟩) (by show w.heap.size < w1.heap.size; omega)).trans y1_6
    clear hb y1_0 y1_1 y1_2 y1_3 y1_4 y1_6
    go_wp2_with fail
    go_ret
    exact ⟨rfl, b2⟩
  · rcases r2 : vOk a b c d
    all_goals rw [r2] at K2
    all_goals clear r2
    · go_enter Try.func65, Try.ntmps65
      go_upto_region 1 with fail
      rw [← hw1]
      clear hw1
      go_wp2_with fail
      refine (K1.out _).mono ?_
      rintro e w2 ⟨rfl, hb⟩
      have b2 := b1.trans (hb.mono b1.size)
      have s2 : w.heap.size + 1 ≤ w2.heap.size := Nat.le_trans s1 hb.size
      have y2_0 := (hb.cell (p := ⟨w.heap.size, 0, none⟩) (by show w.heap.size < w1.heap.size; omega)).trans y1_0
      have y2_1 := (hb.cell (p := ⟨w.heap.size, 1, none⟩) (by show w.heap.size < w1.heap.size; omega)).trans y1_1
      have y2_2 := (hb.cell (p := ⟨w.heap.size, 2, none⟩) (by show w.heap.size < w1.heap.size; omega)).trans y1_2
      have y2_3 := (hb.cell (p := ⟨w.heap.size, 3, none⟩) (by show w.heap.size < w1.heap.size; omega)).trans y1_3
      have y2_4 := (hb.cell (p := ⟨w.heap.size, 4, none⟩) (by show w.heap.size < w1.heap.size; omega)).trans y1_4
      have y2_6 := (hb.cell (p := ⟨w.heap.size, 6, none⟩) (by show w.heap.size < w1.heap.size; omega)).trans y1_6
      clear hb y1_0 y1_1 y1_2 y1_3 y1_4 y1_6
      go_wp2_with fail
      refine (K2.out _).mono ?_
      rintro e w3 ⟨rfl, hb⟩
      have b3 := b2.trans (hb.mono b2.size)
      have s3 : w.heap.size + 1 ≤ w3.heap.size := Nat.le_trans s2 hb.size
      have y3_0 := (hb.cell (p := ⟨w.heap.size, 0, none⟩) (by show w.heap.size < w2.heap.size; omega)).trans y2_0
      have y3_1 := (hb.cell (p := ⟨w.heap.size, 1, none⟩) (by show w.heap.size < w2.heap.size; omega)).trans y2_1
      have y3_2 := (hb.cell (p := ⟨w.heap.size, 2, none⟩) (by show w.heap.size < w2.heap.size; omega)).trans y2_2
      have y3_3 := (hb.cell (p := ⟨w.heap.size, 3, none⟩) (by show w.heap.size < w2.heap.size; omega)).trans y2_3
      have y3_4 := (hb.cell (p := ⟨w.heap.size, 4, none⟩) (by show w.heap.size < w2.heap.size; omega)).trans y2_4
      have y3_6 := (hb.cell (p := ⟨w.heap.size, 6, none⟩) (by show w.heap.size < w2.heap.size; omega)).trans y2_6
      clear hb y2_0 y2_1 y2_2 y2_3 y2_4 y2_6
      go_wp2_with fail
      go_ret
      exact ⟨rfl, b3⟩
    · rcases r3 : ndOk M
      all_goals rw [r3] at K3
      all_goals clear r3
      · go_enter Try.func65, Try.ntmps65
        go_upto_region 1 with fail
        rw [← hw1]
        clear hw1
        go_wp2_with fail
        refine (K1.out _).mono ?_
        rintro e w2 ⟨rfl, hb⟩
        have b2 := b1.trans (hb.mono b1.size)
        have s2 : w.heap.size + 1 ≤ w2.heap.size := Nat.le_trans s1 hb.size
        have y2_0 := (hb.cell (p := ⟨w.heap.size, 0, none⟩) (by show w.heap.size < w1.heap.size; omega)).trans y1_0
        have y2_1 := (hb.cell (p := ⟨w.heap.size, 1, none⟩) (by show w.heap.size < w1.heap.size; omega)).trans y1_1
        have y2_2 := (hb.cell (p := ⟨w.heap.size, 2, none⟩) (by show w.heap.size < w1.heap.size; omega)).trans y1_2
        have y2_3 := (hb.cell (p := ⟨w.heap.size, 3, none⟩) (by show w.heap.size < w1.heap.size; omega)).trans y1_3
        have y2_4 := (hb.cell (p := ⟨w.heap.size, 4, none⟩) (by show w.heap.size < w1.heap.size; omega)).trans y1_4
        have y2_6 := (hb.cell (p := ⟨w.heap.size, 6, none⟩) (by show w.heap.size < w1.heap.size; omega)).trans y1_6
        clear hb y1_0 y1_1 y1_2 y1_3 y1_4 y1_6
        go_wp2_with fail
        refine (K2.out _).mono ?_
        rintro e w3 ⟨rfl, hb⟩
        have b3 := b2.trans (hb.mono b2.size)
        have s3 : w.heap.size + 1 ≤ w3.heap.size := Nat.le_trans s2 hb.size
        have y3_0 := (hb.cell (p := ⟨w.heap.size, 0, none⟩) (by show w.heap.size < w2.heap.size; omega)).trans y2_0
        have y3_1 := (hb.cell (p := ⟨w.heap.size, 1, none⟩) (by show w.heap.size < w2.heap.size; omega)).trans y2_1
        have y3_2 := (hb.cell (p := ⟨w.heap.size, 2, none⟩) (by show w.heap.size < w2.heap.size; omega)).trans y2_2
        have y3_3 := (hb.cell (p := ⟨w.heap.size, 3, none⟩) (by show w.heap.size < w2.heap.size; omega)).trans y2_3
        have y3_4 := (hb.cell (p := ⟨w.heap.size, 4, none⟩) (by show w.heap.size < w2.heap.size; omega)).trans y2_4
        have y3_6 := (hb.cell (p := ⟨w.heap.size, 6, none⟩) (by show w.heap.size < w2.heap.size; omega)).trans y2_6
        clear hb y2_0 y2_1 y2_2 y2_3 y2_4 y2_6
        go_wp2_with fail
        refine (K3.out _ (H.out.stepAt b3)).mono ?_
        rintro e w4 ⟨rfl, hb⟩
        have b4 := b3.trans (hb.mono b3.size)
        have s4 : w.heap.size + 1 ≤ w4.heap.size := Nat.le_trans s3 hb.size
        have y4_0 := (hb.cell (p := ⟨w.heap.size, 0, none⟩) (by show w.heap.size < w3.heap.size; omega)).trans y3_0
        have y4_1 := (hb.cell (p := ⟨w.heap.size, 1, none⟩) (by show w.heap.size < w3.heap.size; omega)).trans y3_1
        have y4_2 := (hb.cell (p := ⟨w.heap.size, 2, none⟩) (by show w.heap.size < w3.heap.size; omega)).trans y3_2
        have y4_3 := (hb.cell (p := ⟨w.heap.size, 3, none⟩) (by show w.heap.size < w3.heap.size; omega)).trans y3_3
        have y4_4 := (hb.cell (p := ⟨w.heap.size, 4, none⟩) (by show w.heap.size < w3.heap.size; omega)).trans y3_4
        have y4_6 := (hb.cell (p := ⟨w.heap.size, 6, none⟩) (by show w.heap.size < w3.heap.size; omega)).trans y3_6
        clear hb y3_0 y3_1 y3_2 y3_3 y3_4 y3_6
        go_wp2_with fail
        go_ret
        exact ⟨rfl, b4⟩
      · rcases r4 : hasName x M
        all_goals
          rw [r4] at K4
          clear r4
          go_enter Try.func65, Try.ntmps65
          go_upto_region 1 with fail
          rw [← hw1]
          clear hw1
          go_wp2_with fail
          refine (K1.out _).mono ?_
          rintro e w2 ⟨rfl, hb⟩
          have b2 := b1.trans (hb.mono b1.size)
          have s2 : w.heap.size + 1 ≤ w2.heap.size := Nat.le_trans s1 hb.size
          have y2_0 := (hb.cell (p := ⟨w.heap.size, 0, none⟩) (by show w.heap.size < w1.heap.size; omega)).trans y1_0
          have y2_1 := (hb.cell (p := ⟨w.heap.size, 1, none⟩) (by show w.heap.size < w1.heap.size; omega)).trans y1_1
          have y2_2 := (hb.cell (p := ⟨w.heap.size, 2, none⟩) (by show w.heap.size < w1.heap.size; omega)).trans y1_2
          have y2_3 := (hb.cell (p := ⟨w.heap.size, 3, none⟩) (by show w.heap.size < w1.heap.size; omega)).trans y1_3
          have y2_4 := (hb.cell (p := ⟨w.heap.size, 4, none⟩) (by show w.heap.size < w1.heap.size; omega)).trans y1_4
          have y2_6 := (hb.cell (p := ⟨w.heap.size, 6, none⟩) (by show w.heap.size < w1.heap.size; omega)).trans y1_6
          clear hb y1_0 y1_1 y1_2 y1_3 y1_4 y1_6
          go_wp2_with fail
          refine (K2.out _).mono ?_
          rintro e w3 ⟨rfl, hb⟩
          have b3 := b2.trans (hb.mono b2.size)
          have s3 : w.heap.size + 1 ≤ w3.heap.size := Nat.le_trans s2 hb.size
          have y3_0 := (hb.cell (p := ⟨w.heap.size, 0, none⟩) (by show w.heap.size < w2.heap.size; omega)).trans y2_0
          have y3_1 := (hb.cell (p := ⟨w.heap.size, 1, none⟩) (by show w.heap.size < w2.heap.size; omega)).trans y2_1
          have y3_2 := (hb.cell (p := ⟨w.heap.size, 2, none⟩) (by show w.heap.size < w2.heap.size; omega)).trans y2_2
          have y3_3 := (hb.cell (p := ⟨w.heap.size, 3, none⟩) (by show w.heap.size < w2.heap.size; omega)).trans y2_3
          have y3_4 := (hb.cell (p := ⟨w.heap.size, 4, none⟩) (by show w.heap.size < w2.heap.size; omega)).trans y2_4
          have y3_6 := (hb.cell (p := ⟨w.heap.size, 6, none⟩) (by show w.heap.size < w2.heap.size; omega)).trans y2_6
          clear hb y2_0 y2_1 y2_2 y2_3 y2_4 y2_6
          go_wp2_with fail
          refine (K3.out _ (H.out.stepAt b3)).mono ?_
          rintro e w4 ⟨rfl, hb⟩
          have b4 := b3.trans (hb.mono b3.size)
          have s4 : w.heap.size + 1 ≤ w4.heap.size := Nat.le_trans s3 hb.size
          have y4_0 := (hb.cell (p := ⟨w.heap.size, 0, none⟩) (by show w.heap.size < w3.heap.size; omega)).trans y3_0
          have y4_1 := (hb.cell (p := ⟨w.heap.size, 1, none⟩) (by show w.heap.size < w3.heap.size; omega)).trans y3_1
          have y4_2 := (hb.cell (p := ⟨w.heap.size, 2, none⟩) (by show w.heap.size < w3.heap.size; omega)).trans y3_2
          have y4_3 := (hb.cell (p := ⟨w.heap.size, 3, none⟩) (by show w.heap.size < w3.heap.size; omega)).trans y3_3
          have y4_4 := (hb.cell (p := ⟨w.heap.size, 4, none⟩) (by show w.heap.size < w3.heap.size; omega)).trans y3_4
          have y4_6 := (hb.cell (p := ⟨w.heap.size, 6, none⟩) (by show w.heap.size < w3.heap.size; omega)).trans y3_6
          clear hb y3_0 y3_1 y3_2 y3_3 y3_4 y3_6
          go_wp2_with fail
          refine (K4.out _ (H.out.stepAt b4)).mono ?_
          rintro e w5 ⟨rfl, hb⟩
          have b5 := b4.trans (hb.mono b4.size)
          have s5 : w.heap.size + 1 ≤ w5.heap.size := Nat.le_trans s4 hb.size
          have y5_0 := (hb.cell (p := ⟨w.heap.size, 0, none⟩) (by show w.heap.size < w4.heap.size; omega)).trans y4_0
          have y5_1 := (hb.cell (p := ⟨w.heap.size, 1, none⟩) (by show w.heap.size < w4.heap.size; omega)).trans y4_1
          have y5_2 := (hb.cell (p := ⟨w.heap.size, 2, none⟩) (by show w.heap.size < w4.heap.size; omega)).trans y4_2
          have y5_3 := (hb.cell (p := ⟨w.heap.size, 3, none⟩) (by show w.heap.size < w4.heap.size; omega)).trans y4_3
          have y5_4 := (hb.cell (p := ⟨w.heap.size, 4, none⟩) (by show w.heap.size < w4.heap.size; omega)).trans y4_4
          have y5_6 := (hb.cell (p := ⟨w.heap.size, 6, none⟩) (by show w.heap.size < w4.heap.size; omega)).trans y4_6
          clear hb y4_0 y4_1 y4_2 y4_3 y4_4 y4_6
          go_wp2_with fail
          go_ret
          exact ⟨rfl, b5⟩

set_option maxRecDepth 100000 in
set_option maxHeartbeats 2000000 in
theorem releaseLess_any (x a b c d x' a' b' c' d' : Int) (f f' : Bool) (v v' : Value) (M M' : List Nd) (w : World) (hv : ∃ ad n cap, v = .slice ad n cap) (hv' : ∃ ad n cap, v' = .slice ad n cap) :
    Calls Try.prog 94 #[rels x a b c d f v, rels x' a' b' c' d' f' v'] w fun e w' => e = .returned (.bool (relLess (x, (a, b, c, d), f, M) (x', (a', b', c', d'), f', M'))) ∧ Below w.heap.size w w' := by
  obtain ⟨ad, n, cap, rfl⟩ := hv
  obtain ⟨ad', n', cap', rfl⟩ := hv'
  have K := Lib.hid fun V => implLess_any a b c d a' b' c' d' V
  unfold relLess
  simp only
  have b0 := ((Below.refl w.heap.size w).alloc (Nat.le_refl _) (.cells #[.int .i64 x, .int .i64 a, .int .i64 b, .int .i64 c, .int .i64 d, .bool f, .slice ad n cap] 41)).alloc (by simp) (.cells #[.int .i64 x', .int .i64 a', .int .i64 b', .int .i64 c', .int .i64 d', .bool f', .slice ad' n' cap'] 41)
  by_cases hx : x = x'
  · rw [if_pos hx]
    subst hx
    generalize vLess a b c d a' b' c' d' = r at *
    have HB := Lib.hid b0
    clear b0
    go_enter Try.func94, Try.ntmps94
    go_wp2_with fail
    refine (K.out _).mono ?_
    rintro e w1 ⟨rfl, hb⟩
    go_wp2_with fail
    go_ret
    exact ⟨rfl, HB.out.trans (hb.mono HB.out.size)⟩
  · rw [if_neg hx]
    go_enter Try.func94, Try.ntmps94
    go_wp2_with fail
    go_ret
    exact ⟨rfl, b0⟩

end Go.Proofs.Ytdjnfmekbjmdhaa
