/- Contracts of the program's functions that see whether picks can be made up to a choice (pickMeets, nameLeft, namesLeft, picksAmong), over this seat's translation, as plain functions tell them; nothing that was there before a call has changed. Condition: at most 1048576 of each row and of what is in it. -/
import Derived.Test.YtgenjbeamlffmaaSvg
namespace Go.Proofs.Ytgenjbeamlffmaa
open Go.RowKit Go.Sort

namespace Svp
open Foot Copy Nup Cpu Cfa Rch

set_option maxRecDepth 100000 in
set_option maxHeartbeats 4000000 in
theorem pickMeets_any (u : Value) (K : List Nd) (x a b c d : Int) (w : World) (hK : K.length ≤ 1048576) (hq : ∀ q ∈ K, q.2.length ≤ 1048576) (h : NdAt w w.heap.size u K) :
    Calls Try.prog 196 #[u, pick x a b c d] w fun e w' => e = .returned (.bool (meetsB K (x, a, b, c, d))) ∧ Below w.heap.size w w' := by
  obtain ⟨na, ncap, rfl, h0⟩ := id h
  clear h
  obtain ⟨w1, hw1⟩ : ∃ V : World, V = w.alloc (.cells #[.int .i64 x, .int .i64 a, .int .i64 b, .int .i64 c, .int .i64 d] 114) := ⟨_, rfl⟩
  have b1 : Below w.heap.size w w1 := by rw [hw1]; exact (Below.refl _ _).alloc (Nat.le_refl _) _
  have z1 : w.heap.size < w1.heap.size := by rw [hw1]; simp
  have p0 : w1.cell? ⟨w.heap.size, 0, none⟩ = some (.int .i64 x) := by rw [hw1]; go_simp
  have p1 : w1.cell? ⟨w.heap.size, 1, none⟩ = some (.int .i64 a) := by rw [hw1]; go_simp
  have p2 : w1.cell? ⟨w.heap.size, 2, none⟩ = some (.int .i64 b) := by rw [hw1]; go_simp
  have p3 : w1.cell? ⟨w.heap.size, 3, none⟩ = some (.int .i64 c) := by rw [hw1]; go_simp
  have p4 : w1.cell? ⟨w.heap.size, 4, none⟩ = some (.int .i64 d) := by rw [hw1]; go_simp
  have HP := Lib.hid (And.intro p0 (And.intro p1 (And.intro p2 (And.intro p3 p4))))
  clear p0 p1 p2 p3 p4
  go_enter Try.func196, Try.ntmps196
  go_upto_region 1 with fail
  rw [← hw1]
  clear hw1
  go_wp2_with fail
  go_loopw [9] (fun i wr => ∃ k : Nat, k ≤ K.length ∧ i = .int .i64 (k : Int) ∧ meetsB K (x, a, b, c, d) = meetsB (K.drop k) (x, a, b, c, d) ∧ Below w1.heap.size w1 wr) (fun i _ => K.length - (intOf i).toNat)
  case atStart => exact ⟨0, Nat.zero_le _, rfl, rfl, Below.refl _ _⟩
  case round =>
    obtain ⟨k, hk, rfl, he, hb1⟩ := hrel
    have HE := Lib.hid he
    have hb := b1.trans (hb1.mono b1.size)
    clear he
    by_cases hlt : k < K.length
    · rcases h0 with h0 | ⟨sb, o, rfl, hB, hc⟩
      · subst h0
        exact absurd hlt (by simp)
      obtain ⟨nm, L, hxy⟩ : ∃ nm L, K[k] = (nm, L) := ⟨_, _, rfl⟩
      obtain ⟨r0, la, lc, r1, hs⟩ := (hc k hlt).below hb hB
      rw [hxy] at r0 r1 hs
      simp only at r0 r1 hs
      have hL : L.length ≤ 1048576 := by have := hq _ (List.getElem_mem hlt); rwa [hxy] at this
      have HXY := Lib.hid (show K[k]? = some (nm, L) by rw [List.getElem?_eq_getElem hlt, hxy])
      have HS := Lib.hid (hs.mono hb.size)
      have i0 : (0 : Int) ≤ (k : Int) := by omega
      have i1 : (k : Int) < (K.length : Int) := by omega
      obtain ⟨w3, hw3⟩ : ∃ V : World, V = wr.alloc (.cells #[.int .i64 nm, .slice la L.length lc] 111) := ⟨_, rfl⟩
      have b3 : Below wr.heap.size wr w3 := by rw [hw3]; exact (Below.refl _ _).alloc (Nat.le_refl _) _
      have z3 : wr.heap.size + 1 ≤ w3.heap.size := by rw [hw3]; simp
      have y0 : w3.cell? ⟨wr.heap.size, 0, none⟩ = some (.int .i64 nm) := by rw [hw3]; go_simp
      have y1 : w3.cell? ⟨wr.heap.size, 1, none⟩ = some (.slice la L.length lc) := by rw [hw3]; go_simp
      have n13 : Below w1.heap.size w1 w3 := hb1.trans (b3.mono hb1.size)
      have n3 : Below w.heap.size w w3 := b1.trans (n13.mono b1.size)
      obtain ⟨p0, p1, p2, p3, p4⟩ := HP.out
      have q0 := (n13.cell (p := ⟨w.heap.size, 0, none⟩) z1).trans p0
      have q1 := (n13.cell (p := ⟨w.heap.size, 1, none⟩) z1).trans p1
      have q2 := (n13.cell (p := ⟨w.heap.size, 2, none⟩) z1).trans p2
      have q3 := (n13.cell (p := ⟨w.heap.size, 3, none⟩) z1).trans p3
      have q4 := (n13.cell (p := ⟨w.heap.size, 4, none⟩) z1).trans p4
      clear hxy hc hs p0 p1 p2 p3 p4
      go_upto_region 4 with fail
      rw [← hw3]
      clear hw3 r0 r1
      have HST := Lib.hid (show meetsB (K.drop k) (x, a, b, c, d) = (!(decide (nm = x) && !hasL L a b c d) && meetsB (K.drop (k + 1)) (x, a, b, c, d)) from all_step (fun n : Nd => !(decide (n.1 = x) && !hasL n.2 a b c d)) HXY.out)
      by_cases hnx : nm = x
      · subst hnx
        have KH : Hid (∀ V, SpAt V V.heap.size (.slice la L.length lc) L → Calls Try.prog 133 #[.agg #[.slice la L.length lc], ver a b c d] V fun e w' => e = .returned (.bool (hasL L a b c d)) ∧ Below V.heap.size V w') := Lib.hid fun V g => implHas_any _ L a b c d V hL g
        have HS3 := Lib.hid (HS.out.stepAt b3)
        rcases hh : hasL L a b c d
        all_goals
          rw [hh] at KH
          have HH := Lib.hid hh
          clear hh
          go_wp2_with fail
          refine (KH.out _ (HS3.out)).mono ?_
          rintro e w4 ⟨rfl, hb4⟩
          have m4 := n3.trans (hb4.mono n3.size)
          have m14 := n13.trans (hb4.mono n13.size)
        · go_wp2_with fail
          go_ret
          exact ⟨by rw [HE.out, HST.out, HH.out]; simp, m4⟩
        · have HR := Lib.hid (show ∃ k' : Nat, k' ≤ K.length ∧ Value.int .i64 ((k : Int) + 1) = .int .i64 (k' : Int) ∧ meetsB K (nm, a, b, c, d) = meetsB (K.drop k') (nm, a, b, c, d) ∧ Below w1.heap.size w1 w4 from ⟨k + 1, by omega, by go_num, by rw [HE.out, HST.out, HH.out]; simp, m14⟩)
          clear hb4 m4 m14
          go_wp2_with fail
          go_roundw
          case rel => exact HR.out
          case measure => simp [intOf]; omega
      · have hnb : (nm == x) = false := by rw [beq_eq_false_iff_ne]; exact hnx
        have HR := Lib.hid (show ∃ k' : Nat, k' ≤ K.length ∧ Value.int .i64 ((k : Int) + 1) = .int .i64 (k' : Int) ∧ meetsB K (x, a, b, c, d) = meetsB (K.drop k') (x, a, b, c, d) ∧ Below w1.heap.size w1 w3 from ⟨k + 1, by omega, by go_num, by rw [HE.out, HST.out, decide_eq_false hnx]; simp, n13⟩)
        go_wp2_with fail
        go_roundw
        case rel => exact HR.out
        case measure => simp [intOf]; omega
    · obtain rfl : k = K.length := by omega
      have HQ := Lib.hid (show meetsB K (x, a, b, c, d) = true by rw [HE.out, List.drop_length]; rfl)
      go_wp2_with fail
      go_ret
      exact ⟨by rw [HQ.out]; rfl, hb⟩

set_option maxRecDepth 100000 in
set_option maxHeartbeats 4000000 in
theorem nameLeft_any (u z : Value) (K : List Nd) (R : List Pk) (nm : Int) (w : World) (hK : K.length ≤ 1048576) (hq : ∀ q ∈ K, q.2.length ≤ 1048576) (hR : R.length ≤ 1048576) (h : NdAt w w.heap.size u K) (h2 : PkAt w w.heap.size z R) :
    Calls Try.prog 189 #[u, z, .int .i64 nm] w fun e w' => e = .returned (.bool (leftB K R nm)) ∧ Below w.heap.size w w' := by
  obtain ⟨na, ncap, rfl, hx⟩ := id h
  obtain ⟨pa, pc, rfl, h0⟩ := id h2
  clear hx
  have H := Lib.hid h
  have KM : Hid (∀ V x a b c d, NdAt V V.heap.size (.slice na K.length ncap) K → Calls Try.prog 196 #[.slice na K.length ncap, pick x a b c d] V fun e w' => e = .returned (.bool (meetsB K (x, a, b, c, d))) ∧ Below V.heap.size V w') := Lib.hid fun V x a b c d g => pickMeets_any _ K x a b c d V hK hq g
  clear h h2
  go_enter Try.func189, Try.ntmps189
  go_wp2_with fail
  go_loopw [11] (fun i wr => ∃ k : Nat, k ≤ R.length ∧ i = .int .i64 (k : Int) ∧ leftB K R nm = leftB K (R.drop k) nm ∧ Below w.heap.size w wr) (fun i _ => R.length - (intOf i).toNat)
  case atStart => exact ⟨0, Nat.zero_le _, rfl, rfl, Below.refl _ _⟩
  case round =>
    obtain ⟨k, hk, rfl, he, hb⟩ := hrel
    have HE := Lib.hid he
    clear he
    by_cases hlt : k < R.length
    · rcases h0 with h0 | ⟨sb, o, rfl, hB, hc⟩
      · subst h0
        exact absurd hlt (by simp)
      obtain ⟨x, a, b, c, d, hxy⟩ : ∃ x a b c d, R[k] = (x, a, b, c, d) := ⟨_, _, _, _, _, rfl⟩
      obtain ⟨r0, r1, r2, r3, r4⟩ := hc k hlt
      rw [hxy] at r0 r1 r2 r3 r4
      simp only at r0 r1 r2 r3 r4
      have e0 := (hb.cell (p := ⟨sb, o + k * 5, none⟩) hB).trans r0
      have e1 := (hb.cell (p := ⟨sb, o + k * 5 + 1, none⟩) hB).trans r1
      have e2 := (hb.cell (p := ⟨sb, o + k * 5 + 2, none⟩) hB).trans r2
      have e3 := (hb.cell (p := ⟨sb, o + k * 5 + 3, none⟩) hB).trans r3
      have e4 := (hb.cell (p := ⟨sb, o + k * 5 + 4, none⟩) hB).trans r4
      have HXY := Lib.hid (show R[k]? = some (x, a, b, c, d) by rw [List.getElem?_eq_getElem hlt, hxy])
      have i0 : (0 : Int) ≤ (k : Int) := by omega
      have i1 : (k : Int) < (R.length : Int) := by omega
      obtain ⟨w3, hw3⟩ : ∃ V : World, V = wr.alloc (.cells #[.int .i64 x, .int .i64 a, .int .i64 b, .int .i64 c, .int .i64 d] 114) := ⟨_, rfl⟩
      have b3 : Below wr.heap.size wr w3 := by rw [hw3]; exact (Below.refl _ _).alloc (Nat.le_refl _) _
      have y0 : w3.cell? ⟨wr.heap.size, 0, none⟩ = some (.int .i64 x) := by rw [hw3]; go_simp
      have y1 : w3.cell? ⟨wr.heap.size, 1, none⟩ = some (.int .i64 a) := by rw [hw3]; go_simp
      have y2 : w3.cell? ⟨wr.heap.size, 2, none⟩ = some (.int .i64 b) := by rw [hw3]; go_simp
      have y3 : w3.cell? ⟨wr.heap.size, 3, none⟩ = some (.int .i64 c) := by rw [hw3]; go_simp
      have y4 : w3.cell? ⟨wr.heap.size, 4, none⟩ = some (.int .i64 d) := by rw [hw3]; go_simp
      have n3 : Below w.heap.size w w3 := hb.trans (b3.mono hb.size)
      have HST := Lib.hid (show leftB K (R.drop k) nm = ((decide (x = nm) && meetsB K (x, a, b, c, d)) || leftB K (R.drop (k + 1)) nm) by
        unfold leftB
        rw [List.drop_eq_getElem_cons hlt, List.any_cons, hxy])
      clear hxy hc r0 r1 r2 r3 r4
      go_upto_region 4 with fail
      rw [← hw3]
      clear hw3 e0 e1 e2 e3 e4
      by_cases hnx : x = nm
      · subst hnx
        have KH : Hid (∀ V, NdAt V V.heap.size (.slice na K.length ncap) K → Calls Try.prog 196 #[.slice na K.length ncap, pick x a b c d] V fun e w' => e = .returned (.bool (meetsB K (x, a, b, c, d))) ∧ Below V.heap.size V w') := Lib.hid fun V g => KM.out V x a b c d g
        rcases hh : meetsB K (x, a, b, c, d)
        all_goals
          rw [hh] at KH
          have HH := Lib.hid hh
          clear hh
          go_wp2_with fail
          refine (KH.out _ (H.out.stepAt n3)).mono ?_
          rintro e w4 ⟨rfl, hb4⟩
          have m4 := n3.trans (hb4.mono n3.size)
        · have HR := Lib.hid (show ∃ k' : Nat, k' ≤ R.length ∧ Value.int .i64 ((k : Int) + 1) = .int .i64 (k' : Int) ∧ leftB K R x = leftB K (R.drop k') x ∧ Below w.heap.size w w4 from ⟨k + 1, by omega, by go_num, by rw [HE.out, HST.out, HH.out]; simp, m4⟩)
          clear hb4 m4
          go_wp2_with fail
          go_roundw
          case rel => exact HR.out
          case measure => simp [intOf]; omega
        · go_wp2_with fail
          go_ret
          exact ⟨by rw [HE.out, HST.out, HH.out]; simp, m4⟩
      · have hnb : (x == nm) = false := by rw [beq_eq_false_iff_ne]; exact hnx
        have HR := Lib.hid (show ∃ k' : Nat, k' ≤ R.length ∧ Value.int .i64 ((k : Int) + 1) = .int .i64 (k' : Int) ∧ leftB K R nm = leftB K (R.drop k') nm ∧ Below w.heap.size w w3 from ⟨k + 1, by omega, by go_num, by rw [HE.out, HST.out, decide_eq_false hnx]; simp, n3⟩)
        go_wp2_with fail
        go_roundw
        case rel => exact HR.out
        case measure => simp [intOf]; omega
    · obtain rfl : k = R.length := by omega
      have HQ := Lib.hid (show leftB K R nm = false by rw [HE.out, List.drop_length]; rfl)
      go_wp2_with fail
      go_ret
      exact ⟨by rw [HQ.out]; rfl, hb⟩
theorem names_below {K : List Nd} {R : List Pk} (h : ∀ z : Nat, z < 8 → (!needsB K (z : Int) || leftB K R (z : Int)) = true) : namesB K R = true := by
  unfold namesB
  rw [List.all_eq_true]
  exact fun z hz => h z (List.mem_range.1 hz)
theorem names_next {p : Nat → Bool} {k : Nat} (h : ∀ z : Nat, z < k → p z = true) (hk : p k = true) : ∀ z : Nat, z < k + 1 → p z = true := fun z hz => by
  rcases Nat.lt_or_ge z k with h' | h'
  · exact h z h'
  · obtain rfl : z = k := by omega
    exact hk
theorem names_not {K : List Nd} {R : List Pk} {z : Nat} (hz : z < 8) (h : (!needsB K (z : Int) || leftB K R (z : Int)) = false) : namesB K R = false := by
  rcases hn : namesB K R
  · rfl
  · unfold namesB at hn
    have := List.all_eq_true.1 hn z (List.mem_range.2 hz)
    rw [h] at this
    cases this

set_option maxRecDepth 100000 in
set_option maxHeartbeats 4000000 in
theorem namesLeft_any (u z : Value) (K : List Nd) (R : List Pk) (w : World) (hK : K.length ≤ 1048576) (hq : ∀ q ∈ K, q.2.length ≤ 1048576) (hR : R.length ≤ 1048576) (h : NdAt w w.heap.size u K) (h2 : PkAt w w.heap.size z R) :
    Calls Try.prog 168 #[u, z] w fun e w' => e = .returned (.bool (namesB K R)) ∧ Below w.heap.size w w' := by
  obtain ⟨na, ncap, rfl, hx⟩ := id h
  obtain ⟨pa, pc, rfl, hx'⟩ := id h2
  clear hx hx'
  have H := Lib.hid h
  have H2 := Lib.hid h2
  have KN : Hid (∀ V (x : Int), NdAt V V.heap.size (.slice na K.length ncap) K → Calls Try.prog 167 #[.slice na K.length ncap, .int .i64 x] V fun e w' => e = .returned (.bool (needsB K x)) ∧ Below V.heap.size V w') := Lib.hid fun V x g => needsName_any _ K x V hK g
  have KL : Hid (∀ V (x : Int), NdAt V V.heap.size (.slice na K.length ncap) K → PkAt V V.heap.size (.slice pa R.length pc) R → Calls Try.prog 189 #[.slice na K.length ncap, .slice pa R.length pc, .int .i64 x] V fun e w' => e = .returned (.bool (leftB K R x)) ∧ Below V.heap.size V w') := Lib.hid fun V x g g' => nameLeft_any _ _ K R x V hK hq hR g g'
  clear h h2
  go_enter Try.func168, Try.ntmps168
  go_wp2_with fail
  go_loopw [5] (fun i wr => ∃ k : Nat, k ≤ 8 ∧ i = .int .i64 (k : Int) ∧ (∀ z : Nat, z < k → (!needsB K (z : Int) || leftB K R (z : Int)) = true) ∧ Below w.heap.size w wr) (fun i _ => 8 - (intOf i).toNat)
  case atStart => exact ⟨0, Nat.zero_le _, rfl, fun z hz => absurd hz (Nat.not_lt_zero _), Below.refl _ _⟩
  case round =>
    obtain ⟨k, hk, rfl, he, hb⟩ := hrel
    have HE := Lib.hid he
    clear he
    by_cases hlt : k < 8
    · have hk7 : (k : Int) ≤ 7 := by omega
      rcases hn : needsB K (k : Int)
      · have KN0 : Hid (∀ V, NdAt V V.heap.size (.slice na K.length ncap) K → Calls Try.prog 167 #[.slice na K.length ncap, .int .i64 (k : Int)] V fun e w' => e = .returned (.bool false) ∧ Below V.heap.size V w') := Lib.hid fun V g => by
          have := KN.out V (k : Int) g
          rwa [hn] at this
        have HH := Lib.hid (show (!needsB K (k : Int) || leftB K R (k : Int)) = true by rw [hn]; rfl)
        clear hn
        go_wp2_with fail
        refine (KN0.out _ (H.out.stepAt hb)).mono ?_
        rintro e w4 ⟨rfl, hb4⟩
        have m4 := hb.trans (hb4.mono hb.size)
        clear hb4
        go_wp2_with fail
        go_roundw
        case rel => exact ⟨k + 1, by omega, by go_num, names_next (p := fun z => !needsB K (z : Int) || leftB K R (z : Int)) HE.out HH.out, m4⟩
        case measure => simp [intOf]; omega
      · have KN0 : Hid (∀ V, NdAt V V.heap.size (.slice na K.length ncap) K → Calls Try.prog 167 #[.slice na K.length ncap, .int .i64 (k : Int)] V fun e w' => e = .returned (.bool true) ∧ Below V.heap.size V w') := Lib.hid fun V g => by
          have := KN.out V (k : Int) g
          rwa [hn] at this
        have KL0 : Hid (∀ V, NdAt V V.heap.size (.slice na K.length ncap) K → PkAt V V.heap.size (.slice pa R.length pc) R → Calls Try.prog 189 #[.slice na K.length ncap, .slice pa R.length pc, .int .i64 (k : Int)] V fun e w' => e = .returned (.bool (leftB K R (k : Int))) ∧ Below V.heap.size V w') := Lib.hid fun V g g' => KL.out V (k : Int) g g'
        have HN := Lib.hid hn
        clear hn
        rcases hl : leftB K R (k : Int)
        all_goals
          rw [hl] at KL0
          have HL := Lib.hid hl
          clear hl
          go_wp2_with fail
          refine (KN0.out _ (H.out.stepAt hb)).mono ?_
          rintro e w4 ⟨rfl, hb4⟩
          have m4 := hb.trans (hb4.mono hb.size)
          clear hb4
          go_wp2_with fail
          refine (KL0.out _ (H.out.stepAt m4) (H2.out.stepAt m4)).mono ?_
          rintro e w5 ⟨rfl, hb5⟩
          have m5 := m4.trans (hb5.mono m4.size)
          clear hb5
        · go_wp2_with fail
          go_ret
          exact ⟨by rw [names_not hlt (by rw [HN.out, HL.out]; rfl)]; rfl, m5⟩
        · go_wp2_with fail
          go_roundw
          case rel => exact ⟨k + 1, by omega, by go_num, names_next (p := fun z => !needsB K (z : Int) || leftB K R (z : Int)) HE.out (by simp only [HN.out, HL.out]; rfl), m5⟩
          case measure => simp [intOf]; omega
    · obtain rfl : k = 8 := by omega
      go_wp2_with fail
      go_ret
      exact ⟨by rw [names_below HE.out]; rfl, hb⟩

set_option maxRecDepth 100000 in
set_option maxHeartbeats 4000000 in
theorem picksAmong_any (y z : Value) (C D : List Pk) (w : World) (hC : C.length ≤ 1048576) (hD : D.length ≤ 1048576) (h : PkAt w w.heap.size z C) (h1 : PkAt w w.heap.size y D) :
    Calls Try.prog 170 #[z, y] w fun e w' => e = .returned (.bool (C.all (heldP D))) ∧ Below w.heap.size w w' := by
  obtain ⟨pa, pc, rfl, h0⟩ := id h
  obtain ⟨da, dc, rfl, hx⟩ := id h1
  clear hx
  have H1 := Lib.hid h1
  have KP : Hid (∀ V x a b c d, PkAt V V.heap.size (.slice da D.length dc) D → Calls Try.prog 171 #[.slice da D.length dc, pick x a b c d] V fun e w' => e = .returned (.bool (heldP D (x, a, b, c, d))) ∧ Below V.heap.size V w') := Lib.hid fun V x a b c d g => picked_any _ D x a b c d V hD g
  clear h h1
  go_enter Try.func170, Try.ntmps170
  go_wp2_with fail
  go_loopw [9] (fun i wr => ∃ k : Nat, k ≤ C.length ∧ i = .int .i64 (k : Int) ∧ C.all (heldP D) = (C.drop k).all (heldP D) ∧ Below w.heap.size w wr) (fun i _ => C.length - (intOf i).toNat)
  case atStart => exact ⟨0, Nat.zero_le _, rfl, rfl, Below.refl _ _⟩
  case round =>
    obtain ⟨k, hk, rfl, he, hb⟩ := hrel
    have HE := Lib.hid he
    clear he
    by_cases hlt : k < C.length
    · rcases h0 with h0 | ⟨sb, o, rfl, hB, hc⟩
      · subst h0
        exact absurd hlt (by simp)
      obtain ⟨x, a, b, c, d, hxy⟩ : ∃ x a b c d, C[k] = (x, a, b, c, d) := ⟨_, _, _, _, _, rfl⟩
      obtain ⟨r0, r1, r2, r3, r4⟩ := hc k hlt
      rw [hxy] at r0 r1 r2 r3 r4
      simp only at r0 r1 r2 r3 r4
      have e0 := (hb.cell (p := ⟨sb, o + k * 5, none⟩) hB).trans r0
      have e1 := (hb.cell (p := ⟨sb, o + k * 5 + 1, none⟩) hB).trans r1
      have e2 := (hb.cell (p := ⟨sb, o + k * 5 + 2, none⟩) hB).trans r2
      have e3 := (hb.cell (p := ⟨sb, o + k * 5 + 3, none⟩) hB).trans r3
      have e4 := (hb.cell (p := ⟨sb, o + k * 5 + 4, none⟩) hB).trans r4
      have HST := Lib.hid (all_step (heldP D) (show C[k]? = some (x, a, b, c, d) by rw [List.getElem?_eq_getElem hlt, hxy]))
      have i0 : (0 : Int) ≤ (k : Int) := by omega
      have i1 : (k : Int) < (C.length : Int) := by omega
      obtain ⟨w3, hw3⟩ : ∃ V : World, V = wr.alloc (.cells #[.int .i64 x, .int .i64 a, .int .i64 b, .int .i64 c, .int .i64 d] 114) := ⟨_, rfl⟩
      have b3 : Below wr.heap.size wr w3 := by rw [hw3]; exact (Below.refl _ _).alloc (Nat.le_refl _) _
      have y0 : w3.cell? ⟨wr.heap.size, 0, none⟩ = some (.int .i64 x) := by rw [hw3]; go_simp
      have y1 : w3.cell? ⟨wr.heap.size, 1, none⟩ = some (.int .i64 a) := by rw [hw3]; go_simp
      have y2 : w3.cell? ⟨wr.heap.size, 2, none⟩ = some (.int .i64 b) := by rw [hw3]; go_simp
      have y3 : w3.cell? ⟨wr.heap.size, 3, none⟩ = some (.int .i64 c) := by rw [hw3]; go_simp
      have y4 : w3.cell? ⟨wr.heap.size, 4, none⟩ = some (.int .i64 d) := by rw [hw3]; go_simp
      have n3 : Below w.heap.size w w3 := hb.trans (b3.mono hb.size)
      clear hxy hc r0 r1 r2 r3 r4
      go_upto_region 4 with fail
      rw [← hw3]
      clear hw3 e0 e1 e2 e3 e4
      have KH : Hid (∀ V, PkAt V V.heap.size (.slice da D.length dc) D → Calls Try.prog 171 #[.slice da D.length dc, pick x a b c d] V fun e w' => e = .returned (.bool (heldP D (x, a, b, c, d))) ∧ Below V.heap.size V w') := Lib.hid fun V g => KP.out V x a b c d g
      rcases hh : heldP D (x, a, b, c, d)
      all_goals
        rw [hh] at KH
        have HH := Lib.hid hh
        clear hh
        go_wp2_with fail
        refine (KH.out _ (H1.out.stepAt n3)).mono ?_
        rintro e w4 ⟨rfl, hb4⟩
        have m4 := n3.trans (hb4.mono n3.size)
      · go_wp2_with fail
        go_ret
        exact ⟨by rw [HE.out, HST.out, HH.out]; simp, m4⟩
      · have HR := Lib.hid (show ∃ k' : Nat, k' ≤ C.length ∧ Value.int .i64 ((k : Int) + 1) = .int .i64 (k' : Int) ∧ C.all (heldP D) = (C.drop k').all (heldP D) ∧ Below w.heap.size w w4 from ⟨k + 1, by omega, by go_num, by rw [HE.out, HST.out, HH.out]; simp, m4⟩)
        clear hb4 m4
        go_wp2_with fail
        go_roundw
        case rel => exact HR.out
        case measure => simp [intOf]; omega
    · obtain rfl : k = C.length := by omega
      have HQ := Lib.hid (show C.all (heldP D) = true by rw [HE.out, List.drop_length]; rfl)
      go_wp2_with fail
      go_ret
      exact ⟨by rw [HQ.out]; rfl, hb⟩
end Svp
end Go.Proofs.Ytgenjbeamlffmaa
