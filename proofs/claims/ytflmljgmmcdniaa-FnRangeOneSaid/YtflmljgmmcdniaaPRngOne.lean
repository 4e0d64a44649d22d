/- At every code the law FnRangeOne returns true: the program and the model agree on the range of the drawn version, the version is in it just if it is one, and no other one is. No condition. -/
import Derived.Test.YtflmljgmmcdniaaDrngv
import Derived.Test.YtflmljgmmcdniaaSame
import Derived.Test.YtflmljgmmcdniaaRlaw
import Derived.Test.YtflmljgmmcdniaaImfrom
import Derived.Test.YtflmljgmmcdniaaHas
import Derived.Test.YtflmljgmmcdniaaStp
import Derived.Test.YtflmljgmmcdniaaSb
import Derived.Deep.RegionHeld3
namespace Go.Proofs.Ytflmljgmmcdniaa
open Go.ChangeShapes Go.WideShapes Go.ChangeAt Go.RowKit Go.Joins Go.Sort

theorem oneL_len (a b c d : Int) : (oneL a b c d).length ≤ 1048576 := by
  unfold oneL
  split <;> simp
theorem same_true {v v' : Value} {L : List (Int × Int)} {w : World} (hl : L.length ≤ 1048576) (h : SpAt w w.heap.size v L) (h' : SpAt w w.heap.size v' L) :
    Calls Try.prog 26 #[.agg #[v], .agg #[v']] w fun e w' => e = .returned (.bool true) ∧ Below w.heap.size w w' := by
  have := sameRange_any v v' L L w hl hl h h'
  rwa [decide_eq_true rfl] at this

set_option maxRecDepth 100000 in
set_option maxHeartbeats 8000000 in
theorem rangeOneP_short (a : Option Addr) (len cap : Nat) (w : World) (h : CodeIn w a len cap) (hl : len ≤ 1048576) :
    Calls Try.prog 12 #[.slice a len cap] w fun e w' => e = .returned (.bool true) ∧ Below w.heap.size w w' := by
  go_enter Try.func12, Try.ntmps12
  go_wp2_with fail
  refine (DrawRangeOne_any a len cap w h).mono ?_
  rintro e w1 ⟨x, y, z, u, rfl, hb1⟩
  clear h
  have z1 := hb1.size
  have hN : (oneL x y z u).length ≤ 1048576 := oneL_len x y z u
  have KI := Lib.hid fun V => implOne_any x y z u V
  have KS := Lib.hid fun V => (specOne_any x y z u V).mono fun _ _ h => h.rp
  have KV := Lib.hid fun V => implOk_any x y z u V
  rcases hv : vOk x y z u
  · have FH : hasL (oneL x y z u) x y z u = false := by rw [one_has, hv]
    have FN : ∀ t, hasL (oneL x y z u) x y t u = false := fun t => by
      rw [show oneL x y z u = [] by simp [oneL, hv]]
      simp [hasL, inL]
    rw [hv] at KV
    clear hv
    generalize oneL x y z u = L at *
    have HFH := Lib.hid FH
    have HFN := Lib.hid FN
    clear FH FN
    go_wp2_with fail
    refine (KI.out _).mono ?_
    rintro e w2 ⟨u2, rfl, q2, hb2⟩
    have s2 : w1.heap.size + 1 ≤ w2.heap.size := by have := hb2.size; simpa using this
    have n2 : Below w1.heap.size w1 w2 := ((Below.refl w1.heap.size w1).alloc (Nat.le_refl _) _).trans (hb2.mono (by simp))
    have c2_0 : w2.cell? ⟨w1.heap.size, 0, none⟩ = some (.int .i64 x) := (hb2.cell (p := ⟨w1.heap.size, 0, none⟩) (by simp)).trans (by go_simp)
    have c2_1 : w2.cell? ⟨w1.heap.size, 1, none⟩ = some (.int .i64 y) := (hb2.cell (p := ⟨w1.heap.size, 1, none⟩) (by simp)).trans (by go_simp)
    have c2_2 : w2.cell? ⟨w1.heap.size, 2, none⟩ = some (.int .i64 z) := (hb2.cell (p := ⟨w1.heap.size, 2, none⟩) (by simp)).trans (by go_simp)
    have c2_3 : w2.cell? ⟨w1.heap.size, 3, none⟩ = some (.int .i64 u) := (hb2.cell (p := ⟨w1.heap.size, 3, none⟩) (by simp)).trans (by go_simp)
    have r2 := q2.sb
    obtain ⟨a2, k2, rfl, _⟩ := id q2
    clear q2 hb2
    obtain ⟨w3, hw3⟩ : ∃ V : World, V = w2.alloc (.cells #[.slice a2 L.length k2] 28) := ⟨_, rfl⟩
    have n3 : Below w2.heap.size w2 w3 := by
      rw [hw3]
      exact (Below.refl _ _).alloc (Nat.le_refl _) _
    have s3 : w2.heap.size + 1 ≤ w3.heap.size := by rw [hw3]; simp
    have e3 : w3.cell? ⟨w2.heap.size, 0, none⟩ = some (.slice a2 L.length k2) := by rw [hw3]; go_simp
    have r3 := r2.below n3
    have c3_0 := (n3.cell (p := ⟨w1.heap.size, 0, none⟩) (by show w1.heap.size < w2.heap.size; omega)).trans c2_0
    have c3_1 := (n3.cell (p := ⟨w1.heap.size, 1, none⟩) (by show w1.heap.size < w2.heap.size; omega)).trans c2_1
    have c3_2 := (n3.cell (p := ⟨w1.heap.size, 2, none⟩) (by show w1.heap.size < w2.heap.size; omega)).trans c2_2
    have c3_3 := (n3.cell (p := ⟨w1.heap.size, 3, none⟩) (by show w1.heap.size < w2.heap.size; omega)).trans c2_3
    clear c2_0 c2_1 c2_2 c2_3 r2
    have b3 := hb1.trans ((n2.trans (n3.mono (by omega))).mono z1)
    clear n2 n3
    go_upto_region 5 with fail
    rw [← hw3]
    clear hw3
    have m0a : w1.heap.size < w3.heap.size := by omega
    have m0b : w3.heap.size ≠ w1.heap.size := by omega
    have m0c : w1.heap.size ≠ w3.heap.size := by omega
    have m1a : w2.heap.size < w3.heap.size := by omega
    have m1b : w3.heap.size ≠ w2.heap.size := by omega
    have m1c : w2.heap.size ≠ w3.heap.size := by omega
    go_upto_region 7 with fail
    obtain ⟨t, ht⟩ : ∃ t : Int, ((wrap64 (z + 1)).tmod 100) = t := ⟨_, rfl⟩
    have FN : hasL L x y t u = false := by rw [← ht]; exact HFN.out _
    have FH := HFH.out
    rw [ht]
    clear ht
    obtain ⟨w5, hw5⟩ : ∃ V : World, V = w3.alloc (.cells #[.int .i64 x, .int .i64 y, .int .i64 t, .int .i64 u] 43) := ⟨_, rfl⟩
    have n5 : Below w3.heap.size w3 w5 := by
      rw [hw5]
      exact (Below.refl _ _).alloc (Nat.le_refl _) _
    have s5 : w3.heap.size + 1 ≤ w5.heap.size := by rw [hw5]; simp
    have d5_0 : w5.cell? ⟨w3.heap.size, 0, none⟩ = some (.int .i64 x) := by rw [hw5]; go_simp
    have d5_1 : w5.cell? ⟨w3.heap.size, 1, none⟩ = some (.int .i64 y) := by rw [hw5]; go_simp
    have d5_2 : w5.cell? ⟨w3.heap.size, 2, none⟩ = some (.int .i64 t) := by rw [hw5]; go_simp
    have d5_3 : w5.cell? ⟨w3.heap.size, 3, none⟩ = some (.int .i64 u) := by rw [hw5]; go_simp
    rw [← hw5]
    clear hw5
    have e5 := (n5.cell (p := ⟨w2.heap.size, 0, none⟩) (by show w2.heap.size < w3.heap.size; omega)).trans e3
    have c5_0 := (n5.cell (p := ⟨w1.heap.size, 0, none⟩) (by show w1.heap.size < w3.heap.size; omega)).trans c3_0; have c5_1 := (n5.cell (p := ⟨w1.heap.size, 1, none⟩) (by show w1.heap.size < w3.heap.size; omega)).trans c3_1; have c5_2 := (n5.cell (p := ⟨w1.heap.size, 2, none⟩) (by show w1.heap.size < w3.heap.size; omega)).trans c3_2; have c5_3 := (n5.cell (p := ⟨w1.heap.size, 3, none⟩) (by show w1.heap.size < w3.heap.size; omega)).trans c3_3
    have r5 := r3.below n5
    have b5 := b3.trans (n5.mono b3.size)
    clear c3_0 c3_1 c3_2 c3_3 r3 e3 b3 n5
    go_region_held3 (fun V => V.cell? ⟨w2.heap.size, 0, none⟩ = some (.slice a2 L.length k2) ∧ V.cell? ⟨w1.heap.size, 0, none⟩ = some (.int .i64 x) ∧ V.cell? ⟨w1.heap.size, 1, none⟩ = some (.int .i64 y) ∧ V.cell? ⟨w1.heap.size, 2, none⟩ = some (.int .i64 z) ∧ V.cell? ⟨w1.heap.size, 3, none⟩ = some (.int .i64 u) ∧ V.cell? ⟨w3.heap.size, 0, none⟩ = some (.int .i64 x) ∧ V.cell? ⟨w3.heap.size, 1, none⟩ = some (.int .i64 y) ∧ V.cell? ⟨w3.heap.size, 2, none⟩ = some (.int .i64 t) ∧ V.cell? ⟨w3.heap.size, 3, none⟩ = some (.int .i64 u)) (go_keep)
      (first
        | (go_at_call 45; refine (KS.out _).mono ?_; rintro e wx ⟨ux, rfl, qx, hbx⟩; have rx := qx.sb; obtain ⟨ax, kx, rfl, _⟩ := id qx; have nn : Below w5.heap.size w5 wx := Below.step (by go_grown) hbx; have ewx := (nn.cell (p := ⟨w2.heap.size, 0, none⟩) (by show w2.heap.size < w5.heap.size; omega)).trans e5; have cwx0 := (nn.cell (p := ⟨w1.heap.size, 0, none⟩) (by show w1.heap.size < w5.heap.size; omega)).trans c5_0; have cwx1 := (nn.cell (p := ⟨w1.heap.size, 1, none⟩) (by show w1.heap.size < w5.heap.size; omega)).trans c5_1; have cwx2 := (nn.cell (p := ⟨w1.heap.size, 2, none⟩) (by show w1.heap.size < w5.heap.size; omega)).trans c5_2; have cwx3 := (nn.cell (p := ⟨w1.heap.size, 3, none⟩) (by show w1.heap.size < w5.heap.size; omega)).trans c5_3; have dwx0 := (nn.cell (p := ⟨w3.heap.size, 0, none⟩) (by show w3.heap.size < w5.heap.size; omega)).trans d5_0; have dwx1 := (nn.cell (p := ⟨w3.heap.size, 1, none⟩) (by show w3.heap.size < w5.heap.size; omega)).trans d5_1; have dwx2 := (nn.cell (p := ⟨w3.heap.size, 2, none⟩) (by show w3.heap.size < w5.heap.size; omega)).trans d5_2; have dwx3 := (nn.cell (p := ⟨w3.heap.size, 3, none⟩) (by show w3.heap.size < w5.heap.size; omega)).trans d5_3; clear qx)
        | (go_at_call 26; refine (same_true hN (SB.stepAt r5 (by go_grown)) (SB.stepAt rx (by go_grown))).mono ?_; rintro e wy ⟨rfl, hby⟩; have nn : Below w5.heap.size w5 wy := Below.step (by go_grown) hby; have ewy := (nn.cell (p := ⟨w2.heap.size, 0, none⟩) (by show w2.heap.size < w5.heap.size; omega)).trans e5; have cwy0 := (nn.cell (p := ⟨w1.heap.size, 0, none⟩) (by show w1.heap.size < w5.heap.size; omega)).trans c5_0; have cwy1 := (nn.cell (p := ⟨w1.heap.size, 1, none⟩) (by show w1.heap.size < w5.heap.size; omega)).trans c5_1; have cwy2 := (nn.cell (p := ⟨w1.heap.size, 2, none⟩) (by show w1.heap.size < w5.heap.size; omega)).trans c5_2; have cwy3 := (nn.cell (p := ⟨w1.heap.size, 3, none⟩) (by show w1.heap.size < w5.heap.size; omega)).trans c5_3; have dwy0 := (nn.cell (p := ⟨w3.heap.size, 0, none⟩) (by show w3.heap.size < w5.heap.size; omega)).trans d5_0; have dwy1 := (nn.cell (p := ⟨w3.heap.size, 1, none⟩) (by show w3.heap.size < w5.heap.size; omega)).trans d5_1; have dwy2 := (nn.cell (p := ⟨w3.heap.size, 2, none⟩) (by show w3.heap.size < w5.heap.size; omega)).trans d5_2; have dwy3 := (nn.cell (p := ⟨w3.heap.size, 3, none⟩) (by show w3.heap.size < w5.heap.size; omega)).trans d5_3)
        | (go_at_call 30; refine (implHas_any _ L _ _ _ _ _ hN (SB.stepAt r5 (by go_grown))).mono ?_; rintro e wv ⟨rfl, hbv⟩; have nn : Below w5.heap.size w5 wv := Below.step (by go_grown) hbv; have ewv := (nn.cell (p := ⟨w2.heap.size, 0, none⟩) (by show w2.heap.size < w5.heap.size; omega)).trans e5; have cwv0 := (nn.cell (p := ⟨w1.heap.size, 0, none⟩) (by show w1.heap.size < w5.heap.size; omega)).trans c5_0; have cwv1 := (nn.cell (p := ⟨w1.heap.size, 1, none⟩) (by show w1.heap.size < w5.heap.size; omega)).trans c5_1; have cwv2 := (nn.cell (p := ⟨w1.heap.size, 2, none⟩) (by show w1.heap.size < w5.heap.size; omega)).trans c5_2; have cwv3 := (nn.cell (p := ⟨w1.heap.size, 3, none⟩) (by show w1.heap.size < w5.heap.size; omega)).trans c5_3; have dwv0 := (nn.cell (p := ⟨w3.heap.size, 0, none⟩) (by show w3.heap.size < w5.heap.size; omega)).trans d5_0; have dwv1 := (nn.cell (p := ⟨w3.heap.size, 1, none⟩) (by show w3.heap.size < w5.heap.size; omega)).trans d5_1; have dwv2 := (nn.cell (p := ⟨w3.heap.size, 2, none⟩) (by show w3.heap.size < w5.heap.size; omega)).trans d5_2; have dwv3 := (nn.cell (p := ⟨w3.heap.size, 3, none⟩) (by show w3.heap.size < w5.heap.size; omega)).trans d5_3)
        | (go_at_call 32; refine (KV.out _).mono ?_; rintro e wu ⟨rfl, hbu⟩; have nn : Below w5.heap.size w5 wu := Below.step (by go_grown) hbu; have ewu := (nn.cell (p := ⟨w2.heap.size, 0, none⟩) (by show w2.heap.size < w5.heap.size; omega)).trans e5; have cwu0 := (nn.cell (p := ⟨w1.heap.size, 0, none⟩) (by show w1.heap.size < w5.heap.size; omega)).trans c5_0; have cwu1 := (nn.cell (p := ⟨w1.heap.size, 1, none⟩) (by show w1.heap.size < w5.heap.size; omega)).trans c5_1; have cwu2 := (nn.cell (p := ⟨w1.heap.size, 2, none⟩) (by show w1.heap.size < w5.heap.size; omega)).trans c5_2; have cwu3 := (nn.cell (p := ⟨w1.heap.size, 3, none⟩) (by show w1.heap.size < w5.heap.size; omega)).trans c5_3; have dwu0 := (nn.cell (p := ⟨w3.heap.size, 0, none⟩) (by show w3.heap.size < w5.heap.size; omega)).trans d5_0; have dwu1 := (nn.cell (p := ⟨w3.heap.size, 1, none⟩) (by show w3.heap.size < w5.heap.size; omega)).trans d5_1; have dwu2 := (nn.cell (p := ⟨w3.heap.size, 2, none⟩) (by show w3.heap.size < w5.heap.size; omega)).trans d5_2; have dwu3 := (nn.cell (p := ⟨w3.heap.size, 3, none⟩) (by show w3.heap.size < w5.heap.size; omega)).trans d5_3)
        | (go_at_call 33; refine (alive_any _).mono ?_; rintro e wt ⟨rfl, hbt⟩; have nn : Below w5.heap.size w5 wt := Below.step (by go_grown) hbt; have ewt := (nn.cell (p := ⟨w2.heap.size, 0, none⟩) (by show w2.heap.size < w5.heap.size; omega)).trans e5; have cwt0 := (nn.cell (p := ⟨w1.heap.size, 0, none⟩) (by show w1.heap.size < w5.heap.size; omega)).trans c5_0; have cwt1 := (nn.cell (p := ⟨w1.heap.size, 1, none⟩) (by show w1.heap.size < w5.heap.size; omega)).trans c5_1; have cwt2 := (nn.cell (p := ⟨w1.heap.size, 2, none⟩) (by show w1.heap.size < w5.heap.size; omega)).trans c5_2; have cwt3 := (nn.cell (p := ⟨w1.heap.size, 3, none⟩) (by show w1.heap.size < w5.heap.size; omega)).trans c5_3; have dwt0 := (nn.cell (p := ⟨w3.heap.size, 0, none⟩) (by show w3.heap.size < w5.heap.size; omega)).trans d5_0; have dwt1 := (nn.cell (p := ⟨w3.heap.size, 1, none⟩) (by show w3.heap.size < w5.heap.size; omega)).trans d5_1; have dwt2 := (nn.cell (p := ⟨w3.heap.size, 2, none⟩) (by show w3.heap.size < w5.heap.size; omega)).trans d5_2; have dwt3 := (nn.cell (p := ⟨w3.heap.size, 3, none⟩) (by show w3.heap.size < w5.heap.size; omega)).trans d5_3))
    all_goals
      go_wp2_with fail
      go_ret
      exact ⟨rfl, b5.trans (nn.mono b5.size)⟩
  · have FH : hasL (oneL x y z u) x y z u = true := by rw [one_has, hv]
    have hr := vOk_iff.1 hv
    obtain ⟨⟨a0, a1⟩, ⟨b0, b1⟩, ⟨c0, c1⟩, d0, d1⟩ := hr
    have FN : hasL (oneL x y z u) x y ((z + 1) % 100) u = false := one_not fun _ => rfl
    rw [hv] at KV
    clear hv
    generalize oneL x y z u = L at *
    have HFH := Lib.hid FH
    have HFN := Lib.hid FN
    clear FH FN
    go_wp2_with fail
    refine (KI.out _).mono ?_
    rintro e w2 ⟨u2, rfl, q2, hb2⟩
    have s2 : w1.heap.size + 1 ≤ w2.heap.size := by have := hb2.size; simpa using this
    have n2 : Below w1.heap.size w1 w2 := ((Below.refl w1.heap.size w1).alloc (Nat.le_refl _) _).trans (hb2.mono (by simp))
    have c2_0 : w2.cell? ⟨w1.heap.size, 0, none⟩ = some (.int .i64 x) := (hb2.cell (p := ⟨w1.heap.size, 0, none⟩) (by simp)).trans (by go_simp)
    have c2_1 : w2.cell? ⟨w1.heap.size, 1, none⟩ = some (.int .i64 y) := (hb2.cell (p := ⟨w1.heap.size, 1, none⟩) (by simp)).trans (by go_simp)
    have c2_2 : w2.cell? ⟨w1.heap.size, 2, none⟩ = some (.int .i64 z) := (hb2.cell (p := ⟨w1.heap.size, 2, none⟩) (by simp)).trans (by go_simp)
    have c2_3 : w2.cell? ⟨w1.heap.size, 3, none⟩ = some (.int .i64 u) := (hb2.cell (p := ⟨w1.heap.size, 3, none⟩) (by simp)).trans (by go_simp)
    have r2 := q2.sb
    obtain ⟨a2, k2, rfl, _⟩ := id q2
    clear q2 hb2
    obtain ⟨w3, hw3⟩ : ∃ V : World, V = w2.alloc (.cells #[.slice a2 L.length k2] 28) := ⟨_, rfl⟩
    have n3 : Below w2.heap.size w2 w3 := by
      rw [hw3]
      exact (Below.refl _ _).alloc (Nat.le_refl _) _
    have s3 : w2.heap.size + 1 ≤ w3.heap.size := by rw [hw3]; simp
    have e3 : w3.cell? ⟨w2.heap.size, 0, none⟩ = some (.slice a2 L.length k2) := by rw [hw3]; go_simp
    have r3 := r2.below n3
    have c3_0 := (n3.cell (p := ⟨w1.heap.size, 0, none⟩) (by show w1.heap.size < w2.heap.size; omega)).trans c2_0
    have c3_1 := (n3.cell (p := ⟨w1.heap.size, 1, none⟩) (by show w1.heap.size < w2.heap.size; omega)).trans c2_1
    have c3_2 := (n3.cell (p := ⟨w1.heap.size, 2, none⟩) (by show w1.heap.size < w2.heap.size; omega)).trans c2_2
    have c3_3 := (n3.cell (p := ⟨w1.heap.size, 3, none⟩) (by show w1.heap.size < w2.heap.size; omega)).trans c2_3
    clear c2_0 c2_1 c2_2 c2_3 r2
    have b3 := hb1.trans ((n2.trans (n3.mono (by omega))).mono z1)
    clear n2 n3
    go_upto_region 5 with fail
    rw [← hw3]
    clear hw3
    have m0a : w1.heap.size < w3.heap.size := by omega
    have m0b : w3.heap.size ≠ w1.heap.size := by omega
    have m0c : w1.heap.size ≠ w3.heap.size := by omega
    have m1a : w2.heap.size < w3.heap.size := by omega
    have m1b : w3.heap.size ≠ w2.heap.size := by omega
    have m1c : w2.heap.size ≠ w3.heap.size := by omega
    go_upto_region 7 with fail
    obtain ⟨t, ht⟩ : ∃ t : Int, ((z + 1) % 100) = t := ⟨_, rfl⟩
    have FN : hasL L x y t u = false := by rw [← ht]; exact HFN.out
    have FH := HFH.out
    rw [ht]
    clear ht
    obtain ⟨w5, hw5⟩ : ∃ V : World, V = w3.alloc (.cells #[.int .i64 x, .int .i64 y, .int .i64 t, .int .i64 u] 43) := ⟨_, rfl⟩
    have n5 : Below w3.heap.size w3 w5 := by
      rw [hw5]
      exact (Below.refl _ _).alloc (Nat.le_refl _) _
    have s5 : w3.heap.size + 1 ≤ w5.heap.size := by rw [hw5]; simp
    have d5_0 : w5.cell? ⟨w3.heap.size, 0, none⟩ = some (.int .i64 x) := by rw [hw5]; go_simp
    have d5_1 : w5.cell? ⟨w3.heap.size, 1, none⟩ = some (.int .i64 y) := by rw [hw5]; go_simp
    have d5_2 : w5.cell? ⟨w3.heap.size, 2, none⟩ = some (.int .i64 t) := by rw [hw5]; go_simp
    have d5_3 : w5.cell? ⟨w3.heap.size, 3, none⟩ = some (.int .i64 u) := by rw [hw5]; go_simp
    rw [← hw5]
    clear hw5
    have e5 := (n5.cell (p := ⟨w2.heap.size, 0, none⟩) (by show w2.heap.size < w3.heap.size; omega)).trans e3
    have c5_0 := (n5.cell (p := ⟨w1.heap.size, 0, none⟩) (by show w1.heap.size < w3.heap.size; omega)).trans c3_0; have c5_1 := (n5.cell (p := ⟨w1.heap.size, 1, none⟩) (by show w1.heap.size < w3.heap.size; omega)).trans c3_1; have c5_2 := (n5.cell (p := ⟨w1.heap.size, 2, none⟩) (by show w1.heap.size < w3.heap.size; omega)).trans c3_2; have c5_3 := (n5.cell (p := ⟨w1.heap.size, 3, none⟩) (by show w1.heap.size < w3.heap.size; omega)).trans c3_3
    have r5 := r3.below n5
    have b5 := b3.trans (n5.mono b3.size)
    clear c3_0 c3_1 c3_2 c3_3 r3 e3 b3 n5
    go_region_held3 (fun V => V.cell? ⟨w2.heap.size, 0, none⟩ = some (.slice a2 L.length k2) ∧ V.cell? ⟨w1.heap.size, 0, none⟩ = some (.int .i64 x) ∧ V.cell? ⟨w1.heap.size, 1, none⟩ = some (.int .i64 y) ∧ V.cell? ⟨w1.heap.size, 2, none⟩ = some (.int .i64 z) ∧ V.cell? ⟨w1.heap.size, 3, none⟩ = some (.int .i64 u) ∧ V.cell? ⟨w3.heap.size, 0, none⟩ = some (.int .i64 x) ∧ V.cell? ⟨w3.heap.size, 1, none⟩ = some (.int .i64 y) ∧ V.cell? ⟨w3.heap.size, 2, none⟩ = some (.int .i64 t) ∧ V.cell? ⟨w3.heap.size, 3, none⟩ = some (.int .i64 u)) (go_keep)
      (first
        | (go_at_call 45; refine (KS.out _).mono ?_; rintro e wx ⟨ux, rfl, qx, hbx⟩; have rx := qx.sb; obtain ⟨ax, kx, rfl, _⟩ := id qx; have nn : Below w5.heap.size w5 wx := Below.step (by go_grown) hbx; have ewx := (nn.cell (p := ⟨w2.heap.size, 0, none⟩) (by show w2.heap.size < w5.heap.size; omega)).trans e5; have cwx0 := (nn.cell (p := ⟨w1.heap.size, 0, none⟩) (by show w1.heap.size < w5.heap.size; omega)).trans c5_0; have cwx1 := (nn.cell (p := ⟨w1.heap.size, 1, none⟩) (by show w1.heap.size < w5.heap.size; omega)).trans c5_1; have cwx2 := (nn.cell (p := ⟨w1.heap.size, 2, none⟩) (by show w1.heap.size < w5.heap.size; omega)).trans c5_2; have cwx3 := (nn.cell (p := ⟨w1.heap.size, 3, none⟩) (by show w1.heap.size < w5.heap.size; omega)).trans c5_3; have dwx0 := (nn.cell (p := ⟨w3.heap.size, 0, none⟩) (by show w3.heap.size < w5.heap.size; omega)).trans d5_0; have dwx1 := (nn.cell (p := ⟨w3.heap.size, 1, none⟩) (by show w3.heap.size < w5.heap.size; omega)).trans d5_1; have dwx2 := (nn.cell (p := ⟨w3.heap.size, 2, none⟩) (by show w3.heap.size < w5.heap.size; omega)).trans d5_2; have dwx3 := (nn.cell (p := ⟨w3.heap.size, 3, none⟩) (by show w3.heap.size < w5.heap.size; omega)).trans d5_3; clear qx)
        | (go_at_call 26; refine (same_true hN (SB.stepAt r5 (by go_grown)) (SB.stepAt rx (by go_grown))).mono ?_; rintro e wy ⟨rfl, hby⟩; have nn : Below w5.heap.size w5 wy := Below.step (by go_grown) hby; have ewy := (nn.cell (p := ⟨w2.heap.size, 0, none⟩) (by show w2.heap.size < w5.heap.size; omega)).trans e5; have cwy0 := (nn.cell (p := ⟨w1.heap.size, 0, none⟩) (by show w1.heap.size < w5.heap.size; omega)).trans c5_0; have cwy1 := (nn.cell (p := ⟨w1.heap.size, 1, none⟩) (by show w1.heap.size < w5.heap.size; omega)).trans c5_1; have cwy2 := (nn.cell (p := ⟨w1.heap.size, 2, none⟩) (by show w1.heap.size < w5.heap.size; omega)).trans c5_2; have cwy3 := (nn.cell (p := ⟨w1.heap.size, 3, none⟩) (by show w1.heap.size < w5.heap.size; omega)).trans c5_3; have dwy0 := (nn.cell (p := ⟨w3.heap.size, 0, none⟩) (by show w3.heap.size < w5.heap.size; omega)).trans d5_0; have dwy1 := (nn.cell (p := ⟨w3.heap.size, 1, none⟩) (by show w3.heap.size < w5.heap.size; omega)).trans d5_1; have dwy2 := (nn.cell (p := ⟨w3.heap.size, 2, none⟩) (by show w3.heap.size < w5.heap.size; omega)).trans d5_2; have dwy3 := (nn.cell (p := ⟨w3.heap.size, 3, none⟩) (by show w3.heap.size < w5.heap.size; omega)).trans d5_3)
        | (go_at_call 30; refine (implHas_any _ L _ _ _ _ _ hN (SB.stepAt r5 (by go_grown))).mono ?_; rintro e wv ⟨rfl, hbv⟩; have nn : Below w5.heap.size w5 wv := Below.step (by go_grown) hbv; have ewv := (nn.cell (p := ⟨w2.heap.size, 0, none⟩) (by show w2.heap.size < w5.heap.size; omega)).trans e5; have cwv0 := (nn.cell (p := ⟨w1.heap.size, 0, none⟩) (by show w1.heap.size < w5.heap.size; omega)).trans c5_0; have cwv1 := (nn.cell (p := ⟨w1.heap.size, 1, none⟩) (by show w1.heap.size < w5.heap.size; omega)).trans c5_1; have cwv2 := (nn.cell (p := ⟨w1.heap.size, 2, none⟩) (by show w1.heap.size < w5.heap.size; omega)).trans c5_2; have cwv3 := (nn.cell (p := ⟨w1.heap.size, 3, none⟩) (by show w1.heap.size < w5.heap.size; omega)).trans c5_3; have dwv0 := (nn.cell (p := ⟨w3.heap.size, 0, none⟩) (by show w3.heap.size < w5.heap.size; omega)).trans d5_0; have dwv1 := (nn.cell (p := ⟨w3.heap.size, 1, none⟩) (by show w3.heap.size < w5.heap.size; omega)).trans d5_1; have dwv2 := (nn.cell (p := ⟨w3.heap.size, 2, none⟩) (by show w3.heap.size < w5.heap.size; omega)).trans d5_2; have dwv3 := (nn.cell (p := ⟨w3.heap.size, 3, none⟩) (by show w3.heap.size < w5.heap.size; omega)).trans d5_3)
        | (go_at_call 32; refine (KV.out _).mono ?_; rintro e wu ⟨rfl, hbu⟩; have nn : Below w5.heap.size w5 wu := Below.step (by go_grown) hbu; have ewu := (nn.cell (p := ⟨w2.heap.size, 0, none⟩) (by show w2.heap.size < w5.heap.size; omega)).trans e5; have cwu0 := (nn.cell (p := ⟨w1.heap.size, 0, none⟩) (by show w1.heap.size < w5.heap.size; omega)).trans c5_0; have cwu1 := (nn.cell (p := ⟨w1.heap.size, 1, none⟩) (by show w1.heap.size < w5.heap.size; omega)).trans c5_1; have cwu2 := (nn.cell (p := ⟨w1.heap.size, 2, none⟩) (by show w1.heap.size < w5.heap.size; omega)).trans c5_2; have cwu3 := (nn.cell (p := ⟨w1.heap.size, 3, none⟩) (by show w1.heap.size < w5.heap.size; omega)).trans c5_3; have dwu0 := (nn.cell (p := ⟨w3.heap.size, 0, none⟩) (by show w3.heap.size < w5.heap.size; omega)).trans d5_0; have dwu1 := (nn.cell (p := ⟨w3.heap.size, 1, none⟩) (by show w3.heap.size < w5.heap.size; omega)).trans d5_1; have dwu2 := (nn.cell (p := ⟨w3.heap.size, 2, none⟩) (by show w3.heap.size < w5.heap.size; omega)).trans d5_2; have dwu3 := (nn.cell (p := ⟨w3.heap.size, 3, none⟩) (by show w3.heap.size < w5.heap.size; omega)).trans d5_3)
        | (go_at_call 33; refine (alive_any _).mono ?_; rintro e wt ⟨rfl, hbt⟩; have nn : Below w5.heap.size w5 wt := Below.step (by go_grown) hbt; have ewt := (nn.cell (p := ⟨w2.heap.size, 0, none⟩) (by show w2.heap.size < w5.heap.size; omega)).trans e5; have cwt0 := (nn.cell (p := ⟨w1.heap.size, 0, none⟩) (by show w1.heap.size < w5.heap.size; omega)).trans c5_0; have cwt1 := (nn.cell (p := ⟨w1.heap.size, 1, none⟩) (by show w1.heap.size < w5.heap.size; omega)).trans c5_1; have cwt2 := (nn.cell (p := ⟨w1.heap.size, 2, none⟩) (by show w1.heap.size < w5.heap.size; omega)).trans c5_2; have cwt3 := (nn.cell (p := ⟨w1.heap.size, 3, none⟩) (by show w1.heap.size < w5.heap.size; omega)).trans c5_3; have dwt0 := (nn.cell (p := ⟨w3.heap.size, 0, none⟩) (by show w3.heap.size < w5.heap.size; omega)).trans d5_0; have dwt1 := (nn.cell (p := ⟨w3.heap.size, 1, none⟩) (by show w3.heap.size < w5.heap.size; omega)).trans d5_1; have dwt2 := (nn.cell (p := ⟨w3.heap.size, 2, none⟩) (by show w3.heap.size < w5.heap.size; omega)).trans d5_2; have dwt3 := (nn.cell (p := ⟨w3.heap.size, 3, none⟩) (by show w3.heap.size < w5.heap.size; omega)).trans d5_3))
    all_goals
      go_wp2_with fail
      go_ret
      exact ⟨rfl, b5.trans (nn.mono b5.size)⟩

set_option maxHeartbeats 1000000 in
theorem rangeOneP_long (a : Option Addr) (len cap : Nat) (w : World) (hl : 1048576 < len) :
    Calls Try.prog 12 #[.slice a len cap] w fun e w' => e = .returned (.bool true) ∧ Below w.heap.size w w' := by
  go_enter Try.func12, Try.ntmps12
  go_wp2
  go_ret
  exact ⟨rfl, Below.refl _ _⟩

theorem rangeOneP_walk (a : Option Addr) (len cap : Nat) (w : World) (h : CodeIn w a len cap) :
    Calls Try.prog 12 #[.slice a len cap] w fun e w' => e = .returned (.bool true) ∧ Below w.heap.size w w' := by
  by_cases hl : len ≤ 1048576
  · exact rangeOneP_short a len cap w h hl
  · exact rangeOneP_long a len cap w (by omega)

theorem rangeOneP_holds : Rows.FnRangeOneSaid :=
  OpenClaim.holds_of_wide 12 Try.f12 rfl rfl rfl rfl rfl rfl rfl ⟨rfl, rfl, rfl, rfl, rfl⟩ rfl rfl rfl rfl rfl (by kernel_rfl) Try.func12 (by kernel_rfl)
    (of_decide_eq_true (by kernel_rfl)) (by unfold Func.isWrapper; rw [if_neg (by decide +kernel)]; exact ⟨rfl, rfl⟩)
    (fun os started H enc _ => law_lifted (s := Rows.fnRangeOneSpec) (tb := 4) own started laid (by kernel_rfl) Try.func12 rfl (by kernel_rfl) Try.underlying4 (by kernel_rfl)
      (fun ds h => by rw [Try.params12] at h; match ds, h with | [_], _ => rfl)
      (ChangeSpec.witness6 (enc := enc) (C := Try.checked) false ⟨#[], #[.slice none 0 0], []⟩ 8 (by kernel_rfl) (by kernel_rfl) (by kernel_rfl) (by kernel_rfl))
      (law_code Try.params12 rangeOneP_walk))
#print axioms rangeOneP_holds

end Go.Proofs.Ytflmljgmmcdniaa
