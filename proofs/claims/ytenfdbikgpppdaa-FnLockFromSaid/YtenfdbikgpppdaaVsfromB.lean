/- One part of the contract of the model's VersionFrom over this seat's translation: a text with one dash whose first half has three parts. Conditions: what the calls of l1Cut and l1Number come to. -/
import Derived.Test.YtenfdbikgpppdaaVsfrom
namespace Go.Proofs.Ytenfdbikgpppdaa
open Go.RowKit Go.Sort

set_option maxHeartbeats 2000000 in
theorem from_two_no (s : ByteArray) (h x y z t : List UInt8) (a b c d : Int) (w : World) (hs : s.size ≤ 20)
    (K1 : Hid (∀ V, Calls Try.prog 43 #[.string s, .int .u8 45] V (RowPost 2 [strV h, strV t] V))) (K2 : Hid (∀ V, Calls Try.prog 43 #[strV h, .int .u8 46] V (RowPost 3 [strV x, strV y, strV z] V)))
    (N1 : Hid (∀ V, Calls Try.prog 53 #[strV x] V fun e w' => e = .returned (.int .i64 a) ∧ V = w'))
    (N2 : Hid (∀ V, Calls Try.prog 53 #[strV y] V fun e w' => e = .returned (.int .i64 b) ∧ V = w'))
    (N3 : Hid (∀ V, Calls Try.prog 53 #[strV z] V fun e w' => e = .returned (.int .i64 c) ∧ V = w'))
    (N4 : Hid (∀ V, Calls Try.prog 53 #[strV t] V fun e w' => e = .returned (.int .i64 d) ∧ V = w')) (hd : (d == 0) = false) (hk : vOk a b c d = false) : Calls Try.prog 30 #[.string s] w fun e w' => e = .returned (.tuple #[ver 0 0 0 0, .bool false]) ∧ Below w.heap.size w w' := by
  go_enter Try.func30, Try.ntmps30
  go_wp2_with fail
  refine (K1.out _).mono ?_
  intro e w1 hp
  obtain ⟨g1, c1, rfl, hrow, hg, hg2, hb⟩ := rowPost_cells hp
  have hc0 := hrow 0 _ rfl
  have q1 := hrow 1 _ rfl
  clear hrow hp
  go_wp2_with fail
  refine (K2.out _).mono ?_
  intro e w2 hp
  obtain ⟨g2, c2, rfl, hrow, hq, hq2, hb2⟩ := rowPost_cells hp
  have p0 := hrow 0 _ rfl
  have p1 := hrow 1 _ rfl
  have p2 := hrow 2 _ rfl
  have q2 : w2.cell? ⟨g1, 1, none⟩ = some (strV t) := (hb2.cell (p := ⟨g1, 1, none⟩) hg2).trans q1
  clear q1
  clear hrow hp hc0
  have hbw : Below (w.heap.size + 1) (w.alloc (.cells #[.int .i64 0, .int .i64 0, .int .i64 0, .int .i64 0] 47)) w2 := by
    have z1 := hb.size
    simp at z1 hb
    exact hb.trans (hb2.mono z1)
  have z2 : w.heap.size < w2.heap.size := by have := hbw.size; simp at this; omega
  have z4 : w.heap.size < w2.heap.size + 1 := by omega
  have z3 : g1 < w2.heap.size := by have := hb2.size; omega
  clear hb hb2
  obtain ⟨hc, hf⟩ := olds hbw
  go_wp2_with fail
  go_region_held3 (fun w' => w'.cell? ⟨g2, 0, none⟩ = some (strV x) ∧ w'.cell? ⟨g2, 1, none⟩ = some (strV y) ∧ w'.cell? ⟨g2, 2, none⟩ = some (strV z))
    (go_keep)
    (first | (go_at_call_of 53 (strV x); refine (N1.out _).mono ?_; rintro e w' ⟨rfl, rfl⟩) | (go_at_call_of 53 (strV y); refine (N2.out _).mono ?_; rintro e w' ⟨rfl, rfl⟩) | (go_at_call_of 53 (strV z); refine (N3.out _).mono ?_; rintro e w' ⟨rfl, rfl⟩))
  all_goals
    go_wp2_with (first | (go_at_call_of 53 (strV t); refine (N4.out _).mono ?_; rintro e w' ⟨rfl, rfl⟩) | (go_at_call 54; refine (specOk_any _ _ _ _ _).mono ?_; rintro e w3 ⟨rfl, hb3⟩; obtain ⟨hc3, hf3⟩ := olds hb3))
    have hbx : Below w.heap.size w w3 := ((Below.refl _ _).alloc (Nat.le_refl _) _).trans ((hbw.mono (by omega)).trans (((Below.refl _ _).alloc (by omega) _).drew.trans (hb3.mono (by simp; omega))))
    exact bodyPost_ret (v := .tuple #[ver 0 0 0 0, .bool false]) (by simp [results, Try.results30, go_sem, hc3, hc, z2, z4]) rfl ⟨rfl, by repeat (first | exact hbx | refine Below.setCell ?_ (by simp) _)⟩

set_option maxHeartbeats 2000000 in
theorem from_two_yes (s : ByteArray) (h x y z t : List UInt8) (a b c d : Int) (w : World) (hs : s.size ≤ 20)
    (K1 : Hid (∀ V, Calls Try.prog 43 #[.string s, .int .u8 45] V (RowPost 2 [strV h, strV t] V))) (K2 : Hid (∀ V, Calls Try.prog 43 #[strV h, .int .u8 46] V (RowPost 3 [strV x, strV y, strV z] V)))
    (N1 : Hid (∀ V, Calls Try.prog 53 #[strV x] V fun e w' => e = .returned (.int .i64 a) ∧ V = w'))
    (N2 : Hid (∀ V, Calls Try.prog 53 #[strV y] V fun e w' => e = .returned (.int .i64 b) ∧ V = w'))
    (N3 : Hid (∀ V, Calls Try.prog 53 #[strV z] V fun e w' => e = .returned (.int .i64 c) ∧ V = w'))
    (N4 : Hid (∀ V, Calls Try.prog 53 #[strV t] V fun e w' => e = .returned (.int .i64 d) ∧ V = w')) (hd : (d == 0) = false) (hk : vOk a b c d = true) : Calls Try.prog 30 #[.string s] w fun e w' => e = .returned (.tuple #[ver a b c d, .bool true]) ∧ Below w.heap.size w w' := by
  go_enter Try.func30, Try.ntmps30
  go_wp2_with fail
  refine (K1.out _).mono ?_
  intro e w1 hp
  obtain ⟨g1, c1, rfl, hrow, hg, hg2, hb⟩ := rowPost_cells hp
  have hc0 := hrow 0 _ rfl
  have q1 := hrow 1 _ rfl
  clear hrow hp
  go_wp2_with fail
  refine (K2.out _).mono ?_
  intro e w2 hp
  obtain ⟨g2, c2, rfl, hrow, hq, hq2, hb2⟩ := rowPost_cells hp
  have p0 := hrow 0 _ rfl
  have p1 := hrow 1 _ rfl
  have p2 := hrow 2 _ rfl
  have q2 : w2.cell? ⟨g1, 1, none⟩ = some (strV t) := (hb2.cell (p := ⟨g1, 1, none⟩) hg2).trans q1
  clear q1
  clear hrow hp hc0
  have hbw : Below (w.heap.size + 1) (w.alloc (.cells #[.int .i64 0, .int .i64 0, .int .i64 0, .int .i64 0] 47)) w2 := by
    have z1 := hb.size
    simp at z1 hb
    exact hb.trans (hb2.mono z1)
  have z2 : w.heap.size < w2.heap.size := by have := hbw.size; simp at this; omega
  have z4 : w.heap.size < w2.heap.size + 1 := by omega
  have z3 : g1 < w2.heap.size := by have := hb2.size; omega
  clear hb hb2
  obtain ⟨hc, hf⟩ := olds hbw
  go_wp2_with fail
  go_region_held3 (fun w' => w'.cell? ⟨g2, 0, none⟩ = some (strV x) ∧ w'.cell? ⟨g2, 1, none⟩ = some (strV y) ∧ w'.cell? ⟨g2, 2, none⟩ = some (strV z))
    (go_keep)
    (first | (go_at_call_of 53 (strV x); refine (N1.out _).mono ?_; rintro e w' ⟨rfl, rfl⟩) | (go_at_call_of 53 (strV y); refine (N2.out _).mono ?_; rintro e w' ⟨rfl, rfl⟩) | (go_at_call_of 53 (strV z); refine (N3.out _).mono ?_; rintro e w' ⟨rfl, rfl⟩))
  all_goals
    go_wp2_with (first | (go_at_call_of 53 (strV t); refine (N4.out _).mono ?_; rintro e w' ⟨rfl, rfl⟩) | (go_at_call 54; refine (specOk_any _ _ _ _ _).mono ?_; rintro e w3 ⟨rfl, hb3⟩; obtain ⟨hc3, hf3⟩ := olds hb3))
    have hbx : Below w.heap.size w w3 := ((Below.refl _ _).alloc (Nat.le_refl _) _).trans ((hbw.mono (by omega)).trans (((Below.refl _ _).alloc (by omega) _).drew.trans (hb3.mono (by simp; omega))))
    exact bodyPost_ret (v := .tuple #[ver a b c d, .bool true]) (by simp [results, Try.results30, go_sem, hc3, hc, z2, z4]) rfl ⟨rfl, by repeat (first | exact hbx | refine Below.setCell ?_ (by simp) _)⟩

set_option maxHeartbeats 2000000 in
theorem from_two_zero (s : ByteArray) (h x y z t : List UInt8) (a b c d : Int) (w : World) (hs : s.size ≤ 20)
    (K1 : Hid (∀ V, Calls Try.prog 43 #[.string s, .int .u8 45] V (RowPost 2 [strV h, strV t] V))) (K2 : Hid (∀ V, Calls Try.prog 43 #[strV h, .int .u8 46] V (RowPost 3 [strV x, strV y, strV z] V)))
    (N1 : Hid (∀ V, Calls Try.prog 53 #[strV x] V fun e w' => e = .returned (.int .i64 a) ∧ V = w'))
    (N2 : Hid (∀ V, Calls Try.prog 53 #[strV y] V fun e w' => e = .returned (.int .i64 b) ∧ V = w'))
    (N3 : Hid (∀ V, Calls Try.prog 53 #[strV z] V fun e w' => e = .returned (.int .i64 c) ∧ V = w'))
    (N4 : Hid (∀ V, Calls Try.prog 53 #[strV t] V fun e w' => e = .returned (.int .i64 d) ∧ V = w')) (hd : (d == 0) = true) : Calls Try.prog 30 #[.string s] w fun e w' => e = .returned (.tuple #[ver 0 0 0 0, .bool false]) ∧ Below w.heap.size w w' := by
  go_enter Try.func30, Try.ntmps30
  go_wp2_with fail
  refine (K1.out _).mono ?_
  intro e w1 hp
  obtain ⟨g1, c1, rfl, hrow, hg, hg2, hb⟩ := rowPost_cells hp
  have hc0 := hrow 0 _ rfl
  have q1 := hrow 1 _ rfl
  clear hrow hp
  go_wp2_with fail
  refine (K2.out _).mono ?_
  intro e w2 hp
  obtain ⟨g2, c2, rfl, hrow, hq, hq2, hb2⟩ := rowPost_cells hp
  have p0 := hrow 0 _ rfl
  have p1 := hrow 1 _ rfl
  have p2 := hrow 2 _ rfl
  have q2 : w2.cell? ⟨g1, 1, none⟩ = some (strV t) := (hb2.cell (p := ⟨g1, 1, none⟩) hg2).trans q1
  clear q1
  clear hrow hp hc0
  have hbw : Below (w.heap.size + 1) (w.alloc (.cells #[.int .i64 0, .int .i64 0, .int .i64 0, .int .i64 0] 47)) w2 := by
    have z1 := hb.size
    simp at z1 hb
    exact hb.trans (hb2.mono z1)
  have z2 : w.heap.size < w2.heap.size := by have := hbw.size; simp at this; omega
  have z4 : w.heap.size < w2.heap.size + 1 := by omega
  have z3 : g1 < w2.heap.size := by have := hb2.size; omega
  clear hb hb2
  obtain ⟨hc, hf⟩ := olds hbw
  go_wp2_with fail
  go_region_held3 (fun w' => w'.cell? ⟨g2, 0, none⟩ = some (strV x) ∧ w'.cell? ⟨g2, 1, none⟩ = some (strV y) ∧ w'.cell? ⟨g2, 2, none⟩ = some (strV z))
    (go_keep)
    (first | (go_at_call_of 53 (strV x); refine (N1.out _).mono ?_; rintro e w' ⟨rfl, rfl⟩) | (go_at_call_of 53 (strV y); refine (N2.out _).mono ?_; rintro e w' ⟨rfl, rfl⟩) | (go_at_call_of 53 (strV z); refine (N3.out _).mono ?_; rintro e w' ⟨rfl, rfl⟩))
  all_goals
    go_wp2_with (go_at_call_of 53 (strV t); refine (N4.out _).mono ?_; rintro e w' ⟨rfl, rfl⟩)
    have hbx : Below w.heap.size w w2 := ((Below.refl _ _).alloc (Nat.le_refl _) _).trans (hbw.mono (by omega))
    exact bodyPost_ret (v := .tuple #[ver 0 0 0 0, .bool false]) (by simp [results, Try.results30, go_sem, hc, z2]) rfl ⟨rfl, by repeat (first | exact hbx | refine Below.drew ?_ | refine Below.setCell ?_ (by simp) _ | refine Below.alloc ?_ (by simp; omega) _)⟩

end Go.Proofs.Ytenfdbikgpppdaa
