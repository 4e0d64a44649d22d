/- Contracts of the laws' functions that copy, measure, compare and mark rows of lines, over this seat's translation: a copy is a row of its own; marking turns the row's own block alone. Condition: at most 1048576 lines. -/
import Derived.Test.YtopplljilmjjgaaLn
import Derived.Test.YtopplljilmjjgaaOblto
import Derived.BigQuiet
namespace Go.Proofs.Ytopplljilmjjgaa
open Go.ChangeShapes Go.WideShapes Go.ChangeAt Go.RowKit Go.Sort Go.Joins Go.Deep

namespace Lnt
set_option maxRecDepth 100000 in
set_option maxHeartbeats 2000000 in
theorem toLine_any (n a b : Int) (t : ByteArray) (w : World) : Calls Try.prog 73 #[line n a b t] w fun e w' => e = .returned (line n a b t) ∧ Below w.heap.size w w' := by
  go_enter Try.func73, Try.ntmps73
  go_wp2
  exact bodyPost_ret (v := line n a b t) (by simp [results, Try.results73, go_sem]) rfl ⟨rfl, (((Below.refl _ _).alloc (Nat.le_refl _) _).alloc (by simp) _).alloc (by simp; omega) _⟩

theorem infoLine : (Try.prog.info? 99).map (fun i => (i.zero, i.size, i.bytes)) = some (some (.agg #[.int .i64 0, .int .i64 0, .int .i64 0, .string ByteArray.empty]), 4, 40) := by kernel_rfl
theorem make_lines (n : Nat) (hn : n ≤ 1048576) (V : World) :
    (Instr.makeSlice 31 (.int .i64 (n : Int)) (.int .i64 (n : Int))).run Try.prog V = .ok (.slice (some ⟨V.heap.size, 0, none⟩) n n) (V.alloc (.cells (madeCells #[.int .i64 0, .int .i64 0, .int .i64 0, .string ByteArray.empty] (n * 4)) 99)) := by
  obtain ⟨i0, hi, hz0, hz1, hz2⟩ := info_parts infoLine
  have h := run_make (P := Try.prog) V 31 99 i0 _ Try.underlying31 hi hz0 .i64 .i64 (n : Int) (n : Int) (by omega) (Int.le_refl _) (by rw [hz2]; omega) (by omega)
  rw [hz1] at h
  simpa [Value.cells] using h
theorem made_lines (n : Nat) (V : World) : LnBlk (V.alloc (.cells (madeCells #[.int .i64 0, .int .i64 0, .int .i64 0, .string ByteArray.empty] (n * 4)) 99)) V.heap.size n [] :=
  ⟨⟨_, heap_alloc_new V _, size_madeCells _ _⟩, Nat.zero_le _, fun i hi => absurd hi (by simp)⟩
def LToRel (L : List Ln) (w : World) (g : Nat) (i : Value) (wr : World) : Prop :=
  ∃ k : Nat, k ≤ L.length ∧ i = .int .i64 (k : Int) ∧ LnBlk wr g L.length (L.take k) ∧ Below w.heap.size w wr
theorem lto_push {L : List Ln} {w wr : World} {k : Nat} {x a1 b1 : Int} {t1 : ByteArray} (hxy : L[k]? = some (x, a1, b1, t1)) (hk : k < L.length) (hblk : LnBlk wr w.heap.size L.length (L.take k)) (hb : Below w.heap.size w wr) :
    LToRel L w w.heap.size (.int .i64 ((k : Int) + 1)) ((((wr.setCell ⟨w.heap.size, k * 4, none⟩ (.int .i64 x)).setCell ⟨w.heap.size, k * 4 + 1, none⟩ (.int .i64 a1)).setCell ⟨w.heap.size, k * 4 + 2, none⟩ (.int .i64 b1)).setCell ⟨w.heap.size, k * 4 + 3, none⟩ (.string t1)) := by
  have hl : (L.take k).length = k := by simp; omega
  have h := hblk.push (by omega) x a1 b1 t1
  rw [hl] at h
  refine ⟨k + 1, by omega, by go_num, ?_, (((hb.setCell (by simp) _).setCell (by simp) _).setCell (by simp) _).setCell (by simp) _⟩
  rw [List.take_add_one, hxy]
  exact h

set_option maxRecDepth 100000 in
set_option maxHeartbeats 2000000 in
theorem toLineS_lb (v : Value) (L : List Ln) (w : World) (h : LnAt w w.heap.size v L) (hl : L.length ≤ 1048576) :
    Calls Try.prog 20 #[v] w fun e w' => ∃ a c, e = .returned (.slice a L.length c) ∧ LnB L w.heap.size w'.heap.size (.slice a L.length c) w' ∧ Below w.heap.size w w' := by
  obtain ⟨a, cap, rfl, h⟩ := h
  have hmk := make_lines L.length hl
  go_enter Try.func20, Try.ntmps20
  go_wp2
  clear hmk
  go_loopw [4] (fun i wr => LToRel L w w.heap.size i wr) (fun i _ => L.length - (intOf i).toNat)
  case atStart => exact ⟨0, Nat.zero_le _, rfl, by rw [List.take_zero]; exact made_lines _ _, (Below.refl _ _).alloc (Nat.le_refl _) _⟩
  case round =>
    obtain ⟨k, hk, rfl, hblk, hb⟩ := hrel
    by_cases hlt : k < L.length
    · rcases h with h | ⟨b, o, rfl, hB, hc⟩
      · subst h
        exact absurd hlt (by simp)
      obtain ⟨x, a1, b1, t1, hxy⟩ : ∃ x a1 b1 t1, L[k] = (x, a1, b1, t1) := ⟨_, _, _, _, rfl⟩
      have c := (hc k hlt).below hb hB
      rw [hxy] at c
      obtain ⟨e0, e1, e2, e3⟩ := c
      simp only at e0 e1 e2 e3
      have HXY := Lib.hid (show L[k]? = some (x, a1, b1, t1) by rw [List.getElem?_eq_getElem hlt, hxy])
      clear hxy hc
      have HB := Lib.hid hblk
      have hg := hblk.lt
      clear hblk
      go_wp2_with fail
      refine (toLine_any x a1 b1 t1 wr).mono ?_
      rintro e w2 ⟨rfl, hb2⟩
      have blk2 := HB.out.below hb2
      have bel2 := hb.trans (hb2.mono hb.size)
      have pl := blk2.1.place hlt
      obtain ⟨⟨p0, hp0⟩, ⟨p1, hp1⟩, ⟨p2, hp2⟩, ⟨p3, hp3⟩, f0, f1, f2, f3⟩ := pl
      have HP := Lib.hid (lto_push HXY.out hlt blk2 bel2)
      clear hb hb2 e0 e1 e2 e3 blk2 bel2
      go_wp2_with fail
      go_roundw
      case rel => exact HP.out
      case measure => simp [intOf]; omega
    · obtain rfl : k = L.length := by omega
      rw [List.take_length] at hblk
      go_wp2_with fail
      go_ret
      exact ⟨_, _, rfl, ⟨_, _, rfl, .inr ⟨_, _, rfl, hblk, Nat.le_refl _, hblk.lt⟩⟩, hb⟩

set_option maxRecDepth 100000 in
set_option maxHeartbeats 2000000 in
theorem szLine_any (n a b : Int) (t : ByteArray) (left : Int) (w : World) (h0 : 0 ≤ left) (h1 : left ≤ 1048576) (ht : t.size ≤ maxLen) :
    Calls Try.prog 69 #[line n a b t, .int .i64 left] w fun e w' => e = .returned (.int .i64 (if left < (t.size : Int) then -1 else left - (t.size : Int))) ∧ Below w.heap.size w w' := by
  unfold maxLen at ht
  by_cases hs : left < (t.size : Int)
  · rw [if_pos hs]
    have hn : left - (t.size : Int) < 0 := by omega
    go_enter Try.func69, Try.ntmps69
    go_wp2
    go_ret
    exact ⟨rfl, (Below.refl _ _).alloc (Nat.le_refl _) _⟩
  · rw [if_neg hs]
    have hn : ¬ left - (t.size : Int) < 0 := by omega
    go_enter Try.func69, Try.ntmps69
    go_wp2
    go_ret
    exact ⟨rfl, (Below.refl _ _).alloc (Nat.le_refl _) _⟩

set_option maxRecDepth 100000 in
set_option maxHeartbeats 2000000 in
theorem szLineS_any (v : Value) (L : List Ln) (left : Int) (w : World) (h0 : 0 ≤ left) (h1 : left ≤ 1048576) (hl : L.length ≤ maxLen) (hq : ∀ q ∈ L, q.2.2.2.size ≤ maxLen) (h : LnAt w w.heap.size v L) :
    Calls Try.prog 16 #[v, .int .i64 left] w fun e w' => e = .returned (.int .i64 (Obt.oleft left (L.length + lnSz L))) ∧ Below w.heap.size w w' := by
  obtain ⟨a, cap, rfl, h⟩ := h
  unfold maxLen at hl
  have HH := Lib.hid h
  have HQ := Lib.hid hq
  clear h hq
  by_cases hs : left < (L.length : Int)
  · have HE := Lib.hid (show Obt.oleft left (L.length + lnSz L) = -1 by unfold Obt.oleft; rw [if_pos (by omega)])
    go_enter Try.func16, Try.ntmps16
    go_wp2_with fail
    go_ret
    exact ⟨by rw [HE.out]; rfl, Below.refl _ _⟩
  · have hn : ¬ left - (L.length : Int) < 0 := by omega
    go_enter Try.func16, Try.ntmps16
    go_wp2_with fail
    go_loopw [1, 5] (fun s1 i wr => ∃ k : Nat, k ≤ L.length ∧ i = .int .i64 (k : Int) ∧ s1 = .int .i64 (left - (L.length : Int) - (lnSz (L.take k) : Int)) ∧ 0 ≤ left - (L.length : Int) - (lnSz (L.take k) : Int) ∧ Below w.heap.size w wr) (fun _ i _ => L.length - (intOf i).toNat)
    case atStart => exact ⟨0, Nat.zero_le _, rfl, by simp [lnSz], by simp [lnSz]; omega, Below.refl _ _⟩
    case round =>
      obtain ⟨k, hk, rfl, rfl, hp, hb⟩ := hrel
      by_cases hlt : k < L.length
      · rcases HH.out with h | ⟨b, o, rfl, hB, hc⟩
        · subst h
          exact absurd hlt (by simp)
        obtain ⟨x, a1, b1, t1, hxy⟩ : ∃ x a1 b1 t1, L[k] = (x, a1, b1, t1) := ⟨_, _, _, _, rfl⟩
        have c := (hc k hlt).below hb hB
        rw [hxy] at c
        obtain ⟨e0, e1, e2, e3⟩ := c
        simp only at e0 e1 e2 e3
        have hx : L[k]? = some (x, a1, b1, t1) := by rw [List.getElem?_eq_getElem hlt, hxy]
        have hm := HQ.out _ (List.mem_of_getElem? hx)
        simp only at hm
        have hsn := lnSz_snoc hx
        simp only at hsn
        have hle := lnSz_le L (k + 1)
        have HS := Lib.hid hsn
        have HLE := Lib.hid hle
        clear hxy hc hx hsn hle
        have i0 : (0 : Int) ≤ (k : Int) := by omega
        have i1 : (k : Int) < (L.length : Int) := by omega
        obtain ⟨y, hy⟩ : ∃ y : Int, left - (L.length : Int) - (lnSz (L.take k) : Int) = y := ⟨_, rfl⟩
        have y1 : y ≤ 1048576 := by omega
        have HY := Lib.hid hy
        rw [hy] at hp ⊢
        clear hy
        have K := Lib.hid fun V => szLine_any x a1 b1 t1 y V hp y1 hm
        by_cases hd : y < (t1.size : Int)
        · have HE := Lib.hid (show Obt.oleft left (L.length + lnSz L) = -1 by have := HS.out; have := HLE.out; have := HY.out; unfold Obt.oleft; rw [if_pos (by omega)])
          rw [if_pos hd] at K
          go_wp2_with fail
          refine (K.out _).mono ?_
          rintro e w2 ⟨rfl, hb2⟩
          have b2 := hb.trans (hb2.mono hb.size)
          clear hb hb2
          go_wp2_with fail
          go_ret
          exact ⟨by rw [HE.out]; rfl, b2⟩
        · have hd1 : ¬ y - (t1.size : Int) < 0 := by omega
          rw [if_neg hd] at K
          go_wp2_with fail
          refine (K.out _).mono ?_
          rintro e w2 ⟨rfl, hb2⟩
          have b2 := hb.trans (hb2.mono hb.size)
          clear hb hb2
          go_wp2_with fail
          go_roundw
          case rel => exact ⟨k + 1, by omega, by go_num, by have := HS.out; have := HY.out; congr 1; omega, by have := HS.out; have := HY.out; omega, b2⟩
          case measure => simp [intOf]; omega
      · obtain rfl : k = L.length := by omega
        rw [List.take_length] at hp ⊢
        have HE := Lib.hid (show Obt.oleft left (L.length + lnSz L) = left - (L.length : Int) - (lnSz L : Int) by unfold Obt.oleft; rw [if_neg (by omega)]; omega)
        go_wp2_with fail
        go_ret
        exact ⟨by rw [HE.out]; rfl, hb⟩

set_option maxRecDepth 100000 in
set_option maxHeartbeats 2000000 in
theorem eqLine_same (n a b : Int) (t : ByteArray) (w : World) : Calls Try.prog 77 #[line n a b t, line n a b t] w fun e w' => e = .returned (.bool true) ∧ Below w.heap.size w w' := by
  have hE : (t.toList != t.toList) = false := by simp
  have h1 : (n != n) = false := by simp
  have h2 : (a != a) = false := by simp
  have h3 : (b != b) = false := by simp
  go_enter Try.func77, Try.ntmps77
  go_wp2
  go_ret
  exact ⟨rfl, ((Below.refl _ _).alloc (Nat.le_refl _) _).alloc (by simp) _⟩

set_option maxRecDepth 100000 in
set_option maxHeartbeats 4000000 in
theorem eqLineS_same {v v' : Value} {L : List Ln} {w : World} (hl : L.length ≤ 1048576) (h : LnAt w w.heap.size v L) (h' : LnAt w w.heap.size v' L) :
    Calls Try.prog 24 #[v, v'] w fun e w' => e = .returned (.bool true) ∧ Below w.heap.size w w' := by
  obtain ⟨a, cap, rfl, hc⟩ := h
  obtain ⟨a', cap', rfl, hc'⟩ := h'
  have H := Lib.hid hc
  have H' := Lib.hid hc'
  clear hc hc'
  have hz : ((L.length : Int) != (L.length : Int)) = false := by simp
  go_enter Try.func24, Try.ntmps24
  go_wp2
  go_loopw [5] (fun i wr => ∃ k : Nat, k ≤ L.length ∧ i = .int .i64 (k : Int) ∧ Below w.heap.size w wr) (fun i _ => L.length - (intOf i).toNat)
  case atStart => exact ⟨0, Nat.zero_le _, rfl, Below.refl _ _⟩
  case round =>
    obtain ⟨k, hk, rfl, hb⟩ := hrel
    by_cases hlt : k < L.length
    · rcases H.out with h1 | ⟨b, o, rfl, hB, hc⟩
      · subst h1
        exact absurd hlt (by simp)
      rcases H'.out with h2 | ⟨b', o', rfl, hB', hc'⟩
      · subst h2
        exact absurd hlt (by simp)
      obtain ⟨x, p, q, r, hxy⟩ : ∃ x p q r, L[k] = (x, p, q, r) := ⟨_, _, _, _, rfl⟩
      have m1 := (hc k hlt).below hb hB
      have m2 := (hc' k hlt).below hb hB'
      rw [hxy] at m1 m2
      obtain ⟨k0, k1, k2, k3⟩ := m1
      obtain ⟨l0, l1, l2, l3⟩ := m2
      simp only at k0 k1 k2 k3 l0 l1 l2 l3
      clear hc hc' hxy
      have i0 : (0 : Int) ≤ (k : Int) := by omega
      have i1 : (k : Int) < (L.length : Int) := by omega
      have t0 := cell_regrown k0
      have u0 := cell_regrown l0
      have t1 := cell_regrown k1
      have u1 := cell_regrown l1
      have t2 := cell_regrown k2
      have u2 := cell_regrown l2
      have t3 := cell_regrown k3
      have u3 := cell_regrown l3
      have K := Lib.hid fun V => eqLine_same x p q r V
      go_wp2_with fail
      refine wp_region_quiet_below (by kernel_rfl) (by kernel_rfl) ?_
      repeat (any_goals (first | go_big_quiet_step ((go_at_call 77; exact Calls.regrown_of (K.out _))) | quiet_step ((go_at_call 77; exact Calls.regrown_of (K.out _)))))
      refine wpQuiet_nil ?_
      intro W2 hw
      have nn := quiet_end hw
      clear hw t0 t1 t2 t3 u0 u1 u2 u3
      have HP := Lib.hid (hb.trans (nn.mono hb.size))
      go_wp2_with fail
      go_roundw
      case rel => exact ⟨k + 1, by omega, by go_num, HP.out⟩
      case measure => simp [intOf]; omega
    · obtain rfl : k = L.length := by omega
      go_wp2_with fail
      go_ret
      exact ⟨rfl, hb⟩

def LMRel (k : Int) (m g n : Nat) (w : World) (s1 i : Value) (wr : World) : Prop :=
  ∃ j : Nat, j ≤ m ∧ i = .int .i64 (j : Int) ∧ s1 = .int .i64 (k + 4 * j) ∧ LnRow wr g n ∧ Out g (g + 1) w wr
theorem lm_push {y : Int} {g n : Nat} {w wr : World} {o0 o1 o2 : Nat} {v0 v1 v2 : Value} (hr : LnRow wr g n) (ho : Out g (g + 1) w wr) :
    LnRow (((wr.setCell ⟨g, o0, none⟩ v0).setCell ⟨g, o1, none⟩ v1).setCell ⟨g, o2, none⟩ v2) g n ∧ Out g (g + 1) w (((wr.setCell ⟨g, o0, none⟩ v0).setCell ⟨g, o1, none⟩ v1).setCell ⟨g, o2, none⟩ v2) ∧ y = y :=
  ⟨hr.set.set.set, ((ho.set (Nat.le_refl _) (by omega)).set (Nat.le_refl _) (by omega)).set (Nat.le_refl _) (by omega), rfl⟩

set_option maxRecDepth 100000 in
set_option maxHeartbeats 2000000 in
theorem markLineS_blk (g n cap m : Nat) (k : Int) (w : World) (hl : m ≤ 1048576) (hk0 : 0 < k) (hk1 : k ≤ 1000000000) (hln : m ≤ n) (h : LnRow w g n) :
    Calls Try.prog 96 #[.slice (some ⟨g, 0, none⟩) m cap, .int .i64 k] w fun e w' => e = .returned (.int .i64 (k + 4 * m)) ∧ Out g (g + 1) w w' := by
  have HS := Lib.hid (show LMRel k m g n w (.int .i64 k) (.int .i64 0) w from ⟨0, Nat.zero_le _, rfl, by simp, h, out_refl _ _ _⟩)
  clear h
  go_enter Try.func96, Try.ntmps96
  go_wp2
  go_loopw [1, 5] (fun s1 i wr => LMRel k m g n w s1 i wr) (fun _ i _ => m - (intOf i).toNat)
  case atStart => exact HS.out
  case round =>
    obtain ⟨j, hj, rfl, rfl, hr, ho⟩ := hrel
    by_cases hlt : j < m
    · obtain ⟨⟨p0, hp0⟩, ⟨p1, hp1⟩, ⟨p2, hp2⟩, ⟨p3, hp3⟩, f0, f1, f2, f3⟩ := hr.place (show j < n by omega)
      obtain ⟨y, hy⟩ : ∃ y : Int, k + 4 * (j : Int) = y := ⟨_, rfl⟩
      have hy1 : y ≤ 1006000000 ∧ 0 < y := by omega
      have HY := Lib.hid hy
      have HPU := Lib.hid (fun v0 v1 v2 => lm_push (y := y) (o0 := j * 4) (o1 := j * 4 + 1) (o2 := j * 4 + 2) (v0 := v0) (v1 := v1) (v2 := v2) hr ho)
      rw [hy]
      clear hr ho hy
      go_wp2_with fail
      obtain ⟨hr2, ho2, _⟩ := HPU.out (.int .i64 y) (.int .i64 (y + 1)) (.int .i64 (y + 1 + 1))
      refine (Obt.markText_any (y + 1 + 1 + 1) _ (by omega) (by omega)).mono ?_
      rintro e w2 ⟨t, rfl, hb⟩
      have hr3 := hr2.below hb
      have ho3 := Out.trans' ho2 (Out.ofBelow (lo := g) (hi := g + 1) hb)
      clear hb hr2 ho2 hp0 hp1 hp2 hp3 f0 f1 f2 f3
      obtain ⟨⟨p3, hp3⟩, f3⟩ := hr3.one (show j * 4 + 3 < n * 4 by omega)
      have HR := Lib.hid (fun v => (hr3.set (o := j * 4 + 3) (v := v)))
      have HO := Lib.hid (fun v => (ho3.set (o := j * 4 + 3) (v := v) (Nat.le_refl _) (by omega)))
      clear hr3 ho3
      go_wp2_with fail
      go_roundw
      case rel => exact ⟨j + 1, by omega, by go_num, by have := HY.out; congr 1; omega, HR.out _, HO.out _⟩
      case measure => simp [intOf]; omega
    · obtain rfl : j = m := by omega
      have HO := Lib.hid ho
      clear hr ho
      go_wp2_with fail
      go_ret
      exact ⟨rfl, HO.out⟩
set_option maxRecDepth 100000 in
set_option maxHeartbeats 400000 in
theorem markLineS_nil (a : Option Addr) (cap : Nat) (k : Int) (w : World) : Calls Try.prog 96 #[.slice a 0 cap, .int .i64 k] w fun e w' => e = .returned (.int .i64 k) ∧ w = w' := by
  go_enter Try.func96, Try.ntmps96
  go_wp2
  go_loop [1, 5] (fun s1 i => s1 = .int .i64 k ∧ i = .int .i64 0) (fun _ _ => 0)
  case atStart => exact ⟨rfl, rfl⟩
  case round =>
    obtain ⟨rfl, rfl⟩ := hrel
    go_wp2
    go_ret
    exact ⟨rfl, rfl⟩
theorem markLineS_out {N : List Ln} {lo hi : Nat} {u : Value} {w : World} (hl : N.length ≤ 1048576) (h : LnB N lo hi u w) (k : Int) (hk0 : 0 < k) (hk1 : k ≤ 1000000000) :
    Calls Try.prog 96 #[u, .int .i64 k] w fun e w' => e = .returned (.int .i64 (k + 4 * N.length)) ∧ Out lo hi w w' := by
  obtain ⟨a, cap, rfl, h⟩ := h
  rcases h with rfl | ⟨g, n, rfl, hb, h1, h2⟩
  · refine (markLineS_nil a cap k w).mono ?_
    rintro e w' ⟨rfl, rfl⟩
    exact ⟨by simp, out_refl _ _ _⟩
  · refine (markLineS_blk g n cap N.length k w hl hk0 hk1 hb.2.1 hb.1).mono ?_
    rintro e w' ⟨rfl, ho⟩
    exact ⟨rfl, Out.wide ho h1 h2⟩

theorem int_cells : Try.prog.cellsOf 3 = 1 := by kernel_rfl
theorem line_cells : Try.prog.cellsOf 97 = 4 := by kernel_rfl
set_option maxRecDepth 100000 in
theorem open_line_trod {H : Type} {enc : TypeId × Value → H} {w : World} {held : Bool} {fuel : Nat} {cs : List Value} {x : DataW H × List MemPlace} (h : DataW.trod enc Try.prog w 0 (fun _ => true) held fuel 97 cs = some x) :
    ∃ q : Ln, cs = [.int .i64 q.1, .int .i64 q.2.1, .int .i64 q.2.2.1, .string q.2.2.2] ∧ q.2.2.2.size ≤ maxLen := by
  obtain ⟨y0, y1, y2, y3, n, _, hl, h0, h1, h2, h3⟩ := trod_struct4 Try.underlying97 h
  rw [line_cells] at hl
  match cs, hl with
  | [c0, c1, c2, c3], _ =>
    obtain ⟨a, e0, _, _⟩ := DataW.trod_int Try.underlying3 h0
    obtain ⟨b, e1, _, _⟩ := DataW.trod_int Try.underlying3 h1
    obtain ⟨c, e2, _, _⟩ := DataW.trod_int Try.underlying3 h2
    obtain ⟨d, e3, _, hs⟩ := DataW.trod_string Try.underlying9 h3
    simp [int_cells, Obt.string_cells] at e0 e1 e2 e3
    subst e0; subst e1; subst e2; subst e3
    exact ⟨(a, b, c, d), rfl, hs⟩
set_option maxRecDepth 100000 in
theorem open_lines {H : Type} {enc : TypeId × Value → H} {w : World} {held : Bool} {b0 : Nat} {v : Value} {d : DataW H} {p : List MemPlace} (hv : Value.okWide Try.prog w .any b0 23 v)
    (h : DataW.Trod enc Try.prog w 0 (fun _ => true) held 23 v d p) : ∃ a cap L, v = .slice a L.length cap ∧ LnAt w w.heap.size (.slice a L.length cap) L ∧ L.length ≤ maxLen ∧ ∀ q ∈ L, q.2.2.2.size ≤ maxLen := by
  obtain ⟨a0, len0, cap0, rfl⟩ := okWide_slice Try.underlying23 hv
  obtain ⟨fuel, hf⟩ := h
  rcases open_slice Try.underlying23 hf with ⟨hcs, _⟩ | ⟨a, len, cap, m, k, D, Pl, hcs, _, hl, hm, hmm, _, hel⟩
  · simp [Value.cells] at hcs
    obtain ⟨rfl, rfl, rfl⟩ := hcs
    exact ⟨none, 0, [], rfl, ⟨_, _, rfl, .inl rfl⟩, Nat.zero_le _, fun q hq => by cases hq⟩
  · simp [Value.cells] at hcs
    obtain ⟨rfl, rfl, rfl⟩ := hcs
    simp at hmm
    subst hmm
    rw [line_cells] at hel
    obtain ⟨X, hlen, hX⟩ := Obt.rowOf (α := Ln) (p := fun i q => (w.cell? (a.add (i * 4)) = some (.int .i64 q.1) ∧ w.cell? ((a.add (i * 4)).add 1) = some (.int .i64 q.2.1) ∧ w.cell? ((a.add (i * 4)).add 2) = some (.int .i64 q.2.2.1) ∧ w.cell? ((a.add (i * 4)).add 3) = some (.string q.2.2.2)) ∧ q.2.2.2.size ≤ maxLen) (fun i (hi : i < len0) => by
      obtain ⟨cs', h1, h2⟩ := hel i (by omega)
      obtain ⟨q, rfl, hq⟩ := open_line_trod h2
      obtain ⟨_, _, h3⟩ := World.cells?_some h1
      have e0 := h3 0 (by omega)
      have e1 := h3 1 (by omega)
      have e2 := h3 2 (by omega)
      have e3 := h3 3 (by omega)
      rw [Obt.add0] at e0
      exact ⟨q, ⟨e0, e1, e2, e3⟩, hq⟩)
    subst hlen
    refine ⟨some a, m, X, rfl, ?_, by omega, fun q hq => ?_⟩
    · by_cases hz : X.length = 0
      · exact ⟨_, _, rfl, .inl (List.length_eq_zero_iff.1 hz)⟩
      · have c0 := (hX 0 (by omega)).1.1
        obtain ⟨b, o, spot⟩ := a
        rw [Nat.zero_mul, Obt.add0] at c0
        have hspot : spot = none := by simpa using World.cell?_spot c0
        subst hspot
        refine ⟨_, _, rfl, .inr ⟨b, o, rfl, ?_, fun i hi => ?_⟩⟩
        · have := World.block_lt_of_cell? w _ c0
          simpa using this
        · obtain ⟨e0, e1, e2, e3⟩ := (hX i hi).1
          rw [Obt.plain_add'] at e0 e1 e2 e3
          rw [Obt.plain_add'] at e1 e2 e3
          exact ⟨e0, e1, e2, e3⟩
    · obtain ⟨i, hi, rfl⟩ := List.getElem_of_mem hq
      exact (hX i hi).2
end Lnt
end Go.Proofs.Ytopplljilmjjgaa
