/- Contracts of the laws' functions that copy, measure and compare rows of targets, over this seat's translation, and a row of targets that comes in by value: a copy is a row of its own, all of whose blocks are new. Condition: at most 1048576 of what is copied or compared. -/
import Derived.Test.YtopplljilmjjgaaTg
import Derived.Test.YtopplljilmjjgaaLnto
namespace Go.Proofs.Ytopplljilmjjgaa
open Go.ChangeShapes Go.WideShapes Go.ChangeAt Go.RowKit Go.Sort Go.Joins Go.Deep

namespace Tgn
open Tg
abbrev Fits (x : Tgt) : Prop := x.2.2.1.length ≤ 1048576 ∧ x.2.2.2.length ≤ 1048576
theorem lnb_wide {L : List Ln} {lo hi lo' hi' : Nat} {v : Value} {w : World} (h : LnB L lo hi v w) (h1 : lo' ≤ lo) (h2 : hi ≤ hi') : LnB L lo' hi' v w := by
  obtain ⟨a, cap, rfl, h⟩ := h
  refine ⟨a, cap, rfl, ?_⟩
  rcases h with h | ⟨b, n, rfl, hk, k1, k2⟩
  · exact .inl h
  · exact .inr ⟨b, n, rfl, hk, by omega, by omega⟩
theorem ib_wide {L : List Int} {lo hi lo' hi' : Nat} {v : Value} {w : World} (h : IB L lo hi v w) (h1 : lo' ≤ lo) (h2 : hi ≤ hi') : IB L lo' hi' v w := by
  obtain ⟨a, cap, rfl, h⟩ := h
  refine ⟨a, cap, rfl, ?_⟩
  rcases h with h | ⟨b, n, rfl, hk, k1, k2⟩
  · exact .inl h
  · exact .inr ⟨b, n, rfl, hk, by omega, by omega⟩

set_option maxRecDepth 100000 in
set_option maxHeartbeats 2000000 in
theorem toTarget_any (m : Bool) (t : ByteArray) (v u : Value) (L : List Ln) (N : List Int) (w : World) (h : LnAt w w.heap.size v L) (h' : InAt w w.heap.size u N) (hl : L.length ≤ 1048576) (hn : N.length ≤ 1048576) :
    Calls Try.prog 87 #[tgt m t v u] w fun e w' => ∃ p a c a' c', e = .returned (tgt m t (.slice a L.length c) (.slice a' N.length c')) ∧ (w.heap.size ≤ p ∧ p ≤ w'.heap.size) ∧ LnB L w.heap.size p (.slice a L.length c) w' ∧ IB N p w'.heap.size (.slice a' N.length c') w' ∧ Below w.heap.size w w' := by
  obtain ⟨ad, cap, rfl, hx⟩ := id h
  obtain ⟨ad', cap', rfl, hx'⟩ := id h'
  clear hx hx'
  have H := Lib.hid h
  have H' := Lib.hid h'
  clear h h'
  go_enter Try.func87, Try.ntmps87
  go_wp2_with fail
  refine (Lnt.toLineS_lb _ L _ (H.out.stepAt (by go_grown)) hl).mono ?_
  rintro e w1 ⟨a, c, rfl, hbx, hb1⟩
  have b1 : Below w.heap.size w w1 := Below.step (by go_grown) hb1
  have s1 : w.heap.size + 1 + 1 + 1 ≤ w1.heap.size := by have := hb1.size; simp at this; omega
  have HX := Lib.hid (lnb_wide hbx (show w.heap.size + 3 ≤ _ by simp) (Nat.le_refl _))
  obtain ⟨hc, hf⟩ : (∀ b o, b < w.heap.size + 1 + 1 + 1 → w1.cell? ⟨b, o, none⟩ = _) ∧ (∀ b o, b < w.heap.size + 1 + 1 + 1 → w1.frozen? ⟨b, o, none⟩ = _) :=
    ⟨fun b o hbo => hb1.cell (p := ⟨b, o, none⟩) (by simpa using hbo), fun b o hbo => hb1.frozen (p := ⟨b, o, none⟩) (by simpa using hbo)⟩
  clear hb1 hbx
  go_wp2_with fail
  refine (toIntS_ib _ N _ (H'.out.stepAt (by go_grown)) hn).mono ?_
  rintro e w2 ⟨a', c', rfl, hiy, hb2⟩
  have b2 : Below w.heap.size w w2 := Below.step (show Below w.heap.size w _ from by go_grown) hb2
  have HX2 := Lib.hid (LnB.below (LnB.kept HX.out (fun b k1 k2 hl => by repeat (first | (with_reducible rfl) | refine (Below.heap_setCell _ _ _ _ (by simp; omega)).trans ?_))) hb2)
  have HY := Lib.hid (ib_wide hiy (show w1.heap.size ≤ _ by simp) (Nat.le_refl _))
  have s2 : w1.heap.size ≤ w2.heap.size := by have := hb2.size; simp at this; omega
  obtain ⟨hc2, hf2⟩ : (∀ b o, b < w.heap.size + 1 + 1 + 1 → w2.cell? ⟨b, o, none⟩ = _) ∧ (∀ b o, b < w.heap.size + 1 + 1 + 1 → w2.frozen? ⟨b, o, none⟩ = _) :=
    ⟨fun b o hbo => hb2.cell (p := ⟨b, o, none⟩) (by simp; omega), fun b o hbo => hb2.frozen (p := ⟨b, o, none⟩) (by simp; omega)⟩
  clear hb2 H H' b1 hiy HX
  go_wp2_with fail
  exact bodyPost_ret (v := tgt m t (.slice a L.length c) (.slice a' N.length c')) (by simp [results, Try.results87, go_sem, hc2, hc]) rfl
    ⟨w1.heap.size, a, c, a', c', rfl, ⟨by omega, by simpa using s2⟩, lnb_wide (LnB.kept HX2.out (fun b k1 k2 hl => by repeat (first | (with_reducible rfl) | refine (Below.heap_setCell _ _ _ _ (by simp; omega)).trans ?_))) (by omega) (Nat.le_refl _), IB.kept (ib_wide HY.out (Nat.le_refl _) (by simp)) (fun b k1 k2 hl => by repeat (first | (with_reducible rfl) | refine (Below.heap_setCell _ _ _ _ (by simp; omega)).trans ?_)), by go_grown⟩

theorem infoTarget : (Try.prog.info? 79).map (fun i => (i.zero, i.size, i.bytes)) = some (some (.agg #[.bool false, .string ByteArray.empty, .slice none 0 0, .slice none 0 0]), 4, 72) := by kernel_rfl
theorem make_targets (n : Nat) (hn : n ≤ 1048576) (V : World) :
    (Instr.makeSlice 46 (.int .i64 (n : Int)) (.int .i64 (n : Int))).run Try.prog V = .ok (.slice (some ⟨V.heap.size, 0, none⟩) n n) (V.alloc (.cells (madeCells #[.bool false, .string ByteArray.empty, .slice none 0 0, .slice none 0 0] (n * 4)) 79)) := by
  obtain ⟨i0, hi, hz0, hz1, hz2⟩ := info_parts infoTarget
  have h := run_make (P := Try.prog) V 46 79 i0 _ Try.underlying46 hi hz0 .i64 .i64 (n : Int) (n : Int) (by omega) (Int.le_refl _) (by rw [hz2]; omega) (by omega)
  rw [hz1] at h
  simpa [Value.cells] using h
theorem made_targets (n : Nat) (V : World) : TgBlk (V.alloc (.cells (madeCells #[.bool false, .string ByteArray.empty, .slice none 0 0, .slice none 0 0] (n * 4)) 79)) V.heap.size n (V.heap.size + 1) (V.heap.size + 1) [] :=
  ⟨_, fun _ => V.heap.size + 1, heap_alloc_new V _, size_madeCells _ _, Nat.zero_le _, ⟨Nat.le_refl _, Nat.le_refl _, fun _ => Nat.le_refl _⟩, fun i hi => absurd hi (by simp)⟩

def TToRel (S : List Tgt) (w : World) (g : Nat) (i : Value) (wr : World) : Prop :=
  ∃ k : Nat, k ≤ S.length ∧ i = .int .i64 (k : Int) ∧ TgBlk wr g S.length (g + 1) wr.heap.size (S.take k) ∧ Below w.heap.size w wr
theorem tto_push {S : List Tgt} {w wr : World} {k hi p : Nat} {x : Bool} {t : ByteArray} {L : List Ln} {N : List Int} {a a' : Option Addr} {c c' : Nat} (hxy : S[k]? = some (x, t, L, N)) (hk : k < S.length) (hblk : TgBlk wr w.heap.size S.length (w.heap.size + 1) hi (S.take k))
    (hh : w.heap.size + 1 ≤ hi ∧ hi ≤ p ∧ p ≤ wr.heap.size) (hL : LnB L hi p (.slice a L.length c) wr) (hN : IB N p wr.heap.size (.slice a' N.length c') wr) (hb : Below w.heap.size w wr) :
    TToRel S w w.heap.size (.int .i64 ((k : Int) + 1)) ((((wr.setCell ⟨w.heap.size, k * 4, none⟩ (.bool x)).setCell ⟨w.heap.size, k * 4 + 1, none⟩ (.string t)).setCell ⟨w.heap.size, k * 4 + 2, none⟩ (.slice a L.length c)).setCell ⟨w.heap.size, k * 4 + 3, none⟩ (.slice a' N.length c')) := by
  have hl : (S.take k).length = k := by simp; omega
  have h := hblk.push (hi2 := hi) (p := p) (hi3 := wr.heap.size) (by omega) x t ⟨Nat.le_refl _, by omega, by omega⟩ (LX.of hL (Nat.le_refl _) (Nat.le_refl _) (by omega)) (IX.of hN (Nat.le_refl _) (Nat.le_refl _) (by omega))
  rw [hl] at h
  refine ⟨k + 1, by omega, by go_num, ?_, (((hb.setCell (by simp) _).setCell (by simp) _).setCell (by simp) _).setCell (by simp) _⟩
  rw [List.take_add_one, hxy]
  simpa using h

set_option maxRecDepth 100000 in
set_option maxHeartbeats 2000000 in
theorem toTargetS_tb (v : Value) (S : List Tgt) (w : World) (h : TgAt w w.heap.size v S) (hl : S.length ≤ 1048576) (hq : ∀ q ∈ S, Fits q) :
    Calls Try.prog 30 #[v] w fun e w' => ∃ a c, e = .returned (.slice a S.length c) ∧ TgB S w.heap.size w'.heap.size (.slice a S.length c) w' ∧ Below w.heap.size w w' := by
  obtain ⟨a, cap, rfl, h⟩ := h
  have hmk := make_targets S.length hl
  go_enter Try.func30, Try.ntmps30
  go_wp2
  clear hmk
  go_loopw [4] (fun i wr => TToRel S w w.heap.size i wr) (fun i _ => S.length - (intOf i).toNat)
  case atStart => exact ⟨0, Nat.zero_le _, rfl, by rw [List.take_zero]; exact (made_targets _ _).wide (Nat.le_refl _) (by simp), (Below.refl _ _).alloc (Nat.le_refl _) _⟩
  case round =>
    obtain ⟨k, hk, rfl, hblk, hb⟩ := hrel
    by_cases hlt : k < S.length
    · rcases h with h | ⟨b, o, rfl, hB, hc⟩
      · subst h
        exact absurd hlt (by simp)
      obtain ⟨x, t, L, N, hxy⟩ : ∃ x t L N, S[k] = (x, t, L, N) := ⟨_, _, _, _, rfl⟩
      have c := (hc k hlt).below hb hB
      rw [hxy] at c
      obtain ⟨⟨e0, e1⟩, ad, cap1, ad', cap1', e2, e3, hs, hs'⟩ := c
      have hL : L.length ≤ 1048576 ∧ N.length ≤ 1048576 := by have := hq _ (List.getElem_mem hlt); rwa [hxy] at this
      simp only at e0 e1 e2 e3 hs hs'
      have HXY := Lib.hid (show S[k]? = some (x, t, L, N) by rw [List.getElem?_eq_getElem hlt, hxy])
      clear hxy hc
      have HS := Lib.hid (hs.mono hb.size)
      have HS' := Lib.hid (hs'.mono hb.size)
      have HB := Lib.hid hblk
      have hg := hblk.lt
      clear hs hs' hblk
      go_wp2_with fail
      refine (toTarget_any x t _ _ L N wr HS.out HS'.out hL.1 hL.2).mono ?_
      rintro e w2 ⟨p, a2, c2, a2', c2', rfl, hp, hLb, hIb, hb2⟩
      have blk2 := HB.out.below hb2
      have bel2 := hb.trans (hb2.mono hb.size)
      obtain ⟨⟨p0, hp0⟩, f0⟩ := blk2.place (show k * 4 < S.length * 4 by omega)
      obtain ⟨⟨p1, hp1⟩, f1⟩ := blk2.place (show k * 4 + 1 < S.length * 4 by omega)
      obtain ⟨⟨p2, hp2⟩, f2⟩ := blk2.place (show k * 4 + 2 < S.length * 4 by omega)
      obtain ⟨⟨p3, hp3⟩, f3⟩ := blk2.place (show k * 4 + 3 < S.length * 4 by omega)
      have HP := Lib.hid (tto_push HXY.out hlt blk2 ⟨by omega, hp.1, hp.2⟩ hLb hIb bel2)
      clear hb hb2 e0 e1 e2 e3 blk2 bel2 hLb hIb hp
      go_wp2_with fail
      go_roundw
      case rel => exact HP.out
      case measure => simp [intOf]; omega
    · obtain rfl : k = S.length := by omega
      rw [List.take_length] at hblk
      go_wp2_with fail
      go_ret
      exact ⟨_, _, rfl, ⟨_, _, rfl, .inr ⟨_, _, rfl, hblk.wide (by omega) (Nat.le_refl _), Nat.le_refl _, hblk.lt⟩⟩, hb⟩

set_option maxRecDepth 100000 in
set_option maxHeartbeats 2000000 in
theorem szIntS_any (a : Option Addr) (cap n : Nat) (left : Int) (w : World) (h0 : 0 ≤ left) (h1 : left ≤ 1048576) (hl : n ≤ maxLen) :
    Calls Try.prog 128 #[.slice a n cap, .int .i64 left] w fun e w' => e = .returned (.int .i64 (Obt.oleft left n)) ∧ Below w.heap.size w w' := by
  unfold maxLen at hl
  by_cases hs : left < (n : Int)
  · have hn : left - (n : Int) < 0 := by omega
    rw [show Obt.oleft left n = -1 by unfold Obt.oleft; rw [if_pos hs]]
    go_enter Try.func128, Try.ntmps128
    go_wp2_with fail
    go_ret
    exact ⟨rfl, Below.refl _ _⟩
  · have hn : ¬ left - (n : Int) < 0 := by omega
    rw [show Obt.oleft left n = left - (n : Int) by unfold Obt.oleft; rw [if_neg hs]]
    go_enter Try.func128, Try.ntmps128
    go_wp2_with fail
    go_ret
    exact ⟨rfl, Below.refl _ _⟩

theorem oleft_neg {l : Int} {n : Nat} (h : l < (n : Int)) : Obt.oleft l n = -1 := by unfold Obt.oleft; rw [if_pos h]
theorem oleft_pos {l : Int} {n : Nat} (h : ¬ l < (n : Int)) : Obt.oleft l n = l - (n : Int) := by unfold Obt.oleft; rw [if_neg h]

set_option maxRecDepth 100000 in
set_option maxHeartbeats 4000000 in
theorem szTarget_any (m : Bool) (t : ByteArray) (v u : Value) (L : List Ln) (N : List Int) (left : Int) (w : World) (h0 : 0 ≤ left) (h1 : left ≤ 1048576) (ht : t.size ≤ maxLen) (hl : L.length ≤ maxLen) (hq : ∀ q ∈ L, q.2.2.2.size ≤ maxLen) (hn : N.length ≤ maxLen) (h : LnAt w w.heap.size v L) (h' : InAt w w.heap.size u N) :
    Calls Try.prog 82 #[tgt m t v u, .int .i64 left] w fun e w' => e = .returned (.int .i64 (Obt.oleft left (sz1 (m, t, L, N)))) ∧ Below w.heap.size w w' := by
  obtain ⟨ad, cap, rfl, hx⟩ := id h
  obtain ⟨ad', cap', rfl, hx'⟩ := id h'
  clear hx hx' h'
  unfold maxLen at ht
  have H := Lib.hid h
  have HQ := Lib.hid hq
  have HLN := Lib.hid hl
  have HNN := Lib.hid hn
  clear h hq hl hn
  have HB := Lib.hid ((Below.refl w.heap.size w).alloc (Nat.le_refl _) (.cells #[.bool m, .string t, .slice ad L.length cap, .slice ad' N.length cap'] 109))
  have hsz : sz1 (m, t, L, N) = t.size + (L.length + lnSz L) + N.length := rfl
  have HSZ := Lib.hid hsz
  clear hsz
  by_cases g1 : left < (t.size : Int)
  · have HE := Lib.hid (show Obt.oleft left (sz1 (m, t, L, N)) = -1 from oleft_neg (by have := HSZ.out; omega))
    have k1 : left - (t.size : Int) < 0 := by omega
    go_enter Try.func82, Try.ntmps82
    go_wp2_with fail
    go_ret
    exact ⟨by rw [HE.out]; rfl, HB.out⟩
  have k1 : ¬ left - (t.size : Int) < 0 := by omega
  have y0 : 0 ≤ left - (t.size : Int) ∧ left - (t.size : Int) ≤ 1048576 := by omega
  have K := Lib.hid fun V (g : Below w.heap.size w V) => Lnt.szLineS_any _ L (left - (t.size : Int)) V y0.1 y0.2 HLN.out HQ.out (H.out.stepAt g)
  by_cases g2 : left - (t.size : Int) < ((L.length + lnSz L : Nat) : Int)
  · have HE := Lib.hid (show Obt.oleft left (sz1 (m, t, L, N)) = -1 from oleft_neg (by have := HSZ.out; omega))
    rw [oleft_neg g2] at K
    clear g2
    go_enter Try.func82, Try.ntmps82
    go_wp2_with fail
    refine (K.out _ HB.out).mono ?_
    rintro e w1 ⟨rfl, hb⟩
    have b1 := Lib.hid (HB.out.trans (hb.mono HB.out.size))
    clear hb
    go_wp2_with fail
    go_ret
    exact ⟨by rw [HE.out]; rfl, b1.out⟩
  rw [oleft_pos g2] at K
  obtain ⟨z, hz⟩ : ∃ z : Int, left - (t.size : Int) - ((L.length + lnSz L : Nat) : Int) = z := ⟨_, rfl⟩
  have z0 : 0 ≤ z ∧ z ≤ 1048576 := by omega
  have k2 : ¬ z < 0 := by omega
  have HZ := Lib.hid hz
  rw [hz] at K
  have K2 := Lib.hid fun V => szIntS_any ad' cap' N.length z V z0.1 z0.2 HNN.out
  clear g1 g2 hz
  by_cases g3 : z < (N.length : Int)
  · have HE := Lib.hid (show Obt.oleft left (sz1 (m, t, L, N)) = -1 from oleft_neg (by have := HSZ.out; have := HZ.out; omega))
    rw [oleft_neg g3] at K2
    clear g3
    go_enter Try.func82, Try.ntmps82
    go_wp2_with fail
    refine (K.out _ HB.out).mono ?_
    rintro e w1 ⟨rfl, hb⟩
    have b1 := Lib.hid (HB.out.trans (hb.mono HB.out.size))
    have hc : ∀ o, w1.cell? ⟨w.heap.size, o, none⟩ = _ := fun o => hb.cell (p := ⟨w.heap.size, o, none⟩) (by simp)
    clear hb
    go_wp2_with fail
    refine (K2.out _).mono ?_
    rintro e w2 ⟨rfl, hb⟩
    have b2 := Lib.hid (b1.out.trans (hb.mono b1.out.size))
    clear hb hc
    go_wp2_with fail
    go_ret
    exact ⟨by rw [HE.out]; rfl, b2.out⟩
  · have HE := Lib.hid (show Obt.oleft left (sz1 (m, t, L, N)) = z - (N.length : Int) by rw [oleft_pos (by have := HSZ.out; have := HZ.out; omega)]; have := HSZ.out; have := HZ.out; omega)
    rw [oleft_pos g3] at K2
    have k3 : ¬ z - (N.length : Int) < 0 := by omega
    clear g3
    go_enter Try.func82, Try.ntmps82
    go_wp2_with fail
    refine (K.out _ HB.out).mono ?_
    rintro e w1 ⟨rfl, hb⟩
    have b1 := Lib.hid (HB.out.trans (hb.mono HB.out.size))
    have hc : ∀ o, w1.cell? ⟨w.heap.size, o, none⟩ = _ := fun o => hb.cell (p := ⟨w.heap.size, o, none⟩) (by simp)
    clear hb
    go_wp2_with fail
    refine (K2.out _).mono ?_
    rintro e w2 ⟨rfl, hb⟩
    have b2 := Lib.hid (b1.out.trans (hb.mono b1.out.size))
    clear hb hc
    go_wp2_with fail
    go_ret
    exact ⟨by rw [HE.out]; rfl, b2.out⟩

set_option maxRecDepth 100000 in
set_option maxHeartbeats 4000000 in
theorem szTargetS_any (v : Value) (S : List Tgt) (left : Int) (w : World) (h0 : 0 ≤ left) (h1 : left ≤ 1048576) (hl : S.length ≤ maxLen) (hq : ∀ q ∈ S, q.2.1.size ≤ maxLen ∧ q.2.2.1.length ≤ maxLen ∧ (∀ p ∈ q.2.2.1, p.2.2.2.size ≤ maxLen) ∧ q.2.2.2.length ≤ maxLen) (h : TgAt w w.heap.size v S) :
    Calls Try.prog 28 #[v, .int .i64 left] w fun e w' => e = .returned (.int .i64 (Obt.oleft left (S.length + tgSz S))) ∧ Below w.heap.size w w' := by
  obtain ⟨a, cap, rfl, h⟩ := h
  unfold maxLen at hl
  have HH := Lib.hid h
  have HQ := Lib.hid hq
  clear h hq
  by_cases hs : left < (S.length : Int)
  · have HE := Lib.hid (show Obt.oleft left (S.length + tgSz S) = -1 from oleft_neg (by omega))
    go_enter Try.func28, Try.ntmps28
    go_wp2_with fail
    go_ret
    exact ⟨by rw [HE.out]; rfl, Below.refl _ _⟩
  · have hn : ¬ left - (S.length : Int) < 0 := by omega
    go_enter Try.func28, Try.ntmps28
    go_wp2_with fail
    go_loopw [1, 5] (fun s1 i wr => ∃ k : Nat, k ≤ S.length ∧ i = .int .i64 (k : Int) ∧ s1 = .int .i64 (left - (S.length : Int) - (tgSz (S.take k) : Int)) ∧ 0 ≤ left - (S.length : Int) - (tgSz (S.take k) : Int) ∧ Below w.heap.size w wr) (fun _ i _ => S.length - (intOf i).toNat)
    case atStart => exact ⟨0, Nat.zero_le _, rfl, by simp [tgSz], by simp [tgSz]; omega, Below.refl _ _⟩
    case round =>
      obtain ⟨k, hk, rfl, rfl, hp, hb⟩ := hrel
      by_cases hlt : k < S.length
      · rcases HH.out with h | ⟨b, o, rfl, hB, hc⟩
        · subst h
          exact absurd hlt (by simp)
        obtain ⟨x, t, L, N, hxy⟩ : ∃ x t L N, S[k] = (x, t, L, N) := ⟨_, _, _, _, rfl⟩
        have c := (hc k hlt).below hb hB
        rw [hxy] at c
        obtain ⟨⟨e0, e1⟩, ad, cap1, ad', cap1', e2, e3, hs1, hs2⟩ := c
        simp only at e0 e1 e2 e3 hs1 hs2
        have hx : S[k]? = some (x, t, L, N) := by rw [List.getElem?_eq_getElem hlt, hxy]
        have hm := HQ.out _ (List.mem_of_getElem? hx)
        simp only at hm
        have hsn := tgSz_snoc hx
        have hle := tgSz_le S (k + 1)
        have HS := Lib.hid hsn
        have HLE := Lib.hid hle
        clear hxy hc hx hsn hle
        have i0 : (0 : Int) ≤ (k : Int) := by omega
        have i1 : (k : Int) < (S.length : Int) := by omega
        obtain ⟨y, hy⟩ : ∃ y : Int, left - (S.length : Int) - (tgSz (S.take k) : Int) = y := ⟨_, rfl⟩
        have y1 : y ≤ 1048576 := by omega
        have HY := Lib.hid hy
        rw [hy] at hp ⊢
        clear hy
        have K := Lib.hid (szTarget_any x t _ _ L N y wr hp y1 hm.1 hm.2.1 hm.2.2.1 hm.2.2.2 (hs1.mono hb.size) (hs2.mono hb.size))
        clear hs1 hs2 hm
        by_cases hd : y < ((sz1 (x, t, L, N) : Nat) : Int)
        · have HE := Lib.hid (show Obt.oleft left (S.length + tgSz S) = -1 from oleft_neg (by have := HS.out; have := HLE.out; have := HY.out; omega))
          rw [oleft_neg hd] at K
          go_wp2_with fail
          refine K.out.mono ?_
          rintro e w2 ⟨rfl, hb2⟩
          have b2 := hb.trans (hb2.mono hb.size)
          clear hb hb2
          go_wp2_with fail
          go_ret
          exact ⟨by rw [HE.out]; rfl, b2⟩
        · have hd1 : ¬ y - ((sz1 (x, t, L, N) : Nat) : Int) < 0 := by omega
          rw [oleft_pos hd] at K
          generalize sz1 (x, t, L, N) = q at *
          go_wp2_with fail
          refine K.out.mono ?_
          rintro e w2 ⟨rfl, hb2⟩
          have b2 := hb.trans (hb2.mono hb.size)
          clear hb hb2
          go_wp2_with fail
          go_roundw
          case rel => exact ⟨k + 1, by omega, by go_num, by have := HS.out; have := HY.out; congr 1; omega, by have := HS.out; have := HY.out; omega, b2⟩
          case measure => simp [intOf]; omega
      · obtain rfl : k = S.length := by omega
        rw [List.take_length] at hp ⊢
        have HE := Lib.hid (show Obt.oleft left (S.length + tgSz S) = left - (S.length : Int) - (tgSz S : Int) by rw [oleft_pos (by omega)]; omega)
        go_wp2_with fail
        go_ret
        exact ⟨by rw [HE.out]; rfl, hb⟩

set_option maxRecDepth 100000 in
set_option maxHeartbeats 4000000 in
theorem eqTarget_same (m : Bool) (t : ByteArray) {v v' u u' : Value} {L : List Ln} {N : List Int} {w : World} (hl : L.length ≤ 1048576) (hn : N.length ≤ 1048576) (h : LnAt w w.heap.size v L) (h' : LnAt w w.heap.size v' L) (i : InAt w w.heap.size u N) (i' : InAt w w.heap.size u' N) :
    Calls Try.prog 94 #[tgt m t v u, tgt m t v' u'] w fun e w' => e = .returned (.bool true) ∧ Below w.heap.size w w' := by
  have h1 : (m != m) = false := by simp
  have h2 : (t.toList != t.toList) = false := by simp
  obtain ⟨a1, c1, rfl, x1⟩ := id h
  obtain ⟨a2, c2, rfl, x2⟩ := id h'
  obtain ⟨a3, c3, rfl, x3⟩ := id i
  obtain ⟨a4, c4, rfl, x4⟩ := id i'
  clear x1 x2 x3 x4
  have b0 := ((Below.refl w.heap.size w).alloc (Nat.le_refl _) (.cells #[.bool m, .string t, .slice a1 L.length c1, .slice a3 N.length c3] 79)).alloc (by simp) (.cells #[.bool m, .string t, .slice a2 L.length c2, .slice a4 N.length c4] 79)
  have K := Lib.hid (fun V (g : Below w.heap.size w V) => Lnt.eqLineS_same hl (h.stepAt g) (h'.stepAt g))
  have K2 := Lib.hid (fun V (g : Below w.heap.size w V) => by
    have := eqIntS_any _ _ N N V hn hn (i.stepAt g) (i'.stepAt g)
    rwa [decide_eq_true rfl] at this)
  have HB := Lib.hid b0
  clear h h' i i' b0
  go_enter Try.func94, Try.ntmps94
  go_wp2_with fail
  refine (K.out _ HB.out).mono ?_
  rintro e w2 ⟨rfl, hb⟩
  have b2 := Lib.hid (HB.out.trans (hb.mono HB.out.size))
  obtain ⟨hc, hf⟩ : (∀ b o, b < w.heap.size + 1 + 1 → w2.cell? ⟨b, o, none⟩ = _) ∧ (∀ b o, b < w.heap.size + 1 + 1 → w2.frozen? ⟨b, o, none⟩ = _) :=
    ⟨fun b o hbo => hb.cell (p := ⟨b, o, none⟩) (by simpa using hbo), fun b o hbo => hb.frozen (p := ⟨b, o, none⟩) (by simpa using hbo)⟩
  clear hb
  go_wp2_with fail
  refine (K2.out _ b2.out).mono ?_
  rintro e w3 ⟨rfl, hb⟩
  have b3 := Lib.hid (b2.out.trans (hb.mono b2.out.size))
  clear hb hc hf
  go_wp2_with fail
  go_ret
  exact ⟨rfl, b3.out⟩

set_option maxRecDepth 100000 in
set_option maxHeartbeats 4000000 in
theorem eqTargetS_same {v v' : Value} {S : List Tgt} {w : World} (hl : S.length ≤ 1048576) (hq : ∀ q ∈ S, Fits q) (h : TgAt w w.heap.size v S) (h' : TgAt w w.heap.size v' S) :
    Calls Try.prog 34 #[v, v'] w fun e w' => e = .returned (.bool true) ∧ Below w.heap.size w w' := by
  obtain ⟨a, cap, rfl, hc⟩ := h
  obtain ⟨a', cap', rfl, hc'⟩ := h'
  have H := Lib.hid hc
  have H' := Lib.hid hc'
  clear hc hc'
  have hz : ((S.length : Int) != (S.length : Int)) = false := by simp
  go_enter Try.func34, Try.ntmps34
  go_wp2
  go_loopw [5] (fun i wr => ∃ k : Nat, k ≤ S.length ∧ i = .int .i64 (k : Int) ∧ Below w.heap.size w wr) (fun i _ => S.length - (intOf i).toNat)
  case atStart => exact ⟨0, Nat.zero_le _, rfl, Below.refl _ _⟩
  case round =>
    obtain ⟨k, hk, rfl, hb⟩ := hrel
    by_cases hlt : k < S.length
    · rcases H.out with h1 | ⟨b, o, rfl, hB, hc⟩
      · subst h1
        exact absurd hlt (by simp)
      rcases H'.out with h2 | ⟨b', o', rfl, hB', hc'⟩
      · subst h2
        exact absurd hlt (by simp)
      obtain ⟨x, t, L, N, hxy⟩ : ∃ x t L N, S[k] = (x, t, L, N) := ⟨_, _, _, _, rfl⟩
      have m1 := (hc k hlt).below hb hB
      have m2 := (hc' k hlt).below hb hB'
      have hF : L.length ≤ 1048576 ∧ N.length ≤ 1048576 := by have := hq _ (List.getElem_mem hlt); rwa [hxy] at this
      rw [hxy] at m1 m2
      obtain ⟨⟨k0, k1⟩, a1, c1, a2, c2, k2, k3, s1, s2⟩ := m1
      obtain ⟨⟨l0, l1⟩, a1', c1', a2', c2', l2, l3, r1, r2⟩ := m2
      simp only at k0 k1 k2 k3 l0 l1 l2 l3 s1 s2 r1 r2
      have s1 := s1.mono hb.size
      have s2 := s2.mono hb.size
      have r1 := r1.mono hb.size
      have r2 := r2.mono hb.size
      clear hc hc' hxy
      have i0 : (0 : Int) ≤ (k : Int) := by omega
      have i1 : (k : Int) < (S.length : Int) := by omega
      have t0 := cell_regrown k0
      have u0 := cell_regrown l0
      have t1 := cell_regrown k1
      have u1 := cell_regrown l1
      have t2 := cell_regrown k2
      have u2 := cell_regrown l2
      have t3 := cell_regrown k3
      have u3 := cell_regrown l3
      have K := Lib.hid fun V (g : Below wr.heap.size wr V) => eqTarget_same x t (w := V) hF.1 hF.2 (s1.stepAt g) (r1.stepAt g) (s2.stepAt g) (r2.stepAt g)
      clear s1 s2 r1 r2
      go_wp2_with fail
      refine wp_region_quiet_below (by kernel_rfl) (by kernel_rfl) ?_
      repeat (any_goals (first | go_big_quiet_step ((go_at_call 94; exact Calls.regrown_of (K.out _ (below_regrown _ _ _)))) | quiet_step ((go_at_call 94; exact Calls.regrown_of (K.out _ (below_regrown _ _ _))))))
      refine wpQuiet_nil ?_
      intro W2 hw
      have nn := quiet_end hw
      clear hw t0 t1 t2 t3 u0 u1 u2 u3
      have HP := Lib.hid (hb.trans (nn.mono hb.size))
      go_wp2_with fail
      go_roundw
      case rel => exact ⟨k + 1, by omega, by go_num, HP.out⟩
      case measure => simp [intOf]; omega
    · obtain rfl : k = S.length := by omega
      go_wp2_with fail
      go_ret
      exact ⟨rfl, hb⟩

theorem lines_cells : Try.prog.cellsOf 23 = 1 := by kernel_rfl
theorem ints_cells : Try.prog.cellsOf 43 = 1 := by kernel_rfl
theorem target_cells : Try.prog.cellsOf 109 = 4 := by kernel_rfl
section
variable {H : Type} {enc : TypeId × Value → H} {w : World} {held : Bool}
set_option maxRecDepth 100000 in
theorem open_lines_trod {fuel : Nat} {cs : List Value} {x : DataW H × List MemPlace} (h : DataW.trod enc Try.prog w 0 (fun _ => true) held fuel 23 cs = some x) :
    ∃ a cap L, cs = [.slice a L.length cap] ∧ LnAt w w.heap.size (.slice a L.length cap) L ∧ L.length ≤ maxLen ∧ ∀ q ∈ L, q.2.2.2.size ≤ maxLen := by
  rcases open_slice Try.underlying23 h with ⟨hcs, _⟩ | ⟨a, len, cap, m, k, D, Pl, hcs, _, hl, hm, hmm, _, hel⟩
  · subst hcs
    exact ⟨none, 0, [], rfl, ⟨_, _, rfl, .inl rfl⟩, Nat.zero_le _, fun q hq => by cases hq⟩
  · subst hcs
    simp at hmm
    subst hmm
    rw [Lnt.line_cells] at hel
    obtain ⟨X, hlen, hX⟩ := Obt.rowOf (α := Ln) (p := fun i q => (w.cell? (a.add (i * 4)) = some (.int .i64 q.1) ∧ w.cell? ((a.add (i * 4)).add 1) = some (.int .i64 q.2.1) ∧ w.cell? ((a.add (i * 4)).add 2) = some (.int .i64 q.2.2.1) ∧ w.cell? ((a.add (i * 4)).add 3) = some (.string q.2.2.2)) ∧ q.2.2.2.size ≤ maxLen) (fun i (hi : i < len) => by
      obtain ⟨cs', h1, h2⟩ := hel i (by omega)
      obtain ⟨q, rfl, hq⟩ := Lnt.open_line_trod h2
      obtain ⟨_, _, h3⟩ := World.cells?_some h1
      have e0 := h3 0 (by omega)
      have e1 := h3 1 (by omega)
      have e2 := h3 2 (by omega)
      have e3 := h3 3 (by omega)
      rw [Obt.add0] at e0
      exact ⟨q, ⟨e0, e1, e2, e3⟩, hq⟩)
    subst hlen
    refine ⟨some a, m, X, rfl, ?_, by omega, fun q hq => ?_⟩
    · by_cases hz : X.length = 0
      · exact ⟨_, _, rfl, .inl (List.length_eq_zero_iff.1 hz)⟩
      · have c0 := (hX 0 (by omega)).1.1
        obtain ⟨b, o, spot⟩ := a
        rw [Nat.zero_mul, Obt.add0] at c0
        have hspot : spot = none := by simpa using World.cell?_spot c0
        subst hspot
        refine ⟨_, _, rfl, .inr ⟨b, o, rfl, ?_, fun i hi => ?_⟩⟩
        · have := World.block_lt_of_cell? w _ c0
          simpa using this
        · obtain ⟨e0, e1, e2, e3⟩ := (hX i hi).1
          rw [Obt.plain_add'] at e0 e1 e2 e3
          rw [Obt.plain_add'] at e1 e2 e3
          exact ⟨e0, e1, e2, e3⟩
    · obtain ⟨i, hi, rfl⟩ := List.getElem_of_mem hq
      exact (hX i hi).2

abbrev Mea (q : Tgt) : Prop := q.2.1.size ≤ maxLen ∧ q.2.2.1.length ≤ maxLen ∧ (∀ p ∈ q.2.2.1, p.2.2.2.size ≤ maxLen) ∧ q.2.2.2.length ≤ maxLen
set_option maxRecDepth 100000 in
theorem open_target_trod {fuel : Nat} {cs : List Value} {x : DataW H × List MemPlace} (h : DataW.trod enc Try.prog w 0 (fun _ => true) held fuel 109 cs = some x) :
    ∃ (q : Tgt) (a a' : Option Addr) (c c' : Nat), cs = [.bool q.1, .string q.2.1, .slice a q.2.2.1.length c, .slice a' q.2.2.2.length c'] ∧ (LnAt w w.heap.size (.slice a q.2.2.1.length c) q.2.2.1 ∧ InAt w w.heap.size (.slice a' q.2.2.2.length c') q.2.2.2) ∧ Mea q := by
  obtain ⟨y0, y1, y2, y3, n, _, hl, h0, h1, h2, h3⟩ := trod_struct4 Try.underlying109 h
  rw [target_cells] at hl
  match cs, hl with
  | [c0, c1, c2, c3], _ =>
    obtain ⟨f, e0, _⟩ := DataW.trod_bool Try.underlying4 h0
    simp [Obt.bool_cells] at h1 h2 h3 e0
    obtain ⟨d, e1, _, hd⟩ := DataW.trod_string Try.underlying9 h1
    simp [Obt.string_cells] at h2 h3 e1
    obtain ⟨a, c, L, e2, hL, hl1, hq⟩ := open_lines_trod h2
    simp [lines_cells] at h3 e2
    obtain ⟨a', c', N, e3, hN, hn1⟩ := Itn.open_ints_trod h3
    simp [ints_cells] at e3
    subst e0; subst e1; subst e2; subst e3
    exact ⟨(f, d, L, N), a, a', c, c', rfl, ⟨hL, hN⟩, hd, hl1, hq, hn1⟩

set_option maxRecDepth 100000 in
theorem open_targets {b0 : Nat} {v : Value} {d : DataW H} {p : List MemPlace} (hv : Value.okWide Try.prog w .any b0 40 v)
    (h : DataW.Trod enc Try.prog w 0 (fun _ => true) held 40 v d p) : ∃ a cap S, v = .slice a S.length cap ∧ TgAt w w.heap.size (.slice a S.length cap) S ∧ S.length ≤ maxLen ∧ ∀ q ∈ S, Mea q := by
  obtain ⟨a0, len0, cap0, rfl⟩ := okWide_slice Try.underlying40 hv
  obtain ⟨fuel, hf⟩ := h
  rcases open_slice Try.underlying40 hf with ⟨hcs, _⟩ | ⟨a, len, cap, m, k, D, Pl, hcs, _, hl, hm, hmm, _, hel⟩
  · simp [Value.cells] at hcs
    obtain ⟨rfl, rfl, rfl⟩ := hcs
    exact ⟨none, 0, [], rfl, ⟨_, _, rfl, .inl rfl⟩, Nat.zero_le _, fun q hq => by cases hq⟩
  · simp [Value.cells] at hcs
    obtain ⟨rfl, rfl, rfl⟩ := hcs
    simp at hmm
    subst hmm
    rw [target_cells] at hel
    obtain ⟨X, hlen, hX⟩ := Obt.rowOf (α := Tgt) (p := fun i q => (∃ (b b' : Option Addr) (c c' : Nat), (w.cell? (a.add (i * 4)) = some (.bool q.1) ∧ w.cell? ((a.add (i * 4)).add 1) = some (.string q.2.1) ∧ w.cell? ((a.add (i * 4)).add 2) = some (.slice b q.2.2.1.length c) ∧ w.cell? ((a.add (i * 4)).add 3) = some (.slice b' q.2.2.2.length c')) ∧ LnAt w w.heap.size (.slice b q.2.2.1.length c) q.2.2.1 ∧ InAt w w.heap.size (.slice b' q.2.2.2.length c') q.2.2.2) ∧ Mea q) (fun i (hi : i < len0) => by
      obtain ⟨cs', h1, h2⟩ := hel i (by omega)
      obtain ⟨q, b, b', c, c', rfl, hLN, hq⟩ := open_target_trod h2
      obtain ⟨_, _, h3⟩ := World.cells?_some h1
      have e0 := h3 0 (by omega)
      have e1 := h3 1 (by omega)
      have e2 := h3 2 (by omega)
      have e3 := h3 3 (by omega)
      rw [Obt.add0] at e0
      exact ⟨q, ⟨b, b', c, c', ⟨e0, e1, e2, e3⟩, hLN⟩, hq⟩)
    subst hlen
    refine ⟨some a, m, X, rfl, ?_, by omega, fun q hq => ?_⟩
    · by_cases hz : X.length = 0
      · exact ⟨_, _, rfl, .inl (List.length_eq_zero_iff.1 hz)⟩
      · obtain ⟨⟨_, _, _, _, ⟨c0, _⟩, _⟩, _⟩ := hX 0 (by omega)
        obtain ⟨b, o, spot⟩ := a
        rw [Nat.zero_mul, Obt.add0] at c0
        have hspot : spot = none := by simpa using World.cell?_spot c0
        subst hspot
        refine ⟨_, _, rfl, .inr ⟨b, o, rfl, ?_, fun i hi => ?_⟩⟩
        · have := World.block_lt_of_cell? w _ c0
          simpa using this
        · obtain ⟨⟨a1, a2, c, c', ⟨e0, e1, e2, e3⟩, hL, hN⟩, _⟩ := hX i hi
          rw [Obt.plain_add'] at e0 e1 e2 e3
          rw [Obt.plain_add'] at e1 e2 e3
          exact ⟨⟨e0, e1⟩, a1, c, a2, c', e2, e3, hL, hN⟩
    · obtain ⟨i, hi, rfl⟩ := List.getElem_of_mem hq
      exact (hX i hi).2
end
end Tgn
end Go.Proofs.Ytopplljilmjjgaa
