/- The contract of the model's draw of worlds, where none is spoilt, over this seat's translation: whatever is drawn is a row of few targets, all small; nothing that was there has changed but the reader. Condition: the reader was not asked too often; at most 9 targets. -/
import Derived.Test.YtopplljilmjjgaaDtg
import Derived.Test.YtopplljilmjjgaaDrs
import Derived.Test.YtopplljilmjjgaaInto
namespace Go.Proofs.Ytopplljilmjjgaa
open Go.RowKit Go.Sort

namespace Dtg
open Tg Drm
/-- How large what is drawn is. -/
abbrev Sm (q : Tgt) : Prop := q.2.1.size ≤ 41 ∧ q.2.2.1.length ≤ 6 ∧ (∀ p ∈ q.2.2.1, p.2.2.2.size ≤ 9) ∧ q.2.2.2.length ≤ 3
theorem sm_push {S : List Tgt} (h : ∀ q ∈ S, Sm q) {x : Tgt} (hx : Sm x) : ∀ q ∈ S ++ [x], Sm q := fun q hq => by
  rcases List.mem_append.1 hq with hq | hq
  · exact h q hq
  · simp at hq
    subst hq
    exact hx
/-- What the loop over the targets keeps. -/
def WlRel (R p m : Nat) (w : World) (s7 s8 : Value) (wr : World) : Prop :=
  ∃ (k : Nat) (S : List Tgt), k ≤ m ∧ s8 = .int .i64 (k : Int) ∧ S.length + k ≤ m ∧ TD wr w.heap.size s7 S ∧ (∀ q ∈ S, Sm q) ∧ Drawn w R p (1 + 70 * (m - k)) wr
/-- What the loop over the inputs keeps. -/
def InRel (R q0 n gx : Nat) (wx : World) (s10 : Value) (wr : World) : Prop :=
  ∃ (j : Nat) (N : List Int) (va : Option Addr) (vc : Nat), j ≤ n ∧ s10 = .int .i64 (j : Int) ∧ N.length ≤ 3 ∧ wr.heap[gx]? = some (.cells #[.bool true, .string ⟨#[]⟩, .slice none 0 0, .slice va N.length vc] 79 (0, 0)) ∧ IOwn wr (gx + 1) (.slice va N.length vc) N ∧ Drawn wx R q0 (2 * j) wr
def WorldPost (R p m : Nat) (w : World) (e : Ending) (w' : World) : Prop :=
  ∃ S v, e = .returned v ∧ TD w' w.heap.size v S ∧ S.length ≤ m + 1 ∧ (∀ q ∈ S, Sm q) ∧ Drawn w R p 800 w'
theorem box_cells {w : World} {g : Nat} {v0 v1 v2 v3 : Value} {T : TypeId} (h : w.heap[g]? = some (.cells #[v0, v1, v2, v3] T (0, 0))) :
    w.cell? ⟨g, 0, none⟩ = some v0 ∧ w.cell? ⟨g, 1, none⟩ = some v1 ∧ w.cell? ⟨g, 2, none⟩ = some v2 ∧ w.cell? ⟨g, 3, none⟩ = some v3 ∧ ∀ o, w.frozen? ⟨g, o, none⟩ = false := by
  refine ⟨?_, ?_, ?_, ?_, fun o => ?_⟩
  · rw [cell_of_row w g 0 _ _ (0, 0) h]; rfl
  · rw [cell_of_row w g 1 _ _ (0, 0) h]; rfl
  · rw [cell_of_row w g 2 _ _ (0, 0) h]; rfl
  · rw [cell_of_row w g 3 _ _ (0, 0) h]; rfl
  · simp [World.frozen?, h]
theorem lnb_no (lo hi : Nat) (w : World) : LnB [] lo hi (.slice none 0 0) w := ⟨none, 0, rfl, .inl rfl⟩
theorem ib_no (lo hi : Nat) (w : World) : IB [] lo hi (.slice none 0 0) w := ⟨none, 0, rfl, .inl rfl⟩
theorem infoTg : (Try.prog.info? 79).map (fun i => (i.zero, i.size, i.bytes)) = some (some (.agg #[.bool false, .string ByteArray.empty, .slice none 0 0, .slice none 0 0]), 4, 72) := by kernel_rfl
theorem four_news {w : World} {x y z u' : Value} {t : TypeId} : ∀ j u, [x, y, z, u'][j]? = some u → (w.alloc (.cells #[x, y, z, u'] t)).cell? ((⟨w.heap.size, 0, none⟩ : Addr).add j) = some u := by
  intro j u hu
  have hadd : ∀ n : Nat, (⟨w.heap.size, 0, none⟩ : Addr).add n = ⟨w.heap.size, n, none⟩ := fun n => by unfold Addr.add; split <;> simp_all
  rw [hadd]
  match j, hu with
  | 0, hu => simp at hu; subst hu; go_simp
  | 1, hu => simp at hu; subst hu; go_simp
  | 2, hu => simp at hu; subst hu; go_simp
  | 3, hu => simp at hu; subst hu; go_simp
theorem four_one {x y z u' : Value} (h0 : x.oneCell' = true) (h1 : y.oneCell' = true) (h2 : z.oneCell' = true) (h3 : u'.oneCell' = true) : ∀ u ∈ [x, y, z, u'], u.oneCell' = true := by
  intro u hu
  simp at hu
  rcases hu with rfl | rfl | rfl | rfl
  · exact h0
  · exact h1
  · exact h2
  · exact h3
theorem own_set {w : World} {B n g o : Nat} {t : TypeId} {s : Nat} {v u : Value} {xs : List Value} (h : w.ownsRow B t s v n xs) (hne : ∀ k, v.ownBlock = some k → k ≠ g) : (w.setCell ⟨g, o, none⟩ u).ownsRow B t s v n xs :=
  row_keep h fun k e => Below.heap_setCell _ _ _ _ (hne k e)
theorem tel_set {w : World} {B g o : Nat} {u : Value} {cs : List Value} {S : List Tgt} {C : Array Value} (h : TEl w B cs S) (hg : w.heap[g]? = some (.cells C 79 (0, 0))) : TEl (w.setCell ⟨g, o, none⟩ u) B cs S :=
  h.keep (by simp [World.setCell]) fun k _ _ hT => Below.heap_setCell _ _ _ _ (fun e => by
    have e' : k = g := e
    subst e'
    exact hT _ _ hg rfl)
theorem in_next {R q0 n gx q j vc : Nat} {N : List Int} {va : Option Addr} {wx wr w4 : World} (hj : j < n) (hN3 : N.length ≤ 3) (hx : wr.heap[gx]? = some (.cells #[.bool true, .string ⟨#[]⟩, .slice none 0 0, .slice va N.length vc] 79 (0, 0)))
    (hio : IOwn wr (gx + 1) (.slice va N.length vc) N) (q1 : q0 ≤ q) (q2 : q ≤ q0 + 2 * j) (gr : wx.grownBy wr (some R)) (hd : Drawn wr R q 2 w4) (hR : R < gx) : InRel R q0 n gx wx (.int .i64 ((j : Int) + 1)) w4 := by
  have hd' := hd
  obtain ⟨q4, r1, r2, hr4, hg4⟩ := hd'
  have hgl := (Array.getElem?_eq_some_iff.1 hx).1
  exact ⟨j + 1, N, va, vc, by omega, by go_num, hN3, (hg4.block gx hgl (fun e => by injection e with e; omega)).trans hx, row_drawn hio hg4 (by omega), dr_more (dr_then gr q1 q2 hd) (by omega)⟩
theorem in_push {R q0 n gx q j vc : Nat} {N : List Int} {va : Option Addr} {v' : Value} {wx wr w5 w6 : World} (hj : j < n) (hN3 : N.length < 3) (hx : wr.heap[gx]? = some (.cells #[.bool true, .string ⟨#[]⟩, .slice none 0 0, .slice va N.length vc] 79 (0, 0)))
    (hio : IOwn wr (gx + 1) (.slice va N.length vc) N) (q1 : q0 ≤ q) (q2 : q ≤ q0 + 2 * j) (gr : wx.grownBy wr (some R)) (hd : Drawn wr R q 2 w5) (hR : R < wx.heap.size) (hgx : wx.heap.size ≤ gx)
    (hown : w6.ownsRow (gx + 1) 3 1 v' (N.length + 1) (ints N ++ [.int .i64 (j : Int)])) (hgrow : (w5.alloc (.cells #[.int .i64 (j : Int)] 3)).grownBy w6 (Value.slice va N.length vc).ownBlock) :
    InRel R q0 n gx wx (.int .i64 ((j : Int) + 1)) (w6.setCell ⟨gx, 3, none⟩ v') := by
  have hd' := hd
  obtain ⟨q5, r1, r2, hr5, hg5⟩ := hd'
  have hgl := (Array.getElem?_eq_some_iff.1 hx).1
  have hx5 := (hg5.block gx hgl (fun e => by injection e with e; omega)).trans hx
  have hio5 : IOwn w5 (gx + 1) (.slice va N.length vc) N := row_drawn hio hg5 (by omega)
  have hg5l := hg5.size
  have hne : ∀ k, (Value.slice va N.length vc).ownBlock = some k → k ≠ gx := fun k e => by have := ((World.ownsRow.lt hio5) k e).1; omega
  have hx6 : w6.heap[gx]? = some (.cells #[.bool true, .string ⟨#[]⟩, .slice none 0 0, .slice va N.length vc] 79 (0, 0)) :=
    (hgrow.block gx (by simp; omega) (fun e => hne gx e.symm rfl)).trans ((Below.heap_alloc _ _ _ (by omega)).trans hx5)
  obtain ⟨a', c', rfl⟩ := row_form hown
  have hl : (N ++ [(j : Int)]).length = N.length + 1 := by simp
  have ho7 : IOwn w6 (gx + 1) (.slice a' (N.length + 1) c') (N ++ [(j : Int)]) := IOwn.push hown
  refine ⟨j + 1, N ++ [(j : Int)], a', c', by omega, by go_num, by rw [hl]; omega, ?_, ?_, ?_⟩
  · rw [hl]
    simp [World.setCell, Array.getElem?_modify, hx6]
  · rw [hl]
    refine own_set ?_ fun k e => by have := ((World.ownsRow.lt ho7) k e).1; omega
    exact ho7
  · have d5 : Drawn wx R q0 (2 * (j + 1)) w5 := dr_more (dr_then gr q1 q2 hd) (by omega)
    exact dr_set (dr_push d5 hR (show wx.heap.size ≤ gx + 1 by omega) ((Below.refl _ _).alloc (Nat.le_refl _) _) hio5 hgrow) hR hgx

set_option maxRecDepth 100000 in
set_option maxHeartbeats 32000000 in
theorem l20World0_any (R p m : Nat) (w : World) (h : RdAt w R p) (hp : p ≤ 600000000) (hm : m ≤ 9) :
    Calls Try.prog 114 #[.pointer (some ⟨R, 0, none⟩), .int .i64 (m : Int), .int .i64 0] w (WorldPost R p m w) := by
  have hR := rdAt_lt h
  obtain ⟨i0, hi, hz0, hz1, hz2⟩ := info_parts infoTg
  obtain ⟨ii, hii, hiz0, hiz1, hiz2⟩ := info_parts infoInt
  have HRA := Lib.hid (rdAt_alloc h (.cells #[] 79))
  have HOA := Lib.hid (td_made (w := w) (B := w.heap.size) (Nat.le_refl _))
  clear h
  go_enter Try.func114, Try.ntmps114
  go_wp2_with fail
  refine (pick_any R p _ _ HRA.out (by omega)).mono ?_
  rintro e w1 ⟨k1, rfl, k10, k11, _, hr1, hg1⟩
  have k12 : k1 < (m : Int) + 1 := k11 (by omega)
  obtain ⟨kn, rfl⟩ := Int.eq_ofNat_of_zero_le k10
  have hd1 : Drawn w R p 1 w1 := ⟨p + 1, by omega, by omega, hr1, grown_trans (grown_start w _ R) hg1⟩
  have HST := Lib.hid (show WlRel R p m w (.slice (some ⟨w.heap.size, 0, none⟩) 0 0) (.int .i64 (kn : Int)) w1 from
    ⟨kn, [], by omega, rfl, by simp; omega, HOA.out.keep hg1.size (fun k k1 k2 => hg1.block k k2 (fun e => by injection e with e; omega)), by simp, dr_more hd1 (by omega)⟩)
  clear hr1 hg1 k11 hd1
  go_wp2_with fail
  go_loopw [7, 8] (fun s7 s8 wr => WlRel R p m w s7 s8 wr) (fun _ s8 _ => (intOf s8).toNat)
  case atStart => exact HST.out
  case round =>
    obtain ⟨k, S, hk, rfl, hlen, htd, hsm, hd⟩ := hrel
    have HT2 := Lib.hid htd
    have HSM := Lib.hid hsm
    have HD2 := Lib.hid hd
    obtain ⟨cs0, ho0, he0⟩ := htd
    obtain ⟨va, vc, hv⟩ := row_form ho0
    obtain ⟨n, hn⟩ : ∃ n, S.length = n := ⟨_, rfl⟩
    rw [hn] at hv
    have HN := Lib.hid hn
    subst hv
    clear ho0 he0 hsm
    have z0 : w.heap.size ≤ wr.heap.size := by obtain ⟨_, _, _, _, hg⟩ := hd; exact hg.size
    have hn9 : n + k ≤ 9 := by omega
    clear hn
    obtain ⟨q2, q21, q22, hr2, hgq⟩ := hd
    clear hgq
    rcases k with _ | k
    · go_wp2_with fail
      refine (odd_any R q2 0 _ hr2 (by omega) (by omega) (by omega)).mono ?_
      rintro e w2 ⟨o, rfl, hn0, hd2⟩
      obtain rfl := hn0 (by omega)
      have HT3 := Lib.hid (HT2.out.drawn hd2 hR)
      have HD3 := Lib.hid (show Drawn w R p 800 w2 by
        obtain ⟨q', r1, r2, hr', gr'⟩ := hd2
        obtain ⟨q'', _, _, _, gq⟩ := HD2.out
        exact ⟨q', by omega, by omega, hr', grown_trans gq gr'⟩)
      clear hd2 hr2
      go_wp2_with fail
      go_ret
      exact ⟨S, _, rfl, HT3.out, by omega, HSM.out, HD3.out⟩
    have kpos : (0 : Int) < ((k + 1 : Nat) : Int) := by omega
    have ek : ((k + 1 : Nat) : Int) - 1 = (k : Int) := by omega
    rcases n with _ | n
    · have KT := Lib.hid (l20Thing_any R q2 (wr.alloc (.cells #[.bool false, .string ⟨#[]⟩, .slice none 0 0, .slice none 0 0] 79)) (rdAt_alloc hr2 _) (by omega))
      have HB := Lib.hid ((Below.refl wr.heap.size wr).alloc (Nat.le_refl _) (.cells #[.bool false, .string ⟨#[]⟩, .slice none 0 0, .slice none 0 0] 79))
      clear hr2
      go_wp2_with fail
      refine KT.out.mono ?_
      rintro e w3 ⟨t, rfl, ht, q3, q31, q32, hr3, hg3⟩
      have hx3 := (hg3.block wr.heap.size (by simp) (fun e => by injection e with e; omega)).trans (heap_alloc_new wr _)
      obtain ⟨c0, c1, c2, c3, fz⟩ := box_cells hx3
      have f1 := fz 1
      have z3 : wr.heap.size + 1 ≤ w3.heap.size := by have := hg3.size; simpa using this
      have HD3 := Lib.hid (show Drawn w R p (1 + 70 * (m - (k + 1)) + 1) w3 by
        obtain ⟨q', s1, s2, s3, s4⟩ := HD2.out
        exact ⟨q3, by omega, by omega, hr3, grown_trans s4 (grown_trans (grown_start wr _ R) hg3)⟩)
      obtain ⟨cs, ho, he⟩ := (HT2.out.below HB.out).keep hg3.size (fun k k1 k2 => hg3.block k k2 (fun e => by injection e with e; omega))
      have hne := Lib.hid (show ∀ k, (Value.slice va (0) vc).ownBlock = some k → k ≠ wr.heap.size from fun k e => by
        obtain ⟨cs', ho', _⟩ := HT2.out
        have := ((World.ownsRow.lt ho') k e).2
        omega)
      rw [HN.out] at ho
      have HO4 := Lib.hid (own_set (o := 1) (u := .string t) ho hne.out)
      have HE4 := Lib.hid (tel_set (o := 1) (u := .string t) he hx3)
      have HD4 := Lib.hid (dr_set (g := wr.heap.size) (o := 1) (u := .string t) HD3.out hR (by omega))
      clear hx3 hr3 hg3 ho he fz KT
      go_wp2_with (at_builtin; refine wpList_append_own _ rfl _ _ 46 rfl w.heap.size 79 i0 (.agg #[.bool false, .string ByteArray.empty, .slice none 0 0, .slice none 0 0]) 4 72 Try.underlying46 hi hz0 hz1 hz2 rfl (by decide) _ _ _ rfl (World.ownsRow.alloc HO4.out (.cells #[.bool false, .string t, .slice none 0 0, .slice none 0 0] 79)) ⟨w3.heap.size, 0, none⟩ 1 1 [.bool false, .string t, .slice none 0 0, .slice none 0 0] (by first | rfl | simp) rfl (by have := four_news (w := w3.setCell ⟨wr.heap.size, 1, none⟩ (.string t)) (x := .bool false) (y := .string t) (z := .slice none 0 0) (u' := .slice none 0 0) (t := 79); simpa [World.setCell] using this) (four_one rfl rfl rfl rfl) (by unfold maxLen; omega) (by omega) (by simp; omega) ?_)
      intro v' w5 hown' hgrow hnn
      have HR := Lib.hid (show WlRel R p m w v' (.int .i64 (k : Int)) w5 from ⟨k, S ++ [(false, t, [], [])], by omega, rfl, by have := HN.out; simp; omega,
        TD.push (by rw [HN.out]; exact HO4.out) HE4.out ((Below.refl _ _).alloc (Nat.le_refl _) _) (lnb_no _ _ _) (ib_no _ _ _) (by rw [HN.out]; exact hown') hgrow,
        sm_push HSM.out ⟨by show t.size ≤ 41; omega, Nat.zero_le _, (fun p hp => by cases hp), Nat.zero_le _⟩,
        dr_more (dr_push HD4.out hR (Nat.le_refl _) ((Below.refl _ _).alloc (Nat.le_refl _) _) HO4.out hgrow) (by omega)⟩)
      clear hown' hgrow hnn
      go_wp2_with fail
      go_roundw
      case rel => exact HR.out
      case measure => simp [intOf] <;> omega
    have npos : (0 : Int) < (n : Int) + 1 := by omega
    go_wp2_with fail
    refine (pick_any R q2 3 _ hr2 (by omega)).mono ?_
    rintro e w2 ⟨k3, rfl, k30, k31, _, hr3, hg3⟩
    have HD1 := Lib.hid (show Drawn w R p (1 + 70 * (m - (k + 1)) + 1) w2 by
      obtain ⟨q', s1, s2, s3, s4⟩ := HD2.out
      exact ⟨q2 + 1, by omega, by omega, hr3, grown_trans s4 hg3⟩)
    have HT1 := Lib.hid (HT2.out.keep hg3.size (fun k k1 k2 => hg3.block k k2 (fun e => by injection e with e; omega)))
    have z1 : w.heap.size ≤ w2.heap.size := by have := hg3.size; omega
    have q21' : p ≤ q2 + 1 := by omega
    have q22' : q2 + 1 ≤ p + (1 + 70 * (m - (k + 1))) + 1 := by omega
    clear HD2 HT2 hr2 hg3 k31 q21 q22 z0
    have HD2 := HD1
    have HT2 := HT1
    have z0 := z1
    have hr2 := hr3
    clear HD1 HT1 hr3
    generalize q2 + 1 = q2 at *
    have q21 := q21'
    have q22 := q22'
    clear q21' q22'
    by_cases g0 : k3 = 0
    · subst g0
      have KT := Lib.hid (l20Thing_any R q2 (w2.alloc (.cells #[.bool false, .string ⟨#[]⟩, .slice none 0 0, .slice none 0 0] 79)) (rdAt_alloc hr2 _) (by omega))
      have HB := Lib.hid ((Below.refl w2.heap.size w2).alloc (Nat.le_refl _) (.cells #[.bool false, .string ⟨#[]⟩, .slice none 0 0, .slice none 0 0] 79))
      clear hr2
      go_wp2_with fail
      refine KT.out.mono ?_
      rintro e w3 ⟨t, rfl, ht, q3, q31, q32, hr3, hg3⟩
      have hx3 := (hg3.block w2.heap.size (by simp) (fun e => by injection e with e; omega)).trans (heap_alloc_new w2 _)
      obtain ⟨c0, c1, c2, c3, fz⟩ := box_cells hx3
      have f1 := fz 1
      have z3 : w2.heap.size + 1 ≤ w3.heap.size := by have := hg3.size; simpa using this
      have HD3 := Lib.hid (show Drawn w R p (1 + 70 * (m - (k + 1)) + 1 + 1) w3 by
        obtain ⟨q', s1, s2, s3, s4⟩ := HD2.out
        exact ⟨q3, by omega, by omega, hr3, grown_trans s4 (grown_trans (grown_start w2 _ R) hg3)⟩)
      obtain ⟨cs, ho, he⟩ := (HT2.out.below HB.out).keep hg3.size (fun k k1 k2 => hg3.block k k2 (fun e => by injection e with e; omega))
      have hne := Lib.hid (show ∀ k, (Value.slice va (n + 1) vc).ownBlock = some k → k ≠ w2.heap.size from fun k e => by
        obtain ⟨cs', ho', _⟩ := HT2.out
        have := ((World.ownsRow.lt ho') k e).2
        omega)
      rw [HN.out] at ho
      have HO4 := Lib.hid (own_set (o := 1) (u := .string t) ho hne.out)
      have HE4 := Lib.hid (tel_set (o := 1) (u := .string t) he hx3)
      have HD4 := Lib.hid (dr_set (g := w2.heap.size) (o := 1) (u := .string t) HD3.out hR (by omega))
      clear hx3 hr3 hg3 ho he fz KT
      go_wp2_with (at_builtin; refine wpList_append_own _ rfl _ _ 46 rfl w.heap.size 79 i0 (.agg #[.bool false, .string ByteArray.empty, .slice none 0 0, .slice none 0 0]) 4 72 Try.underlying46 hi hz0 hz1 hz2 rfl (by decide) _ _ _ rfl (World.ownsRow.alloc HO4.out (.cells #[.bool false, .string t, .slice none 0 0, .slice none 0 0] 79)) ⟨w3.heap.size, 0, none⟩ 1 1 [.bool false, .string t, .slice none 0 0, .slice none 0 0] (by first | rfl | simp) rfl (by have := four_news (w := w3.setCell ⟨w2.heap.size, 1, none⟩ (.string t)) (x := .bool false) (y := .string t) (z := .slice none 0 0) (u' := .slice none 0 0) (t := 79); simpa [World.setCell] using this) (four_one rfl rfl rfl rfl) (by unfold maxLen; omega) (by omega) (by simp; omega) ?_)
      intro v' w5 hown' hgrow hnn
      have HR := Lib.hid (show WlRel R p m w v' (.int .i64 (k : Int)) w5 from ⟨k, S ++ [(false, t, [], [])], by omega, rfl, by have := HN.out; simp; omega,
        TD.push (by rw [HN.out]; exact HO4.out) HE4.out ((Below.refl _ _).alloc (Nat.le_refl _) _) (lnb_no _ _ _) (ib_no _ _ _) (by rw [HN.out]; exact hown') hgrow,
        sm_push HSM.out ⟨by show t.size ≤ 41; omega, Nat.zero_le _, (fun p hp => by cases hp), Nat.zero_le _⟩,
        dr_more (dr_push HD4.out hR (Nat.le_refl _) ((Below.refl _ _).alloc (Nat.le_refl _) _) HO4.out hgrow) (by omega)⟩)
      clear hown' hgrow hnn
      go_wp2_with fail
      go_roundw
      case rel => exact HR.out
      case measure => simp [intOf] <;> omega
    have g0' : 0 < k3 := by omega
    have HST2 := Lib.hid (show InRel R q2 (n + 1) w2.heap.size w2 (.int .i64 0) (w2.alloc (.cells #[.bool true, .string ⟨#[]⟩, .slice none 0 0, .slice none 0 0] 79)) from
      ⟨0, [], none, 0, Nat.zero_le _, rfl, Nat.zero_le _, heap_alloc_new w2 _, World.ownsRow_nil _ _ _ _, ⟨q2, Nat.le_refl _, Nat.le_refl _, rdAt_alloc hr2 _, grown_start w2 _ R⟩⟩)
    have z2 : w.heap.size ≤ w2.heap.size := by obtain ⟨_, _, _, _, g⟩ := HD2.out; exact g.size
    clear hr2
    go_wp2_with fail
    go_loopw [10] (fun s10 wr => InRel R q2 (n + 1) w2.heap.size w2 s10 wr) (fun s10 _ => n + 1 - (intOf s10).toNat)
    case atStart => exact HST2.out
    case round =>
      obtain ⟨j, N, ia, ic, hj, rfl, hN3, hx, hio, hd3⟩ := hrel
      obtain ⟨c0, c1, c2, c3, fz⟩ := box_cells hx
      have HIO := Lib.hid hio
      have HX := Lib.hid hx
      have HD3 := Lib.hid hd3
      obtain ⟨q4, q41, q42, hr4, gr4⟩ := hd3
      have HGR := Lib.hid gr4
      have zx : w2.heap.size < wr.heap.size := (Array.getElem?_eq_some_iff.1 hx).1
      clear hio gr4
      by_cases hjl : j < n + 1
      · have j1 : (j : Int) < (n : Int) + 1 := by omega
        go_wp2_with fail
        refine (pick_any R q4 _ wr hr4 (by omega)).mono ?_
        rintro e w4 ⟨k4, rfl, k40, k41, _, hr5, hg5⟩
        have D4 := Lib.hid (drawn_one9 hr5 hg5)
        by_cases g3 : k4 < 3
        rotate_left
        · clear hr4 hr5 hg5 k41 c0 c1 c2 c3 fz
          have HR := Lib.hid (in_next hjl hN3 hx HIO.out q41 q42 HGR.out (dr_more D4.out (by omega)) (by omega))
          clear hx
          go_wp2_with fail
          go_roundw
          case rel => exact HR.out
          case measure => simp [intOf] <;> omega
        go_wp2_with fail
        refine (pick_any R (q4 + 1) _ w4 hr5 (by omega)).mono ?_
        rintro e w5 ⟨k5, rfl, k50, k51, _, hr6, hg6⟩
        have D5 := Lib.hid (show Drawn wr R q4 2 w5 from ⟨q4 + 1 + 1, by omega, by omega, hr6, grown_trans hg5 hg6⟩)
        have hx5 := ((grown_trans hg5 hg6).block w2.heap.size zx (fun e => by injection e with e; omega)).trans hx
        have HIO5 := Lib.hid (row_drawn HIO.out (grown_trans hg5 hg6) (show R < w2.heap.size + 1 by omega))
        have z5 : wr.heap.size ≤ w5.heap.size := (grown_trans hg5 hg6).size
        clear hr4 hr5 hg5 hr6 hg6 k41 k51 c0 c1 c2 c3 fz
        obtain ⟨c0, c1, c2, c3, fz⟩ := box_cells hx5
        have f3 := fz 3
        by_cases g5 : k5 = 0
        rotate_left
        · have g5' : (k5 == 0) = false := by rw [beq_eq_false_iff_ne]; exact g5
          clear hx5 fz
          have HR := Lib.hid (in_next hjl hN3 hx HIO.out q41 q42 HGR.out D5.out (by omega))
          clear hx
          go_wp2_with fail
          go_roundw
          case rel => exact HR.out
          case measure => simp [intOf] <;> omega
        subst g5
        by_cases gN : N.length < 3
        rotate_left
        · have gN' : ¬ (N.length : Int) < 3 := by omega
          clear hx5 fz
          have HR := Lib.hid (in_next hjl hN3 hx HIO.out q41 q42 HGR.out D5.out (by omega))
          clear hx
          go_wp2_with fail
          go_roundw
          case rel => exact HR.out
          case measure => simp [intOf] <;> omega
        have gN' : (N.length : Int) < 3 := by omega
        clear hx5 fz
        go_wp2_with (at_builtin; refine wpList_append_own _ rfl _ _ 43 rfl (w2.heap.size + 1) 3 ii (.int .i64 0) 1 8 Try.underlying43 hii hiz0 hiz1 hiz2 rfl (by decide) _ _ _ rfl (World.ownsRow.alloc HIO5.out (.cells #[.int .i64 (j : Int)] 3)) ⟨w5.heap.size, 0, none⟩ 1 1 [.int .i64 (j : Int)] rfl rfl (one_new w5 (j : Int)) (one_one _) (by unfold maxLen; omega) (by omega) (by simp; omega) ?_)
        intro v' w6 hown' hgrow hnn
        obtain ⟨na, nc, rfl⟩ := row_form hown'
        have HR := Lib.hid (in_push hjl gN HX.out HIO.out q41 q42 HGR.out D5.out (by omega) (Nat.le_refl _) hown' hgrow)
        have ne6 : ∀ k, (Value.slice ia N.length ic).ownBlock = some k → k ≠ w2.heap.size := fun k e => by have := ((World.ownsRow.lt HIO5.out) k e).1; omega
        have d3 : w6.cell? ⟨w2.heap.size, 3, none⟩ = some (.slice ia N.length ic) := (World.cell?_of_block (a := ⟨w2.heap.size, 3, none⟩) ((hgrow.block w2.heap.size (by simp; omega) (fun e => ne6 _ e.symm rfl)).trans (Below.heap_alloc _ _ _ (by omega)))).trans c3
        have e3 : w6.frozen? ⟨w2.heap.size, 3, none⟩ = false := (World.frozen?_of_block (a := ⟨w2.heap.size, 3, none⟩) ((hgrow.block w2.heap.size (by simp; omega) (fun e => ne6 _ e.symm rfl)).trans (Below.heap_alloc _ _ _ (by omega)))).trans f3
        clear hown' hgrow hnn ne6 hx
        go_wp2_with fail
        go_roundw
        case rel => exact HR.out
        case measure => simp [intOf] <;> omega
      · obtain rfl : j = n + 1 := by omega
        have j1 : ¬ ((n + 1 : Nat) : Int) < (n : Int) + 1 := by omega
        have KS := Lib.hid (l20Script_any R q4 (N.length : Int) 0 wr hr4 (by omega) (by omega) (by omega))
        clear hr4
        go_wp2_with fail
        refine KS.out.mono ?_
        rintro e w4 ⟨L, vL, rfl, hlo, hL6, hLq, hd5⟩
        obtain ⟨la, lc, rfl⟩ := row_form hlo
        have hd5' := hd5
        obtain ⟨q5, q51, q52, hr5, hg5⟩ := hd5'
        have hx4 := (hg5.block w2.heap.size zx (fun e => by injection e with e; omega)).trans hx
        have z4 : wr.heap.size ≤ w4.heap.size := hg5.size
        have HIO4 := Lib.hid (row_drawn HIO.out hg5 (show R < w2.heap.size + 1 by omega))
        have HLO := Lib.hid hlo
        have HLX := Lib.hid (And.intro hL6 hLq)
        have HD4 := Lib.hid (show Drawn w R p (1 + 70 * (m - (k + 1)) + 1 + 60) w4 by
          obtain ⟨q', s1, s2, s3, s4⟩ := HD2.out
          exact ⟨q5, by omega, by omega, hr5, grown_trans s4 (grown_trans HGR.out hg5)⟩)
        obtain ⟨cs, ho, he⟩ := HT2.out.keep (Nat.le_trans HGR.out.size hg5.size) (fun q k1 k2 => ((grown_trans HGR.out hg5).block q k2 (fun e => by injection e with e; omega)))
        have hne := Lib.hid (show ∀ k, (Value.slice va (n + 1) vc).ownBlock = some k → k ≠ w2.heap.size from fun k e => by
          obtain ⟨cs', ho', _⟩ := HT2.out
          have := ((World.ownsRow.lt ho') k e).2
          omega)
        rw [HN.out] at ho
        have hneL := Lib.hid (show ∀ k, (Value.slice la L.length lc).ownBlock = some k → k ≠ w2.heap.size from fun k e => by have := ((World.ownsRow.lt hlo) k e).1; omega)
        have hneN := Lib.hid (show ∀ k, (Value.slice ia N.length ic).ownBlock = some k → k ≠ w2.heap.size from fun k e => by have := ((World.ownsRow.lt HIO4.out) k e).1; omega)
        have HO6 := Lib.hid (own_set (o := 2) (u := .slice la L.length lc) ho hne.out)
        have HE6 := Lib.hid (tel_set (o := 2) (u := .slice la L.length lc) he hx4)
        have HL6 := Lib.hid (LOwn.lb (show LOwn (w4.setCell ⟨w2.heap.size, 2, none⟩ (.slice la L.length lc)) wr.heap.size (.slice la L.length lc) L from own_set hlo hneL.out))
        have HN6 := Lib.hid (IOwn.ib (show IOwn (w4.setCell ⟨w2.heap.size, 2, none⟩ (.slice la L.length lc)) (w2.heap.size + 1) (.slice ia N.length ic) N from own_set HIO4.out hneN.out))
        have HD6 := Lib.hid (dr_set (g := w2.heap.size) (o := 2) (u := .slice la L.length lc) HD4.out hR (by omega))
        clear c0 c1 c2 c3 fz
        obtain ⟨c0, c1, c2, c3, fz⟩ := box_cells hx4
        have f2 := fz 2
        clear hx4 hr5 hg5 hd5 ho he fz KS hlo hL6 hLq hx
        go_wp2_with (at_builtin; refine wpList_append_own _ rfl _ _ 46 rfl w.heap.size 79 i0 (.agg #[.bool false, .string ByteArray.empty, .slice none 0 0, .slice none 0 0]) 4 72 Try.underlying46 hi hz0 hz1 hz2 rfl (by decide) _ _ _ rfl (World.ownsRow.alloc HO6.out (.cells #[.bool true, .string ⟨#[]⟩, .slice la L.length lc, .slice ia N.length ic] 79)) ⟨w4.heap.size, 0, none⟩ 1 1 [.bool true, .string ⟨#[]⟩, .slice la L.length lc, .slice ia N.length ic] (by first | rfl | simp) rfl (by have := four_news (w := w4.setCell ⟨w2.heap.size, 2, none⟩ (.slice la L.length lc)) (x := .bool true) (y := .string ⟨#[]⟩) (z := .slice la L.length lc) (u' := .slice ia N.length ic) (t := 79); simpa [World.setCell] using this) (four_one rfl rfl rfl rfl) (by unfold maxLen; omega) (by omega) (by simp; omega) ?_)
        intro v' w5 hown' hgrow hnn
        have HR := Lib.hid (show WlRel R p m w v' (.int .i64 (k : Int)) w5 from ⟨k, S ++ [(true, ⟨#[]⟩, L, N)], by omega, rfl, by have := HN.out; simp; omega,
          TD.push (by rw [HN.out]; exact HO6.out) HE6.out ((Below.refl _ _).alloc (Nat.le_refl _) _) ((lnb_grow HL6.out (show w.heap.size ≤ wr.heap.size by omega) (Nat.le_refl _)).below ((Below.refl _ _).alloc (Nat.le_refl _) _) |> fun z => lnb_grow z (Nat.le_refl _) (by simp)) ((ib_grow HN6.out (show w.heap.size ≤ w2.heap.size + 1 by omega) (Nat.le_refl _)).below ((Below.refl _ _).alloc (Nat.le_refl _) _) |> fun z => ib_grow z (Nat.le_refl _) (by simp)) (by rw [HN.out]; exact hown') hgrow,
          sm_push HSM.out ⟨Nat.zero_le _, HLX.out.1, HLX.out.2, hN3⟩,
          dr_more (dr_push HD6.out hR (Nat.le_refl _) ((Below.refl _ _).alloc (Nat.le_refl _) _) HO6.out hgrow) (by omega)⟩)
        clear hown' hgrow hnn
        go_wp2_with fail
        go_roundw
        case rel => exact HR.out
        case measure => simp [intOf] <;> omega
end Dtg
end Go.Proofs.Ytopplljilmjjgaa
