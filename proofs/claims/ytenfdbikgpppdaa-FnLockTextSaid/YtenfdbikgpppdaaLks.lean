/- The contract of the model's LockFrom, over this seat's translation: it answers with the lock that the plain function spL reads, and whether there is one; nothing that was there before the call has changed. Condition: a text of at most 1048576 bytes. -/
import Derived.Test.YtenfdbikgpppdaaLki
import Derived.Test.YtenfdbikgpppdaaVsfromC
import Derived.Test.YtenfdbikgpppdaaApp
import Derived.Deep.CutRange
import Derived.Deep.RegionHeld3
import Derived.Handy
namespace Go.Proofs.Ytenfdbikgpppdaa
open Go.RowKit Go.Sort

namespace Lk
open Cpu
/-- How far the model has read: the picks of the first lines, and what is left of them. -/
def InvS (P : List (List UInt8)) (k : Nat) (L : List Pk) : Prop := k < P.length ∧ rowsS P = (rowsS (P.drop k)).map (L ++ ·)
theorem invS_zero {P : List (List UInt8)} (h : P ≠ []) : InvS P 0 [] := ⟨List.length_pos_iff.2 h, by simp⟩
theorem invS_none {P : List (List UInt8)} {k : Nat} {L : List Pk} (h : InvS P k L) (hk : k + 1 < P.length) (hr : readS (P[k]'(by omega)) = none) : rowsS P = none := by
  rw [h.2, List.drop_eq_getElem_cons (by omega), List.drop_eq_getElem_cons hk]
  simp only [rowsS, hr]
  rfl
theorem invS_some {P : List (List UInt8)} {k : Nat} {L : List Pk} {x : Pk} (h : InvS P k L) (hk : k + 1 < P.length) (hr : readS (P[k]'(by omega)) = some x) : InvS P (k + 1) (L ++ [x]) := by
  refine ⟨hk, ?_⟩
  rw [h.2, List.drop_eq_getElem_cons (show k < P.length by omega), List.drop_eq_getElem_cons hk]
  simp only [rowsS, hr, Option.bind_some, Option.map_map]
  congr 1
  funext t
  simp
theorem invS_end {P : List (List UInt8)} {k : Nat} {L : List Pk} (h : InvS P k L) (hk : ¬ k + 1 < P.length) {x : List UInt8} (hx : P[k]? = some x) : rowsS P = if x = [] then some L else none := by
  obtain ⟨h1, rfl⟩ := List.getElem?_eq_some_iff.1 hx
  have h2 := h.2
  rw [List.drop_eq_getElem_cons h1, List.drop_of_length_le (show P.length ≤ k + 1 by omega)] at h2
  rw [h2]
  simp only [rowsS]
  split <;> simp
theorem readS_short {l : List UInt8} (h : l.length < 3) : readS l = none := by
  match l, h with
  | [], _ => rfl
  | [_], _ => rfl
  | [_, _], _ => rfl
theorem readS_long {l : List UInt8} (h : 3 ≤ l.length) : readS l = if 97 ≤ (l[0]'(by omega)).toNat ∧ (l[0]'(by omega)).toNat ≤ 104 ∧ l[1]'(by omega) = 32 then (Parse.sp (l.drop 2)).map fun v => (((l[0]'(by omega)).toNat : Int) - 97, v) else none := by
  match l, h with
  | a :: b :: c :: r, _ => rfl

/-- What the loop keeps. -/
def LsRel (P : List (List UInt8)) (g cap : Nat) (w : World) (v i : Value) (wr : World) : Prop :=
  ∃ (k : Nat) (L : List Pk), i = .int .i64 (k : Int) ∧ InvS P k L ∧ L.length ≤ k ∧ KOwn wr w.heap.size v L ∧ wr.ownsRow w.heap.size 9 1 (.slice (some ⟨g, 0, none⟩) P.length cap) P.length (P.map strV) ∧ Below w.heap.size w wr

/-- A row of texts and a row of picks are not the same. -/
theorem apart_text {w : World} {B B' n m : Nat} {u v : Value} {cs ds : List Value} (h : w.ownsRow B 58 5 u n cs) (h' : w.ownsRow B' 9 1 v m ds) : v.ownBlock = none ∨ u.ownBlock ≠ v.ownBlock := by
  rcases h.2 with ⟨rfl, _⟩ | ⟨g, cap, cur, rfl, _, hg, _⟩
  · rcases h'.2 with ⟨rfl, _⟩ | ⟨g', cap', cur', rfl, _, hg', _⟩
    · exact .inl rfl
    · exact .inr (fun e => by cases e)
  · rcases h'.2 with ⟨rfl, _⟩ | ⟨g', cap', cur', rfl, _, hg', _⟩
    · exact .inl rfl
    · refine .inr fun e => ?_
      have e' : some g = some g' := e
      injection e' with e'
      subst e'
      rw [hg] at hg'
      simp at hg'
theorem row_below {w w' : World} {B t s n : Nat} {v : Value} {cs : List Value} (h : w.ownsRow B t s v n cs) (hb : Below w.heap.size w w') : w'.ownsRow B t s v n cs := by
  refine ⟨h.1, ?_⟩
  rcases h.2 with h0 | ⟨g, cap, cur, e, hB, hg, rest⟩
  · exact .inl h0
  · exact .inr ⟨g, cap, cur, e, hB, (hb.block g (Array.getElem?_eq_some_iff.1 hg).1).trans hg, rest⟩
theorem row_mono {w : World} {B B' t s n : Nat} {v : Value} {cs : List Value} (h : w.ownsRow B t s v n cs) (hB : B' ≤ B) : w.ownsRow B' t s v n cs := by
  refine ⟨h.1, ?_⟩
  rcases h.2 with h0 | ⟨g, cap, cur, e, hb, rest⟩
  · exact .inl h0
  · exact .inr ⟨g, cap, cur, e, Nat.le_trans hB hb, rest⟩
theorem text_kept {w w' : World} {B n : Nat} {u v : Value} {cs ds : List Value} {m : Nat} {B' : Nat} (h : w.ownsRow B' 9 1 v m ds) (ho : w.ownsRow B 58 5 u n cs) (hg : w.grownBy w' u.ownBlock) : w'.ownsRow B' 9 1 v m ds :=
  h.kept hg (by
    rcases apart_text ho h with hn | hn
    · exact .inl hn
    · exact .inr fun e => hn e.symm)
/-- One piece of such a row, as it lies in memory. -/
theorem piece_cell {w : World} {B g cap : Nat} {P : List (List UInt8)} (h : w.ownsRow B 9 1 (.slice (some ⟨g, 0, none⟩) P.length cap) P.length (P.map strV)) {k : Nat} (hk : k < P.length) : w.cell? ⟨g, k, none⟩ = some (.string ⟨P[k].toArray⟩) ∧ g < w.heap.size := by
  have hlt := (World.ownsRow.lt h g rfl).2
  refine ⟨?_, hlt⟩
  rw [World.ownsRow.cellAt h k (by omega), List.getElem?_map, List.getElem?_eq_getElem hk]
  rfl

theorem specLockFrom_long (s : ByteArray) (w : World) (hs : s.size ≤ 2147483647) (h3 : 300 < s.size) :
    Calls Try.prog 19 #[.string s] w (LfPost (spL s.data.toList) w) := by
  have hl : s.data.toList.length = s.size := by simp
  have H := Lib.hid (show spL s.data.toList = none by unfold spL; rw [if_pos (by omega)])
  have HP := Lib.hid (LfPost.no' (w := w) H.out (World.ownsRow_made (e := 58) (size := 5) w #[] 0 (Nat.le_refl _) (by unfold maxLen; omega) rfl) ((Below.refl _ _).alloc (Nat.le_refl _) (.cells #[] 58)))
  clear hl
  go_enter Try.func19, Try.ntmps19
  go_wp2_with fail
  go_ret2
  exact HP.out
set_option maxRecDepth 100000 in
set_option maxHeartbeats 8000000 in
theorem specLockFrom_any (s : ByteArray) (w : World) (hs : s.size ≤ 1048576) :
    Calls Try.prog 19 #[.string s] w (LfPost (spL s.data.toList) w) := by
  have hl : s.data.toList.length = s.size := by simp
  obtain ⟨w1, hw1⟩ : ∃ V : World, V = w.alloc (.cells #[] 58) := ⟨_, rfl⟩
  have b1 : Below w.heap.size w w1 := by rw [hw1]; exact (Below.refl _ _).alloc (Nat.le_refl _) _
  have o1 : KOwn w1 w.heap.size (.slice (some ⟨w.heap.size, 0, none⟩) 0 0) [] := by
    rw [hw1]
    have := World.ownsRow_made (base := w.heap.size) (e := 58) (size := 5) w #[] 0 (by simp) (by unfold maxLen; omega) rfl
    exact this
  have HO1 := Lib.hid o1
  clear o1
  by_cases h3 : 300 < s.size
  · have H := Lib.hid (show spL s.data.toList = none by unfold spL; rw [if_pos (by omega)])
    clear hl
    have HP := Lib.hid (LfPost.no' H.out HO1.out b1)
    go_enter Try.func19, Try.ntmps19
    go_upto_region 2 with fail
    rw [← hw1]
    clear hw1
    go_wp2_with fail
    go_ret2
    exact HP.out
  · obtain ⟨i0, hi, hz0, hz1, hz2⟩ := info_parts infoPick
    have HSN := Lib.hid (spL_none (l := s.data.toList) (by omega))
    have HSE := Lib.hid (fun M => spL_eq (l := s.data.toList) (M := M) (by omega))
    have KC : Hid (∀ V, Calls Try.prog 43 #[.string s, .int .u8 10] V fun e w' => ∃ g cap, e = .returned (.slice (some ⟨g, 0, none⟩) (Parse.cut 10 s.data.toList).length cap) ∧
      w'.ownsRow V.heap.size 9 1 (.slice (some ⟨g, 0, none⟩) (Parse.cut 10 s.data.toList).length cap) (Parse.cut 10 s.data.toList).length ((Parse.cut 10 s.data.toList).map strV) ∧ Below V.heap.size V w') := Lib.hid fun V => cut_any s 10 V hs
    have hne := Parse.cut_ne 10 s.data.toList
    have hcl := cut_count 10 s.data.toList
    have hpl := piece_len 10 s.data.toList
    rw [hl] at hcl hpl
    generalize Parse.cut 10 s.data.toList = P at *
    have hP0 : 0 < P.length := List.length_pos_iff.2 hne
    have HI0 := Lib.hid (invS_zero hne)
    have HPL := Lib.hid (show ∀ k (h : k < P.length), (P[k]).length ≤ 1048576 from fun k h => by have := hpl _ (List.getElem_mem h); omega)
    clear hne hpl hl
    go_enter Try.func19, Try.ntmps19
    go_upto_region 2 with fail
    rw [← hw1]
    clear hw1
    go_wp2_with fail
    refine (KC.out _).mono ?_
    rintro e w2 ⟨g, cap, rfl, hrow, hb2⟩
    have b2 := b1.trans (hb2.mono b1.size)
    have HR2 := Lib.hid (row_mono hrow b1.size)
    have HO2 := Lib.hid (KOwn.below HO1.out hb2)
    have z2 := b2.size
    clear hrow hb2
    go_wp2_with fail
    go_loopw [4, 6] (fun v i wr => LsRel P g cap w v i wr) (fun _ i _ => P.length - (intOf i).toNat)
    case atStart => exact ⟨0, [], rfl, HI0.out, Nat.le_refl _, HO2.out, HR2.out, b2⟩
    case round =>
      obtain ⟨k, L, rfl, hinv, hL, hown, hrow, hb⟩ := hrel
      obtain ⟨va, vc, hv, hx⟩ := id (KOwn.pb hown).at
      subst hv
      have hk := hinv.1
      obtain ⟨hcell, hgl⟩ := piece_cell hrow hk
      have HAT := Lib.hid (KOwn.pb hown).at
      have HI := Lib.hid hinv
      have HO := Lib.hid hown
      have HR := Lib.hid hrow
      have hlen := HPL.out k hk
      have hbz := hb.size
      clear hx hinv hown hrow b2 z2
      obtain ⟨xb, hxb⟩ : ∃ xb : ByteArray, xb = ⟨(P[k]).toArray⟩ := ⟨_, rfl⟩
      have hxl : xb.data.toList = P[k] := by rw [hxb]
      have hxz : xb.size = (P[k]).length := by rw [hxb]; rfl
      rw [← hxb] at hcell
      have HXL := Lib.hid hxl
      have HXZ := Lib.hid hxz
      rw [← hxz] at hlen
      clear hxb hxl hxz
      have i0' : (0 : Int) ≤ (k : Int) := by omega
      have i1' : (k : Int) < (P.length : Int) := by omega
      by_cases hlt : k + 1 < P.length
      · have hlI : (k : Int) < (P.length : Int) - 1 := by omega
        have hlI2 : (k : Int) + 1 < (P.length : Int) := by omega
        by_cases hx3 : xb.size < 3
        · have HN := Lib.hid (show spL s.data.toList = none from HSN.out (invS_none HI.out hlt (readS_short (by rw [← HXZ.out]; exact hx3))))
          go_wp2_with fail
          go_ret2
          exact LfPost.no' HN.out (World.ownsRow_made wr #[] 0 hbz (by unfold maxLen; omega) rfl) (hb.alloc hbz _)
        · have hRS := readS_long (l := P[k]) (by rw [← HXZ.out]; omega)
          have g0 : (P[k])[0]'(by rw [← HXZ.out]; omega) = xb[0]'(by omega) := by simp only [← HXL.out]; rw [Array.getElem_toList]; rfl
          have g1 : (P[k])[1]'(by rw [← HXZ.out]; omega) = xb[1]'(by omega) := by simp only [← HXL.out]; rw [Array.getElem_toList]; rfl
          rw [g0, g1] at hRS
          clear g0 g1
          have hx3' : 3 ≤ xb.size := by omega
          by_cases c0 : xb[0].toNat < 97
          · have HN := Lib.hid (show spL s.data.toList = none from HSN.out (invS_none HI.out hlt (by rw [hRS, if_neg (by omega)])))
            have c0' : decide ((xb[0].toNat : Int) < 97) = true := decide_eq_true (by omega)
            clear hRS
            go_wp2_with fail
            go_ret2
            exact LfPost.no' HN.out (World.ownsRow_made wr #[] 0 hbz (by unfold maxLen; omega) rfl) (hb.alloc hbz _)
          by_cases c1 : 104 < xb[0].toNat
          · have HN := Lib.hid (show spL s.data.toList = none from HSN.out (invS_none HI.out hlt (by rw [hRS, if_neg (by omega)])))
            have c0' : decide ((xb[0].toNat : Int) < 97) = false := decide_eq_false (by omega)
            have c1' : decide (104 < (xb[0].toNat : Int)) = true := decide_eq_true (by omega)
            clear hRS
            go_wp2_with fail
            go_ret2
            exact LfPost.no' HN.out (World.ownsRow_made wr #[] 0 hbz (by unfold maxLen; omega) rfl) (hb.alloc hbz _)
          have c0' : decide ((xb[0].toNat : Int) < 97) = false := decide_eq_false (by omega)
          have c1' : decide (104 < (xb[0].toNat : Int)) = false := decide_eq_false (by omega)
          by_cases c2 : xb[1] = 32
          · have c2' : ((xb[1].toNat : Int) != 32) = false := by rw [c2]; rfl
            rw [if_pos ⟨by omega, by omega, c2⟩] at hRS
            have hx : (xb.extract 2 xb.size).data.toList = (P[k]).drop 2 := by
              rw [Lib.extract_data, List.take_of_length_le (by simp), HXL.out]
            have hxs : (xb.extract 2 xb.size).size ≤ 1048576 := by simp only [ByteArray.size_extract]; omega
            have KF : Hid (∀ V, Calls Try.prog 30 #[.string (xb.extract 2 xb.size)] V fun e w' => e = .returned (ans (Parse.sp ((P[k]).drop 2))) ∧ Below V.heap.size V w') := Lib.hid fun V => by
              have := specFrom_any (xb.extract 2 xb.size) V hxs
              rwa [hx] at this
            clear hx hxs c2
            rcases e : Parse.sp ((P[k]).drop 2) with _ | ⟨a, b, c, d⟩
            · have HN := Lib.hid (show spL s.data.toList = none from HSN.out (invS_none HI.out hlt (by rw [hRS, e]; rfl)))
              rw [e] at KF
              simp only [ans] at KF
              clear e hRS
              go_wp2_with fail
              refine (KF.out _).mono ?_
              rintro e w3 ⟨rfl, hb3⟩
              have b3 := hb.trans (hb3.mono hbz)
              have z3 := b3.size
              have z3' : wr.heap.size ≤ w3.heap.size := hb3.size
              clear hb hb3
              go_wp2_with fail
              go_ret2
              have z3a : w.heap.size ≤ (w3.alloc (.cells #[.int .i64 0, .int .i64 0, .int .i64 0, .int .i64 0] 47)).heap.size := by simp; omega
              have HQ : KOwn ((w3.alloc (.cells #[.int .i64 0, .int .i64 0, .int .i64 0, .int .i64 0] 47)).alloc (.cells #[] 58)) w.heap.size (.slice (some ⟨w3.heap.size + 1, 0, none⟩) 0 0) [] := by
                have h : KOwn ((w3.alloc (.cells #[.int .i64 0, .int .i64 0, .int .i64 0, .int .i64 0] 47)).alloc (.cells #[] 58)) w.heap.size (.slice (some ⟨(w3.alloc (.cells #[.int .i64 0, .int .i64 0, .int .i64 0, .int .i64 0] 47)).heap.size, 0, none⟩) 0 0) [] := World.ownsRow_made (w3.alloc (.cells #[.int .i64 0, .int .i64 0, .int .i64 0, .int .i64 0] 47)) #[] 0 z3a (by unfold maxLen; omega) rfl
                rwa [show (w3.alloc (.cells #[.int .i64 0, .int .i64 0, .int .i64 0, .int .i64 0] 47)).heap.size = w3.heap.size + 1 by simp] at h
              exact LfPost.no' HN.out HQ ((b3.alloc z3 _).alloc z3a _)
            · have HV := Lib.hid (invS_some (x := ((xb[0].toNat : Int) - 97, a, b, c, d)) HI.out hlt (by rw [hRS, e]; rfl))
              rw [e] at KF
              simp only [ans] at KF
              clear e hRS
              have hb0 : xb[0].toNat < 256 := xb[0].toNat_lt
              go_wp2_with fail
              refine (KF.out _).mono ?_
              rintro e w3 ⟨rfl, hb3⟩
              have b3 := hb.trans (hb3.mono hbz)
              have HO3 := Lib.hid (KOwn.below HO.out hb3)
              have HR3 := Lib.hid (row_below HR.out hb3)
              have z3 := b3.size
              clear hb hb3
              have hp0 : 0 < xb.size := by omega
              have ew0 : IntKind.u8.wrap ((xb[0].toNat : Int) - 97) = (xb[0].toNat : Int) - 97 := IntWalk.u8_in _ (by omega)
              have ew1 : IntKind.i64.wrap ((xb[0].toNat : Int) - 97) = (xb[0].toNat : Int) - 97 := IntWalk.i64_in _ (by omega)
              obtain ⟨w4, hw4⟩ : ∃ V : World, V = w3.alloc (.cells #[.int .i64 a, .int .i64 b, .int .i64 c, .int .i64 d] 47) := ⟨_, rfl⟩
              have b34 : Below w3.heap.size w3 w4 := by rw [hw4]; exact (Below.refl _ _).alloc (Nat.le_refl _) _
              have p0 : w4.cell? ⟨w3.heap.size, 0, none⟩ = some (.int .i64 a) := by rw [hw4]; go_simp
              have p1 : w4.cell? ⟨w3.heap.size, 1, none⟩ = some (.int .i64 b) := by rw [hw4]; go_simp
              have p2 : w4.cell? ⟨w3.heap.size, 2, none⟩ = some (.int .i64 c) := by rw [hw4]; go_simp
              have p3 : w4.cell? ⟨w3.heap.size, 3, none⟩ = some (.int .i64 d) := by rw [hw4]; go_simp
              have hz34 : w3.heap.size < w4.heap.size := by rw [hw4]; simp
              have b4 := b3.trans (b34.mono z3)
              have z4 := b4.size
              have HO4 := Lib.hid (KOwn.below HO3.out b34)
              have HR4 := Lib.hid (row_below HR3.out b34)
              have HO5 := Lib.hid (KOwn.below HO4.out ((Below.refl w4.heap.size w4).alloc (Nat.le_refl _) (.cells #[.int .i64 ((xb[0].toNat : Int) - 97), .int .i64 a, .int .i64 b, .int .i64 c, .int .i64 d] 58)))
              have HO6 := Lib.hid (KOwn.below HO4.out (((Below.refl w4.heap.size w4).alloc (Nat.le_refl _) (.cells #[.int .i64 ((xb[0].toNat : Int) - 97), .int .i64 a, .int .i64 b, .int .i64 c, .int .i64 d] 58)).drew))
              have HO7 := Lib.hid (KOwn.below HO4.out (((Below.refl w4.heap.size w4).drew).alloc (Nat.le_refl _) (.cells #[.int .i64 ((xb[0].toNat : Int) - 97), .int .i64 a, .int .i64 b, .int .i64 c, .int .i64 d] 58)))
              have HR5 := Lib.hid (row_below HR4.out ((Below.refl w4.heap.size w4).alloc (Nat.le_refl _) (.cells #[.int .i64 ((xb[0].toNat : Int) - 97), .int .i64 a, .int .i64 b, .int .i64 c, .int .i64 d] 58)))
              have HR6 := Lib.hid (row_below HR4.out (((Below.refl w4.heap.size w4).alloc (Nat.le_refl _) (.cells #[.int .i64 ((xb[0].toNat : Int) - 97), .int .i64 a, .int .i64 b, .int .i64 c, .int .i64 d] 58)).drew))
              have HR7 := Lib.hid (row_below HR4.out (((Below.refl w4.heap.size w4).drew).alloc (Nat.le_refl _) (.cells #[.int .i64 ((xb[0].toNat : Int) - 97), .int .i64 a, .int .i64 b, .int .i64 c, .int .i64 d] 58)))
              have hvo : ∀ j, (Value.slice va L.length vc).ownBlock = some j → j ≠ w3.heap.size := fun j e => by have := (World.ownsRow.lt HO3.out j e).2; omega
              have HK7 := Lib.hid (fun (x7 : World) (hg : ((w4.alloc (.cells #[.int .i64 ((xb[0].toNat : Int) - 97), .int .i64 a, .int .i64 b, .int .i64 c, .int .i64 d] 58)).drew).grownBy x7 (Value.slice va L.length vc).ownBlock) (j : Nat) (hj : j < 5) => show x7.cell? ⟨w3.heap.size, j, none⟩ = w4.cell? ⟨w3.heap.size, j, none⟩ from World.cell?_of_block ((hg.block w3.heap.size (by show w3.heap.size < (w4.alloc (.cells #[.int .i64 ((xb[0].toNat : Int) - 97), .int .i64 a, .int .i64 b, .int .i64 c, .int .i64 d] 58)).heap.size; simp; omega) (fun e => hvo _ e.symm rfl)).trans (((Below.refl w4.heap.size w4).alloc (Nat.le_refl _) (.cells #[.int .i64 ((xb[0].toNat : Int) - 97), .int .i64 a, .int .i64 b, .int .i64 c, .int .i64 d] 58)).block _ hz34)))
              clear hvo
              clear b3 b34
              go_upto_region 12 with fail
              rw [← hw4]
              clear hw4
              go_wp2_with fail
              go_region_held3 (fun V => V.cell? ⟨w3.heap.size, 0, none⟩ = some (.int .i64 a) ∧ V.cell? ⟨w3.heap.size, 1, none⟩ = some (.int .i64 b) ∧ V.cell? ⟨w3.heap.size, 2, none⟩ = some (.int .i64 c) ∧ V.cell? ⟨w3.heap.size, 3, none⟩ = some (.int .i64 d)) (go_keep)
                (first
                  | (refine step_append_rows _ rfl (.tmp 56) (.tmp 63) 26 rfl w.heap.size 58 i0 (.agg #[.int .i64 0, .int .i64 0, .int .i64 0, .int .i64 0, .int .i64 0]) 5 40 Try.underlying26 hi hz0 hz1 hz2 rfl (by decide) (.slice va L.length vc) L.length (pcl L) (by rfl) (by first | exact HO5.out | exact HO6.out | exact HO7.out) (some ⟨w4.heap.size, 0, none⟩) 1 1 [.int .i64 ((xb[0].toNat : Int) - 97), .int .i64 a, .int .i64 b, .int .i64 c, .int .i64 d] (by rfl) rfl (fun e => by cases e) (fun ad e j u hu => by cases e; exact pick_new w4 _ a b c d j u hu) (pick_one _ _ _ _ _) (by unfold maxLen; omega) (by omega) (by first | omega | (simp; done) | (simp; omega)) ?_; intro a7 c7 x7 hown7 hgrow7 hat7; have n7 : Below w.heap.size w x7 := Below.grown (by go_grown) hgrow7 (by first | omega | (simp; done) | (simp; omega)) (fun k' e => (World.ownsRow.lt HO4.out k' e).1); have HT7 := Lib.hid (show x7.ownsRow w.heap.size 9 1 (.slice (some ⟨g, 0, none⟩) P.length cap) P.length (P.map strV) from text_kept (by first | exact HR5.out | exact HR6.out | exact HR7.out) (by first | exact HO5.out | exact HO6.out | exact HO7.out) hgrow7); have r0 : x7.cell? ⟨w3.heap.size, 0, none⟩ = some (.int .i64 a) := (HK7.out x7 hgrow7 0 (by omega)).trans p0; have r1 : x7.cell? ⟨w3.heap.size, 1, none⟩ = some (.int .i64 b) := (HK7.out x7 hgrow7 1 (by omega)).trans p1; have r2 : x7.cell? ⟨w3.heap.size, 2, none⟩ = some (.int .i64 c) := (HK7.out x7 hgrow7 2 (by omega)).trans p2; have r3 : x7.cell? ⟨w3.heap.size, 3, none⟩ = some (.int .i64 d) := (HK7.out x7 hgrow7 3 (by omega)).trans p3; have HN7 := Lib.hid n7; have HW7 := Lib.hid hown7; clear hown7 hgrow7 hat7 n7)
                  | fail)
              all_goals
                have HQ := Lib.hid (show LsRel P g cap w (.slice a7 (L.length + 1) c7) (.int .i64 ((k : Int) + 1)) x7 from ⟨k + 1, _, by go_num, HV.out, by simp; omega, KOwn.push HW7.out, HT7.out, HN7.out⟩)
                go_wp2_with fail
                go_roundw
                case rel => exact HQ.out
                case measure => simp [intOf]; omega
          · have c2' : ((xb[1].toNat : Int) != 32) = true := by
              have : ¬ (xb[1].toNat : Int) = 32 := fun e => c2 (UInt8.toNat_inj.1 (by have h10 : (32 : UInt8).toNat = 32 := rfl; omega))
              simpa [bne_iff_ne] using this
            have HN := Lib.hid (show spL s.data.toList = none from HSN.out (invS_none HI.out hlt (by rw [hRS, if_neg (fun e => c2 e.2.2)])))
            clear hRS c2
            go_wp2_with fail
            go_ret2
            exact LfPost.no' HN.out (World.ownsRow_made wr #[] 0 hbz (by unfold maxLen; omega) rfl) (hb.alloc hbz _)
      · have hlI : ¬ (k : Int) < (P.length : Int) - 1 := by omega
        have hkp : (P.length : Int) - 1 = (k : Int) := by omega
        have HE := Lib.hid (invS_end HI.out hlt (List.getElem?_eq_getElem hk))
        have KP : Hid (∀ V, PkAt V V.heap.size (.slice va L.length vc) L → Calls Try.prog 34 #[.slice va L.length vc] V fun e w' => e = .returned (.bool (pkOk L)) ∧ Below V.heap.size V w') := Lib.hid fun V g => specPicksOk_any _ L V (by omega) g
        by_cases hx0 : P[k] = []
        · have hxe : xb = ⟨#[]⟩ := by
            apply ByteArray.ext
            apply Array.toList_inj.1
            rw [HXL.out, hx0]
          have HRO := Lib.hid (show rowsS P = some L by rw [HE.out, if_pos hx0])
          subst hxe
          clear hx0
          rcases hok : pkOk L
          · have HN := Lib.hid (show spL s.data.toList = none by rw [HSE.out _ HRO.out, hok]; rfl)
            rw [hok] at KP
            clear hok
            go_wp2_with fail
            refine (KP.out _ HAT.out).mono ?_
            rintro e w3 ⟨rfl, hb3⟩
            have b3 := hb.trans (hb3.mono hbz)
            have z3 := b3.size
            clear hb hb3
            go_wp2_with fail
            go_ret2
            exact LfPost.no' HN.out (World.ownsRow_made w3 #[] 0 z3 (by unfold maxLen; omega) rfl) (b3.alloc z3 _)
          · have HN := Lib.hid (show spL s.data.toList = some L by rw [HSE.out _ HRO.out, hok]; rfl)
            rw [hok] at KP
            clear hok
            go_wp2_with fail
            refine (KP.out _ HAT.out).mono ?_
            rintro e w3 ⟨rfl, hb3⟩
            have HP := Lib.hid (LfPost.yes (w := w) HN.out (KOwn.below HO.out hb3) (hb.trans (hb3.mono hbz)))
            clear hb hb3
            go_wp2_with fail
            go_ret2
            exact HP.out
        · have HN := Lib.hid (show spL s.data.toList = none from HSN.out (by rw [HE.out, if_neg hx0]))
          have hq0 : xb.toList ≠ [] := fun e => hx0 (by rw [← HXL.out, ← ByteArray.toList_eq, e])
          have hq1 : xb.toList.isEmpty = false := by simpa using hq0
          have hq2 : (xb.toList == (⟨#[]⟩ : ByteArray).toList) = false := by rw [beq_eq_false_iff_ne, ByteArray.toList_eq (⟨#[]⟩ : ByteArray)]; exact hq0
          have hq3 : (xb.toList == []) = false := by rw [beq_eq_false_iff_ne]; exact hq0
          clear hx0
          go_wp2_with fail
          go_ret2
          exact LfPost.no' HN.out (World.ownsRow_made wr #[] 0 hbz (by unfold maxLen; omega) rfl) (hb.alloc hbz _)
end Lk
end Go.Proofs.Ytenfdbikgpppdaa
