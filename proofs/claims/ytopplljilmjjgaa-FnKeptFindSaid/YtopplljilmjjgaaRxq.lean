/- Contracts of the program's functions that run one line, over this seat's translation: readsWith, textBehind, linesPassed, ranOn: what comes of a line is told by stp; nothing that was there before a call has changed. Conditions: the line is one for the inputs, the texts have at most 40 bytes. -/
import Derived.Test.YtopplljilmjjgaaRxm
import Derived.Test.YtopplljilmjjgaaRnw
import Derived.Test.YtopplljilmjjgaaGw
import Derived.Handy
namespace Go.Proofs.Ytopplljilmjjgaa
open Go.RowKit Go.Sort
namespace Rx
open Rnw
/-- The own block of what comes of a run. -/
def RnBlk (w : World) (g : Nat) (c : Int) (o : ByteArray) (v : Value) : Prop := w.heap[g]? = some (.cells #[.int .i64 c, .string o, v] 144 (0, 0))
theorem RnBlk.lt {w : World} {g : Nat} {c : Int} {o : ByteArray} {v : Value} (h : RnBlk w g c o v) : g < w.heap.size := (Array.getElem?_eq_some_iff.1 h).1
theorem RnBlk.new (w : World) (c : Int) (o : ByteArray) (v : Value) : RnBlk (w.alloc (.cells #[.int .i64 c, .string o, v] 144)) w.heap.size c o v := heap_alloc_new w _
theorem RnBlk.below {w w' : World} {g : Nat} {c : Int} {o : ByteArray} {v : Value} (h : RnBlk w g c o v) (hb : Below w.heap.size w w') : RnBlk w' g c o v := (hb.block _ h.lt).trans h
theorem RnBlk.grown {w w' : World} {g : Nat} {c : Int} {o : ByteArray} {v : Value} {r : Option Nat} (h : RnBlk w g c o v) (hb : w.grownBy w' r) (hne : r ≠ some g) : RnBlk w' g c o v := (hb.block _ h.lt (fun e => hne e.symm)).trans h
theorem RnBlk.alloc {w : World} {g : Nat} {c : Int} {o : ByteArray} {v : Value} (h : RnBlk w g c o v) (x : Obj) : RnBlk (w.alloc x) g c o v := h.below ((Below.refl _ _).alloc (Nat.le_refl _) x)
theorem RnBlk.cells {w : World} {g : Nat} {c : Int} {o : ByteArray} {v : Value} (h : RnBlk w g c o v) :
    w.cell? ⟨g, 0, none⟩ = some (.int .i64 c) ∧ w.cell? ⟨g, 1, none⟩ = some (.string o) ∧ w.cell? ⟨g, 2, none⟩ = some v ∧ w.frozen? ⟨g, 0, none⟩ = false ∧ w.frozen? ⟨g, 1, none⟩ = false ∧ w.frozen? ⟨g, 2, none⟩ = false := by
  refine ⟨?_, ?_, ?_, ?_, ?_, ?_⟩
  · rw [cell_of_row w g 0 _ _ (0, 0) h]; rfl
  · rw [cell_of_row w g 1 _ _ (0, 0) h]; rfl
  · rw [cell_of_row w g 2 _ _ (0, 0) h]; rfl
  · simp [World.frozen?, show w.heap[g]? = _ from h]
  · simp [World.frozen?, show w.heap[g]? = _ from h]
  · simp [World.frozen?, show w.heap[g]? = _ from h]
theorem RnBlk.set0 {w : World} {g : Nat} {c d : Int} {o : ByteArray} {v : Value} (h : RnBlk w g c o v) : RnBlk (w.setCell ⟨g, 0, none⟩ (.int .i64 d)) g d o v := by
  unfold RnBlk at h ⊢
  simp [World.setCell, Array.getElem?_modify, h]
theorem RnBlk.set1 {w : World} {g : Nat} {c : Int} {o p : ByteArray} {v : Value} (h : RnBlk w g c o v) : RnBlk (w.setCell ⟨g, 1, none⟩ (.string p)) g c p v := by
  unfold RnBlk at h ⊢
  simp [World.setCell, Array.getElem?_modify, h]
theorem RnBlk.set2 {w : World} {g : Nat} {c : Int} {o : ByteArray} {v u : Value} (h : RnBlk w g c o v) : RnBlk (w.setCell ⟨g, 2, none⟩ u) g c o u := by
  unfold RnBlk at h ⊢
  simp [World.setCell, Array.getElem?_modify, h]
theorem RnBlk.other {w : World} {g k x : Nat} {c : Int} {o : ByteArray} {v u : Value} (h : RnBlk w g c o v) (hne : g ≠ k) : RnBlk (w.setCell ⟨k, x, none⟩ u) g c o v := (Below.heap_setCell w ⟨k, x, none⟩ u g hne).trans h
/-- The block of a line that a function boxed. -/
def LnBx (w : World) (g : Nat) (n a b : Int) (t : ByteArray) : Prop := w.heap[g]? = some (.cells #[.int .i64 n, .int .i64 a, .int .i64 b, .string t] 99 (0, 0))
theorem LnBx.lt {w : World} {g : Nat} {n a b : Int} {t : ByteArray} (h : LnBx w g n a b t) : g < w.heap.size := (Array.getElem?_eq_some_iff.1 h).1
theorem LnBx.new (w : World) (n a b : Int) (t : ByteArray) : LnBx (w.alloc (.cells #[.int .i64 n, .int .i64 a, .int .i64 b, .string t] 99)) w.heap.size n a b t := heap_alloc_new w _
theorem LnBx.below {w w' : World} {g : Nat} {n a b : Int} {t : ByteArray} (h : LnBx w g n a b t) (hb : Below w.heap.size w w') : LnBx w' g n a b t := (hb.block _ h.lt).trans h
theorem LnBx.alloc {w : World} {g : Nat} {n a b : Int} {t : ByteArray} (h : LnBx w g n a b t) (x : Obj) : LnBx (w.alloc x) g n a b t := h.below ((Below.refl _ _).alloc (Nat.le_refl _) x)
theorem LnBx.grown {w w' : World} {g : Nat} {n a b : Int} {t : ByteArray} {r : Option Nat} (h : LnBx w g n a b t) (hb : w.grownBy w' r) (hne : r ≠ some g) : LnBx w' g n a b t := (hb.block _ h.lt (fun e => hne e.symm)).trans h
theorem LnBx.other {w : World} {g k x : Nat} {n a b : Int} {t : ByteArray} {u : Value} (h : LnBx w g n a b t) (hne : g ≠ k) : LnBx (w.setCell ⟨k, x, none⟩ u) g n a b t := (Below.heap_setCell w ⟨k, x, none⟩ u g hne).trans h
theorem LnBx.cells {w : World} {g : Nat} {n a b : Int} {t : ByteArray} (h : LnBx w g n a b t) :
    w.cell? ⟨g, 0, none⟩ = some (.int .i64 n) ∧ w.cell? ⟨g, 1, none⟩ = some (.int .i64 a) ∧ w.cell? ⟨g, 2, none⟩ = some (.int .i64 b) ∧ w.cell? ⟨g, 3, none⟩ = some (.string t) := by
  refine ⟨?_, ?_, ?_, ?_⟩
  · rw [cell_of_row w g 0 _ _ (0, 0) h]; rfl
  · rw [cell_of_row w g 1 _ _ (0, 0) h]; rfl
  · rw [cell_of_row w g 2 _ _ (0, 0) h]; rfl
  · rw [cell_of_row w g 3 _ _ (0, 0) h]; rfl

theorem iown_below {w w' : World} {B : Nat} {v : Value} {N : List Int} (h : IOwn w B v N) (hb : Below w.heap.size w w') : IOwn w' B v N := by
  refine ⟨h.1, ?_⟩
  rcases h.2 with hn | ⟨g, cap, cur, hv, hb', hg, rest⟩
  · exact .inl hn
  · exact .inr ⟨g, cap, cur, hv, hb', (hb.block g (Array.getElem?_eq_some_iff.1 hg).1).trans hg, rest⟩
set_option maxRecDepth 100000 in
set_option maxHeartbeats 4000000 in
theorem readsWith_any (v : Value) (R : List Int) (x : Int) (w : World) (hl : R.length ≤ 1000) (h : InAt w w.heap.size v R) :
    Calls Try.prog 143 #[v, .int .i64 x] w fun e w' => ∃ v', e = .returned v' ∧ IOwn w' w.heap.size v' (addR R x) ∧ Below w.heap.size w w' := by
  obtain ⟨i0, hi, hz0, hz1, hz2⟩ := info_parts infoInt
  obtain ⟨ao, cap, rfl, hx⟩ := id h
  have l1 : (ints R).length = R.length * 1 := by simp [ints]
  have l2 : ao = none → R.length = 0 := by
    intro e
    rcases hx with rfl | ⟨b, o, rfl, _⟩
    · rfl
    · cases e
  have l3 : ∀ ad, ao = some ad → ∀ j u, (ints R)[j]? = some u → w.cell? (ad.add j) = some u := by
    intro ad e j u hu
    rcases hx with rfl | ⟨b, o, rfl, hB, hc⟩
    · simp [ints] at hu
    · injection e with e
      subst e
      obtain ⟨hj, rfl⟩ := List.getElem?_eq_some_iff.1 hu
      have hj' : j < R.length := by simpa [ints] using hj
      rw [Obt.plain_add']
      simpa [ints] using hc j hj'
  have l4 : ∀ u ∈ ints R, u.oneCell' = true := by
    intro u hu
    obtain ⟨x, _, rfl⟩ := List.mem_map.1 hu
    rfl
  have hown0 : w.ownsRow w.heap.size 3 1 (.slice none 0 0) 0 [] := World.ownsRow_nil _ _ _ _
  have KM := Lib.hid (fun a1 c1 V (g : InAt V V.heap.size (.slice a1 R.length c1) R) => numberAmong_any (.slice a1 R.length c1) R x V (by omega) g)
  have HA := Lib.hid (show addR R x = if x ∈ R then R else R ++ [x] from rfl)
  clear h hx
  go_enter Try.func143, Try.ntmps143
  go_wp2_with (at_builtin; refine Ap2.wpList_append _ rfl (.tmp 6) (.tmp 7) 43 rfl w.heap.size 3 i0 (.int .i64 0) 1 8 Try.underlying43 hi hz0 hz1 hz2 rfl (by decide) _ _ [] rfl hown0 ao R.length cap (ints R) (by rfl) l1 l2 l3 l4 (by unfold maxLen; omega) (by omega) (Nat.le_refl _) ?_)
  intro a1 c1 w1 hown1 hgrow1 hat1
  have n1 : Below w.heap.size w w1 := Below.grown (Below.refl _ _) hgrow1 (Nat.le_refl _) (fun k e => by cases e)
  have o1 : IOwn w1 w.heap.size (.slice a1 R.length c1) R := by simpa using hown1
  have HO := Lib.hid o1
  have z1 := n1.size
  clear hown1 hgrow1 hat1 hown0 l1 l2 l3 l4 o1
  by_cases hm : x ∈ R
  · have HE := Lib.hid (show addR R x = R by rw [HA.out, if_pos hm])
    have K := Lib.hid (KM.out a1 c1 w1 (IOwn.ib HO.out).at)
    rw [decide_eq_true hm] at K
    clear hm
    go_wp2_with fail
    refine K.out.mono ?_
    rintro e w2 ⟨rfl, hb⟩
    have o2 := Lib.hid (iown_below HO.out hb)
    have b2 := n1.trans (hb.mono z1)
    clear hb
    go_wp2_with fail
    go_ret
    exact ⟨_, rfl, by rw [HE.out]; exact o2.out, b2⟩
  · have HE := Lib.hid (show addR R x = R ++ [x] by rw [HA.out, if_neg hm])
    have K := Lib.hid (KM.out a1 c1 w1 (IOwn.ib HO.out).at)
    rw [decide_eq_false hm] at K
    clear hm
    go_wp2_with fail
    refine K.out.mono ?_
    rintro e w2 ⟨rfl, hb⟩
    have o2 := iown_below HO.out hb
    have b2 := n1.trans (hb.mono z1)
    have z2 := b2.size
    clear hb
    go_wp2_with (at_builtin; refine wpList_append_own _ rfl _ _ 43 rfl w.heap.size 3 i0 (.int .i64 0) 1 8 Try.underlying43 hi hz0 hz1 hz2 rfl (by decide) _ _ _ rfl (iown_below o2 ((Below.refl w2.heap.size w2).alloc (Nat.le_refl _) (.cells #[.int .i64 x] 3))) ⟨w2.heap.size, 0, none⟩ 1 1 [.int .i64 x] rfl rfl (one_new w2 x) (one_one _) (by unfold maxLen; omega) (by omega) (by simp; omega) ?_)
    intro v' w5 hown' hgrow hnn
    have o5 := Lib.hid (show IOwn w5 w.heap.size v' (R ++ [x]) from IOwn.push hown')
    have b5 := IOwn.gone o2 b2 z2 hgrow
    clear hown' hgrow hnn o2 b2
    go_wp2_with fail
    go_ret
    exact ⟨_, rfl, by rw [HE.out]; exact o5.out, b5⟩

theorem inp_at {I : List ByteArray} {n b : Int} {j : Nat} {t ti : ByteArray} (h : I[j]? = some ti) : inp I (n, (j : Int), b, t) = ti := by
  unfold inp
  simp [h]

set_option maxRecDepth 100000 in
set_option maxHeartbeats 2000000 in
theorem behind_read (vI : Value) (I : List ByteArray) (j : Nat) (b : Int) (t ti out : ByteArray) (w : World) (hI : I.length ≤ 5) (hj : I[j]? = some ti) (ht : ti.size ≤ 40) (ho : out.size ≤ 40) (h : Obl.StAt w w.heap.size vI I) :
    Calls Try.prog 145 #[.string out, line 0 (j : Int) b t, vI] w fun e w' => e = .returned (.string (out ++ ti)) ∧ Below w.heap.size w w' := by
  obtain ⟨hlt, hxy⟩ := List.getElem?_eq_some_iff.1 hj
  obtain ⟨a, cap, rfl, h⟩ := h
  rcases h with h | ⟨bI, oI, rfl, hB, hc⟩
  · subst h
    exact absurd hlt (by simp)
  have e0 := hc j hlt
  rw [hxy] at e0
  clear hc hxy hj
  have i0 : (0 : Int) ≤ (j : Int) := by omega
  have i1 : (j : Int) < (I.length : Int) := by omega
  have n1 : ¬ 9223372036854775807 < out.size + ti.size := by omega
  have hne : bI ≠ w.heap.size := by omega
  go_enter Try.func145, Try.ntmps145
  go_wp2
  go_ret
  exact ⟨rfl, (Below.refl _ _).alloc (Nat.le_refl _) _⟩
set_option maxRecDepth 100000 in
set_option maxHeartbeats 2000000 in
theorem behind_put (vI : Value) (a b : Int) (t out : ByteArray) (w : World) (ht : t.size ≤ 8) (ho : out.size ≤ 40) :
    Calls Try.prog 145 #[.string out, line 1 a b t, vI] w fun e w' => e = .returned (.string (out ++ t)) ∧ Below w.heap.size w w' := by
  have n1 : ¬ 9223372036854775807 < out.size + t.size := by omega
  go_enter Try.func145, Try.ntmps145
  go_wp2
  go_ret
  exact ⟨rfl, (Below.refl _ _).alloc (Nat.le_refl _) _⟩
set_option maxRecDepth 100000 in
set_option maxHeartbeats 2000000 in
theorem behind_turn (vI : Value) (a b : Int) (t out : ByteArray) (w : World) (ho : out.size ≤ 40) :
    Calls Try.prog 145 #[.string out, line 3 a b t, vI] w fun e w' => e = .returned (.string (tnd out)) ∧ Below w.heap.size w w' := by
  have K := Lib.hid fun V => textTurned_any out V (by omega)
  go_enter Try.func145, Try.ntmps145
  go_wp2_with (go_at_call 146; refine (K.out _).mono ?_; rintro e w2 ⟨rfl, rfl⟩)
  go_ret
  exact ⟨rfl, (Below.refl _ _).alloc (Nat.le_refl _) _⟩
set_option maxRecDepth 100000 in
set_option maxHeartbeats 2000000 in
theorem behind_keep (vI : Value) (a b : Int) (t out : ByteArray) (w : World) (h0 : 0 ≤ a) :
    Calls Try.prog 145 #[.string out, line 4 a b t, vI] w fun e w' => e = .returned (.string (cutT out a)) ∧ Below w.heap.size w w' := by
  have K := Lib.hid fun V => firstBytes_any out a V h0
  go_enter Try.func145, Try.ntmps145
  go_wp2_with (go_at_call 147; refine (K.out _).mono ?_; rintro e w2 ⟨rfl, rfl⟩)
  go_ret
  exact ⟨rfl, (Below.refl _ _).alloc (Nat.le_refl _) _⟩
set_option maxRecDepth 100000 in
set_option maxHeartbeats 2000000 in
theorem behind_none (vI : Value) (n a b : Int) (t out : ByteArray) (w : World) (hn : n = 2 ∨ n = 5) :
    Calls Try.prog 145 #[.string out, line n a b t, vI] w fun e w' => e = .returned (.string out) ∧ Below w.heap.size w w' := by
  rcases hn with rfl | rfl
  all_goals
    go_enter Try.func145, Try.ntmps145
    go_wp2
    go_ret
    exact ⟨rfl, (Below.refl _ _).alloc (Nat.le_refl _) _⟩

theorem textBehind_any (vI : Value) (I : List ByteArray) (n a b : Int) (t out : ByteArray) (w : World) (hok : LOk (n, a, b, t) I.length) (hI : I.length ≤ 5) (hq : ∀ q ∈ I, q.size ≤ 40) (ho : out.size ≤ 40) (h : Obl.StAt w w.heap.size vI I) :
    Calls Try.prog 145 #[.string out, line n a b t, vI] w fun e w' => e = .returned (.string (nxt I (n, a, b, t) out)) ∧ Below w.heap.size w w' := by
  rcases hok with ⟨hn | hn, h1, h2, _⟩ | ⟨hn, _, _, h3⟩ | ⟨hn, _⟩ | ⟨hn, _⟩ | ⟨hn, h1, _⟩ <;> dsimp only at hn <;> subst hn
  · dsimp only at h1 h2
    obtain ⟨j, rfl⟩ : ∃ j : Nat, a = (j : Int) := ⟨a.toNat, by omega⟩
    have hx : I[j]? = some (I[j]'(by omega)) := List.getElem?_eq_getElem (by omega)
    have := behind_read vI I j b t _ out w hI hx (hq _ (List.mem_of_getElem? hx)) ho h
    rwa [show nxt I ((0, (j : Int), b, t) : Ln) out = out ++ I[j]'(by omega) by unfold nxt; rw [inp_at hx]; rfl]
  · exact behind_none vI 5 a b t out w (.inr rfl)
  · exact behind_put vI a b t out w h3 ho
  · exact behind_none vI 2 a b t out w (.inl rfl)
  · exact behind_turn vI a b t out w ho
  · exact behind_keep vI a b t out w h1

set_option maxRecDepth 100000 in
set_option maxHeartbeats 2000000 in
theorem linesPassed_any (vI : Value) (I : List ByteArray) (n a b : Int) (t : ByteArray) (w : World) (hok : LOk (n, a, b, t) I.length) (hI : I.length ≤ 5) (h : Obl.StAt w w.heap.size vI I) :
    Calls Try.prog 140 #[line n a b t, vI] w fun e w' => e = .returned (.int .i64 (skp I (n, a, b, t) : Int)) ∧ Below w.heap.size w w' := by
  by_cases hn : n = 2
  · subst hn
    have hin : 0 ≤ a ∧ a < (I.length : Int) ∧ 1 ≤ b ∧ b ≤ 10 := by
      unfold LOk at hok
      dsimp only at hok
      omega
    obtain ⟨j, rfl⟩ : ∃ j : Nat, a = (j : Int) := ⟨a.toNat, by omega⟩
    have hlt : j < I.length := by omega
    obtain ⟨ti, hxy⟩ : ∃ ti, I[j] = ti := ⟨_, rfl⟩
    have hx : I[j]? = some ti := by rw [List.getElem?_eq_getElem hlt, hxy]
    obtain ⟨a, cap, rfl, h⟩ := h
    rcases h with h | ⟨bI, oI, rfl, hB, hc⟩
    · subst h
      exact absurd hlt (by simp)
    have e0 := hc j hlt
    rw [hxy] at e0
    have HS := Lib.hid (show skp I ((2, (j : Int), b, t) : Ln) = if ti.size = 0 then b.toNat else 0 by unfold skp; rw [inp_at hx]; simp)
    clear hc hxy hx hok
    have i0 : (0 : Int) ≤ (j : Int) := by omega
    have i1 : (j : Int) < (I.length : Int) := by omega
    have hne : bI ≠ w.heap.size := by omega
    by_cases hz : ti.size = 0
    · have HE := Lib.hid (show ((skp I ((2, (j : Int), b, t) : Ln) : Nat) : Int) = b by rw [HS.out, if_pos hz]; omega)
      obtain rfl := text_nil hz
      go_enter Try.func140, Try.ntmps140
      go_wp2
      go_ret
      exact ⟨by rw [HE.out]; rfl, (Below.refl _ _).alloc (Nat.le_refl _) _⟩
    · have HE := Lib.hid (show ((skp I ((2, (j : Int), b, t) : Ln) : Nat) : Int) = 0 by rw [HS.out, if_neg hz]; rfl)
      have hT := text_ne hz
      go_enter Try.func140, Try.ntmps140
      go_wp2
      go_ret
      exact ⟨by rw [HE.out]; rfl, (Below.refl _ _).alloc (Nat.le_refl _) _⟩
  · have HE := Lib.hid (show ((skp I ((n, a, b, t) : Ln) : Nat) : Int) = 0 by unfold skp; rw [if_neg (fun e => hn e.1)]; rfl)
    have hz : (n == 2) = false := by rw [beq_eq_false_iff_ne]; exact hn
    clear h hok
    go_enter Try.func140, Try.ntmps140
    go_wp2
    go_ret
    exact ⟨by rw [HE.out]; rfl, (Below.refl _ _).alloc (Nat.le_refl _) _⟩
end Rx
end Go.Proofs.Ytopplljilmjjgaa
