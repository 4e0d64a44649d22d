/- The contract of the model's draw of a script, over this seat's translation: whatever is drawn, at most six lines lie in a row of their own, with texts of at most nine bytes; nothing that was there has changed but the reader. Condition: the reader was not asked too often; the code is readable. -/
import Derived.Test.YtopplljilmjjgaaDrm
import Derived.Test.YtopplljilmjjgaaRxq
import Derived.Test.YtopplljilmjjgaaLnto
import Derived.Deep.CutRange
namespace Go.Proofs.Ytopplljilmjjgaa
open Go.RowKit Go.Sort
namespace Drm
open Obl Rx
theorem lx_setA {w : World} {g : Nat} {n a b x : Int} {t : ByteArray} (h : LnBx w g n a b t) : LnBx (w.setCell ⟨g, 1, none⟩ (.int .i64 x)) g n x b t := by
  unfold LnBx at h ⊢
  simp [World.setCell, Array.getElem?_modify, h]
theorem lx_setB {w : World} {g : Nat} {n a b x : Int} {t : ByteArray} (h : LnBx w g n a b t) : LnBx (w.setCell ⟨g, 2, none⟩ (.int .i64 x)) g n a x t := by
  unfold LnBx at h ⊢
  simp [World.setCell, Array.getElem?_modify, h]
theorem lx_setT {w : World} {g : Nat} {n a b : Int} {t s : ByteArray} (h : LnBx w g n a b t) : LnBx (w.setCell ⟨g, 3, none⟩ (.string s)) g n a b s := by
  unfold LnBx at h ⊢
  simp [World.setCell, Array.getElem?_modify, h]
theorem lx_frozen {w : World} {g o : Nat} {n a b : Int} {t : ByteArray} (h : LnBx w g n a b t) : w.frozen? ⟨g, o, none⟩ = false := by simp [World.frozen?, show w.heap[g]? = _ from h]
theorem row_set {w : World} {B t s n b o : Nat} {v u : Value} {xs : List Value} (h : w.ownsRow B t s v n xs) (hb : ∀ k, v.ownBlock = some k → k ≠ b) : (w.setCell ⟨b, o, none⟩ u).ownsRow B t s v n xs :=
  row_keep h fun k e => Below.heap_setCell w ⟨b, o, none⟩ u k (hb k e)
abbrev box2' (n a b : Int) (t : ByteArray) : Obj := .cells #[.int .i64 n, .int .i64 a, .int .i64 b, .string t] 99
theorem line_new {w : World} {n a b : Int} {t : ByteArray} : ∀ j u, (lcs [(n, a, b, t)])[j]? = some u → (w.alloc (box2' n a b t)).cell? ((⟨w.heap.size, 0, none⟩ : Addr).add j) = some u :=
  World.news_of_block (heap_alloc_new w _)
theorem lown_push {w5 : World} {B : Nat} {v : Value} {S : List Ln} {x : Ln} (h : w5.ownsRow B 99 4 v (S.length + 1) (lcs S ++ lcs [x])) : LOwn w5 B v (S ++ [x]) := by
  show w5.ownsRow B 99 4 v (S ++ [x]).length (lcs (S ++ [x]))
  rw [lcs_append, List.length_append]
  exact h
theorem tabK {k : Nat} (h : k < 7) : ∃ d : Int, (#[.int .i64 0, .int .i64 0, .int .i64 1, .int .i64 2, .int .i64 3, .int .i64 4, .int .i64 5] : Array Value)[k]? = some (.int .i64 d) ∧ (d = 0 ∨ d = 1 ∨ d = 2 ∨ d = 3 ∨ d = 4 ∨ d = 5) := by
  have : k = 0 ∨ k = 1 ∨ k = 2 ∨ k = 3 ∨ k = 4 ∨ k = 5 ∨ k = 6 := by omega
  rcases this with rfl | rfl | rfl | rfl | rfl | rfl | rfl
  all_goals exact ⟨_, rfl, by decide⟩
theorem tabT {k : Nat} (h : k < 5) : ∃ s : ByteArray, (#[.string ⟨#[]⟩, .string ⟨#[121]⟩, .string ⟨#[122, 122]⟩, .string ⟨#[33]⟩, .string ⟨#[45]⟩] : Array Value)[k]? = some (.string s) ∧ s.size ≤ 9 := by
  have : k = 0 ∨ k = 1 ∨ k = 2 ∨ k = 3 ∨ k = 4 := by omega
  rcases this with rfl | rfl | rfl | rfl | rfl
  all_goals exact ⟨_, rfl, by decide⟩
theorem tabL {k : Nat} (ins : Int) (h : k < 5) : ∃ (n a b : Int) (t : ByteArray), t.size ≤ 9 ∧ (#[.int .i64 0, .int .i64 ins, .int .i64 0, .string ⟨#[]⟩, .int .i64 6, .int .i64 0, .int .i64 0, .string ⟨#[]⟩, .int .i64 1, .int .i64 0, .int .i64 0, .string ⟨#[49, 50, 51, 52, 53, 54, 55, 56, 57]⟩, .int .i64 3, .int .i64 1, .int .i64 0, .string ⟨#[]⟩, .int .i64 4, .int .i64 (-1), .int .i64 0, .string ⟨#[]⟩] : Array Value)[k * 4]? = some (.int .i64 n) ∧ (#[.int .i64 0, .int .i64 ins, .int .i64 0, .string ⟨#[]⟩, .int .i64 6, .int .i64 0, .int .i64 0, .string ⟨#[]⟩, .int .i64 1, .int .i64 0, .int .i64 0, .string ⟨#[49, 50, 51, 52, 53, 54, 55, 56, 57]⟩, .int .i64 3, .int .i64 1, .int .i64 0, .string ⟨#[]⟩, .int .i64 4, .int .i64 (-1), .int .i64 0, .string ⟨#[]⟩] : Array Value)[k * 4 + 1]? = some (.int .i64 a) ∧ (#[.int .i64 0, .int .i64 ins, .int .i64 0, .string ⟨#[]⟩, .int .i64 6, .int .i64 0, .int .i64 0, .string ⟨#[]⟩, .int .i64 1, .int .i64 0, .int .i64 0, .string ⟨#[49, 50, 51, 52, 53, 54, 55, 56, 57]⟩, .int .i64 3, .int .i64 1, .int .i64 0, .string ⟨#[]⟩, .int .i64 4, .int .i64 (-1), .int .i64 0, .string ⟨#[]⟩] : Array Value)[k * 4 + 2]? = some (.int .i64 b) ∧ (#[.int .i64 0, .int .i64 ins, .int .i64 0, .string ⟨#[]⟩, .int .i64 6, .int .i64 0, .int .i64 0, .string ⟨#[]⟩, .int .i64 1, .int .i64 0, .int .i64 0, .string ⟨#[49, 50, 51, 52, 53, 54, 55, 56, 57]⟩, .int .i64 3, .int .i64 1, .int .i64 0, .string ⟨#[]⟩, .int .i64 4, .int .i64 (-1), .int .i64 0, .string ⟨#[]⟩] : Array Value)[k * 4 + 3]? = some (.string t) := by
  have : k = 0 ∨ k = 1 ∨ k = 2 ∨ k = 3 ∨ k = 4 := by omega
  rcases this with rfl | rfl | rfl | rfl | rfl
  all_goals
    refine ⟨_, _, _, _, ?_, rfl, rfl, rfl, rfl⟩
    decide
/-- What the loop of l20Script keeps. -/
def ScRel9 (R p : Nat) (w : World) (s7 s8 : Value) (wr : World) : Prop :=
  ∃ (k : Nat) (S : List Ln), k ≤ 5 ∧ s8 = .int .i64 (k : Int) ∧ S.length + k ≤ 5 ∧ LOwn wr w.heap.size s7 S ∧ (∀ q ∈ S, q.2.2.2.size ≤ 9) ∧ Drawn w R p (1 + 4 * (5 - k)) wr
def ScriptPost (R p : Nat) (w : World) (e : Ending) (w' : World) : Prop :=
  ∃ S v, e = .returned v ∧ LOwn w' w.heap.size v S ∧ S.length ≤ 6 ∧ (∀ q ∈ S, q.2.2.2.size ≤ 9) ∧ Drawn w R p 40 w'

set_option maxRecDepth 100000 in
set_option maxHeartbeats 32000000 in
theorem l20Script_any (R p : Nat) (ins n : Int) (w : World) (h : RdAt w R p) (hp : p ≤ 700000000) (hn0 : 0 ≤ n) (hn1 : n ≤ 1000) :
    Calls Try.prog 116 #[.pointer (some ⟨R, 0, none⟩), .int .i64 ins, .int .i64 n] w (ScriptPost R p w) := by
  have hR := rdAt_lt h
  obtain ⟨i0, hi, hz0, hz1, hz2⟩ := info_parts Lnt.infoLine
  have HRA := Lib.hid (rdAt_alloc h (.cells #[] 99))
  have HOA := Lib.hid (show LOwn (w.alloc (.cells #[] 99)) w.heap.size (.slice (some ⟨w.heap.size, 0, none⟩) 0 0) [] from row_made (Nat.le_refl _))
  clear h
  go_enter Try.func116, Try.ntmps116
  go_wp2_with fail
  refine (pick_any R p 6 _ HRA.out (by omega)).mono ?_
  rintro e w1 ⟨k1, rfl, k10, k11, _, hr1, hg1⟩
  have k12 : k1 < 6 := k11 (by omega)
  obtain ⟨kn, rfl⟩ := Int.eq_ofNat_of_zero_le k10
  have HST := Lib.hid (show ScRel9 R p w (.slice (some ⟨w.heap.size, 0, none⟩) 0 0) (.int .i64 (kn : Int)) w1 from
    ⟨kn, [], by omega, rfl, by simp; omega, row_drawn HOA.out hg1 hR, by simp, ⟨p + 1, by omega, by omega, hr1, grown_trans (grown_start w _ R) hg1⟩⟩)
  clear hr1 hg1 k11
  go_wp2_with fail
  go_loopw [7, 8] (fun s7 s8 wr => ScRel9 R p w s7 s8 wr) (fun _ s8 _ => (intOf s8).toNat)
  case atStart => exact HST.out
  case round =>
    obtain ⟨k, S, hk, rfl, hlen, hown, hq, hd⟩ := hrel
    obtain ⟨va, vc, rfl⟩ := row_form hown
    have HO := Lib.hid hown
    have HQ := Lib.hid hq
    have hlt0 := World.ownsRow.lt hown
    obtain ⟨q, q1, q2, hr, hg⟩ := hd
    have zg := hg.size
    have HG := Lib.hid hg
    clear hown hq hg
    rcases k with _ | k
    · go_wp2_with fail
      refine (odd_any R q n wr hr (by omega) (by omega) (by omega)).mono ?_
      rintro e w3 ⟨o, rfl, ho, hd3⟩
      have d3 := dr_then HG.out q1 q2 hd3
      have z3 : wr.heap.size ≤ w3.heap.size := by obtain ⟨_, _, _, _, g⟩ := hd3; exact g.size
      have o3 : LOwn w3 w.heap.size (.slice va S.length vc) S := by obtain ⟨_, _, _, _, g⟩ := hd3; exact row_drawn HO.out g (by omega)
      have HO3 := Lib.hid o3
      have HD3 := Lib.hid d3
      clear hd3 hr o3 ho
      rcases o with _ | _
      · clear d3
        go_wp2_with fail
        go_ret
        exact ⟨S, _, rfl, HO3.out, by omega, HQ.out, dr_more HD3.out (by omega)⟩
      · obtain ⟨q', r1, r2, hr3, hg3⟩ := d3
        have z4 := hg3.size
        have HG3 := Lib.hid hg3
        go_wp2_with fail
        refine (pick_any R q' 5 _ (rdAt_alloc hr3 _) (by omega)).mono ?_
        rintro e w4 ⟨k4, rfl, k40, k41, _, hr4, hg4⟩
        have k42 : k4 < 5 := k41 (by omega)
        obtain ⟨kt, rfl⟩ := Int.eq_ofNat_of_zero_le k40
        have ht := intRow_cell ((hg4.block w3.heap.size (by simp) (fun e => by injection e with e; omega)).trans (heap_alloc_new w3 _))
        obtain ⟨xn, xa, xb, xt, hxs, x0, x1, x2, x3⟩ := tabL ins (k := kt) (by omega)
        have c0 := (ht (kt * 4)).trans x0
        have c1 := (ht (kt * 4 + 1)).trans x1
        have c2 := (ht (kt * 4 + 2)).trans x2
        have c3 := (ht (kt * 4 + 3)).trans x3
        have bA : Below w3.heap.size w3 (w3.alloc (.cells #[.int .i64 0, .int .i64 ins, .int .i64 0, .string ⟨#[]⟩, .int .i64 6, .int .i64 0, .int .i64 0, .string ⟨#[]⟩, .int .i64 1, .int .i64 0, .int .i64 0, .string ⟨#[49, 50, 51, 52, 53, 54, 55, 56, 57]⟩, .int .i64 3, .int .i64 1, .int .i64 0, .string ⟨#[]⟩, .int .i64 4, .int .i64 (-1), .int .i64 0, .string ⟨#[]⟩] 99)) := (Below.refl _ _).alloc (Nat.le_refl _) _
        have d4 : Drawn w R p 40 w4 := dr_more (dr_then (grown_below HG3.out (bA.mono z4)) r1 r2 (drawn_one9 hr4 hg4)) (by omega)
        have o4 := row_drawn (row_below HO3.out bA) hg4 (by omega)
        have z5 : w3.heap.size < w4.heap.size := by have := hg4.size; simp at this; omega
        have HO4 := Lib.hid o4
        have HD4 := Lib.hid d4
        have i1 : (kt : Int) < 5 := by omega
        have hS5 : S.length ≤ 5 := by omega
        clear ht x0 x1 x2 x3 hr3 hg3 hr4 hg4 k41 d4 o4 bA
        go_wp2_with (at_builtin; refine wpList_append_own _ rfl _ _ 31 rfl w.heap.size 99 i0 (.agg #[.int .i64 0, .int .i64 0, .int .i64 0, .string ByteArray.empty]) 4 40 Try.underlying31 hi hz0 hz1 hz2 rfl (by decide) _ _ (lcs S) rfl (World.ownsRow.alloc HO4.out (box2' xn xa xb xt)) ⟨w4.heap.size, 0, none⟩ 1 1 (lcs [(xn, xa, xb, xt)]) rfl rfl line_new (lcs_one _) (by unfold maxLen; omega) (by omega) (by simp; omega) ?_)
        intro v' w5 hown' hgrow hnn
        have HR := Lib.hid (show ScriptPost R p w (.returned v') w5 from ⟨S ++ [(xn, xa, xb, xt)], v', rfl, lown_push hown', (by simp; omega), (fun y hy => by
            rcases List.mem_append.1 hy with hy | hy
            · exact HQ.out y hy
            · simp at hy
              subst hy
              exact hxs), dr_push HD4.out hR (Nat.le_refl _) ((Below.refl _ _).alloc (Nat.le_refl _) _) HO4.out hgrow⟩)
        clear hown' hgrow hnn
        go_wp2_with fail
        go_ret
        exact HR.out
    · have hkI : (0 : Int) < ((k + 1 : Nat) : Int) := by omega
      have hS4 : S.length ≤ 4 := by omega
      go_wp2_with fail
      refine (pick_any R q 7 _ (rdAt_alloc hr _) (by omega)).mono ?_
      rintro e w3 ⟨k3, rfl, k30, k31, _, hr3, hg3⟩
      have k32 : k3 < 7 := k31 (by omega)
      obtain ⟨kt, rfl⟩ := Int.eq_ofNat_of_zero_le k30
      have ht := intRow_cell ((hg3.block wr.heap.size (by simp) (fun e => by injection e with e; omega)).trans (heap_alloc_new wr _))
      obtain ⟨kd, hkd, hkind⟩ := tabK (k := kt) (by omega)
      have c0 := (ht kt).trans hkd
      have bA : Below wr.heap.size wr (wr.alloc (.cells #[.int .i64 0, .int .i64 0, .int .i64 1, .int .i64 2, .int .i64 3, .int .i64 4, .int .i64 5] 3)) := (Below.refl _ _).alloc (Nat.le_refl _) _
      have z3 : wr.heap.size < w3.heap.size := by have := hg3.size; simp at this; omega
      obtain ⟨w4, hw4⟩ : ∃ V, V = w3.alloc (box2' kd 0 0 ⟨#[]⟩) := ⟨_, rfl⟩
      have bB : Below w3.heap.size w3 w4 := by rw [hw4]; exact (Below.refl _ _).alloc (Nat.le_refl _) _
      have d4 : Drawn w R p (1 + 4 * (5 - (k + 1)) + 1) w4 := dr_below (dr_then (grown_below HG.out (bA.mono zg)) q1 q2 (drawn_one9 hr3 hg3)) hR bB
      have o4 : LOwn w4 w.heap.size (.slice va S.length vc) S := row_below (row_drawn (row_below HO.out bA) hg3 (by omega)) bB
      have L4 : LnBx w4 w3.heap.size kd 0 0 ⟨#[]⟩ := by rw [hw4]; exact LnBx.new w3 kd 0 0 _
      have z4 : w3.heap.size < w4.heap.size := L4.lt
      have i1 : (kt : Int) < 7 := by omega
      clear ht hkd hr hr3 hg3 k31 bA bB
      go_upto_region 6 with fail
      rw [← hw4]
      clear hw4 c0
      have HO4 := Lib.hid o4
      have ltS := fun j e => (World.ownsRow.lt HO.out j e).2
      have HL4 := Lib.hid L4
      obtain ⟨q', r1, r2, hr4, hg4⟩ := d4
      have HG4 := Lib.hid hg4
      have zw4 := hg4.size
      obtain ⟨d0, d1, d2, d3⟩ := L4.cells
      have f1 := lx_frozen (o := 1) L4
      have f2 := lx_frozen (o := 2) L4
      have f3 := lx_frozen (o := 3) L4
      clear o4 L4 hg4
      rcases hkind with rfl | rfl | rfl | rfl | rfl | rfl
      · as_aux_lemma =>
          go_wp2_with fail
          refine (pick_any R q' ins _ hr4 (by omega)).mono ?_
          rintro e w5 ⟨k5, rfl, k50, k51, _, hr5, hg5⟩
          have z5 := hg5.size
          have L5 : LnBx w5 w3.heap.size _ 0 0 ⟨#[]⟩ := HL4.out.grown hg5 (fun e => by injection e with e; omega)
          have o5 := row_drawn HO4.out hg5 (by omega)
          have d5 := dr_then HG4.out r1 r2 (drawn_one9 hr5 hg5)
          obtain ⟨w6, hw6⟩ : ∃ V, V = w5.setCell ⟨w3.heap.size, 1, none⟩ (.int .i64 k5) := ⟨_, rfl⟩
          have HLn := Lib.hid (show LnBx w6 w3.heap.size 0 k5 0 ⟨#[]⟩ by rw [hw6]; exact lx_setA L5)
          have HOn := Lib.hid (show LOwn w6 w.heap.size (.slice va S.length vc) S by rw [hw6]; exact row_set o5 (fun j e => by have := ltS j e; omega))
          have HDn := Lib.hid (show Drawn w R p _ w6 by rw [hw6]; exact dr_set d5 hR (by omega))
          have z6 : w5.heap.size ≤ w6.heap.size := by rw [hw6]; simp [World.setCell]
          clear d0 d1 d2 d3 f1 f2 f3 hr4 k51 hr5 hg5 o5 d5
          obtain ⟨d0, d1, d2, d3⟩ := L5.cells
          have f1 := lx_frozen (o := 1) L5
          go_upto_region 17 with fail
          rw [← hw6]
          clear hw6 d0 d1 d2 d3 f1 L5
          obtain ⟨d0, d1, d2, d3⟩ := HLn.out.cells
          by_cases hins : 0 < ins
          · go_wp2_with (at_builtin; refine wpList_append_own _ rfl _ _ 31 rfl w.heap.size 99 i0 (.agg #[.int .i64 0, .int .i64 0, .int .i64 0, .string ByteArray.empty]) 4 40 Try.underlying31 hi hz0 hz1 hz2 rfl (by decide) _ _ (lcs S) rfl (World.ownsRow.alloc HOn.out (box2' 0 k5 0 ⟨#[]⟩)) ⟨w6.heap.size, 0, none⟩ 1 1 (lcs [(0, k5, 0, ⟨#[]⟩)]) rfl rfl line_new (lcs_one _) (by unfold maxLen; omega) (by omega) (by simp; omega) ?_)
            intro v' w9 hown' hgrow hnn
            have HR := Lib.hid (show ScRel9 R p w v' (.int .i64 (k : Int)) w9 from ⟨k, S ++ [(0, k5, 0, ⟨#[]⟩)], by omega, rfl, (by simp; omega), lown_push hown', (fun y hy => by
                rcases List.mem_append.1 hy with hy | hy
                · exact HQ.out y hy
                · simp at hy
                  subst hy
                  exact Nat.zero_le _), dr_more (dr_push HDn.out hR (Nat.le_refl _) ((Below.refl _ _).alloc (Nat.le_refl _) _) HOn.out hgrow) (by omega)⟩)
            clear hown' hgrow hnn
            go_wp2_with fail
            go_roundw
            case rel => have h := HR.out; simpa using h
            case measure => first | (simp [intOf]; done) | (simp [intOf]; omega)
          · have HR := Lib.hid (show ScRel9 R p w (.slice va S.length vc) (.int .i64 (k : Int)) w6 from ⟨k, S, by omega, rfl, by omega, HOn.out, HQ.out, dr_more HDn.out (by omega)⟩)
            go_wp2_with fail
            go_roundw
            case rel => have h := HR.out; simpa using h
            case measure => first | (simp [intOf]; done) | (simp [intOf]; omega)
      · as_aux_lemma =>
          go_wp2_with fail
          refine (pick_any R q' 5 _ (rdAt_alloc hr4 _) (by omega)).mono ?_
          rintro e w5 ⟨k5, rfl, k50, k51, _, hr5, hg5⟩
          have z5 : w4.heap.size < w5.heap.size := by have := hg5.size; simp at this; omega
          have k52 : k5 < 5 := k51 (by omega)
          obtain ⟨kt5, rfl⟩ := Int.eq_ofNat_of_zero_le k50
          have ht := intRow_cell ((hg5.block w4.heap.size (by simp) (fun e => by injection e with e; omega)).trans (heap_alloc_new w4 _))
          obtain ⟨st, hst, hsz⟩ := tabT (k := kt5) (by omega)
          have c0 := (ht kt5).trans hst
          have bA : Below w4.heap.size w4 (w4.alloc (.cells #[.string ⟨#[]⟩, .string ⟨#[121]⟩, .string ⟨#[122, 122]⟩, .string ⟨#[33]⟩, .string ⟨#[45]⟩] 9)) := (Below.refl _ _).alloc (Nat.le_refl _) _
          have L5 : LnBx w5 w3.heap.size 1 0 0 ⟨#[]⟩ := (HL4.out.below bA).grown hg5 (fun e => by injection e with e; omega)
          have o5 := row_drawn (row_below HO4.out bA) hg5 (by omega)
          have d5 := dr_then (grown_below HG4.out (bA.mono zw4)) r1 r2 (drawn_one9 hr5 hg5)
          obtain ⟨w6, hw6⟩ : ∃ V, V = w5.setCell ⟨w3.heap.size, 3, none⟩ (.string st) := ⟨_, rfl⟩
          have HLn := Lib.hid (show LnBx w6 w3.heap.size 1 0 0 st by rw [hw6]; exact lx_setT L5)
          have HOn := Lib.hid (show LOwn w6 w.heap.size (.slice va S.length vc) S by rw [hw6]; exact row_set o5 (fun j e => by have := ltS j e; omega))
          have HDn := Lib.hid (show Drawn w R p _ w6 by rw [hw6]; exact dr_set d5 hR (by omega))
          have z6 : w5.heap.size ≤ w6.heap.size := by rw [hw6]; simp [World.setCell]
          have i5 : (kt5 : Int) < 5 := by omega
          clear d0 d1 d2 d3 f1 f2 f3 hr4 k51 hr5 hg5 o5 d5 ht hst bA
          obtain ⟨d0, d1, d2, d3⟩ := L5.cells
          have f3 := lx_frozen (o := 3) L5
          go_upto_region 17 with fail
          rw [← hw6]
          clear hw6 d0 d1 d2 d3 f3 L5 c0
          obtain ⟨d0, d1, d2, d3⟩ := HLn.out.cells
          by_cases hins : 0 < ins
          · go_wp2_with (at_builtin; refine wpList_append_own _ rfl _ _ 31 rfl w.heap.size 99 i0 (.agg #[.int .i64 0, .int .i64 0, .int .i64 0, .string ByteArray.empty]) 4 40 Try.underlying31 hi hz0 hz1 hz2 rfl (by decide) _ _ (lcs S) rfl (World.ownsRow.alloc HOn.out (box2' 1 0 0 st)) ⟨w6.heap.size, 0, none⟩ 1 1 (lcs [(1, 0, 0, st)]) rfl rfl line_new (lcs_one _) (by unfold maxLen; omega) (by omega) (by simp; omega) ?_)
            intro v' w9 hown' hgrow hnn
            have HR := Lib.hid (show ScRel9 R p w v' (.int .i64 (k : Int)) w9 from ⟨k, S ++ [(1, 0, 0, st)], by omega, rfl, (by simp; omega), lown_push hown', (fun y hy => by
                rcases List.mem_append.1 hy with hy | hy
                · exact HQ.out y hy
                · simp at hy
                  subst hy
                  exact hsz), dr_more (dr_push HDn.out hR (Nat.le_refl _) ((Below.refl _ _).alloc (Nat.le_refl _) _) HOn.out hgrow) (by omega)⟩)
            clear hown' hgrow hnn
            go_wp2_with fail
            go_roundw
            case rel => have h := HR.out; simpa using h
            case measure => first | (simp [intOf]; done) | (simp [intOf]; omega)
          · go_wp2_with (at_builtin; refine wpList_append_own _ rfl _ _ 31 rfl w.heap.size 99 i0 (.agg #[.int .i64 0, .int .i64 0, .int .i64 0, .string ByteArray.empty]) 4 40 Try.underlying31 hi hz0 hz1 hz2 rfl (by decide) _ _ (lcs S) rfl (World.ownsRow.alloc HOn.out (box2' 1 0 0 st)) ⟨w6.heap.size, 0, none⟩ 1 1 (lcs [(1, 0, 0, st)]) rfl rfl line_new (lcs_one _) (by unfold maxLen; omega) (by omega) (by simp; omega) ?_)
            intro v' w9 hown' hgrow hnn
            have HR := Lib.hid (show ScRel9 R p w v' (.int .i64 (k : Int)) w9 from ⟨k, S ++ [(1, 0, 0, st)], by omega, rfl, (by simp; omega), lown_push hown', (fun y hy => by
                rcases List.mem_append.1 hy with hy | hy
                · exact HQ.out y hy
                · simp at hy
                  subst hy
                  exact hsz), dr_more (dr_push HDn.out hR (Nat.le_refl _) ((Below.refl _ _).alloc (Nat.le_refl _) _) HOn.out hgrow) (by omega)⟩)
            clear hown' hgrow hnn
            go_wp2_with fail
            go_roundw
            case rel => have h := HR.out; simpa using h
            case measure => first | (simp [intOf]; done) | (simp [intOf]; omega)
      · as_aux_lemma =>
          go_wp2_with fail
          refine (pick_any R q' ins _ hr4 (by omega)).mono ?_
          rintro e w5 ⟨k5, rfl, k50, k51, _, hr5, hg5⟩
          have z5 := hg5.size
          have L5 : LnBx w5 w3.heap.size 2 0 0 ⟨#[]⟩ := HL4.out.grown hg5 (fun e => by injection e with e; omega)
          have o5 := row_drawn HO4.out hg5 (by omega)
          have d5 := dr_then HG4.out r1 r2 (drawn_one9 hr5 hg5)
          obtain ⟨w6, hw6⟩ : ∃ V, V = w5.setCell ⟨w3.heap.size, 1, none⟩ (.int .i64 k5) := ⟨_, rfl⟩
          have L6 : LnBx w6 w3.heap.size 2 k5 0 ⟨#[]⟩ := by rw [hw6]; exact lx_setA L5
          have o6 : LOwn w6 w.heap.size (.slice va S.length vc) S := by rw [hw6]; exact row_set o5 (fun j e => by have := ltS j e; omega)
          have d6 := dr_set (g := w3.heap.size) (o := 1) (u := .int .i64 k5) d5 hR (by omega)
          rw [← hw6] at d6
          have z6 : w5.heap.size ≤ w6.heap.size := by rw [hw6]; simp [World.setCell]
          clear d0 d1 d2 d3 f1 f2 f3 hr4 k51 hr5 hg5 o5 d5
          obtain ⟨d0, d1, d2, d3⟩ := L5.cells
          have f1 := lx_frozen (o := 1) L5
          go_upto_region 14 with fail
          rw [← hw6]
          clear hw6 d0 d1 d2 d3 f1 L5
          obtain ⟨q6, s1, s2, hr6, hg6⟩ := d6
          have HG6 := Lib.hid hg6
          have zg6 := hg6.size
          clear hg6
          go_wp2_with fail
          refine (pick_any R q6 3 _ hr6 (by omega)).mono ?_
          rintro e w7 ⟨k7, rfl, k70, k71, _, hr7, hg7⟩
          have k72 : k7 < 3 := k71 (by omega)
          have z7 := hg7.size
          have L7 : LnBx w7 w3.heap.size 2 k5 0 ⟨#[]⟩ := L6.grown hg7 (fun e => by injection e with e; omega)
          have o7 := row_drawn o6 hg7 (by omega)
          have d7 := dr_then HG6.out s1 s2 (drawn_one9 hr7 hg7)
          obtain ⟨w8, hw8⟩ : ∃ V, V = w7.setCell ⟨w3.heap.size, 2, none⟩ (.int .i64 (1 + k7)) := ⟨_, rfl⟩
          have HLn := Lib.hid (show LnBx w8 w3.heap.size 2 k5 (1 + k7) ⟨#[]⟩ by rw [hw8]; exact lx_setB L7)
          have HOn := Lib.hid (show LOwn w8 w.heap.size (.slice va S.length vc) S by rw [hw8]; exact row_set o7 (fun j e => by have := ltS j e; omega))
          have HDn := Lib.hid (show Drawn w R p _ w8 by rw [hw8]; exact dr_set d7 hR (by omega))
          have z8 : w7.heap.size ≤ w8.heap.size := by rw [hw8]; simp [World.setCell]
          clear hr6 k71 hr7 hg7 o7 d7 L6 o6
          obtain ⟨d0, d1, d2, d3⟩ := L7.cells
          have f2 := lx_frozen (o := 2) L7
          go_upto_region 17 with fail
          rw [← hw8]
          clear hw8 d0 d1 d2 d3 f2 L7
          obtain ⟨d0, d1, d2, d3⟩ := HLn.out.cells
          by_cases hins : 0 < ins
          · go_wp2_with (at_builtin; refine wpList_append_own _ rfl _ _ 31 rfl w.heap.size 99 i0 (.agg #[.int .i64 0, .int .i64 0, .int .i64 0, .string ByteArray.empty]) 4 40 Try.underlying31 hi hz0 hz1 hz2 rfl (by decide) _ _ (lcs S) rfl (World.ownsRow.alloc HOn.out (box2' 2 k5 (1 + k7) ⟨#[]⟩)) ⟨w8.heap.size, 0, none⟩ 1 1 (lcs [(2, k5, (1 + k7), ⟨#[]⟩)]) rfl rfl line_new (lcs_one _) (by unfold maxLen; omega) (by omega) (by simp; omega) ?_)
            intro v' w9 hown' hgrow hnn
            have HR := Lib.hid (show ScRel9 R p w v' (.int .i64 (k : Int)) w9 from ⟨k, S ++ [(2, k5, (1 + k7), ⟨#[]⟩)], by omega, rfl, (by simp; omega), lown_push hown', (fun y hy => by
                rcases List.mem_append.1 hy with hy | hy
                · exact HQ.out y hy
                · simp at hy
                  subst hy
                  exact Nat.zero_le _), dr_more (dr_push HDn.out hR (Nat.le_refl _) ((Below.refl _ _).alloc (Nat.le_refl _) _) HOn.out hgrow) (by omega)⟩)
            clear hown' hgrow hnn
            go_wp2_with fail
            go_roundw
            case rel => have h := HR.out; simpa using h
            case measure => first | (simp [intOf]; done) | (simp [intOf]; omega)
          · have HR := Lib.hid (show ScRel9 R p w (.slice va S.length vc) (.int .i64 (k : Int)) w8 from ⟨k, S, by omega, rfl, by omega, HOn.out, HQ.out, dr_more HDn.out (by omega)⟩)
            go_wp2_with fail
            go_roundw
            case rel => have h := HR.out; simpa using h
            case measure => first | (simp [intOf]; done) | (simp [intOf]; omega)
      · as_aux_lemma =>
          have HLn := HL4
          have HOn := HO4
          have HDn := Lib.hid (show Drawn w R p (1 + 4 * (5 - (k + 1)) + 1) w4 from ⟨q', r1, r2, hr4, HG4.out⟩)
          clear hr4 d0 d1 d2 d3
          obtain ⟨d0, d1, d2, d3⟩ := HLn.out.cells
          by_cases hins : 0 < ins
          · go_wp2_with (at_builtin; refine wpList_append_own _ rfl _ _ 31 rfl w.heap.size 99 i0 (.agg #[.int .i64 0, .int .i64 0, .int .i64 0, .string ByteArray.empty]) 4 40 Try.underlying31 hi hz0 hz1 hz2 rfl (by decide) _ _ (lcs S) rfl (World.ownsRow.alloc HOn.out (box2' 3 0 0 ⟨#[]⟩)) ⟨w4.heap.size, 0, none⟩ 1 1 (lcs [(3, 0, 0, ⟨#[]⟩)]) rfl rfl line_new (lcs_one _) (by unfold maxLen; omega) (by omega) (by simp; omega) ?_)
            intro v' w9 hown' hgrow hnn
            have HR := Lib.hid (show ScRel9 R p w v' (.int .i64 (k : Int)) w9 from ⟨k, S ++ [(3, 0, 0, ⟨#[]⟩)], by omega, rfl, (by simp; omega), lown_push hown', (fun y hy => by
                rcases List.mem_append.1 hy with hy | hy
                · exact HQ.out y hy
                · simp at hy
                  subst hy
                  exact Nat.zero_le _), dr_more (dr_push HDn.out hR (Nat.le_refl _) ((Below.refl _ _).alloc (Nat.le_refl _) _) HOn.out hgrow) (by omega)⟩)
            clear hown' hgrow hnn
            go_wp2_with fail
            go_roundw
            case rel => have h := HR.out; simpa using h
            case measure => first | (simp [intOf]; done) | (simp [intOf]; omega)
          · go_wp2_with (at_builtin; refine wpList_append_own _ rfl _ _ 31 rfl w.heap.size 99 i0 (.agg #[.int .i64 0, .int .i64 0, .int .i64 0, .string ByteArray.empty]) 4 40 Try.underlying31 hi hz0 hz1 hz2 rfl (by decide) _ _ (lcs S) rfl (World.ownsRow.alloc HOn.out (box2' 3 0 0 ⟨#[]⟩)) ⟨w4.heap.size, 0, none⟩ 1 1 (lcs [(3, 0, 0, ⟨#[]⟩)]) rfl rfl line_new (lcs_one _) (by unfold maxLen; omega) (by omega) (by simp; omega) ?_)
            intro v' w9 hown' hgrow hnn
            have HR := Lib.hid (show ScRel9 R p w v' (.int .i64 (k : Int)) w9 from ⟨k, S ++ [(3, 0, 0, ⟨#[]⟩)], by omega, rfl, (by simp; omega), lown_push hown', (fun y hy => by
                rcases List.mem_append.1 hy with hy | hy
                · exact HQ.out y hy
                · simp at hy
                  subst hy
                  exact Nat.zero_le _), dr_more (dr_push HDn.out hR (Nat.le_refl _) ((Below.refl _ _).alloc (Nat.le_refl _) _) HOn.out hgrow) (by omega)⟩)
            clear hown' hgrow hnn
            go_wp2_with fail
            go_roundw
            case rel => have h := HR.out; simpa using h
            case measure => first | (simp [intOf]; done) | (simp [intOf]; omega)
      · as_aux_lemma =>
          go_wp2_with fail
          refine (pick_any R q' 5 _ hr4 (by omega)).mono ?_
          rintro e w5 ⟨k5, rfl, k50, k51, _, hr5, hg5⟩
          have z5 := hg5.size
          have L5 : LnBx w5 w3.heap.size _ 0 0 ⟨#[]⟩ := HL4.out.grown hg5 (fun e => by injection e with e; omega)
          have o5 := row_drawn HO4.out hg5 (by omega)
          have d5 := dr_then HG4.out r1 r2 (drawn_one9 hr5 hg5)
          obtain ⟨w6, hw6⟩ : ∃ V, V = w5.setCell ⟨w3.heap.size, 1, none⟩ (.int .i64 k5) := ⟨_, rfl⟩
          have HLn := Lib.hid (show LnBx w6 w3.heap.size 4 k5 0 ⟨#[]⟩ by rw [hw6]; exact lx_setA L5)
          have HOn := Lib.hid (show LOwn w6 w.heap.size (.slice va S.length vc) S by rw [hw6]; exact row_set o5 (fun j e => by have := ltS j e; omega))
          have HDn := Lib.hid (show Drawn w R p _ w6 by rw [hw6]; exact dr_set d5 hR (by omega))
          have z6 : w5.heap.size ≤ w6.heap.size := by rw [hw6]; simp [World.setCell]
          clear d0 d1 d2 d3 f1 f2 f3 hr4 k51 hr5 hg5 o5 d5
          obtain ⟨d0, d1, d2, d3⟩ := L5.cells
          have f1 := lx_frozen (o := 1) L5
          go_upto_region 17 with fail
          rw [← hw6]
          clear hw6 d0 d1 d2 d3 f1 L5
          obtain ⟨d0, d1, d2, d3⟩ := HLn.out.cells
          by_cases hins : 0 < ins
          · go_wp2_with (at_builtin; refine wpList_append_own _ rfl _ _ 31 rfl w.heap.size 99 i0 (.agg #[.int .i64 0, .int .i64 0, .int .i64 0, .string ByteArray.empty]) 4 40 Try.underlying31 hi hz0 hz1 hz2 rfl (by decide) _ _ (lcs S) rfl (World.ownsRow.alloc HOn.out (box2' 4 k5 0 ⟨#[]⟩)) ⟨w6.heap.size, 0, none⟩ 1 1 (lcs [(4, k5, 0, ⟨#[]⟩)]) rfl rfl line_new (lcs_one _) (by unfold maxLen; omega) (by omega) (by simp; omega) ?_)
            intro v' w9 hown' hgrow hnn
            have HR := Lib.hid (show ScRel9 R p w v' (.int .i64 (k : Int)) w9 from ⟨k, S ++ [(4, k5, 0, ⟨#[]⟩)], by omega, rfl, (by simp; omega), lown_push hown', (fun y hy => by
                rcases List.mem_append.1 hy with hy | hy
                · exact HQ.out y hy
                · simp at hy
                  subst hy
                  exact Nat.zero_le _), dr_more (dr_push HDn.out hR (Nat.le_refl _) ((Below.refl _ _).alloc (Nat.le_refl _) _) HOn.out hgrow) (by omega)⟩)
            clear hown' hgrow hnn
            go_wp2_with fail
            go_roundw
            case rel => have h := HR.out; simpa using h
            case measure => first | (simp [intOf]; done) | (simp [intOf]; omega)
          · go_wp2_with (at_builtin; refine wpList_append_own _ rfl _ _ 31 rfl w.heap.size 99 i0 (.agg #[.int .i64 0, .int .i64 0, .int .i64 0, .string ByteArray.empty]) 4 40 Try.underlying31 hi hz0 hz1 hz2 rfl (by decide) _ _ (lcs S) rfl (World.ownsRow.alloc HOn.out (box2' 4 k5 0 ⟨#[]⟩)) ⟨w6.heap.size, 0, none⟩ 1 1 (lcs [(4, k5, 0, ⟨#[]⟩)]) rfl rfl line_new (lcs_one _) (by unfold maxLen; omega) (by omega) (by simp; omega) ?_)
            intro v' w9 hown' hgrow hnn
            have HR := Lib.hid (show ScRel9 R p w v' (.int .i64 (k : Int)) w9 from ⟨k, S ++ [(4, k5, 0, ⟨#[]⟩)], by omega, rfl, (by simp; omega), lown_push hown', (fun y hy => by
                rcases List.mem_append.1 hy with hy | hy
                · exact HQ.out y hy
                · simp at hy
                  subst hy
                  exact Nat.zero_le _), dr_more (dr_push HDn.out hR (Nat.le_refl _) ((Below.refl _ _).alloc (Nat.le_refl _) _) HOn.out hgrow) (by omega)⟩)
            clear hown' hgrow hnn
            go_wp2_with fail
            go_roundw
            case rel => have h := HR.out; simpa using h
            case measure => first | (simp [intOf]; done) | (simp [intOf]; omega)
      · as_aux_lemma =>
          go_wp2_with fail
          refine (pick_any R q' ins _ hr4 (by omega)).mono ?_
          rintro e w5 ⟨k5, rfl, k50, k51, _, hr5, hg5⟩
          have z5 := hg5.size
          have L5 : LnBx w5 w3.heap.size _ 0 0 ⟨#[]⟩ := HL4.out.grown hg5 (fun e => by injection e with e; omega)
          have o5 := row_drawn HO4.out hg5 (by omega)
          have d5 := dr_then HG4.out r1 r2 (drawn_one9 hr5 hg5)
          obtain ⟨w6, hw6⟩ : ∃ V, V = w5.setCell ⟨w3.heap.size, 1, none⟩ (.int .i64 k5) := ⟨_, rfl⟩
          have HLn := Lib.hid (show LnBx w6 w3.heap.size 5 k5 0 ⟨#[]⟩ by rw [hw6]; exact lx_setA L5)
          have HOn := Lib.hid (show LOwn w6 w.heap.size (.slice va S.length vc) S by rw [hw6]; exact row_set o5 (fun j e => by have := ltS j e; omega))
          have HDn := Lib.hid (show Drawn w R p _ w6 by rw [hw6]; exact dr_set d5 hR (by omega))
          have z6 : w5.heap.size ≤ w6.heap.size := by rw [hw6]; simp [World.setCell]
          clear d0 d1 d2 d3 f1 f2 f3 hr4 k51 hr5 hg5 o5 d5
          obtain ⟨d0, d1, d2, d3⟩ := L5.cells
          have f1 := lx_frozen (o := 1) L5
          go_upto_region 17 with fail
          rw [← hw6]
          clear hw6 d0 d1 d2 d3 f1 L5
          obtain ⟨d0, d1, d2, d3⟩ := HLn.out.cells
          by_cases hins : 0 < ins
          · go_wp2_with (at_builtin; refine wpList_append_own _ rfl _ _ 31 rfl w.heap.size 99 i0 (.agg #[.int .i64 0, .int .i64 0, .int .i64 0, .string ByteArray.empty]) 4 40 Try.underlying31 hi hz0 hz1 hz2 rfl (by decide) _ _ (lcs S) rfl (World.ownsRow.alloc HOn.out (box2' 5 k5 0 ⟨#[]⟩)) ⟨w6.heap.size, 0, none⟩ 1 1 (lcs [(5, k5, 0, ⟨#[]⟩)]) rfl rfl line_new (lcs_one _) (by unfold maxLen; omega) (by omega) (by simp; omega) ?_)
            intro v' w9 hown' hgrow hnn
            have HR := Lib.hid (show ScRel9 R p w v' (.int .i64 (k : Int)) w9 from ⟨k, S ++ [(5, k5, 0, ⟨#[]⟩)], by omega, rfl, (by simp; omega), lown_push hown', (fun y hy => by
                rcases List.mem_append.1 hy with hy | hy
                · exact HQ.out y hy
                · simp at hy
                  subst hy
                  exact Nat.zero_le _), dr_more (dr_push HDn.out hR (Nat.le_refl _) ((Below.refl _ _).alloc (Nat.le_refl _) _) HOn.out hgrow) (by omega)⟩)
            clear hown' hgrow hnn
            go_wp2_with fail
            go_roundw
            case rel => have h := HR.out; simpa using h
            case measure => first | (simp [intOf]; done) | (simp [intOf]; omega)
          · have HR := Lib.hid (show ScRel9 R p w (.slice va S.length vc) (.int .i64 (k : Int)) w6 from ⟨k, S, by omega, rfl, by omega, HOn.out, HQ.out, dr_more HDn.out (by omega)⟩)
            go_wp2_with fail
            go_roundw
            case rel => have h := HR.out; simpa using h
            case measure => first | (simp [intOf]; done) | (simp [intOf]; omega)
end Drm
end Go.Proofs.Ytopplljilmjjgaa
