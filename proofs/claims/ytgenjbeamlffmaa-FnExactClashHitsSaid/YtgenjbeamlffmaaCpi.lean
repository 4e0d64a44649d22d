/- Contracts of the program's picksNeeded, ChoiceTrim and ChoiceReach, over this seat's translation, as plain functions tell them; nothing that was there before a call has changed. Condition: at most 1048576 of each row and of what is in it. -/
import Derived.Test.YtgenjbeamlffmaaCpn
namespace Go.Proofs.Ytgenjbeamlffmaa
open Go.RowKit Go.Sort

namespace Cpu
open Foot Copy Nup
/-- What the outer loop keeps. -/
def KRel (S : List Rel) (N : List Nd) (C : List Pk) (w : World) (g : Nat) (v i : Value) (wr : World) : Prop :=
  ∃ (k : Nat) (st : St), i = .int .i64 (k : Int) ∧ k ≤ st.2.length ∧ OkK S N C st ∧ endK S N C = runK S C (200 - k) k st ∧ NOwn wr w.heap.size 0 v st.2 ∧ Fl wr g st.1 ∧ Below w.heap.size w wr
/-- What the inner loop keeps. -/
def KIn (S : List Rel) (N : List Nd) (C : List Pk) (w : World) (g k : Nat) (n : Nd) (st : St) (v i : Value) (wr : World) : Prop :=
  ∃ (j : Nat) (s2 : St), i = .int .i64 (j : Int) ∧ j ≤ C.length ∧ k < s2.2.length ∧ OkK S N C s2 ∧ passK S n.1 0 C st = passK S n.1 j (C.drop j) s2 ∧ s2.2[k]? = some n ∧ NOwn wr w.heap.size 0 v s2.2 ∧ Fl wr g s2.1 ∧ Below w.heap.size w wr
theorem kup_next {S : List Rel} {N : List Nd} {C : List Pk} {w wr : World} {g k : Nat} {n : Nd} {st s2 : St} {v : Value} (hk : k < 200) (hn : st.2[k]? = some n) (hu : endK S N C = runK S C (200 - k) k st) (hp : passK S n.1 0 C st = passK S n.1 C.length (C.drop C.length) s2)
    (hl : k < s2.2.length) (ho : OkK S N C s2) (hN : NOwn wr w.heap.size 0 v s2.2) (hF : Fl wr g s2.1) (hb : Below w.heap.size w wr) : KRel S N C w g v (.int .i64 ((k : Int) + 1)) wr := by
  refine ⟨k + 1, s2, by go_num, by omega, ho, ?_, hN, hF, hb⟩
  rw [hu, show 200 - k = (200 - (k + 1)) + 1 by omega, runK_step hn, hp, List.drop_length]
  rfl
theorem kin_next {S : List Rel} {N : List Nd} {C : List Pk} {w wr : World} {g k j : Nat} {n : Nd} {x : Pk} {st s2 : St} {v : Value} (hS : ∀ q ∈ S, q.2.2.2.length ≤ 5) (hj : j < C.length) (hx : C[j]? = some x) (hl : k < s2.2.length) (ho : OkK S N C s2) (hp : passK S n.1 0 C st = passK S n.1 j (C.drop j) s2) (hn : s2.2[k]? = some n)
    (hN : NOwn wr w.heap.size 0 v (hitK S n.1 s2 j x).2) (hF : Fl wr g (hitK S n.1 s2 j x).1) (hb : Below w.heap.size w wr) : KIn S N C w g k n st v (.int .i64 ((j : Int) + 1)) wr := by
  obtain ⟨h1, h2⟩ := hitK_front (S := S) (nm := n.1) (j := j) (x := x) (st := s2) (i := k + 1) hl
  refine ⟨j + 1, hitK S n.1 s2 j x, by go_num, by omega, h2, ho.hit hS n.1 j x, by rw [hp, passK_step hx], ?_, hN, hF, hb⟩
  have e : (hitK S n.1 s2 j x).2[k]? = ((hitK S n.1 s2 j x).2.take (k + 1))[k]? := by rw [List.getElem?_take, if_pos (by omega)]
  rw [e, h1, List.getElem?_take, if_pos (by omega)]
  exact hn
theorem hitK_no {S : List Rel} {nm : Int} {st : St} {j : Nat} {x : Pk} (h : st.1.getD j true = true ∨ ¬ x.1 = nm) : hitK S nm st j x = st := by
  unfold hitK
  rw [if_neg]
  rw [Bool.and_eq_true]
  rintro ⟨h1, h2⟩
  rcases h with h | h
  · rw [h] at h1; cases h1
  · exact h (of_decide_eq_true h2)
theorem hitK_yes {S : List Rel} {nm : Int} {st : St} {j : Nat} {x : Pk} (h : st.1.getD j true = false) (h' : x.1 = nm) : hitK S nm st j x = (st.1.set j true, st.2 ++ ndsOf S x) := by
  unfold hitK
  rw [if_pos]
  rw [h, decide_eq_true h']
  rfl

set_option maxRecDepth 100000 in
set_option maxHeartbeats 8000000 in
theorem picksNeeded_any (v u z : Value) (S : List Rel) (N : List Nd) (C : List Pk) (w : World) (hS : S.length ≤ 30) (hq : ∀ q ∈ S, q.2.2.2.length ≤ 5 ∧ ∀ p ∈ q.2.2.2, p.2.length ≤ 1048576) (hN : N.length ≤ 5) (hC : C.length ≤ 30) (h : RlAt w w.heap.size v S) (h' : NdAt w w.heap.size u N) (h2 : PkAt w w.heap.size z C) :
    Calls Try.prog 157 #[v, u, z] w (PbPost (cameL C (endK S N C).1) w) := by
  obtain ⟨i0, hi, hz0, hz1, hz2⟩ := info_parts infoNeed
  have hmk := make_flags C.length (by omega)
  have hq5 : ∀ q ∈ S, q.2.2.2.length ≤ 5 := fun q h => (hq q h).1
  have hle : ∀ {st : St}, OkK S N C st → st.2.length ≤ 155 := fun ho => by have := ho.size; omega
  obtain ⟨sa, caps, rfl, hx⟩ := id h
  obtain ⟨na, ncap, rfl, hx'⟩ := id h'
  obtain ⟨pa, pc, rfl, h0⟩ := id h2
  clear hx hx'
  have H := Lib.hid h
  have HZ := Lib.hid h2
  obtain ⟨news, l1, l2, l3, l4, l5⟩ := need_cells (x := (Value.slice none 0 0).ownBlock) h' (Nat.le_refl _) (fun c e => by cases e)
  have hown0 : w.ownsRow w.heap.size 111 2 (.slice none 0 0) 0 [] := World.ownsRow_nil _ _ _ _
  have HL5 := Lib.hid l5
  clear h h' h2 l5
  go_enter Try.func157, Try.ntmps157
  go_wp2_with (at_builtin; refine Ap2.wpList_append _ rfl (.tmp 12) (.tmp 13) 33 rfl w.heap.size 111 i0 (.agg #[.int .i64 0, .slice none 0 0]) 2 32 Try.underlying33 hi hz0 hz1 hz2 rfl (by decide) _ _ [] rfl hown0 na N.length ncap news (by rfl) l1 l2 l3 l4 (by unfold maxLen; omega) (by omega) (Nat.le_refl _) ?_)
  intro a1 c1 w1 hown1 hgrow1 hat1
  have n1 : Below w.heap.size w w1 := Below.grown (Below.refl _ _) hgrow1 (Nat.le_refl _) (fun k e => by cases e)
  have hO1 : NOwn w1 w.heap.size 0 (.slice a1 N.length c1) N := by
    have := grow_any (M := []) (P := N) (a' := a1) (c' := c1) hown0 (fun i hi => absurd hi (by simp)) HL5.out (by simpa using hown1) hgrow1 (by simpa using hat1)
    simpa using this
  have hst : KRel S N C w w1.heap.size (.slice a1 N.length c1) (.int .i64 0) (w1.alloc (.cells (madeCells #[.bool false] (C.length * 1)) 4)) :=
    ⟨0, startK C N, rfl, Nat.zero_le _, OkK.start, rfl, hO1.below ((Below.refl _ _).alloc (Nat.le_refl _) _), made_flags _ _, n1.alloc n1.size _⟩
  rw [Nat.mul_one] at hst
  have HST := Lib.hid hst
  have z1 := n1.size
  clear hst hO1 hown1 hgrow1 hat1 hown0
  go_wp2_with fail
  clear hmk
  go_loopw [7, 9] (fun v i wr => KRel S N C w w1.heap.size v i wr) (fun _ i _ => 200 - (intOf i).toNat)
  case atStart => exact HST.out
  case round =>
    obtain ⟨k, st, rfl, hk, hok, hu, hown, hfl, hb⟩ := hrel
    have hle1 := hle hok
    obtain ⟨va, vc, rfl, hx⟩ := id hown.at
    clear hx
    by_cases hlt : k < st.2.length
    · obtain ⟨nm, L, hn⟩ : ∃ nm L, st.2[k] = (nm, L) := ⟨_, _, rfl⟩
      have hn' : st.2[k]? = some (nm, L) := by rw [List.getElem?_eq_getElem hlt, hn]
      have HU := Lib.hid hu
      have HN' := Lib.hid hn'
      have HI := Lib.hid (show KIn S N C w w1.heap.size k (nm, L) st (.slice va st.2.length vc) (.int .i64 0) wr from ⟨0, st, rfl, Nat.zero_le _, hlt, hok, rfl, hn', hown, hfl, hb⟩)
      clear hok hown hfl hb hu hn hn'
      go_wp2_with fail
      go_loopw [7, 26] (fun v i wx => KIn S N C w w1.heap.size k (nm, L) st v i wx) (fun _ i _ => C.length - (intOf i).toNat)
      case atStart => exact HI.out
      case round =>
        rename World => wx
        obtain ⟨j, s2, rfl, hj, hks, hok, hp, hn2, hown, hfl, hb⟩ := hrel
        have hle2 := hle hok
        obtain ⟨vb, vd, rfl, hat⟩ := id hown.at
        have HP := Lib.hid hp
        have HN2 := Lib.hid hn2
        have HOK := Lib.hid hok
        have HOW := Lib.hid hown
        have HFL := Lib.hid hfl
        have hbz := hb.size
        by_cases hjl : j < C.length
        · rcases h0 with h0 | ⟨b, o, rfl, hB, hc⟩
          · subst h0
            exact absurd hjl (by simp)
          obtain ⟨x, a, b', c, d, hxy⟩ : ∃ x a b c d, C[j] = (x, a, b, c, d) := ⟨_, _, _, _, _, rfl⟩
          obtain ⟨r0, r1, r2, r3, r4⟩ := hc j hjl
          rw [hxy] at r0 r1 r2 r3 r4
          simp only at r0 r1 r2 r3 r4
          have e0 := (hb.cell (p := ⟨b, o + j * 5, none⟩) hB).trans r0
          have e1 := (hb.cell (p := ⟨b, o + j * 5 + 1, none⟩) hB).trans r1
          have e2 := (hb.cell (p := ⟨b, o + j * 5 + 2, none⟩) hB).trans r2
          have e3 := (hb.cell (p := ⟨b, o + j * 5 + 3, none⟩) hB).trans r3
          have e4 := (hb.cell (p := ⟨b, o + j * 5 + 4, none⟩) hB).trans r4
          have HXY := Lib.hid (show C[j]? = some (x, a, b', c, d) by rw [List.getElem?_eq_getElem hjl, hxy])
          obtain ⟨gn, on, hvb, hgn, hcn⟩ : ∃ b o, vb = some ⟨b, o, none⟩ ∧ b < wx.heap.size ∧ ∀ i (h : i < s2.2.length), NdC wx wx.heap.size b (o + i * 2) s2.2[i] := by
            rcases hat with hat | hat
            · rw [hat] at hks; simp at hks
            · exact hat
          subst hvb
          have hkk : s2.2[k] = (nm, L) := by
            rw [List.getElem?_eq_getElem hks] at hn2
            exact Option.some.inj hn2
          obtain ⟨p0, _⟩ := hcn k hks
          rw [hkk] at p0
          simp only at p0
          have hjc : j < s2.1.length := by rw [hok.flags]; exact hjl
          have q0 := hfl.cell hjc
          have qf := hfl.frozen (i := j)
          have hgl := hfl.lt
          have bB : b < wx.heap.size := Nat.lt_of_lt_of_le hB hb.size
          clear hxy hcn hkk hat hp hn2 hok hown hfl hjc r0 r1 r2 r3 r4
          have i0' : (0 : Int) ≤ (j : Int) := by omega
          have i1 : (j : Int) < (C.length : Int) := by omega
          have i2 : (0 : Int) ≤ (k : Int) := by omega
          have i3 : (k : Int) < (s2.2.length : Int) := by omega
          obtain ⟨w3, hw3⟩ : ∃ V : World, V = wx.alloc (.cells #[.int .i64 x, .int .i64 a, .int .i64 b', .int .i64 c, .int .i64 d] 114) := ⟨_, rfl⟩
          have b3 : Below wx.heap.size wx w3 := by rw [hw3]; exact (Below.refl _ _).alloc (Nat.le_refl _) _
          have z3 : wx.heap.size + 1 ≤ w3.heap.size := by rw [hw3]; simp
          have y0 : w3.cell? ⟨wx.heap.size, 0, none⟩ = some (.int .i64 x) := by rw [hw3]; go_simp
          have y1 : w3.cell? ⟨wx.heap.size, 1, none⟩ = some (.int .i64 a) := by rw [hw3]; go_simp
          have y2 : w3.cell? ⟨wx.heap.size, 2, none⟩ = some (.int .i64 b') := by rw [hw3]; go_simp
          have y3 : w3.cell? ⟨wx.heap.size, 3, none⟩ = some (.int .i64 c) := by rw [hw3]; go_simp
          have y4 : w3.cell? ⟨wx.heap.size, 4, none⟩ = some (.int .i64 d) := by rw [hw3]; go_simp
          go_upto_region 10 with fail
          rw [← hw3]
          clear hw3 e0 e1 e2 e3 e4
          have t0 := cell_regrown y0
          have u0 := cell_regrown ((b3.cell (p := ⟨gn, on + k * 2, none⟩) hgn).trans p0)
          have u2 := cell_regrown ((b3.cell (p := ⟨w1.heap.size, j, none⟩) hgl).trans q0)
          have HY := Lib.hid (show (w3.cell? ⟨wx.heap.size, 0, none⟩ = some (.int .i64 x) ∧ w3.cell? ⟨wx.heap.size, 1, none⟩ = some (.int .i64 a) ∧ w3.cell? ⟨wx.heap.size, 2, none⟩ = some (.int .i64 b') ∧ w3.cell? ⟨wx.heap.size, 3, none⟩ = some (.int .i64 c) ∧ w3.cell? ⟨wx.heap.size, 4, none⟩ = some (.int .i64 d)) from ⟨y0, y1, y2, y3, y4⟩)
          clear y0 y1 y2 y3 y4 p0
          rcases hcj : s2.1.getD j true
          · by_cases hxn : x = nm
            · subst hxn
              have HH := Lib.hid (hitK_yes (S := S) (nm := x) (st := s2) (j := j) (x := (x, a, b', c, d)) hcj rfl)
              rw [hcj] at u2 q0
              clear hcj
              go_wp2_with fail
              refine wp_region_quiet_below (by kernel_rfl) (by kernel_rfl) ?_
              repeat (any_goals (first | go_big_quiet_step (fail) | quiet_step (fail)))
              refine wpQuiet_nil ?_
              intro W2 hw2
              have nn := quiet_end hw2
              clear hw2 t0 u0 u2
              have bx := b3.trans (nn.mono b3.size)
              have zx := bx.size
              have zn := nn.size
              have f0 : W2.cell? ⟨w1.heap.size, j, none⟩ = some (.bool false) := (bx.cell (p := ⟨w1.heap.size, j, none⟩) hgl).trans q0
              have f1 : W2.frozen? ⟨w1.heap.size, j, none⟩ = false := (bx.frozen (p := ⟨w1.heap.size, j, none⟩) hgl).trans qf
              have ne1 : w1.heap.size ≠ wx.heap.size := by omega
              have ne2 : wx.heap.size ≠ w1.heap.size := by omega
              have m0 := (nn.cell (p := ⟨wx.heap.size, 0, none⟩) (by show wx.heap.size < w3.heap.size; omega)).trans HY.out.1
              have m1 := (nn.cell (p := ⟨wx.heap.size, 1, none⟩) (by show wx.heap.size < w3.heap.size; omega)).trans HY.out.2.1
              have m2 := (nn.cell (p := ⟨wx.heap.size, 2, none⟩) (by show wx.heap.size < w3.heap.size; omega)).trans HY.out.2.2.1
              have m3 := (nn.cell (p := ⟨wx.heap.size, 3, none⟩) (by show wx.heap.size < w3.heap.size; omega)).trans HY.out.2.2.2.1
              have m4 := (nn.cell (p := ⟨wx.heap.size, 4, none⟩) (by show wx.heap.size < w3.heap.size; omega)).trans HY.out.2.2.2.2
              have hF2 := HFL.out.below bx
              have HF3 := Lib.hid (hF2.set (i := j) true)
              have HO3 := Lib.hid (NOwn.flag (i := j) (b := true) (HOW.out.below bx) hF2)
              have HB3 := Lib.hid ((hb.trans (bx.mono hbz)).setCell (show w.heap.size ≤ (⟨w1.heap.size, j, none⟩ : Addr).block from z1) (.bool true))
              clear hF2 q0
              go_upto_region 12 with fail
              obtain ⟨w4, hw4⟩ : ∃ V : World, V = W2.setCell ⟨w1.heap.size, j, none⟩ (.bool true) := ⟨_, rfl⟩
              have far : ∀ p v, W2.cell? ⟨wx.heap.size, p, none⟩ = some v → w4.cell? ⟨wx.heap.size, p, none⟩ = some v := fun p v e => by
                rw [hw4]
                exact (World.cell?_of_block (a := ⟨wx.heap.size, p, none⟩) (Below.heap_setCell _ _ _ _ (by show wx.heap.size ≠ _; exact ne2))).trans e
              have k0 := far _ _ m0
              have k1 := far _ _ m1
              have k2 := far _ _ m2
              have k3 := far _ _ m3
              have k4 := far _ _ m4
              rw [← hw4] at HF3 HO3 HB3 ⊢
              clear hw4 far m0 m1 m2 m3 m4 f0 f1
              have hz4 : w.heap.size ≤ w4.heap.size := HB3.out.size
              go_wp2_with fail
              refine (needsOfPick_any _ S x a b' c d _ w.heap.size hz4 (by omega) (H.out.below HB3.out)).mono ?_
              rintro e w5 ⟨ad, cap, rfl, hnd, hb5⟩
              have m5 := HB3.out.trans (hb5.mono hz4)
              obtain ⟨cs, hown5, hc5⟩ := HO3.out.below hb5
              have hlt5 := World.ownsRow.lt hown5
              have HF5 := Lib.hid (HF3.out.below hb5)
              have hML := nds_len hq5 (x, a, b', c, d)
              obtain ⟨M, hM⟩ : ∃ M, ndsOf S (x, a, b', c, d) = M := ⟨_, rfl⟩
              rw [hM] at hnd hML HH ⊢
              obtain ⟨news, l1, l2, l3, l4, l5⟩ := need_cells (x := (Value.slice (some ⟨gn, on, none⟩) s2.2.length vd).ownBlock) hnd m5.size (fun c e => (hlt5 c e).1)
              have HC5 := Lib.hid hc5
              have HL5 := Lib.hid l5
              have HNE := Lib.hid (own_ne hown5 HF5.out)
              have HHM := Lib.hid hM
              clear hc5 l5 hnd hb5 hM k0 k1 k2 k3 k4
              go_wp2_with (at_builtin; refine Ap2.wpList_append _ rfl (.tmp 49) (.tmp 52) 33 rfl w.heap.size 111 i0 (.agg #[.int .i64 0, .slice none 0 0]) 2 32 Try.underlying33 hi hz0 hz1 hz2 rfl (by decide) _ _ cs rfl hown5 ad M.length cap news (by rfl) l1 l2 l3 l4 (by unfold maxLen; omega) (by omega) m5.size ?_)
              intro a7 c7 w7 hown7 hgrow7 hat7
              have n7 : Below w.heap.size w w7 := Below.grown m5 hgrow7 m5.size (fun k e => (hlt5 k e).1)
              have hO7 := grow_any hown5 HC5.out HL5.out hown7 hgrow7 hat7
              have hF7 : Fl w7 w1.heap.size (s2.1.set j true) := HF5.out.kept (hgrow7.block _ HF5.out.lt (fun e => HNE.out _ e.symm rfl))
              have HR := Lib.hid (kin_next (w := w) (N := N) hq5 hjl HXY.out hks HOK.out HP.out HN2.out (v := .slice a7 (s2.2.length + M.length) c7) (by rw [HH.out]; exact hO7) (by rw [HH.out]; exact hF7) n7)
              clear hown7 hgrow7 hat7 hown5 hO7 hF7
              go_wp2_with fail
              go_roundw
              case rel => exact HR.out
              case measure => simp [intOf]; omega
            · have HH := Lib.hid (hitK_no (S := S) (nm := nm) (st := s2) (j := j) (x := (x, a, b', c, d)) (.inr hxn))
              have hxz : (x == nm) = false := by rw [beq_eq_false_iff_ne]; exact hxn
              rw [hcj] at u2 q0
              clear hcj
              go_wp2_with fail
              refine wp_region_quiet_below (by kernel_rfl) (by kernel_rfl) ?_
              repeat (any_goals (first | go_big_quiet_step (fail) | quiet_step (fail)))
              refine wpQuiet_nil ?_
              intro W2 hw2
              have nn := quiet_end hw2
              clear hw2 t0 u0 u2 q0
              have bx := b3.trans (nn.mono b3.size)
              have HR := Lib.hid (kin_next (w := w) (N := N) hq5 hjl HXY.out hks HOK.out HP.out HN2.out (by rw [HH.out]; exact HOW.out.below bx) (by rw [HH.out]; exact HFL.out.below bx) (hb.trans (bx.mono hbz)))
              go_wp2_with fail
              go_roundw
              case rel => exact HR.out
              case measure => simp [intOf]; omega
          · have HH := Lib.hid (hitK_no (S := S) (nm := nm) (st := s2) (j := j) (x := (x, a, b', c, d)) (.inl hcj))
            rw [hcj] at u2 q0
            clear hcj
            go_wp2_with fail
            refine wp_region_quiet_below (by kernel_rfl) (by kernel_rfl) ?_
            repeat (any_goals (first | go_big_quiet_step (fail) | quiet_step (fail)))
            refine wpQuiet_nil ?_
            intro W2 hw2
            have nn := quiet_end hw2
            clear hw2 t0 u0 u2 q0
            have bx := b3.trans (nn.mono b3.size)
            have HR := Lib.hid (kin_next (w := w) (N := N) hq5 hjl HXY.out hks HOK.out HP.out HN2.out (by rw [HH.out]; exact HOW.out.below bx) (by rw [HH.out]; exact HFL.out.below bx) (hb.trans (bx.mono hbz)))
            go_wp2_with fail
            go_roundw
            case rel => exact HR.out
            case measure => simp [intOf]; omega
        · obtain rfl : j = C.length := by omega
          have HR := Lib.hid (kup_next (by omega) HN'.out HU.out HP.out hks HOK.out HOW.out HFL.out hb)
          clear hat hp hn2 hok hown hfl
          go_wp2_with fail
          go_roundw
          case rel => exact HR.out
          case measure => simp [intOf]; omega
    · obtain rfl : k = st.2.length := by omega
      have HE := Lib.hid (show endK S N C = st by rw [hu, runK_end (Nat.le_refl _)])
      have HFE := Lib.hid hfl
      have HFG := Lib.hid hok.flags
      have zb := hb.size
      clear hok hown hfl hu
      go_wp2_with fail
      refine (picksThatCame_any _ C w1.heap.size st.1 _ (by omega) HFG.out (HZ.out.stepAt hb) HFE.out).mono ?_
      rintro e w8 ⟨r, rfl, hr, hb8⟩
      have HR := Lib.hid (hr.mono zb)
      have n8 := hb.trans (hb8.mono zb)
      clear hr hb8
      go_wp2_with fail
      go_ret
      exact ⟨r, rfl, by rw [HE.out]; exact HR.out, n8⟩


end Cpu
end Go.Proofs.Ytgenjbeamlffmaa
