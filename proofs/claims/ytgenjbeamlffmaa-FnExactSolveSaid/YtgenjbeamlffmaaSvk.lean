/- Contracts of the program's picksOfFirstName and picksOpen, over this seat's translation, as plain functions tell them; nothing that was there before a call has changed. Condition: at most 1048576 of each row. -/
import Derived.Test.YtgenjbeamlffmaaSvj
namespace Go.Proofs.Ytgenjbeamlffmaa
open Go.RowKit Go.Sort

namespace Svp
open Foot Copy Nup Cpu Cfa Rch
/-- How many are of a name, one behind the other. -/
def sameN (n : Int) : List Pk → Nat
  | [] => 0
  | q :: t => if q.1 = n then sameN n t + 1 else 0
theorem sameN_take (n : Int) : ∀ o : List Pk, sameN n o = (o.takeWhile (fun q => decide (q.1 = n))).length
  | [] => rfl
  | q :: t => by
    unfold sameN
    by_cases h : q.1 = n
    · rw [if_pos h, List.takeWhile_cons_of_pos (by simpa using h), sameN_take n t]
      rfl
    · rw [if_neg h, List.takeWhile_cons_of_neg (by simpa using h)]
      rfl
theorem firstN_same (p : Pk) (t : List Pk) : firstN (p :: t) = sameN p.1 (p :: t) := (sameN_take p.1 (p :: t)).symm
theorem firstN_head : ∀ {O : List Pk} (h : 0 < O.length), firstN O = sameN O[0].1 O
  | [], h => absurd h (by simp)
  | p :: t, _ => firstN_same p t
theorem sameN_step {n : Int} {o : List Pk} {k : Nat} {x : Pk} (h : o[k]? = some x) : sameN n (o.drop k) = if x.1 = n then sameN n (o.drop (k + 1)) + 1 else 0 := by
  have hk := (List.getElem?_eq_some_iff.1 h).1
  rw [List.drop_eq_getElem_cons hk, (List.getElem?_eq_some_iff.1 h).2]
  rfl

set_option maxRecDepth 100000 in
set_option maxHeartbeats 4000000 in
theorem firstName_any (z : Value) (O : List Pk) (w : World) (hO : O.length ≤ 1048576) (h : PkAt w w.heap.size z O) :
    Calls Try.prog 127 #[z] w fun e w' => e = .returned (.int .i64 (firstN O : Nat)) ∧ Below w.heap.size w w' := by
  obtain ⟨pa, pc, rfl, h0⟩ := id h
  clear h
  by_cases hO0 : O = []
  · subst hO0
    go_enter Try.func127, Try.ntmps127
    go_wp2_with fail
    go_loopw [3] (fun i wr => i = .int .i64 0 ∧ Below w.heap.size w wr) (fun _ _ => 0)
    case atStart => exact ⟨rfl, Below.refl _ _⟩
    case round =>
      obtain ⟨rfl, hb⟩ := hrel
      go_wp2_with fail
      refine wp_region_quiet_below (by kernel_rfl) (by kernel_rfl) ?_
      repeat (any_goals (first | go_big_quiet_step (fail) | quiet_step (fail)))
      refine wpQuiet_nil ?_
      intro W2 hw2
      have nn := quiet_end hw2
      clear hw2
      have HB := Lib.hid (hb.trans (nn.mono hb.size))
      go_wp2_with fail
      go_ret
      exact ⟨rfl, HB.out⟩
  · obtain ⟨sb, o, rfl, hB, hc⟩ : ∃ b o, pa = some ⟨b, o, none⟩ ∧ b < w.heap.size ∧ ∀ i (h : i < O.length), PkC w b (o + i * 5) O[i] := by
      rcases h0 with h0 | h0
      · exact absurd h0 hO0
      · exact h0
    have hp : 0 < O.length := List.length_pos_iff.2 hO0
    have g0 := (hc 0 hp).1
    rw [Nat.zero_mul, Nat.add_zero] at g0
    obtain ⟨nm, hnm⟩ : ∃ nm, O[0].1 = nm := ⟨_, rfl⟩
    rw [hnm] at g0
    have HF := Lib.hid (show firstN O = sameN nm O by rw [firstN_head hp, hnm])
    have hpos : (0 : Int) < (O.length : Int) := by omega
    clear hnm h0 hO0
    go_enter Try.func127, Try.ntmps127
    go_wp2_with fail
    go_loopw [3] (fun i wr => ∃ k : Nat, k ≤ O.length ∧ i = .int .i64 (k : Int) ∧ sameN nm O = k + sameN nm (O.drop k) ∧ Below w.heap.size w wr) (fun i _ => O.length - (intOf i).toNat)
    case atStart => exact ⟨0, Nat.zero_le _, rfl, by rw [Nat.zero_add]; rfl, Below.refl _ _⟩
    case round =>
      obtain ⟨k, hk, rfl, he, hb⟩ := hrel
      have HE := Lib.hid he
      clear he
      have v0 := cell_regrown ((hb.cell (p := ⟨sb, o, none⟩) hB).trans g0)
      by_cases hlt : k < O.length
      · have e0 := (hc k hlt).1
        obtain ⟨x, hx⟩ : ∃ x, O[k].1 = x := ⟨_, rfl⟩
        rw [hx] at e0
        have v1 := cell_regrown ((hb.cell (p := ⟨sb, o + k * 5, none⟩) hB).trans e0)
        have HST := Lib.hid (show sameN nm (O.drop k) = if x = nm then sameN nm (O.drop (k + 1)) + 1 else 0 by rw [sameN_step (List.getElem?_eq_getElem hlt), hx])
        have i0 : (0 : Int) ≤ (k : Int) := by omega
        have i1 : (k : Int) < (O.length : Int) := by omega
        clear hx e0
        by_cases hxn : x = nm
        · have hxb : (x == nm) = true := by simp [hxn]
          have HS1 := Lib.hid (HST.out.trans (if_pos hxn))
          clear hxn
          go_wp2_with fail
          refine wp_region_quiet_below (by kernel_rfl) (by kernel_rfl) ?_
          repeat (any_goals (first | go_big_quiet_step (fail) | quiet_step (fail)))
          refine wpQuiet_nil ?_
          intro W2 hw2
          have nn := quiet_end hw2
          clear hw2 v0 v1
          have HB := Lib.hid (hb.trans (nn.mono hb.size))
          go_wp2_with fail
          go_roundw
          case rel => exact ⟨k + 1, by omega, by go_num, by rw [HE.out, HS1.out]; omega, HB.out⟩
          case measure => simp [intOf]; omega
        · have hxb : (x == nm) = false := by rw [beq_eq_false_iff_ne]; exact hxn
          have HS1 := Lib.hid (HST.out.trans (if_neg hxn))
          clear hxn
          go_wp2_with fail
          refine wp_region_quiet_below (by kernel_rfl) (by kernel_rfl) ?_
          repeat (any_goals (first | go_big_quiet_step (fail) | quiet_step (fail)))
          refine wpQuiet_nil ?_
          intro W2 hw2
          have nn := quiet_end hw2
          clear hw2 v0 v1
          have HB := Lib.hid (hb.trans (nn.mono hb.size))
          go_wp2_with fail
          go_ret
          exact ⟨by rw [HF.out, HE.out, HS1.out]; rfl, HB.out⟩
      · obtain rfl : k = O.length := by omega
        have HS1 := Lib.hid (show sameN nm O = O.length by rw [HE.out, List.drop_length]; rfl)
        go_wp2_with fail
        refine wp_region_quiet_below (by kernel_rfl) (by kernel_rfl) ?_
        repeat (any_goals (first | go_big_quiet_step (fail) | quiet_step (fail)))
        refine wpQuiet_nil ?_
        intro W2 hw2
        have nn := quiet_end hw2
        clear hw2 v0
        have HB := Lib.hid (hb.trans (nn.mono hb.size))
        go_wp2_with fail
        go_ret
        exact ⟨by rw [HF.out, HS1.out]; rfl, HB.out⟩
theorem open_step {S : List Rel} {H : List Pk} {k : Nat} {r : Rel} (h : S[k]? = some r) : openL (S.drop k) H = (if openB H r = true then [pkR r] else []) ++ openL (S.drop (k + 1)) H := by
  have hk := (List.getElem?_eq_some_iff.1 h).1
  rw [List.drop_eq_getElem_cons hk, (List.getElem?_eq_some_iff.1 h).2]
  unfold openL
  by_cases hb : openB H r = true
  · rw [if_pos hb, List.filter_cons_of_pos hb]
    rfl
  · rw [if_neg hb, List.filter_cons_of_neg hb]
    rfl

set_option maxRecDepth 100000 in
set_option maxHeartbeats 8000000 in
theorem picksOpen_any (u z : Value) (S : List Rel) (D : List Pk) (w : World) (hl : S.length ≤ 1048576) (hD : D.length ≤ 1048576) (h : RlAt w w.heap.size u S) (h1 : PkAt w w.heap.size z D) :
    Calls Try.prog 74 #[u, z] w fun e w' => ∃ v, e = .returned v ∧ KOwn w' w.heap.size v (openL S D) ∧ Below w.heap.size w w' := by
  obtain ⟨i0, hi, hz0, hz1, hz2⟩ := info_parts infoPick
  obtain ⟨sa, caps, rfl, h0⟩ := id h
  obtain ⟨da, dc, rfl, hx⟩ := id h1
  clear hx
  have H1 := Lib.hid h1
  have KA : Hid (∀ V v x a b c d f, PkAt V V.heap.size (.slice da D.length dc) D → Calls Try.prog 129 #[rels x a b c d f v, .slice da D.length dc] V fun e w' => e = .returned (.bool (!f || heldP D (x, a, b, c, d))) ∧ Below V.heap.size V w') := Lib.hid fun V v x a b c d f g => releaseAllowed_any _ v D x a b c d f V hD g
  clear h h1
  go_enter Try.func74, Try.ntmps74
  go_wp2_with fail
  go_loopw [5, 10] (fun v i wr => ∃ (k : Nat) (L : List Pk), k ≤ S.length ∧ i = .int .i64 (k : Int) ∧ openL S D = L ++ openL (S.drop k) D ∧ L.length ≤ k ∧ KOwn wr w.heap.size v L ∧ Below w.heap.size w wr) (fun _ i _ => S.length - (intOf i).toNat)
  case atStart => exact ⟨0, [], Nat.zero_le _, rfl, rfl, Nat.le_refl _, World.ownsRow_nil _ _ _ _, Below.refl _ _⟩
  case round =>
    obtain ⟨k, L, hk, rfl, he, hL, hown, hb⟩ := hrel
    obtain ⟨va, vc, hv, hx⟩ := id (KOwn.pb hown).at
    subst hv
    clear hx
    have HE := Lib.hid he
    have HO := Lib.hid hown
    clear he hown
    have zb := hb.size
    by_cases hlt : k < S.length
    · rcases h0 with h0 | ⟨sb, o, rfl, hB, hc⟩
      · subst h0
        exact absurd hlt (by simp)
      obtain ⟨x, a, b, c, d, f, P, hxy⟩ : ∃ x a b c d f P, S[k] = (x, (a, b, c, d), f, P) := ⟨_, _, _, _, _, _, _, rfl⟩
      obtain ⟨⟨r0, r1, r2, r3, r4, r5⟩, na, nc, r6, _⟩ := hc k hlt
      rw [hxy] at r0 r1 r2 r3 r4 r5 r6
      simp only at r0 r1 r2 r3 r4 r5 r6
      have e0 := (hb.cell (p := ⟨sb, o + k * 7, none⟩) hB).trans r0
      have e1 := (hb.cell (p := ⟨sb, o + k * 7 + 1, none⟩) hB).trans r1
      have e2 := (hb.cell (p := ⟨sb, o + k * 7 + 2, none⟩) hB).trans r2
      have e3 := (hb.cell (p := ⟨sb, o + k * 7 + 3, none⟩) hB).trans r3
      have e4 := (hb.cell (p := ⟨sb, o + k * 7 + 4, none⟩) hB).trans r4
      have e5 := (hb.cell (p := ⟨sb, o + k * 7 + 5, none⟩) hB).trans r5
      have e6 := (hb.cell (p := ⟨sb, o + k * 7 + 6, none⟩) hB).trans r6
      have HST := Lib.hid (open_step (H := D) (show S[k]? = some (x, (a, b, c, d), f, P) by rw [List.getElem?_eq_getElem hlt, hxy]))
      have i0' : (0 : Int) ≤ (k : Int) := by omega
      have i1 : (k : Int) < (S.length : Int) := by omega
      obtain ⟨w3, hw3⟩ : ∃ V : World, V = wr.alloc (.cells #[.int .i64 x, .int .i64 a, .int .i64 b, .int .i64 c, .int .i64 d, .bool f, .slice na P.length nc] 83) := ⟨_, rfl⟩
      have b3 : Below wr.heap.size wr w3 := by rw [hw3]; exact (Below.refl _ _).alloc (Nat.le_refl _) _
      have z3 : wr.heap.size < w3.heap.size := by rw [hw3]; simp
      have y0 : w3.cell? ⟨wr.heap.size, 0, none⟩ = some (.int .i64 x) := by rw [hw3]; go_simp
      have y1 : w3.cell? ⟨wr.heap.size, 1, none⟩ = some (.int .i64 a) := by rw [hw3]; go_simp
      have y2 : w3.cell? ⟨wr.heap.size, 2, none⟩ = some (.int .i64 b) := by rw [hw3]; go_simp
      have y3 : w3.cell? ⟨wr.heap.size, 3, none⟩ = some (.int .i64 c) := by rw [hw3]; go_simp
      have y4 : w3.cell? ⟨wr.heap.size, 4, none⟩ = some (.int .i64 d) := by rw [hw3]; go_simp
      have y5 : w3.cell? ⟨wr.heap.size, 5, none⟩ = some (.bool f) := by rw [hw3]; go_simp
      have y6 : w3.cell? ⟨wr.heap.size, 6, none⟩ = some (.slice na P.length nc) := by rw [hw3]; go_simp
      have n3 : Below w.heap.size w w3 := hb.trans (b3.mono hb.size)
      have o3 := KOwn.below HO.out b3
      have KH : Hid (∀ V, PkAt V V.heap.size (.slice da D.length dc) D → Calls Try.prog 129 #[rels x a b c d f (.slice na P.length nc), .slice da D.length dc] V fun e w' => e = .returned (.bool (openB D (x, (a, b, c, d), f, P))) ∧ Below V.heap.size V w') := Lib.hid fun V g => KA.out V _ x a b c d f g
      have HO3 := Lib.hid o3
      clear hxy hc r0 r1 r2 r3 r4 r5 r6 o3
      go_upto_region 5 with fail
      rw [← hw3]
      clear hw3 e0 e1 e2 e3 e4 e5 e6
      rcases hh : openB D (x, (a, b, c, d), f, P)
      · rw [hh] at KH HST
        clear hh
        go_wp2_with fail
        refine (KH.out _ (H1.out.stepAt n3)).mono ?_
        rintro e w4 ⟨rfl, hb4⟩
        have m4 := n3.trans (hb4.mono n3.size)
        have o4 := Lib.hid (KOwn.below HO3.out hb4)
        have HR := Lib.hid (show openL S D = L ++ openL (S.drop (k + 1)) D by rw [HE.out, HST.out]; simp)
        clear hb4
        go_wp2_with fail
        go_roundw
        case rel => exact ⟨k + 1, L, by omega, by go_num, HR.out, by omega, o4.out, m4⟩
        case measure => simp [intOf]; omega
      · rw [hh] at KH HST
        clear hh
        go_wp2_with fail
        refine (KH.out _ (H1.out.stepAt n3)).mono ?_
        rintro e w4 ⟨rfl, hb4⟩
        have m4 := n3.trans (hb4.mono n3.size)
        have o4 := KOwn.below HO3.out hb4
        have HO4 := Lib.hid o4
        have HB4 := Lib.hid m4
        have v0 := (hb4.cell (p := ⟨wr.heap.size, 0, none⟩) z3).trans y0
        have v1 := (hb4.cell (p := ⟨wr.heap.size, 1, none⟩) z3).trans y1
        have v2 := (hb4.cell (p := ⟨wr.heap.size, 2, none⟩) z3).trans y2
        have v3 := (hb4.cell (p := ⟨wr.heap.size, 3, none⟩) z3).trans y3
        have v4 := (hb4.cell (p := ⟨wr.heap.size, 4, none⟩) z3).trans y4
        have z4 := m4.size
        have HR := Lib.hid (show openL S D = (L ++ [(x, a, b, c, d)]) ++ openL (S.drop (k + 1)) D by rw [HE.out, HST.out]; simp [pkR])
        clear hb4 m4 o4 y0 y1 y2 y3 y4 y5 y6
        go_wp2_with (at_builtin; refine wpList_append_own _ rfl _ _ 28 rfl w.heap.size 114 i0 (.agg #[.int .i64 0, .int .i64 0, .int .i64 0, .int .i64 0, .int .i64 0]) 5 40 Try.underlying28 hi hz0 hz1 hz2 rfl (by decide) _ _ _ rfl (KOwn.below HO4.out ((Below.refl w4.heap.size w4).alloc (Nat.le_refl _) (.cells #[.int .i64 x, .int .i64 a, .int .i64 b, .int .i64 c, .int .i64 d] 114))) ⟨w4.heap.size, 0, none⟩ 1 1 [.int .i64 x, .int .i64 a, .int .i64 b, .int .i64 c, .int .i64 d] rfl rfl (pick_new w4 x a b c d) (pick_one _ _ _ _ _) (by unfold maxLen; omega) (by omega) (by simp; omega) ?_)
        intro v' w5 hown' hgrow hnn
        have HS := Lib.hid (show KOwn w5 w.heap.size v' (L ++ [(x, a, b, c, d)]) from KOwn.push hown')
        have HB5 := Lib.hid (KOwn.gone HO4.out HB4.out z4 hgrow)
        clear hown' hgrow hnn
        go_wp2_with fail
        go_roundw
        case rel => exact ⟨k + 1, L ++ [(x, a, b, c, d)], by omega, by go_num, HR.out, by simp; omega, HS.out, HB5.out⟩
        case measure => simp [intOf]; omega
    · obtain rfl : k = S.length := by omega
      have HQ := Lib.hid (show openL S D = L by rw [HE.out, List.drop_length]; simp [openL])
      go_wp2_with fail
      go_ret
      exact ⟨_, rfl, by rw [HQ.out]; exact HO.out, hb⟩
end Svp
end Go.Proofs.Ytgenjbeamlffmaa
