/- The contract of the model's l5Options, over this seat's translation: the versions of a name that are open, the newest one first, in a row of their own; nothing that was there before the call has changed. Condition: held picks that are fine; at most 1048576 of each row. -/
import Derived.Test.YtgenjbeamlffmaaSvo
import Derived.Test.YtgenjbeamlffmaaCfs
import Derived.Test.YtgenjbeamlffmaaApp2
namespace Go.Proofs.Ytgenjbeamlffmaa
open Go.RowKit Go.Sort

namespace Svp
open Foot Copy Nup Cpu Cfa Rch
def vcs : List V4 → List Value
  | [] => []
  | x :: t => [.int .i64 x.1, .int .i64 x.2.1, .int .i64 x.2.2.1, .int .i64 x.2.2.2] ++ vcs t
theorem vcs_len : ∀ A : List V4, (vcs A).length = A.length * 4
  | [] => rfl
  | x :: t => by simp only [vcs, List.length_append, List.length_cons, List.length_nil, vcs_len t]; omega
theorem vcs_app : ∀ A B : List V4, vcs (A ++ B) = vcs A ++ vcs B
  | [], _ => rfl
  | x :: t, B => by simp only [List.cons_append, vcs, vcs_app t B, List.append_assoc]
/-- A row of versions that a call makes. -/
abbrev VRow (w : World) (base : Nat) (v : Value) (L : List V4) : Prop := w.ownsRow base 79 4 v L.length (vcs L)
theorem VRow.below {w w' : World} {B : Nat} {v : Value} {L : List V4} (h : VRow w B v L) (hb : Below w.heap.size w w') : VRow w' B v L := by
  refine ⟨h.1, ?_⟩
  rcases h.2 with hn | ⟨g, cap, cur, hv, hb', hg, rest⟩
  · exact .inl hn
  · exact .inr ⟨g, cap, cur, hv, hb', (hb.block g (Array.getElem?_eq_some_iff.1 hg).1).trans hg, rest⟩
theorem VRow.form {w : World} {B : Nat} {v : Value} {L : List V4} (h : VRow w B v L) : ∃ a c, v = .slice a L.length c := by
  rcases h.2 with ⟨rfl, hn⟩ | ⟨g, cap, cur, rfl, _⟩
  · exact ⟨none, 0, by rw [hn]⟩
  · exact ⟨_, cap, rfl⟩
theorem infoVer : (Try.prog.info? 79).map (fun i => (i.zero, i.size, i.bytes)) = some (some (.agg #[.int .i64 0, .int .i64 0, .int .i64 0, .int .i64 0]), 4, 32) := by kernel_rfl
theorem ver_new (w : World) (a b c d : Int) : ∀ j u, [Value.int .i64 a, .int .i64 b, .int .i64 c, .int .i64 d][j]? = some u → (w.alloc (.cells #[.int .i64 a, .int .i64 b, .int .i64 c, .int .i64 d] 79)).cell? ((⟨w.heap.size, 0, none⟩ : Addr).add j) = some u :=
  World.news_of_block (heap_alloc_new w _)
theorem ver_one (a b c d : Int) : ∀ u ∈ [Value.int .i64 a, .int .i64 b, .int .i64 c, .int .i64 d], u.oneCell' = true := by
  intro u hu
  simp only [List.mem_cons, List.not_mem_nil, or_false] at hu
  rcases hu with rfl | rfl | rfl | rfl <;> rfl
/-- The versions of a name that are open among releases, the newest one first. -/
def verL (S : List Rel) (H : List Pk) (z : Int) : List V4 := ((optL (openL S H) z).reverse).map (·.2)
theorem ver_step {S : List Rel} {H : List Pk} {z : Int} {k : Nat} {r : Rel} (h : S[k]? = some r) : verL (S.drop k) H z = verL (S.drop (k + 1)) H z ++ (if (decide (r.1 = z) && openB H r) = true then [r.2.1] else []) := by
  have hk := (List.getElem?_eq_some_iff.1 h).1
  rw [List.drop_eq_getElem_cons hk, (List.getElem?_eq_some_iff.1 h).2]
  unfold verL optL openL
  by_cases hb : openB H r = true
  · rw [List.filter_cons_of_pos hb, List.map_cons]
    by_cases hz : r.1 = z
    · rw [List.filter_cons_of_pos (p := fun p : Pk => decide (p.1 = z)) (a := pkR r) (decide_eq_true hz), List.reverse_cons, List.map_append, if_pos (by rw [hb, decide_eq_true hz]; rfl)]
      rfl
    · rw [List.filter_cons_of_neg (p := fun p : Pk => decide (p.1 = z)) (a := pkR r) (by show ¬ decide (r.1 = z) = true; rw [decide_eq_false hz]; decide), if_neg (by rw [decide_eq_false hz]; simp), List.append_nil]
  · rw [List.filter_cons_of_neg hb, if_neg (by simp [hb]), List.append_nil]

set_option maxRecDepth 100000 in
set_option maxHeartbeats 4000000 in
theorem specOptions_any (u z : Value) (S : List Rel) (D : List Pk) (zz : Int) (w : World) (hl : S.length ≤ 1048576) (hD : D.length ≤ 1048576) (hok : pkOk D = true) (h : RlAt w w.heap.size u S) (h1 : PkAt w w.heap.size z D) :
    Calls Try.prog 121 #[u, z, .int .i64 zz] w fun e w' => ∃ v, e = .returned v ∧ VRow w' w.heap.size v (verL S D zz) ∧ Below w.heap.size w w' := by
  obtain ⟨i0, hi, hz0, hz1, hz2⟩ := info_parts infoVer
  obtain ⟨sa, caps, rfl, h0⟩ := id h
  obtain ⟨da, dc, rfl, hx⟩ := id h1
  clear hx
  have H1 := Lib.hid h1
  have KA : Hid (∀ V x a b c d, PkAt V V.heap.size (.slice da D.length dc) D → Calls Try.prog 163 #[.slice da D.length dc, pick x a b c d] V fun e w' => e = .returned (.bool (heldP D (x, a, b, c, d))) ∧ Below V.heap.size V w') := Lib.hid fun V x a b c d g => l4Held_any _ D x a b c d V hD hok g
  clear h h1
  obtain ⟨w1, hw1⟩ : ∃ V : World, V = w.alloc (.cells #[] 79) := ⟨_, rfl⟩
  have b1 : Below w.heap.size w w1 := by rw [hw1]; exact (Below.refl _ _).alloc (Nat.le_refl _) _
  have v1 : VRow w1 w.heap.size (.slice (some ⟨w.heap.size, 0, none⟩) 0 0) [] := ⟨rfl, .inr ⟨w.heap.size, 0, #[], rfl, Nat.le_refl _, by rw [hw1]; exact heap_alloc_new w _, Nat.le_refl _, by unfold maxLen; omega, rfl, rfl⟩⟩
  have V1 := Lib.hid v1
  have lw : IntKind.i64.wrap ((S.length : Int) - 1) = (S.length : Int) - 1 := IntWalk.i64_in _ (by omega)
  clear v1
  go_enter Try.func121, Try.ntmps121
  go_upto_region 2 with fail
  rw [← hw1]
  clear hw1
  go_wp2_with fail
  go_loopw [7, 8] (fun s7 i wr => ∃ (k : Nat) (L : List V4), k ≤ S.length ∧ i = .int .i64 ((k : Int) - 1) ∧ verL (S.drop k) D zz = L ∧ L.length ≤ S.length - k ∧ VRow wr w.heap.size s7 L ∧ Below w.heap.size w wr) (fun _ i _ => (intOf i + 1).toNat)
  case atStart => exact ⟨S.length, [], Nat.le_refl _, rfl, by rw [List.drop_length]; rfl, Nat.zero_le _, V1.out, b1⟩
  case round =>
    clear V1
    obtain ⟨k, L, hk, rfl, he, hL, hV, hb⟩ := hrel
    have HE := Lib.hid he
    obtain ⟨la, lc, hlf⟩ := hV.form
    subst hlf
    have HV := Lib.hid hV
    have zb := hb.size
    clear he hV
    by_cases hk0 : 0 < k
    · obtain ⟨j, rfl⟩ : ∃ j, k = j + 1 := ⟨k - 1, by omega⟩
      have ej : (((j + 1 : Nat) : Int)) - 1 = (j : Int) := by omega
      rw [ej]
      have hj : j < S.length := by omega
      rcases h0 with h0 | ⟨sb, o, rfl, hB, hc⟩
      · subst h0
        exact absurd hj (by simp)
      obtain ⟨x, a, b, c, d, f, P, hxy⟩ : ∃ x a b c d f P, S[j] = (x, (a, b, c, d), f, P) := ⟨_, _, _, _, _, _, _, rfl⟩
      obtain ⟨⟨r0, r1, r2, r3, r4, r5⟩, na, nc, r6, _⟩ := hc j hj
      rw [hxy] at r0 r1 r2 r3 r4 r5 r6
      simp only at r0 r1 r2 r3 r4 r5 r6
      have e0 := (hb.cell (p := ⟨sb, o + j * 7, none⟩) hB).trans r0
      have e1 := (hb.cell (p := ⟨sb, o + j * 7 + 1, none⟩) hB).trans r1
      have e2 := (hb.cell (p := ⟨sb, o + j * 7 + 2, none⟩) hB).trans r2
      have e3 := (hb.cell (p := ⟨sb, o + j * 7 + 3, none⟩) hB).trans r3
      have e4 := (hb.cell (p := ⟨sb, o + j * 7 + 4, none⟩) hB).trans r4
      have e5 := (hb.cell (p := ⟨sb, o + j * 7 + 5, none⟩) hB).trans r5
      have HST := Lib.hid (ver_step (H := D) (z := zz) (show S[j]? = some (x, (a, b, c, d), f, P) by rw [List.getElem?_eq_getElem hj, hxy]))
      have j0 : (0 : Int) ≤ (j : Int) := by omega
      have j1 : (j : Int) < (S.length : Int) := by omega
      have jw : IntKind.i64.wrap ((j : Int) - 1) = (j : Int) - 1 := IntWalk.i64_in _ (by omega)
      clear hxy r0 r1 r2 r3 r4 r5 r6
      by_cases hz : x = zz
      · have hzb : (x == zz) = true := by simp [hz]
        cases f
        · have HC := Lib.hid (show (decide (x = zz) && openB D (x, (a, b, c, d), false, P)) = true by rw [decide_eq_true hz]; rfl)
          have HVX := HV
          have HBW := Lib.hid hb
          clear hz KA
          go_wp2_with (at_builtin; refine wpList_append_own _ rfl _ _ 164 rfl w.heap.size 79 i0 (.agg #[.int .i64 0, .int .i64 0, .int .i64 0, .int .i64 0]) 4 32 Try.underlying164 hi hz0 hz1 hz2 rfl (by decide) _ _ _ rfl (VRow.below HVX.out ((Below.refl wr.heap.size wr).alloc (Nat.le_refl _) (.cells #[.int .i64 a, .int .i64 b, .int .i64 c, .int .i64 d] 79))) ⟨wr.heap.size, 0, none⟩ 1 1 [.int .i64 a, .int .i64 b, .int .i64 c, .int .i64 d] rfl rfl (ver_new wr a b c d) (ver_one _ _ _ _) (by unfold maxLen; omega) (by omega) (by simp; omega) ?_)
          intro v' w7 hown' hgrow hnn
          have HS := Lib.hid (show VRow w7 w.heap.size v' (L ++ [(a, b, c, d)]) by unfold VRow; rw [vcs_app, List.length_append]; exact hown')
          have HB7 := Lib.hid ((HBW.out.alloc HBW.out.size (.cells #[.int .i64 a, .int .i64 b, .int .i64 c, .int .i64 d] 79)).grown hgrow (Nat.le_trans HBW.out.size (by simp)) (fun k e => by have := (World.ownsRow.lt HVX.out) k e; omega))
          clear hown' hgrow hnn
          go_wp2_with fail
          go_roundw
          case rel => exact ⟨j, L ++ [(a, b, c, d)], by omega, rfl, by rw [HST.out, HE.out, HC.out, if_pos rfl], by simp; omega, HS.out, HB7.out⟩
          case measure => first | (simp [intOf]; done) | (simp [intOf]; omega)
        · have KH : Hid (∀ V, PkAt V V.heap.size (.slice da D.length dc) D → Calls Try.prog 163 #[.slice da D.length dc, pick zz a b c d] V fun e w' => e = .returned (.bool (heldP D (zz, a, b, c, d))) ∧ Below V.heap.size V w') := Lib.hid fun V g => KA.out V zz a b c d g
          have HC0 := Lib.hid (show (decide (x = zz) && openB D (x, (a, b, c, d), true, P)) = heldP D (zz, a, b, c, d) by rw [decide_eq_true hz, hz]; unfold openB pkR; simp)
          have HCE := Lib.hid hz
          clear hz
          rcases hh : heldP D (zz, a, b, c, d)
          all_goals
            rw [hh] at KH
            have HC := Lib.hid (HC0.out.trans hh)
            clear hh
            go_wp2_with fail
            refine (KH.out _ (H1.out.stepAt hb)).mono ?_
            rintro e w4 ⟨rfl, hb4⟩
            have m4 := hb.trans (hb4.mono hb.size)
            have HVX := Lib.hid (VRow.below HV.out hb4)
            have HBW := Lib.hid m4
            have z4 := m4.size
          · clear hb4
            go_wp2_with fail
            go_roundw
            case rel => exact ⟨j, L, by omega, rfl, by rw [HST.out, HE.out, HC.out, if_neg (by decide), List.append_nil], by omega, HVX.out, HBW.out⟩
            case measure => first | (simp [intOf]; done) | (simp [intOf]; omega)
          · have g1 := (hb4.cell (p := ⟨sb, o + j * 7 + 1, none⟩) (by show sb < wr.heap.size; omega)).trans e1
            have g2 := (hb4.cell (p := ⟨sb, o + j * 7 + 2, none⟩) (by show sb < wr.heap.size; omega)).trans e2
            have g3 := (hb4.cell (p := ⟨sb, o + j * 7 + 3, none⟩) (by show sb < wr.heap.size; omega)).trans e3
            have g4 := (hb4.cell (p := ⟨sb, o + j * 7 + 4, none⟩) (by show sb < wr.heap.size; omega)).trans e4
            clear hb4 m4 e0 e1 e2 e3 e4 e5
            go_wp2_with (at_builtin; refine wpList_append_own _ rfl _ _ 164 rfl w.heap.size 79 i0 (.agg #[.int .i64 0, .int .i64 0, .int .i64 0, .int .i64 0]) 4 32 Try.underlying164 hi hz0 hz1 hz2 rfl (by decide) _ _ _ rfl (VRow.below HVX.out ((Below.refl w4.heap.size w4).alloc (Nat.le_refl _) (.cells #[.int .i64 a, .int .i64 b, .int .i64 c, .int .i64 d] 79))) ⟨w4.heap.size, 0, none⟩ 1 1 [.int .i64 a, .int .i64 b, .int .i64 c, .int .i64 d] rfl rfl (ver_new w4 a b c d) (ver_one _ _ _ _) (by unfold maxLen; omega) (by omega) (by simp; omega) ?_)
            intro v' w7 hown' hgrow hnn
            have HS := Lib.hid (show VRow w7 w.heap.size v' (L ++ [(a, b, c, d)]) by unfold VRow; rw [vcs_app, List.length_append]; exact hown')
            have HB7 := Lib.hid ((HBW.out.alloc HBW.out.size (.cells #[.int .i64 a, .int .i64 b, .int .i64 c, .int .i64 d] 79)).grown hgrow (Nat.le_trans HBW.out.size (by simp)) (fun k e => by have := (World.ownsRow.lt HVX.out) k e; omega))
            clear hown' hgrow hnn
            go_wp2_with fail
            go_roundw
            case rel => exact ⟨j, L ++ [(a, b, c, d)], by omega, rfl, by rw [HST.out, HE.out, HC.out, if_pos rfl], by simp; omega, HS.out, HB7.out⟩
            case measure => first | (simp [intOf]; done) | (simp [intOf]; omega)
      · have hzb : (x == zz) = false := by rw [beq_eq_false_iff_ne]; exact hz
        have HC := Lib.hid (show (decide (x = zz) && openB D (x, (a, b, c, d), f, P)) = false by rw [decide_eq_false hz]; rfl)
        have HVX := HV
        clear hz KA
        go_wp2_with fail
        go_roundw
        case rel => exact ⟨j, L, by omega, rfl, by rw [HST.out, HE.out, HC.out, if_neg (by decide), List.append_nil], by omega, HVX.out, hb⟩
        case measure => first | (simp [intOf]; done) | (simp [intOf]; omega)
    · obtain rfl : k = 0 := by omega
      have ej : (((0 : Nat) : Int)) - 1 = -1 := by omega
      rw [ej]
      have HQ := Lib.hid (show VRow wr w.heap.size (.slice la L.length lc) (verL S D zz) by
        have := HV.out
        rwa [← HE.out] at this ⊢)
      go_wp2_with fail
      go_ret
      exact ⟨_, rfl, HQ.out, hb⟩
end Svp
end Go.Proofs.Ytgenjbeamlffmaa
