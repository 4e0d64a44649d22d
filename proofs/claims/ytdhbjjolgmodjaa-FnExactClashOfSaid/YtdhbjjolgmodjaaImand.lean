/- The contracts of the program's spanAnd, spansAnd and rangeOfSpans over this seat's translation. Nothing that was there before the call has changed. Condition: at most 1048576 spans. -/
import Derived.Test.YtdhbjjolgmodjaaGb
import Derived.Deep.RegionWith
import Derived.Deep.CutRange
import Derived.BigQuiet
import Derived.Handy
namespace Go.Proofs.Ytdhbjjolgmodjaa
open Go.RowKit Go.Sort

set_option maxRecDepth 100000 in
set_option maxHeartbeats 800000 in
theorem spanAnd_any (a b c d : Int) (w : World) : Calls Try.prog 167 #[span a b, span c d] w fun e w' => e = .returned (span (max a c) (min b d)) ∧ Below w.heap.size w w' := by
  by_cases h1 : a < c
  · by_cases h2 : d < b
    · rw [show max a c = c by omega, show min b d = d by omega]
      go_enter Try.func167, Try.ntmps167
      go_wp2_with fail
      exact bodyPost_ret (v := span c d) (by simp [results, Try.results167, go_sem]) rfl ⟨rfl, by go_grown⟩
    · rw [show max a c = c by omega, show min b d = b by omega]
      go_enter Try.func167, Try.ntmps167
      go_wp2_with fail
      exact bodyPost_ret (v := span c b) (by simp [results, Try.results167, go_sem]) rfl ⟨rfl, by go_grown⟩
  · by_cases h2 : d < b
    · rw [show max a c = a by omega, show min b d = d by omega]
      go_enter Try.func167, Try.ntmps167
      go_wp2_with fail
      exact bodyPost_ret (v := span a d) (by simp [results, Try.results167, go_sem]) rfl ⟨rfl, by go_grown⟩
    · rw [show max a c = a by omega, show min b d = b by omega]
      go_enter Try.func167, Try.ntmps167
      go_wp2_with fail
      exact bodyPost_ret (v := span a b) (by simp [results, Try.results167, go_sem]) rfl ⟨rfl, by go_grown⟩

set_option maxRecDepth 100000 in
theorem Owns.below {w w' : World} {B : Nat} {v : Value} {L : List (Int × Int)} (h : Owns w B v L) (hb : Below w.heap.size w w') : Owns w' B v L :=
  World.ownsRow.kept h (row := none) ⟨hb.os, hb.tape, hb.output, hb.size, fun k hk _ => hb.block k hk⟩ (by cases hv : v.ownBlock <;> simp)
set_option maxRecDepth 100000 in
theorem Owns.gone2 {w wr W w1 : World} {B : Nat} {v : Value} {L : List (Int × Int)} (h : Owns wr B v L) (hb : Below B w wr) (hB : B ≤ wr.heap.size) (hx : Below wr.heap.size wr W) (hg : W.grownBy w1 v.ownBlock) : Below B w w1 :=
  (hb.trans (hx.mono hB)).grown hg (Nat.le_trans hB hx.size) fun k hk => ((World.ownsRow.lt h) k hk).1

set_option maxRecDepth 100000 in
theorem two_newn (W : World) {n : Nat} (x y : Int) (hn : W.heap.size = n) : ∀ j u, [Value.int .i64 x, .int .i64 y][j]? = some u → (W.alloc (.cells #[.int .i64 x, .int .i64 y] 139)).cell? ((⟨n, 0, none⟩ : Addr).add j) = some u := by
  subst hn
  exact two_new0 W x y

/-- What the loop of spansAnd keeps. -/
def AndRel (A B : List (Int × Int)) (w : World) (v si sj : Value) (wr : World) : Prop :=
  ∃ (i j : Nat) (G : List (Int × Int)), i ≤ A.length ∧ j ≤ B.length ∧ si = .int .i64 (i : Int) ∧ sj = .int .i64 (j : Int) ∧ andI A B = G ++ andI (A.drop i) (B.drop j) ∧ G.length ≤ i + j ∧ Owns wr w.heap.size v G ∧ Below w.heap.size w wr

set_option maxRecDepth 100000 in
theorem and_step {A B G : List (Int × Int)} {i j : Nat} {a b c d : Int} (hA : A[i]? = some (a, b)) (hB : B[j]? = some (c, d)) (he : andI A B = G ++ andI (A.drop i) (B.drop j)) :
    andI A B = (G ++ if max a c ≤ min b d then [(max a c, min b d)] else []) ++ (if b < d then andI (A.drop (i + 1)) (B.drop j) else andI (A.drop i) (B.drop (j + 1))) := by
  rw [he, drop_at hA, drop_at hB, andI, List.append_assoc]

set_option maxRecDepth 100000 in
theorem and_i {A B G G' : List (Int × Int)} {w wr : World} {v : Value} {i j : Nat} {a b c d : Int} (hA : A[i]? = some (a, b)) (hB : B[j]? = some (c, d)) (he : andI A B = G ++ andI (A.drop i) (B.drop j)) (hn : G.length ≤ i + j) (hbd : b < d)
    (hG : G' = G ++ if max a c ≤ min b d then [(max a c, min b d)] else []) (ho : Owns wr w.heap.size v G') (hb : Below w.heap.size w wr) : AndRel A B w v (.int .i64 ((i : Int) + 1)) (.int .i64 (j : Int)) wr := by
  have hi : i < A.length := (List.getElem?_eq_some_iff.1 hA).1
  have hj : j < B.length := (List.getElem?_eq_some_iff.1 hB).1
  refine ⟨i + 1, j, G', by omega, by omega, by go_num, rfl, ?_, ?_, ho, hb⟩
  · rw [hG, and_step hA hB he, if_pos hbd]
  · rw [hG, List.length_append]
    split <;> simp <;> omega
set_option maxRecDepth 100000 in
theorem and_j {A B G G' : List (Int × Int)} {w wr : World} {v : Value} {i j : Nat} {a b c d : Int} (hA : A[i]? = some (a, b)) (hB : B[j]? = some (c, d)) (he : andI A B = G ++ andI (A.drop i) (B.drop j)) (hn : G.length ≤ i + j) (hbd : ¬ b < d)
    (hG : G' = G ++ if max a c ≤ min b d then [(max a c, min b d)] else []) (ho : Owns wr w.heap.size v G') (hb : Below w.heap.size w wr) : AndRel A B w v (.int .i64 (i : Int)) (.int .i64 ((j : Int) + 1)) wr := by
  have hi : i < A.length := (List.getElem?_eq_some_iff.1 hA).1
  have hj : j < B.length := (List.getElem?_eq_some_iff.1 hB).1
  refine ⟨i, j + 1, G', by omega, by omega, rfl, by go_num, ?_, ?_, ho, hb⟩
  · rw [hG, and_step hA hB he, if_neg hbd]
  · rw [hG, List.length_append]
    split <;> simp <;> omega

set_option maxRecDepth 100000 in
set_option maxHeartbeats 4000000 in
theorem spansAnd_any (v0 v1 : Value) (A B : List (Int × Int)) (w : World) (hl : A.length ≤ 1048576) (hm : B.length ≤ 1048576) (h : SpAt w w.heap.size v0 A) (h' : SpAt w w.heap.size v1 B) :
    Calls Try.prog 152 #[v0, v1] w (SPost (andI A B) w) := by
  obtain ⟨a0, cap, rfl, h⟩ := h
  obtain ⟨a1, cap', rfl, h'⟩ := h'
  have HH := Lib.hid h
  have HH' := Lib.hid h'
  have K := Lib.hid fun a b c d V => spanAnd_any a b c d V
  obtain ⟨ti, hi, hz0, hz1, hz2⟩ := info_parts infoSpan
  clear h h'
  go_enter Try.func152, Try.ntmps152
  go_wp2
  go_loopw [5, 6, 7] (fun v si sj wr => AndRel A B w v si sj wr) (fun _ si sj _ => (A.length - (intOf si).toNat) + (B.length - (intOf sj).toNat))
  case atStart => exact ⟨0, 0, [], Nat.zero_le _, Nat.zero_le _, rfl, rfl, rfl, Nat.le_refl _, World.ownsRow_nil _ _ _ _, Below.refl _ _⟩
  case round =>
    obtain ⟨i, j, G, hi1, hj1, rfl, rfl, he, hn, hown, hb⟩ := hrel
    have HE := Lib.hid he
    clear he
    have z1 := hb.size
    by_cases hltA : i < A.length
    · by_cases hltB : j < B.length
      · rcases HH.out with h1 | ⟨b, o, rfl, hB, hc⟩
        · subst h1
          exact absurd hltA (by simp)
        rcases HH'.out with h1 | ⟨b', o', rfl, hB', hc'⟩
        · subst h1
          exact absurd hltB (by simp)
        obtain ⟨x, y, hxy⟩ : ∃ x y, A[i] = (x, y) := ⟨_, _, rfl⟩
        obtain ⟨x', y', hxy'⟩ : ∃ x y, B[j] = (x, y) := ⟨_, _, rfl⟩
        have c := hc i hltA
        have c' := hc' j hltB
        rw [hxy] at c
        rw [hxy'] at c'
        have c0 := (hb.cell (p := ⟨b, o + i * 2, none⟩) hB).trans c.1
        have c1 := (hb.cell (p := ⟨b, o + i * 2 + 1, none⟩) hB).trans c.2
        have d0 := (hb.cell (p := ⟨b', o' + j * 2, none⟩) hB').trans c'.1
        have d1 := (hb.cell (p := ⟨b', o' + j * 2 + 1, none⟩) hB').trans c'.2
        have CC := Lib.hid (And.intro c.2 c'.2)
        have HX := Lib.hid (show A[i]? = some (x, y) by rw [List.getElem?_eq_getElem hltA, hxy])
        have HX' := Lib.hid (show B[j]? = some (x', y') by rw [List.getElem?_eq_getElem hltB, hxy'])
        clear c c' hxy hxy' hc hc'
        simp only at c0 c1 d0 d1
        have HO := Lib.hid hown
        have b1 : b < wr.heap.size := by omega
        have b2 : b' < wr.heap.size := by omega
        have i0 : (0 : Int) ≤ (i : Int) := by omega
        have i1 : (i : Int) < (A.length : Int) := by omega
        have j0 : (0 : Int) ≤ (j : Int) := by omega
        have j1 : (j : Int) < (B.length : Int) := by omega
        obtain ⟨lo, hlo⟩ : ∃ lo, max x x' = lo := ⟨_, rfl⟩
        obtain ⟨hi', hhi⟩ : ∃ hi', min y y' = hi' := ⟨_, rfl⟩
        have HLO := Lib.hid hlo
        have HHI := Lib.hid hhi
        clear hlo hhi K
        have K : Hid (∀ V, Calls Try.prog 167 #[span x y, span x' y'] V fun e w' => e = .returned (span lo hi') ∧ Below V.heap.size V w') := Lib.hid fun V => by
          have := spanAnd_any x y x' y' V
          rwa [HLO.out, HHI.out] at this
        have HB := Lib.hid hb
        clear hown hb
        go_upto_region 5 with fail
        go_cut [8] from 9 to 51 (fun p wx => ∃ g, p = .pointer (some ⟨g, 0, none⟩) ∧ wr.heap.size ≤ g ∧ g < wx.heap.size ∧ wx.cell? ⟨g, 0, none⟩ = some (.int .i64 lo) ∧ wx.cell? ⟨g, 1, none⟩ = some (.int .i64 hi') ∧ Below wr.heap.size wr wx)
        case first =>
          go_region_with (first
            | (go_at_call 167; refine (K.out (wr.drew.alloc (.cells #[.int .i64 0, .int .i64 0] 139))).mono ?_; rintro e w2 ⟨rfl, hb2⟩; have q0 : w2.cell? ⟨wr.heap.size, 0, none⟩ = some (.int .i64 0) := (hb2.cell (p := ⟨wr.heap.size, 0, none⟩) (by simp)).trans (by go_simp); have q1 : w2.cell? ⟨wr.heap.size, 1, none⟩ = some (.int .i64 0) := (hb2.cell (p := ⟨wr.heap.size, 1, none⟩) (by simp)).trans (by go_simp); have f0 : w2.frozen? ⟨wr.heap.size, 0, none⟩ = false := (hb2.frozen (p := ⟨wr.heap.size, 0, none⟩) (by simp)).trans (by go_simp); have f1 : w2.frozen? ⟨wr.heap.size, 1, none⟩ = false := (hb2.frozen (p := ⟨wr.heap.size, 1, none⟩) (by simp)).trans (by go_simp); have hb3 : Below wr.heap.size wr w2 := (((Below.refl wr.heap.size wr).drew.alloc (Nat.le_refl _) _).trans (hb2.mono (by simp))); have s2 : wr.heap.size < w2.heap.size := by (have := hb2.size; simp at this; omega))
            | (go_at_call 167; refine (K.out wr.drew).mono ?_; rintro e w2 ⟨rfl, hb2⟩; have hb3 : Below wr.heap.size wr w2 := ((Below.refl wr.heap.size wr).drew.trans hb2); have s2 := hb3.size))
          all_goals
            go_wp2_with fail
            go_meet
            case rel => exact ⟨_, rfl, by omega, by (simp <;> omega), by go_simp, by go_simp, by go_grown⟩
        case rest =>
          obtain ⟨g, rfl, hg, hgl, k0, k1, hb3⟩ := hcut
          clear c0 c1 d0 d1
          by_cases hcut0 : lo ≤ hi'
          · have HG := Lib.hid (show G ++ [(lo, hi')] = G ++ if max x x' ≤ min y y' then [(max x x', min y y')] else [] by rw [if_pos (by rw [HLO.out, HHI.out]; exact hcut0), HLO.out, HHI.out])
            go_wp2_with (at_builtin; refine wpList_append_own _ rfl _ _ 79 rfl w.heap.size 139 ti (.agg #[.int .i64 0, .int .i64 0]) 2 16 Try.underlying79 hi hz0 hz1 hz2 rfl (by decide) _ _ _ rfl (Owns.below HO.out (by go_grown)) _ 1 1 [.int .i64 lo, .int .i64 hi'] rfl rfl (two_newn _ _ _ (by simp)) (two_one _ _) (by unfold maxLen; omega) (by omega) (by have := hb3.size; simp; omega) ?_)
            intro v' w1 hown' hgrow _
            have hb1 := Owns.gone2 HO.out HB.out z1 (by go_grown) hgrow
            have e1 := (hb1.cell (p := ⟨b, o + i * 2 + 1, none⟩) hB).trans CC.out.1
            have e2 := (hb1.cell (p := ⟨b', o' + j * 2 + 1, none⟩) hB').trans CC.out.2
            have ho1 := Owns.below (Owns.push hown') ((Below.refl w1.heap.size w1).drew)
            have hd1 := hb1.drew
            clear hown' hgrow hb1 hb3 k0 k1
            by_cases hbd : y < y'
            · have HP := Lib.hid (and_i HX.out HX'.out HE.out hn hbd HG.out ho1 hd1)
              clear ho1 hd1
              go_wp2_with fail
              go_region
              all_goals
                go_wp2_with fail
                go_roundw
                case rel => exact HP.out
                case measure => simp [intOf]; omega
            · have HP := Lib.hid (and_j HX.out HX'.out HE.out hn hbd HG.out ho1 hd1)
              clear ho1 hd1
              go_wp2_with fail
              go_region
              all_goals
                go_wp2_with fail
                go_roundw
                case rel => exact HP.out
                case measure => simp [intOf]; omega
          · have HG := Lib.hid (show G = G ++ if max x x' ≤ min y y' then [(max x x', min y y')] else [] by rw [if_neg (by rw [HLO.out, HHI.out]; exact hcut0), List.append_nil])
            have hd0 := HB.out.trans (hb3.mono z1)
            have e1 := (hd0.cell (p := ⟨b, o + i * 2 + 1, none⟩) hB).trans CC.out.1
            have e2 := (hd0.cell (p := ⟨b', o' + j * 2 + 1, none⟩) hB').trans CC.out.2
            have hd1 := hd0.drew
            have ho1 := Owns.below HO.out hb3.drew
            clear hd0 hb3
            by_cases hbd : y < y'
            · have HP := Lib.hid (and_i HX.out HX'.out HE.out hn hbd HG.out ho1 hd1)
              clear ho1 hd1
              go_wp2_with fail
              go_region
              all_goals
                go_wp2_with fail
                go_roundw
                case rel => exact HP.out
                case measure => simp [intOf]; omega
            · have HP := Lib.hid (and_j HX.out HX'.out HE.out hn hbd HG.out ho1 hd1)
              clear ho1 hd1
              go_wp2_with fail
              go_region
              all_goals
                go_wp2_with fail
                go_roundw
                case rel => exact HP.out
                case measure => simp [intOf]; omega
      · obtain rfl : j = B.length := by omega
        have he := HE.out
        rw [List.drop_length] at he
        have e0 : andI (A.drop i) [] = [] := by
          cases A.drop i <;> rw [andI]
        rw [e0, List.append_nil] at he
        have fin := Owns.res hown
        rw [← he] at fin
        clear he hown e0
        go_wp2_with fail
        go_ret
        exact ⟨_, rfl, fin, hb⟩
    · obtain rfl : i = A.length := by omega
      have he := HE.out
      rw [List.drop_length, andI, List.append_nil] at he
      have fin := Owns.res hown
      rw [← he] at fin
      clear he hown
      go_wp2_with fail
      go_ret
      exact ⟨_, rfl, fin, hb⟩

end Go.Proofs.Ytdhbjjolgmodjaa
