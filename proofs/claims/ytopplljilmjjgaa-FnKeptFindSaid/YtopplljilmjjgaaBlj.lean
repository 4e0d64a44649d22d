/- Contracts of the program's targetMade and Build, over this seat's translation: Build answers what buildL tells, in a row of its own; nothing that was there before the call has changed. Condition: at most 1048576 targets, lines, numbers and bytes of each. -/
import Derived.Test.YtopplljilmjjgaaBli
namespace Go.Proofs.Ytopplljilmjjgaa
open Go.RowKit Go.Sort

namespace Bl
open Tg Wl Rx Md Drm Rnw
set_option maxRecDepth 100000 in
set_option maxHeartbeats 4000000 in
theorem targetMade_any (m : Bool) (t : ByteArray) (v u z : Value) (L : List Ln) (N : List Int) (D : List Mde) (w : World) (hl : L.length ≤ 1048576) (hq : ∀ q ∈ L, q.2.2.2.size ≤ 1048576) (hD : D.length ≤ 1000) (hs : ∀ q ∈ D, q.2.size ≤ 1048576) (hN : N.length ≤ 20) (hin : ∀ n ∈ N, 0 ≤ n ∧ n < (D.length : Int))
    (h : LnAt w w.heap.size v L) (h' : InAt w w.heap.size u N) (h2 : MdAt w w.heap.size z D) :
    Calls Try.prog 90 #[tgt m t v u, z] w fun e w' => e = .returned (mde (one D (m, t, L, N)).1 (one D (m, t, L, N)).2) ∧ Below w.heap.size w w' := by
  obtain ⟨a, c, rfl, x1⟩ := id h
  obtain ⟨a', c', rfl, x2⟩ := id h'
  obtain ⟨a2, c2, rfl, x3⟩ := id h2
  clear x1 x2 x3
  have b0 : Below w.heap.size w _ := ((Below.refl w.heap.size w).alloc (Nat.le_refl _) (.cells #[.bool m, .string t, .slice a L.length c, .slice a' N.length c'] 79)).alloc (by simp) (.cells #[.bool false, .string ByteArray.empty] 73)
  rcases m
  · have HE := Lib.hid (show one D (false, t, L, N) = (true, t) by unfold one; rw [if_pos rfl])
    clear h h' h2 b0
    go_enter Try.func90, Try.ntmps90
    go_wp2_with fail
    exact bodyPost_ret (v := mde true t) (by simp [results, Try.results90, go_sem]) rfl ⟨by rw [HE.out], by go_grown⟩
  have KT := Lib.hid fun V (g : Below w.heap.size w V) => textsMade_any _ _ D N V hD hs (by omega) hin (h2.stepAt g) (h'.stepAt g)
  have hTS : ∀ q ∈ textsOf D N, q.size ≤ 1048576 := fun q hq => by
    obtain ⟨n, _, rfl⟩ := List.mem_map.1 hq
    unfold madeAt
    rw [List.getD_eq_getElem?_getD]
    rcases e : D[n.toNat]? with _ | x
    · exact Nat.zero_le _
    · exact hs x (List.mem_of_getElem? e)
  have KS := Lib.hid fun V (uu : Value) (g : Below w.heap.size w V) g' => scriptMade_any _ uu L (textsOf D N) V hl hq (by rw [texts_len]; exact hN) hTS (h.stepAt g) g'
  have HB := Lib.hid b0
  rcases hall : allMade D N
  · have HE := Lib.hid (show one D (true, t, L, N) = (false, ⟨#[]⟩) by unfold one; rw [if_neg (show ¬ (true = false) by decide), if_neg (by show ¬ allMade D N = true; rw [hall]; decide)])
    have HAll := Lib.hid hall
    clear h h' h2 b0 KS hall
    go_enter Try.func90, Try.ntmps90
    go_wp2_with fail
    refine (KT.out _ HB.out).mono ?_
    rintro e w1 ⟨⟨ta, tc, rfl, hta⟩, hb⟩
    rw [HAll.out]
    have b1 := HB.out.trans (hb.mono HB.out.size)
    obtain ⟨hc, hf⟩ : (∀ b o, b < w.heap.size + 1 + 1 → w1.cell? ⟨b, o, none⟩ = _) ∧ (∀ b o, b < w.heap.size + 1 + 1 → w1.frozen? ⟨b, o, none⟩ = _) :=
      ⟨fun b o hbo => hb.cell (p := ⟨b, o, none⟩) (by simpa using hbo), fun b o hbo => hb.frozen (p := ⟨b, o, none⟩) (by simpa using hbo)⟩
    clear hta hb
    go_wp2_with fail
    exact bodyPost_ret (v := mde false ⟨#[]⟩) (by simp [results, Try.results90, go_sem, hc]) rfl ⟨by rw [HE.out], by go_grown⟩
  · have HE := Lib.hid (show one D (true, t, L, N) = runMade L (textsOf D N) by unfold one; rw [if_neg (show ¬ (true = false) by decide), if_pos (by show allMade D N = true; exact hall)])
    have HAll := Lib.hid hall
    have HTL := Lib.hid (texts_len D N)
    clear h h' h2 b0 hall hTS
    go_enter Try.func90, Try.ntmps90
    go_wp2_with fail
    refine (KT.out _ HB.out).mono ?_
    rintro e w1 ⟨⟨ta, tc, rfl, hta⟩, hb⟩
    have hta := hta HAll.out
    rw [HAll.out, if_pos rfl]
    have b1 := Lib.hid (HB.out.trans (hb.mono HB.out.size))
    have s1 : w.heap.size + 1 + 1 ≤ w1.heap.size := by have := hb.size; simp at this; omega
    obtain ⟨hc, hf⟩ : (∀ b o, b < w.heap.size + 1 + 1 → w1.cell? ⟨b, o, none⟩ = _) ∧ (∀ b o, b < w.heap.size + 1 + 1 → w1.frozen? ⟨b, o, none⟩ = _) :=
      ⟨fun b o hbo => hb.cell (p := ⟨b, o, none⟩) (by simpa using hbo), fun b o hbo => hb.frozen (p := ⟨b, o, none⟩) (by simpa using hbo)⟩
    have HTA := Lib.hid hta
    clear hta hb
    go_wp2_with fail
    refine (KS.out _ _ b1.out HTA.out).mono ?_
    rintro e w2 ⟨rfl, hb⟩
    have n2 : Below w.heap.size w w2 := b1.out.trans (hb.mono b1.out.size)
    obtain ⟨hc2, hf2⟩ : (∀ b o, b < w.heap.size + 1 + 1 → w2.cell? ⟨b, o, none⟩ = _) ∧ (∀ b o, b < w.heap.size + 1 + 1 → w2.frozen? ⟨b, o, none⟩ = _) :=
      ⟨fun b o hbo => (hb.cell (p := ⟨b, o, none⟩) (by show b < _; omega)).trans (hc b o hbo), fun b o hbo => (hb.frozen (p := ⟨b, o, none⟩) (by show b < _; omega)).trans (hf b o hbo)⟩
    clear hb hc hf
    generalize runMade L (textsOf D N) = r at *
    obtain ⟨r1, r2⟩ := r
    go_wp2_with fail
    exact bodyPost_ret (v := mde r1 r2) (by simp [results, Try.results90, go_sem, hc2]) rfl ⟨by rw [HE.out], by go_grown⟩

/-- What Build answers. -/
def BdPost (S : List Tgt) (w : World) (e : Ending) (w' : World) : Prop := ∃ v, e = .returned v ∧ MdB (buildL S) w.heap.size w'.heap.size v w' ∧ Below w.heap.size w w'
/-- What the loops over the targets keep. -/
def BdRel (S : List Tgt) (B : Nat) (w : World) (s i : Value) (wr : World) : Prop :=
  ∃ (k : Nat) (D : List Mde), k ≤ S.length ∧ i = .int .i64 (k : Int) ∧ D.length = k ∧ (∀ q ∈ D, q.2.size ≤ 40) ∧ bFrom [] S = bFrom D (S.drop k) ∧ MOwn wr B s D ∧ Below B w wr
theorem hbf_next {S : List Tgt} {D : List Mde} {k : Nat} {x : Tgt} (hx : S[k]? = some x) (h : bFrom [] S = bFrom D (S.drop k)) : bFrom [] S = bFrom (D ++ [one D x]) (S.drop (k + 1)) := h.trans (bFrom_at hx)
theorem mdb_nil (lo hi : Nat) (a : Option Addr) (c : Nat) (w : World) : MdB [] lo hi (.slice a 0 c) w := ⟨a, c, rfl, .inl rfl⟩
theorem ins_in {S : List Tgt} {k : Nat} {m : Bool} {t : ByteArray} {L : List Ln} {N : List Int} (hw : wOk S = true) (hx : S[k]? = some (m, t, L, N)) : (∀ n ∈ N, 0 ≤ n ∧ n < (k : Int)) ∧ N.length ≤ 12 := by
  have h := tOk_ins ((wOk_iff.1 hw).2 k _ hx)
  have hk := (List.getElem?_eq_some_iff.1 hx).1
  have hl := wOk_len hw
  have := insOk_len h
  exact ⟨fun n hn => by have := insOk_mem h n hn; exact this, by simp only at this; omega⟩

set_option maxRecDepth 100000 in
set_option maxHeartbeats 4000000 in
theorem implBuild_any (v : Value) (S : List Tgt) (w : World) (hl : S.length ≤ 1048576) (hq : ∀ q ∈ S, Par q) (h : TgAt w w.heap.size v S) :
    Calls Try.prog 54 #[v] w (BdPost S w) := by
  obtain ⟨i0, hi, hz0, hz1, hz2⟩ := info_parts infoMade
  have KW := Lib.hid (implWorldOk_any v S w hl hq h)
  obtain ⟨a, cap, rfl, h⟩ := h
  have HH := Lib.hid h
  have HQ := Lib.hid hq
  clear h hq
  rcases hw : wOk S
  · have HE := Lib.hid (show buildL S = [] by unfold buildL; rw [hw]; rfl)
    rw [hw] at KW
    go_enter Try.func54, Try.ntmps54
    go_wp2_with fail
    refine KW.out.mono ?_
    rintro e w1 ⟨rfl, hb⟩
    go_wp2_with fail
    go_ret
    exact ⟨_, rfl, by rw [HE.out]; exact mdb_nil _ _ _ _ _, hb⟩
  rw [hw] at KW
  have HE := Lib.hid (show buildL S = bFrom [] S by unfold buildL; rw [hw]; rfl)
  have HW := Lib.hid hw
  have hl12 := wOk_len hw
  clear hw
  go_enter Try.func54, Try.ntmps54
  go_wp2_with fail
  refine KW.out.mono ?_
  rintro e w1 ⟨rfl, hb1⟩
  have HB1 := Lib.hid hb1
  have HST := Lib.hid (show BdRel S w1.heap.size w1 (.slice none 0 0) (.int .i64 0) w1 from ⟨0, [], Nat.zero_le _, rfl, rfl, (fun q hq => by cases hq), rfl, World.ownsRow_nil _ _ _ _, Below.refl _ _⟩)
  clear hb1 KW
  go_wp2_with fail
  go_loopw [3, 11] (fun s i wr => BdRel S w1.heap.size w1 s i wr) (fun _ i _ => S.length - (intOf i).toNat)
  case atStart => exact HST.out
  case round =>
    obtain ⟨k, D, hk, rfl, hDl, hsm, hbf, hown, hb⟩ := hrel
    obtain ⟨va, vc, hv⟩ := row_form hown
    rw [hDl] at hv
    subst hv
    have o1 : wr.ownsRow w1.heap.size 73 2 (.slice va k vc) k (mcs D) := by
      have : wr.ownsRow w1.heap.size 73 2 (.slice va k vc) D.length (mcs D) := hown
      rwa [hDl] at this
    have HO := Lib.hid o1
    have hmd := (MOwn.mb hown).at
    have HMB := Lib.hid (MOwn.mb hown)
    have HSM := Lib.hid hsm
    have HBF := Lib.hid hbf
    have zb := hb.size
    clear hown hsm hbf o1
    by_cases hlt : k < S.length
    · rcases HH.out with hx | ⟨b, o, rfl, hB, hc⟩
      · subst hx
        exact absurd hlt (by simp)
      obtain ⟨m, t, L, N, hxy⟩ : ∃ m t L N, S[k] = (m, t, L, N) := ⟨_, _, _, _, rfl⟩
      have nn := HB1.out.trans (hb.mono HB1.out.size)
      have cc := (hc k hlt).below nn hB
      rw [hxy] at cc
      obtain ⟨⟨e0, e1⟩, a1, c1, a2, c2, e2, e3, hs, hi'⟩ := cc
      simp only at e0 e1 e2 e3 hs hi'
      have HX := Lib.hid (show S[k]? = some (m, t, L, N) by rw [List.getElem?_eq_getElem hlt, hxy])
      have hp := HQ.out _ (List.mem_of_getElem? HX.out)
      have hin := ins_in HW.out HX.out
      clear hc hxy
      have i0' : (0 : Int) ≤ (k : Int) := by omega
      have i1' : (k : Int) < (S.length : Int) := by omega
      have bb := Lib.hid ((Below.refl wr.heap.size wr).alloc (Nat.le_refl _) (.cells #[.bool m, .string t, .slice a1 L.length c1, .slice a2 N.length c2] 79))
      have K := Lib.hid fun V (g : Below wr.heap.size wr V) => targetMade_any m t _ _ (.slice va D.length vc) L N D V hp.2.1 hp.2.2.1 (by omega) (fun q hq => Nat.le_trans (HSM.out q hq) (by omega)) (by omega) (by rw [hDl]; exact hin.1) ((hs.mono nn.size).stepAt g) ((hi'.mono nn.size).stepAt g) ((by rw [hDl]; exact hmd : MdAt wr wr.heap.size (.slice va D.length vc) D).stepAt g)
      rw [hDl] at K
      have HN := Lib.hid (hbf_next HX.out HBF.out)
      have HSM2 := Lib.hid (small_push HSM.out (one_small ((wOk_iff.1 HW.out).2 k _ HX.out) (D := D)))
      have hDk := Lib.hid hDl
      have HBB := Lib.hid hb
      clear hs hi' hp hin nn hmd hDl hb
      generalize one D (m, t, L, N) = r at *
      obtain ⟨r1, r2⟩ := r
      go_wp2_with fail
      refine (K.out _ bb.out).mono ?_
      rintro e w2 ⟨rfl, hb2⟩
      have b2 := bb.out.trans (hb2.mono bb.out.size)
      have HO2 := Lib.hid (row_below HO.out b2)
      have HBW := Lib.hid (HBB.out.trans (b2.mono zb))
      have z2 : w1.heap.size ≤ w2.heap.size := HBW.out.size
      clear hb2 b2
      go_wp2_with (at_builtin; refine wpList_append_own _ rfl _ _ 42 rfl w1.heap.size 73 i0 (.agg #[.bool false, .string ByteArray.empty]) 2 24 Try.underlying42 hi hz0 hz1 hz2 rfl (by decide) _ _ _ rfl (World.ownsRow.alloc HO2.out (.cells #[.bool r1, .string r2] 73)) ⟨w2.heap.size, 0, none⟩ 1 1 [.bool r1, .string r2] rfl rfl two_news (by intro u hu; simp at hu; rcases hu with rfl | rfl <;> rfl) (by unfold maxLen; omega) (by omega) (by simp; omega) ?_)
      intro v' w5 hown' hgrow hnn
      have HR := Lib.hid (show BdRel S w1.heap.size w1 v' (.int .i64 ((k : Int) + 1)) w5 from ⟨k + 1, D ++ [(r1, r2)], by omega, by go_num, by have := hDk.out; simp; omega, HSM2.out, HN.out, mown_push (by rw [hDk.out]; exact hown'), own_gone HO2.out HBW.out z2 hgrow⟩)
      clear hown' hgrow hnn
      go_wp2_with fail
      go_roundw
      case rel => exact HR.out
      case measure => simp [intOf]; omega
    · obtain rfl : k = S.length := by omega
      have HF := Lib.hid (show buildL S = D by rw [HE.out, HBF.out, List.drop_length]; rfl)
      have HMB2 := Lib.hid (show MdB D w.heap.size wr.heap.size (.slice va S.length vc) wr from HMB.out.wide HB1.out.size (Nat.le_refl _))
      have nn := Lib.hid (HB1.out.trans (hb.mono HB1.out.size))
      clear hmd
      go_wp2_with fail
      go_ret
      exact ⟨_, rfl, by rw [HF.out]; exact HMB2.out, nn.out⟩
end Bl
end Go.Proofs.Ytopplljilmjjgaa
