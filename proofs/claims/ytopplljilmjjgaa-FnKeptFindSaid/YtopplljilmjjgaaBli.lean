/- Contracts of the program's Build and of what it calls, over this seat's translation: it answers what buildL tells, in a row of its own; nothing that was there before the call has changed. Condition: at most 1048576 targets, lines, numbers and bytes of each. -/
import Derived.Test.YtopplljilmjjgaaBlp
import Derived.Test.YtopplljilmjjgaaWok
import Derived.Test.YtopplljilmjjgaaRxs
import Derived.Test.YtopplljilmjjgaaRxf
namespace Go.Proofs.Ytopplljilmjjgaa
open Go.RowKit Go.Sort

namespace Bl
open Tg Wl Rx Md Drm Rnw
theorem sown_push {w5 : World} {B : Nat} {v : Value} {N : List ByteArray} {s : ByteArray} (h : w5.ownsRow B 9 1 v (N.length + 1) (N.map Value.string ++ [.string s])) : SOwn w5 B v (N ++ [s]) := by
  show w5.ownsRow B 9 1 v (N ++ [s]).length ((N ++ [s]).map Value.string)
  simpa using h
theorem own_gone {w wr w1 : World} {B : Nat} {t : TypeId} {s n : Nat} {v : Value} {cs : List Value} {o : Obj} (h : wr.ownsRow B t s v n cs) (hb : Below B w wr) (hB : B ≤ wr.heap.size) (hg : (wr.alloc o).grownBy w1 v.ownBlock) : Below B w w1 :=
  (hb.alloc hB o).grown hg (by simp; omega) fun k hk => ((World.ownsRow.lt h) k hk).1
theorem rep_push (k : Nat) : List.replicate k true ++ [true] = List.replicate (k + 1) true := by rw [List.replicate_succ']
/-- What the loops that open all keep. -/
def OpRel (m : Nat) (B : Nat) (w : World) (s : Value) (k : Nat) (wr : World) : Prop := k ≤ m ∧ BOwn wr B s (List.replicate k true) ∧ Below B w wr

set_option maxRecDepth 100000 in
set_option maxHeartbeats 2000000 in
theorem implOpen_any (m : Nat) (w : World) (hm : m ≤ 20) :
    Calls Try.prog 132 #[.int .i64 (m : Int)] w fun e w' => ∃ a c, e = .returned (.slice a m c) ∧ Obl.BoAt w' w'.heap.size (.slice a m c) (List.replicate m true) ∧ Below w.heap.size w w' := by
  obtain ⟨i0, hi, hz0, hz1, hz2⟩ := info_parts infoBl
  have HST := Lib.hid (show OpRel m w.heap.size w (.slice none 0 0) 0 w from ⟨Nat.zero_le _, World.ownsRow_nil _ _ _ _, Below.refl _ _⟩)
  go_enter Try.func132, Try.ntmps132
  go_wp2_with fail
  go_loopw [3] (fun s3 wr => ∃ k : Nat, OpRel m w.heap.size w s3 k wr) (fun s3 _ => m - (match s3 with | .slice _ n _ => n | _ => 0))
  case atStart => exact ⟨0, HST.out⟩
  case round =>
    obtain ⟨k, hk, hown, hb⟩ := hrel
    obtain ⟨va, vc, hv⟩ := row_form hown
    have hrl : (List.replicate k true).length = k := List.length_replicate
    rw [hrl] at hv
    subst hv
    have o1 : wr.ownsRow w.heap.size 4 1 (.slice va k vc) k ((List.replicate k true).map Value.bool) := by
      have : wr.ownsRow w.heap.size 4 1 (.slice va k vc) (List.replicate k true).length ((List.replicate k true).map Value.bool) := hown
      rwa [hrl] at this
    have HO := Lib.hid o1
    have HBO := Lib.hid hown
    have zb := hb.size
    clear hown o1 hrl
    by_cases hlt : k < m
    · have i1 : (k : Int) < (m : Int) := by omega
      go_wp2_with (at_builtin; refine wpList_append_own _ rfl _ _ 121 rfl w.heap.size 4 i0 (.bool false) 1 1 Try.underlying121 hi hz0 hz1 hz2 rfl (by decide) _ _ _ rfl (World.ownsRow.alloc HO.out (.cells #[.bool true] 4)) ⟨wr.heap.size, 0, none⟩ 1 1 [.bool true] rfl rfl one_news (by intro u hu; simp at hu; subst hu; rfl) (by unfold maxLen; omega) (by omega) (by simp; omega) ?_)
      intro v' w5 hown' hgrow hnn
      have hR : OpRel m w.heap.size w v' (k + 1) w5 := ⟨by omega, (by
          show w5.ownsRow w.heap.size 4 1 v' (List.replicate (k + 1) true).length ((List.replicate (k + 1) true).map Value.bool)
          rw [List.length_replicate, ← rep_push, List.map_append]
          simpa using hown'), own_gone HO.out hb zb hgrow⟩
      obtain ⟨va', vc', hv'⟩ := row_form hown'
      subst hv'
      have HR := Lib.hid hR
      clear hown' hgrow hnn hR
      go_wp2_with fail
      go_roundw
      case rel => exact ⟨k + 1, HR.out⟩
      case measure => simp; omega
    · obtain rfl : k = m := by omega
      have HA := Lib.hid (BOwn.at HBO.out)
      go_wp2_with fail
      go_ret
      exact ⟨_, _, rfl, HA.out, hb⟩

/-- What a call answers that gathers the texts of inputs. -/
def TxPost (D : List Mde) (N : List Int) (w : World) (e : Ending) (w' : World) : Prop :=
  (∃ a c, e = .returned (.tuple #[.slice a (if allMade D N = true then N.length else 0) c, .bool (allMade D N)]) ∧ (allMade D N = true → Obl.StAt w' w'.heap.size (.slice a N.length c) (textsOf D N))) ∧ Below w.heap.size w w'
/-- What its loop keeps. -/
def TxRel (D : List Mde) (N : List Int) (B : Nat) (w : World) (s i : Value) (wr : World) : Prop :=
  ∃ j : Nat, j ≤ N.length ∧ i = .int .i64 (j : Int) ∧ allMade D (N.take j) = true ∧ SOwn wr B s (textsOf D (N.take j)) ∧ Below B w wr

set_option maxRecDepth 100000 in
set_option maxHeartbeats 4000000 in
theorem textsMade_any (u v : Value) (D : List Mde) (N : List Int) (w : World) (hD : D.length ≤ 1000) (hs : ∀ q ∈ D, q.2.size ≤ 1048576) (hN : N.length ≤ 1000) (hin : ∀ n ∈ N, 0 ≤ n ∧ n < (D.length : Int)) (h : MdAt w w.heap.size u D) (h' : InAt w w.heap.size v N) :
    Calls Try.prog 130 #[u, v] w (TxPost D N w) := by
  obtain ⟨i0, hi, hz0, hz1, hz2⟩ := info_parts Obt.infoString
  obtain ⟨a, c, rfl, h⟩ := h
  obtain ⟨a', c', rfl, h'⟩ := h'
  have HD := Lib.hid h
  have HN := Lib.hid h'
  have HI := Lib.hid hin
  have HS := Lib.hid hs
  have HST := Lib.hid (show TxRel D N w.heap.size w (.slice none 0 0) (.int .i64 0) w from ⟨0, Nat.zero_le _, rfl, rfl, World.ownsRow_nil _ _ _ _, Below.refl _ _⟩)
  clear h h' hin hs
  go_enter Try.func130, Try.ntmps130
  go_wp2_with fail
  go_loopw [6, 11] (fun s i wr => TxRel D N w.heap.size w s i wr) (fun _ i _ => N.length - (intOf i).toNat)
  case atStart => exact HST.out
  case round =>
    obtain ⟨j, hj, rfl, hall, hown, hb⟩ := hrel
    obtain ⟨va, vc, hv⟩ := row_form hown
    have htl : (textsOf D (N.take j)).length = j := by rw [texts_len]; simp; omega
    have HTL := Lib.hid htl
    rw [htl] at hv
    subst hv
    have o1 : wr.ownsRow w.heap.size 9 1 (.slice va j vc) j ((textsOf D (N.take j)).map Value.string) := by
      have : wr.ownsRow w.heap.size 9 1 (.slice va j vc) (textsOf D (N.take j)).length ((textsOf D (N.take j)).map Value.string) := hown
      rwa [htl] at this
    have HO := Lib.hid o1
    have HBO := Lib.hid hown
    have HA := Lib.hid hall
    have zb := hb.size
    clear hown hall htl o1
    by_cases hlt : j < N.length
    · rcases HN.out with hx | ⟨b, o, rfl, hB, hc⟩
      · subst hx
        exact absurd hlt (by simp)
      obtain ⟨n, hn⟩ : ∃ n, N[j] = n := ⟨_, rfl⟩
      have e0 := (hb.cell (p := ⟨b, o + j, none⟩) hB).trans (hc j hlt)
      rw [hn] at e0
      have HX := Lib.hid (show N[j]? = some n by rw [List.getElem?_eq_getElem hlt, hn])
      obtain ⟨n0, n1⟩ := HI.out n (List.mem_of_getElem? HX.out)
      obtain ⟨m, rfl⟩ : ∃ m : Nat, n = (m : Int) := ⟨n.toNat, by omega⟩
      have hm : m < D.length := by omega
      rcases HD.out with hx | ⟨b2, o2, rfl, hB2, hc2⟩
      · subst hx
        exact absurd hm (by simp)
      obtain ⟨bm, tm, hbt⟩ : ∃ bm tm, D[m] = (bm, tm) := ⟨_, _, rfl⟩
      have hd := (hc2 m hm).below hb hB2
      rw [hbt] at hd
      obtain ⟨d0, d1⟩ := hd
      simp only at d0 d1
      have hma : madeAt D (m : Int) = (bm, tm) := by rw [madeAt_eq hm, hbt]
      have i0' : (0 : Int) ≤ (j : Int) := by omega
      have i1' : (j : Int) < (N.length : Int) := by omega
      clear hc hc2 hn hbt
      rcases bm
      · have HF := Lib.hid (all_bad HX.out (by rw [hma]))
        clear hma
        go_wp2_with fail
        refine bodyPost_ret (v := .tuple #[.slice none 0 0, .bool false]) (by simp [results, Try.results130, go_sem]) rfl ?_
        exact ⟨⟨none, 0, by rw [HF.out]; rfl, fun e => by rw [HF.out] at e; cases e⟩, hb⟩
      · have HN1 := Lib.hid (all_next HX.out (by rw [hma]) HA.out)
        have HT1 := Lib.hid (show textsOf D (N.take (j + 1)) = textsOf D (N.take j) ++ [tm] by rw [texts_next HX.out, hma])
        clear hma
        go_wp2_with (at_builtin; refine wpList_append_own _ rfl _ _ 24 rfl w.heap.size 9 i0 (.string ByteArray.empty) 1 16 Try.underlying24 hi hz0 hz1 hz2 rfl (by decide) _ _ _ rfl (World.ownsRow.alloc HO.out (.cells #[.string tm] 9)) ⟨wr.heap.size, 0, none⟩ 1 1 [.string tm] rfl rfl one_news (by intro u hu; simp at hu; subst hu; rfl) (by unfold maxLen; omega) (by omega) (by simp; omega) ?_)
        intro v' w5 hown' hgrow hnn
        have HR := Lib.hid (show TxRel D N w.heap.size w v' (.int .i64 ((j : Int) + 1)) w5 from ⟨j + 1, by omega, by go_num, HN1.out, by rw [HT1.out]; exact sown_push (by rw [HTL.out]; exact hown'), own_gone HO.out hb zb hgrow⟩)
        clear hown' hgrow hnn
        go_wp2_with fail
        go_roundw
        case rel => exact HR.out
        case measure => simp [intOf]; omega
    · obtain rfl : j = N.length := by omega
      have HAll := Lib.hid (show allMade D N = true by have := HA.out; rwa [List.take_length] at this)
      have HAt := Lib.hid (SOwn.at HBO.out)
      rw [List.take_length] at HAt
      go_wp2_with fail
      refine bodyPost_ret (v := .tuple #[.slice va N.length vc, .bool true]) (by simp [results, Try.results130, go_sem]) rfl ?_
      exact ⟨⟨va, vc, by rw [HAll.out]; rfl, fun _ => HAt.out⟩, hb⟩

set_option maxRecDepth 100000 in
set_option maxHeartbeats 4000000 in
theorem scriptMade_any (v u : Value) (L : List Ln) (T : List ByteArray) (w : World) (hl : L.length ≤ 1048576) (hq : ∀ q ∈ L, q.2.2.2.size ≤ 1048576) (hT : T.length ≤ 20) (hTq : ∀ q ∈ T, q.size ≤ 1048576) (h : LnAt w w.heap.size v L) (h' : Obl.StAt w w.heap.size u T) :
    Calls Try.prog 91 #[v, u] w fun e w' => e = .returned (mde (runMade L T).1 (runMade L T).2) ∧ Below w.heap.size w w' := by
  obtain ⟨a, c, rfl, x1⟩ := id h
  obtain ⟨a', c', rfl, x2⟩ := id h'
  clear x1 x2
  have KO := Lib.hid fun V => implOpen_any T.length V hT
  have KR := Lib.hid fun V z (g : Below w.heap.size w V) g' => implRoomRun_any (v := .slice a L.length c) (u := .slice a' T.length c') (z := z) (S := L) (I := T) (O := List.replicate T.length true) (w := V) hl hq (by omega) hTq (by simp; omega) (h.stepAt g) (h'.stepAt g) g'
  have HM := Lib.hid (show runMade L T = (decide ((roomR L T (List.replicate T.length true)).1 = 0), (roomR L T (List.replicate T.length true)).2.1) from ranMade_room _ _ _)
  generalize roomR L T (List.replicate T.length true) = r at *
  obtain ⟨rc, ro, rr⟩ := r
  have HB := Lib.hid ((Below.refl w.heap.size w).alloc (Nat.le_refl _) (.cells #[.bool false, .string ByteArray.empty] 73))
  clear h h'
  go_enter Try.func91, Try.ntmps91
  go_wp2_with fail
  refine (KO.out _).mono ?_
  rintro e w1 ⟨oa, oc, rfl, hbo, hb⟩
  have b1 := Lib.hid (HB.out.trans (hb.mono HB.out.size))
  have s1 : w.heap.size + 1 ≤ w1.heap.size := by have := hb.size; simpa using this
  have hc1 : ∀ o, w1.cell? ⟨w.heap.size, o, none⟩ = _ := fun o => hb.cell (p := ⟨w.heap.size, o, none⟩) (by simp)
  have hf1 : ∀ o, w1.frozen? ⟨w.heap.size, o, none⟩ = _ := fun o => hb.frozen (p := ⟨w.heap.size, o, none⟩) (by simp)
  have HBO := Lib.hid hbo
  clear hb hbo
  go_wp2_with fail
  refine (KR.out _ _ b1.out (by simpa using HBO.out)).mono ?_
  rintro e w2 ⟨vv, rfl, hib, hb⟩
  have b2 := Lib.hid (b1.out.trans (hb.mono b1.out.size))
  have s2 : w.heap.size + 1 ≤ w2.heap.size := by have := hb.size; omega
  have hc2 : ∀ o, w2.cell? ⟨w.heap.size, o, none⟩ = _ := fun o => (hb.cell (p := ⟨w.heap.size, o, none⟩) (by show w.heap.size < _; omega)).trans (hc1 o)
  have hf2 : ∀ o, w2.frozen? ⟨w.heap.size, o, none⟩ = _ := fun o => (hb.frozen (p := ⟨w.heap.size, o, none⟩) (by show w.heap.size < _; omega)).trans (hf1 o)
  obtain ⟨va, vc, rfl, x⟩ := hib
  clear hb x hc1 hf1
  have HB3 := Lib.hid (b2.out.alloc b2.out.size (.cells #[.int .i64 rc, .string ro, .slice va rr.length vc] 144))
  have ba := (Below.refl w2.heap.size w2).alloc (Nat.le_refl _) (.cells #[.int .i64 rc, .string ro, .slice va rr.length vc] 144)
  have q0 : (w2.alloc (.cells #[.int .i64 rc, .string ro, .slice va rr.length vc] 144)).cell? ⟨w.heap.size, 0, none⟩ = some (.bool false) := (ba.cell (p := ⟨w.heap.size, 0, none⟩) (by show w.heap.size < _; omega)).trans ((hc2 0).trans (by go_simp))
  have q1 : (w2.alloc (.cells #[.int .i64 rc, .string ro, .slice va rr.length vc] 144)).cell? ⟨w.heap.size, 1, none⟩ = some (.string ⟨#[]⟩) := (ba.cell (p := ⟨w.heap.size, 1, none⟩) (by show w.heap.size < _; omega)).trans ((hc2 1).trans (by go_simp))
  have q2 : (w2.alloc (.cells #[.int .i64 rc, .string ro, .slice va rr.length vc] 144)).frozen? ⟨w.heap.size, 0, none⟩ = false := (ba.frozen (p := ⟨w.heap.size, 0, none⟩) (by show w.heap.size < _; omega)).trans ((hf2 0).trans (by go_simp))
  have q3 : (w2.alloc (.cells #[.int .i64 rc, .string ro, .slice va rr.length vc] 144)).frozen? ⟨w.heap.size, 1, none⟩ = false := (ba.frozen (p := ⟨w.heap.size, 1, none⟩) (by show w.heap.size < _; omega)).trans ((hf2 1).trans (by go_simp))
  have n2 : Below w.heap.size w w2 := b2.out
  clear ba hc2 hf2
  by_cases hz : rc = 0
  · have HE := Lib.hid (show runMade L T = (true, ro) by rw [HM.out]; simp [hz])
    subst hz
    go_wp2_with fail
    exact bodyPost_ret (v := mde true ro) (by simp [results, Try.results91, go_sem, q0, q1]) rfl ⟨by rw [HE.out], by go_grown⟩
  · have HE := Lib.hid (show runMade L T = (false, ro) by rw [HM.out]; simp [hz])
    have hz2 : (rc == 0) = false := by rw [beq_eq_false_iff_ne]; exact hz
    go_wp2_with fail
    exact bodyPost_ret (v := mde false ro) (by simp [results, Try.results91, go_sem, q0, q1]) rfl ⟨by rw [HE.out], by go_grown⟩
end Bl
end Go.Proofs.Ytopplljilmjjgaa
