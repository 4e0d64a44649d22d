/- Contracts of the model's l10Open, l10Ins and l10Made, over this seat's translation: all open; the texts of inputs and whether all were made; what a run made. Nothing that was there before the call has changed. Condition: few targets and inputs. -/
import Derived.Test.YtopplljilmjjgaaBlp
import Derived.Test.YtopplljilmjjgaaWos
import Derived.Test.YtopplljilmjjgaaRxs
namespace Go.Proofs.Ytopplljilmjjgaa
open Go.RowKit Go.Sort

namespace Bm
open Tg Wl Rx Md Drm Rnw Bl
theorem sown_push {w5 : World} {B : Nat} {v : Value} {N : List ByteArray} {s : ByteArray} (h : w5.ownsRow B 9 1 v (N.length + 1) (N.map Value.string ++ [.string s])) : SOwn w5 B v (N ++ [s]) := by
  show w5.ownsRow B 9 1 v (N ++ [s]).length ((N ++ [s]).map Value.string)
  simpa using h
theorem own_gone {w wr w1 : World} {B : Nat} {t : TypeId} {s n : Nat} {v : Value} {cs : List Value} {o : Obj} (h : wr.ownsRow B t s v n cs) (hb : Below B w wr) (hB : B ≤ wr.heap.size) (hg : (wr.alloc o).grownBy w1 v.ownBlock) : Below B w w1 :=
  (hb.alloc hB o).grown hg (by simp; omega) fun k hk => ((World.ownsRow.lt h) k hk).1
theorem rep_push (k : Nat) : List.replicate k true ++ [true] = List.replicate (k + 1) true := by rw [List.replicate_succ']
def OpRel (m : Nat) (B : Nat) (w : World) (s : Value) (k : Nat) (wr : World) : Prop := k ≤ m ∧ BOwn wr B s (List.replicate k true) ∧ Below B w wr

set_option maxRecDepth 100000 in
set_option maxHeartbeats 2000000 in
theorem specOpen_any (m : Nat) (w : World) (hm : m ≤ 20) :
    Calls Try.prog 125 #[.int .i64 (m : Int)] w fun e w' => ∃ a c, e = .returned (.slice a m c) ∧ Obl.BoAt w' w'.heap.size (.slice a m c) (List.replicate m true) ∧ Below w.heap.size w w' := by
  obtain ⟨i0, hi, hz0, hz1, hz2⟩ := info_parts infoBl
  have HST := Lib.hid (show ∃ k : Nat, OpRel m w.heap.size w (.slice (some ⟨w.heap.size, 0, none⟩) 0 0) k (w.alloc (.cells #[] 4)) ∧ Value.int .i64 0 = .int .i64 (k : Int) from ⟨0, ⟨Nat.zero_le _, row_made (Nat.le_refl _), (Below.refl _ _).alloc (Nat.le_refl _) _⟩, rfl⟩)
  go_enter Try.func125, Try.ntmps125
  go_wp2_with fail
  go_loopw [3, 4] (fun s3 s4 wr => ∃ k : Nat, OpRel m w.heap.size w s3 k wr ∧ s4 = .int .i64 (k : Int)) (fun _ s4 _ => m - (intOf s4).toNat)
  case atStart => exact HST.out
  case round =>
    obtain ⟨k, ⟨hk, hown, hb⟩, rfl⟩ := hrel
    obtain ⟨va, vc, hv⟩ := row_form hown
    have hrl : (List.replicate k true).length = k := List.length_replicate
    rw [hrl] at hv
    subst hv
    have o1 : wr.ownsRow w.heap.size 4 1 (.slice va k vc) k ((List.replicate k true).map Value.bool) := by
      have : wr.ownsRow w.heap.size 4 1 (.slice va k vc) (List.replicate k true).length ((List.replicate k true).map Value.bool) := hown
      rwa [hrl] at this
    have HO := Lib.hid o1
    have HBO := Lib.hid hown
    have zb := hb.size
    clear hown o1 hrl
    by_cases hlt : k < m
    · have i1 : (k : Int) < (m : Int) := by omega
      go_wp2_with (at_builtin; refine wpList_append_own _ rfl _ _ 121 rfl w.heap.size 4 i0 (.bool false) 1 1 Try.underlying121 hi hz0 hz1 hz2 rfl (by decide) _ _ _ rfl (World.ownsRow.alloc HO.out (.cells #[.bool true] 4)) ⟨wr.heap.size, 0, none⟩ 1 1 [.bool true] rfl rfl one_news (by intro u hu; simp at hu; subst hu; rfl) (by unfold maxLen; omega) (by omega) (by simp; omega) ?_)
      intro v' w5 hown' hgrow hnn
      have HR := Lib.hid (show OpRel m w.heap.size w v' (k + 1) w5 from ⟨by omega, (by
          show w5.ownsRow w.heap.size 4 1 v' (List.replicate (k + 1) true).length ((List.replicate (k + 1) true).map Value.bool)
          rw [List.length_replicate, ← rep_push, List.map_append]
          simpa using hown'), own_gone HO.out hb zb hgrow⟩)
      clear hown' hgrow hnn
      go_wp2_with fail
      go_roundw
      case rel => exact ⟨k + 1, HR.out, by go_num⟩
      case measure => simp [intOf]; omega
    · obtain rfl : k = m := by omega
      have HA := Lib.hid (BOwn.at HBO.out)
      go_wp2_with fail
      go_ret
      exact ⟨_, _, rfl, HA.out, hb⟩

def TxPost (D : List Mde) (N : List Int) (w : World) (e : Ending) (w' : World) : Prop :=
  (∃ a c, e = .returned (.tuple #[.slice a (if allMade D N = true then N.length else 0) c, .bool (allMade D N)]) ∧ (allMade D N = true → Obl.StAt w' w'.heap.size (.slice a N.length c) (textsOf D N) ∧ ∃ B, w.heap.size ≤ B ∧ SOwn w' B (.slice a N.length c) (textsOf D N))) ∧ Below w.heap.size w w'
def TxRel (D : List Mde) (N : List Int) (B : Nat) (w : World) (s i : Value) (wr : World) : Prop :=
  ∃ j : Nat, j ≤ N.length ∧ i = .int .i64 (j : Int) ∧ allMade D (N.take j) = true ∧ SOwn wr B s (textsOf D (N.take j)) ∧ Below B w wr

set_option maxRecDepth 100000 in
set_option maxHeartbeats 4000000 in
theorem l10Ins_any (m : Bool) (t : ByteArray) (u v z : Value) (nL : Nat) (al : Option Addr) (cl : Nat) (hz : z = .slice al nL cl) (D : List Mde) (N : List Int) (w : World) (hD : D.length ≤ 1000) (hs : ∀ q ∈ D, q.2.size ≤ 1048576) (hN : N.length ≤ 1000) (hin : ∀ n ∈ N, 0 ≤ n ∧ n < (D.length : Int)) (h : MdAt w w.heap.size u D) (h' : InAt w w.heap.size v N) :
    Calls Try.prog 85 #[tgt m t z v, u] w (TxPost D N w) := by
  subst hz
  obtain ⟨i0, hi, hz0, hz1, hz2⟩ := info_parts Obt.infoString
  obtain ⟨a, c, rfl, h⟩ := h
  obtain ⟨a', c', rfl, h'⟩ := h'
  have HD := Lib.hid h
  have HN := Lib.hid h'
  have HI := Lib.hid hin
  have HS := Lib.hid hs
  obtain ⟨V0, hV0⟩ : ∃ V0 : World, V0 = w.alloc (.cells #[.bool m, .string t, .slice al nL cl, .slice a' N.length c'] 79) := ⟨_, rfl⟩
  have hVc : V0.cell? ⟨w.heap.size, 3, none⟩ = some (.slice a' N.length c') := by rw [hV0]; go_simp
  have hVz : V0.heap.size = w.heap.size + 1 := by rw [hV0]; simp
  have hVb : Below w.heap.size w V0 := by rw [hV0]; exact (Below.refl _ _).alloc (Nat.le_refl _) _
  have HV := Lib.hid (And.intro hVc (And.intro hVz hVb))
  have HST := Lib.hid (show TxRel D N V0.heap.size V0 (.slice (some ⟨V0.heap.size, 0, none⟩) 0 0) (.int .i64 0) (V0.alloc (.cells #[] 9)) from ⟨0, Nat.zero_le _, rfl, rfl, row_made (Nat.le_refl _), (Below.refl _ _).alloc (Nat.le_refl _) _⟩)
  rw [hV0] at HST
  have HEQ := Lib.hid hV0
  clear h h' hin hs hVc hVz hVb hV0
  go_enter Try.func85, Try.ntmps85
  go_wp2_with fail
  go_loopw [6, 7] (fun s i wr => TxRel D N V0.heap.size V0 s i wr) (fun _ i _ => N.length - (intOf i).toNat)
  case atStart => have := HST.out; rw [← HEQ.out] at this; first | exact this | (rw [HEQ.out] at this ⊢; simpa using this)
  case round =>
    obtain ⟨j, hj, rfl, hall, hown, hb⟩ := hrel
    obtain ⟨va, vc, hv⟩ := row_form hown
    have htl : (textsOf D (N.take j)).length = j := by rw [texts_len]; simp; omega
    have HTL := Lib.hid htl
    rw [htl] at hv
    subst hv
    have o1 : wr.ownsRow V0.heap.size 9 1 (.slice va j vc) j ((textsOf D (N.take j)).map Value.string) := by
      have : wr.ownsRow V0.heap.size 9 1 (.slice va j vc) (textsOf D (N.take j)).length ((textsOf D (N.take j)).map Value.string) := hown
      rwa [htl] at this
    have HO := Lib.hid o1
    have HBO := Lib.hid hown
    have HA := Lib.hid hall
    have zb := hb.size
    have bx : wr.cell? ⟨w.heap.size, 3, none⟩ = some (.slice a' N.length c') := (hb.cell (p := ⟨w.heap.size, 3, none⟩) (by show w.heap.size < _; have := HV.out.2.1; omega)).trans HV.out.1
    have nn : Below w.heap.size w wr := HV.out.2.2.trans (hb.mono HV.out.2.2.size)
    clear hown hall htl o1
    by_cases hlt : j < N.length
    · rcases HN.out with hx | ⟨b, o, rfl, hB, hc⟩
      · subst hx
        exact absurd hlt (by simp)
      obtain ⟨n, hn⟩ : ∃ n, N[j] = n := ⟨_, rfl⟩
      have e0 := (nn.cell (p := ⟨b, o + j, none⟩) hB).trans (hc j hlt)
      rw [hn] at e0
      have HX := Lib.hid (show N[j]? = some n by rw [List.getElem?_eq_getElem hlt, hn])
      obtain ⟨n0, n1⟩ := HI.out n (List.mem_of_getElem? HX.out)
      obtain ⟨q, rfl⟩ : ∃ q : Nat, n = (q : Int) := ⟨n.toNat, by omega⟩
      have hm : q < D.length := by omega
      rcases HD.out with hx | ⟨b2, o2, rfl, hB2, hc2⟩
      · subst hx
        exact absurd hm (by simp)
      obtain ⟨bm, tm, hbt⟩ : ∃ bm tm, D[q] = (bm, tm) := ⟨_, _, rfl⟩
      have hd := (hc2 q hm).below nn hB2
      rw [hbt] at hd
      obtain ⟨d0, d1⟩ := hd
      simp only at d0 d1
      have hma : madeAt D (q : Int) = (bm, tm) := by rw [madeAt_eq hm, hbt]
      have i0' : (0 : Int) ≤ (j : Int) := by omega
      have i1' : (j : Int) < (N.length : Int) := by omega
      have NN := Lib.hid nn
      clear hc hc2 hn hbt nn
      rcases bm
      · have HF := Lib.hid (all_bad HX.out (by rw [hma]))
        clear hma
        go_wp2_with fail
        refine bodyPost_ret (v := .tuple #[.slice (some ⟨wr.heap.size, 0, none⟩) 0 0, .bool false]) (by simp [results, Try.results85, go_sem]) rfl ?_
        exact ⟨⟨_, 0, by rw [HF.out]; rfl, fun e => by rw [HF.out] at e; cases e⟩, NN.out.alloc NN.out.size _⟩
      · have HN1 := Lib.hid (all_next HX.out (by rw [hma]) HA.out)
        have HT1 := Lib.hid (show textsOf D (N.take (j + 1)) = textsOf D (N.take j) ++ [tm] by rw [texts_next HX.out, hma])
        clear hma
        go_wp2_with (at_builtin; refine wpList_append_own _ rfl _ _ 24 rfl V0.heap.size 9 i0 (.string ByteArray.empty) 1 16 Try.underlying24 hi hz0 hz1 hz2 rfl (by decide) _ _ _ rfl (World.ownsRow.alloc HO.out (.cells #[.string tm] 9)) ⟨wr.heap.size, 0, none⟩ 1 1 [.string tm] rfl rfl one_news (by intro u hu; simp at hu; subst hu; rfl) (by unfold maxLen; omega) (by omega) (by simp; omega) ?_)
        intro v' w5 hown' hgrow hnn
        have HR := Lib.hid (show TxRel D N V0.heap.size V0 v' (.int .i64 ((j : Int) + 1)) w5 from ⟨j + 1, by omega, by go_num, HN1.out, by rw [HT1.out]; exact sown_push (by rw [HTL.out]; exact hown'), own_gone HO.out hb zb hgrow⟩)
        clear hown' hgrow hnn
        go_wp2_with fail
        go_roundw
        case rel => exact HR.out
        case measure => simp [intOf]; omega
    · obtain rfl : j = N.length := by omega
      have HAll := Lib.hid (show allMade D N = true by have := HA.out; rwa [List.take_length] at this)
      have HAt := Lib.hid (SOwn.at HBO.out)
      rw [List.take_length] at HAt
      have HOT := Lib.hid (show SOwn wr V0.heap.size (.slice va N.length vc) (textsOf D N) by have := HBO.out; rwa [List.take_length] at this)
      go_wp2_with fail
      refine bodyPost_ret (v := .tuple #[.slice va N.length vc, .bool true]) (by simp [results, Try.results85, go_sem]) rfl ?_
      exact ⟨⟨va, vc, by rw [HAll.out]; rfl, fun _ => ⟨HAt.out, V0.heap.size, by have := HV.out.2.1; omega, HOT.out⟩⟩, nn⟩

set_option maxRecDepth 100000 in
set_option maxHeartbeats 2000000 in
theorem l10Made_any (c : Int) (o : ByteArray) (a : Option Addr) (n k : Nat) (R : List Int) (w : World) :
    Calls Try.prog 123 #[ranV c o (.slice a n k)] w fun e w' => e = .returned (mde (ranMade (c, o, R)).1 (ranMade (c, o, R)).2) ∧ Below w.heap.size w w' := by
  by_cases h : c = 0
  · have HE := Lib.hid (show ranMade (c, o, R) = (true, o) by unfold ranMade; rw [if_pos h])
    subst h
    go_enter Try.func123, Try.ntmps123
    go_wp2_with fail
    exact bodyPost_ret (v := mde true o) (by simp [results, Try.results123, go_sem]) rfl ⟨by rw [HE.out], by go_grown⟩
  · have HE := Lib.hid (show ranMade (c, o, R) = (false, ⟨#[]⟩) by unfold ranMade; rw [if_neg h])
    have hz2 : (c != 0) = true := by rw [bne_iff_ne]; exact h
    go_enter Try.func123, Try.ntmps123
    go_wp2_with fail
    exact bodyPost_ret (v := mde false ⟨#[]⟩) (by simp [results, Try.results123, go_sem]) rfl ⟨by rw [HE.out], by go_grown⟩
end Bm
end Go.Proofs.Ytopplljilmjjgaa
