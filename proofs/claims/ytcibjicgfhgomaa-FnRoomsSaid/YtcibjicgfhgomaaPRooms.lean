/- At every code the law FnRooms returns true: with other inputs, of which those that were read are the same, a run comes to the same, and so it does if nothing but what it read is open. No condition. -/
import Derived.Test.YtcibjicgfhgomaaDrr
import Derived.Test.YtcibjicgfhgomaaRxu
import Derived.Test.YtcibjicgfhgomaaRxg
import Derived.Test.YtcibjicgfhgomaaRxw
import Derived.Deep.CutRange
import Derived.Deep.RegionWith
import Derived.Deep.RegionLaw
import Derived.Deep.RegionHeld3
namespace Go.Proofs.Ytcibjicgfhgomaa
open Go.ChangeShapes Go.WideShapes Go.ChangeAt Go.RowKit Go.Joins Go.Sort
namespace Prs
open Drm Rx Obl Rnw Rxw
/-- Nothing but two blocks has changed, and what is new. -/
structure Two (g n : Nat) (w w' : World) : Prop where
  os : w'.os = w.os
  tape : w'.tape = w.tape
  output : w'.output = w.output
  size : w.heap.size ≤ w'.heap.size
  block : ∀ k, k < w.heap.size → k ≠ g → k ≠ n → w'.heap[k]? = w.heap[k]?
theorem Two.refl (g n : Nat) (w : World) : Two g n w w := ⟨rfl, rfl, rfl, Nat.le_refl _, fun _ _ _ _ => rfl⟩
theorem Two.set1 {g n o : Nat} {v : Value} {w w' : World} (h : Two g n w w') : Two g n w (w'.setCell ⟨g, o, none⟩ v) :=
  ⟨h.os, h.tape, h.output, by simpa [World.setCell] using h.size, fun k hk h1 h2 => (Below.heap_setCell w' ⟨g, o, none⟩ v k h1).trans (h.block k hk h1 h2)⟩
theorem Two.set2 {g n o : Nat} {v : Value} {w w' : World} (h : Two g n w w') : Two g n w (w'.setCell ⟨n, o, none⟩ v) :=
  ⟨h.os, h.tape, h.output, by simpa [World.setCell] using h.size, fun k hk h1 h2 => (Below.heap_setCell w' ⟨n, o, none⟩ v k h2).trans (h.block k hk h1 h2)⟩
theorem Two.row {g n B s m : Nat} {t : TypeId} {v : Value} {xs : List Value} {w w' : World} (h : Two g n w w') (hr : w.ownsRow B t s v m xs) (h1 : ∀ k, v.ownBlock = some k → k ≠ g ∧ k ≠ n) : w'.ownsRow B t s v m xs :=
  row_keep hr fun k e => h.block k ((World.ownsRow.lt hr) k e).2 (h1 k e).1 (h1 k e).2
theorem Two.below {B g n : Nat} {w0 w w' : World} (h : Two g n w w') (hb : Below B w0 w) (hg : B ≤ g) (hn : B ≤ n) (hB : B ≤ w.heap.size) : Below B w0 w' :=
  ⟨h.os.trans hb.os, h.tape.trans hb.tape, h.output.trans hb.output, Nat.le_trans hb.size h.size, fun k hk => (h.block k (by omega) (by omega) (by omega)).trans (hb.block k hk)⟩
/-- Rows of different kinds lie in different blocks. -/
theorem row_kinds {B B' s s' m m' : Nat} {t t' : TypeId} {v v' : Value} {xs xs' : List Value} {w : World} (h : w.ownsRow B t s v m xs) (h' : w.ownsRow B' t' s' v' m' xs') (ht : t ≠ t') : ∀ k, v.ownBlock = some k → v'.ownBlock ≠ some k := by
  intro k e e'
  obtain ⟨_, ⟨rfl, _⟩ | ⟨g, cap, cur, rfl, _, hg, _⟩⟩ := h
  · cases e
  obtain ⟨_, ⟨rfl, _⟩ | ⟨g', cap', cur', rfl, _, hg', _⟩⟩ := h'
  · cases e'
  have e1 : g = k := by injection e
  have e2 : g' = k := by injection e'
  subst e1
  subst e2
  rw [hg] at hg'
  injection hg' with hg'
  injection hg' with _ h2 _
  exact ht h2
theorem htwS {g n c m s k : Nat} {B lo : Nat} {t : TypeId} {v : Value} {xs ys : List Value} {w w' : World} (h : Two g n w w') (hr : w.ownsRow B t s v k xs) (hx : w.ownsRow lo 9 1 (.slice (some ⟨g, 0, none⟩) m c) m ys) (ht : t ≠ 9) (hn : ∀ q, v.ownBlock = some q → q ≠ n) : w'.ownsRow B t s v k xs :=
  h.row hr fun q e => ⟨fun e' => by subst e'; exact row_kinds hr hx ht q e rfl, hn q e⟩
/-- What the loop keeps: the first inputs that were read are the same, and open. -/
def MRel (R : List Int) (I : List ByteArray) (m g c lo n : Nat) (w0 : World) (i : Value) (wr : World) : Prop :=
  ∃ (k : Nat) (X : List ByteArray) (B : List Bool), k ≤ R.length ∧ i = .int .i64 (k : Int) ∧ X.length = m ∧ B.length = m ∧ (∀ q ∈ X, q.size ≤ 40) ∧
    (∀ y ∈ R.take k, X.getD y.toNat ByteArray.empty = I.getD y.toNat ByteArray.empty ∧ B.getD y.toNat false = true) ∧
    wr.ownsRow lo 9 1 (.slice (some ⟨g, 0, none⟩) m c) m (X.map Value.string) ∧ OBlk Value.bool 4 wr n m B ∧ Two g n w0 wr
theorem in_drew {w V : World} {v : Value} {N : List Int} (h : InAt w w.heap.size v N) (e : V.heap = w.heap) : InAt V V.heap.size v N := by
  obtain ⟨a, c, rfl, h⟩ := h
  refine ⟨a, c, rfl, ?_⟩
  rcases h with h | ⟨b, o, rfl, hB, hc⟩
  · exact .inl h
  · exact .inr ⟨b, o, rfl, by rw [e]; exact hB, fun i hi => (World.cell?_of_block (a := ⟨b, o + i, none⟩) (by rw [e])).trans (hc i hi)⟩
theorem bo_drew {w V : World} {v : Value} {N : List Bool} (h : BoAt w w.heap.size v N) (e : V.heap = w.heap) : BoAt V V.heap.size v N := by
  obtain ⟨a, c, rfl, h⟩ := h
  refine ⟨a, c, rfl, ?_⟩
  rcases h with h | ⟨b, o, rfl, hB, hc⟩
  · exact .inl h
  · exact .inr ⟨b, o, rfl, by rw [e]; exact hB, fun i hi => (World.cell?_of_block (a := ⟨b, o + i, none⟩) (by rw [e])).trans (hc i hi)⟩
theorem below_heap {w V V' : World} (h : Below V.heap.size V V') (e : V = w ∨ V = w.drew) : Below w.heap.size w V' := by
  rcases e with rfl | rfl
  · exact h
  · exact ⟨h.os, h.tape, h.output, h.size, h.block⟩
theorem madeB (m : Nat) (V : World) : OBlk Value.bool 4 (V.alloc (.cells (madeCells #[.bool false] (m * 1)) 4)) V.heap.size m (List.replicate m false) :=
  ⟨_, heap_alloc_new V _, by rw [size_madeCells]; omega, by simp, fun i hi => by
    have hi' : i < m := by simpa using hi
    simp [madeCells, hi', Nat.mod_one]⟩
theorem mrel_drew {R : List Int} {I : List ByteArray} {m g c lo n : Nat} {w0 wr : World} {i : Value} (h : MRel R I m g c lo n w0 i wr) : MRel R I m g c lo n w0 i wr.drew := by
  obtain ⟨k, X, B, h1, h2, h3, h4, h5, h6, h7, h8, h9⟩ := h
  exact ⟨k, X, B, h1, h2, h3, h4, h5, h6, h7, h8, ⟨h9.os, h9.tape, h9.output, h9.size, h9.block⟩⟩
theorem getD_set {α : Type} {L : List α} {j i : Nat} {x d : α} : (L.set j x).getD i d = if i = j ∧ j < L.length then x else L.getD i d := by
  simp only [List.getD_eq_getElem?_getD, List.getElem?_set]
  by_cases h : j = i
  · subst h
    by_cases h2 : j < L.length
    · simp [h2]
    · simp [h2]
  · rw [if_neg h, if_neg (fun e => h e.1.symm)]
theorem mrel_next {R : List Int} {I X : List ByteArray} {B : List Bool} {k j m : Nat} {ti : ByteArray} (hk : R[k]? = some (j : Int)) (hI : I[j]? = some ti) (hX : X.length = m) (hB : B.length = m) (hj : j < m)
    (h : ∀ y ∈ R.take k, X.getD y.toNat ByteArray.empty = I.getD y.toNat ByteArray.empty ∧ B.getD y.toNat false = true) :
    ∀ y ∈ R.take (k + 1), (X.set j ti).getD y.toNat ByteArray.empty = I.getD y.toNat ByteArray.empty ∧ (B.set j true).getD y.toNat false = true := by
  intro y hy
  rw [getD_set, getD_set]
  by_cases e : y.toNat = j
  · rw [if_pos ⟨e, by omega⟩, if_pos ⟨e, by omega⟩, e]
    refine ⟨?_, rfl⟩
    rw [List.getD_eq_getElem?_getD, hI]
    rfl
  · rw [if_neg (fun h => e h.1), if_neg (fun h => e h.1)]
    rw [List.take_add_one, hk] at hy
    rcases List.mem_append.1 hy with hy | hy
    · exact h y hy
    · simp at hy
      subst hy
      exact absurd (Int.toNat_natCast j) e

set_option maxRecDepth 100000 in
set_option maxHeartbeats 16000000 in
theorem short (a : Option Addr) (len cap : Nat) (w : World) (h : CodeIn w a len cap) (hl : len ≤ 1048576) :
    Calls Try.prog 12 #[.slice a len cap] w fun e w' => e = .returned (.bool true) ∧ Below w.heap.size w w' := by
  go_enter Try.func12, Try.ntmps12
  go_wp2_with fail
  refine (DrawRooms_any a len cap w h).mono ?_
  rintro e w1 ⟨m, S, I, X, O, v, u, z, g, c, lo, rfl, hm1, hm4, hIm, hXm, hOm, hlS, hqS, hqI, hqX, hoS, hoI, hulo, hlow, hoX, hoO, hb1⟩
  obtain ⟨va, vc, rfl⟩ := row_form hoS
  obtain ⟨ua, uc, rfl⟩ := row_form hoI
  obtain ⟨za, zc, rfl⟩ := row_form hoO
  have hqS' : ∀ q ∈ S, q.2.2.2.size ≤ 1048576 := fun q hq => Nat.le_trans (hqS q hq) (by omega)
  have hqI' : ∀ q ∈ I, q.size ≤ 1048576 := fun q hq => Nat.le_trans (hqI q hq) (by omega)
  have hS := hoS.at
  have hI := hoI.at
  have hO := hoO.at
  rw [hIm] at hI hulo
  rw [hOm] at hO
  have KI := Lib.hid (fun V (gg : Below w1.heap.size w1 V) => implRoomRun_any (.slice va S.length vc) (.slice ua m uc) (.slice za m zc) S I O V (by omega) hqS' (by omega) hqI' (by omega) (hS.stepAt gg) (hI.stepAt gg) (hO.stepAt gg))
  have K2 := Lib.hid (fun V X' B zz (h1 : LnAt V V.heap.size (.slice va S.length vc) S) (h2 : StAt V V.heap.size (.slice (some ⟨g, 0, none⟩) m c) X') (h3 : BoAt V V.heap.size zz B) (h4 : X'.length = m) (h5 : ∀ q ∈ X', q.size ≤ 40) (h6 : B.length = m) =>
    implRoomRun_any (.slice va S.length vc) (.slice (some ⟨g, 0, none⟩) m c) zz S X' B V (by omega) hqS' (by omega) (fun q hq => Nat.le_trans (h5 q hq) (by omega)) (by omega) h1 h2 h3)
  have hA10 := roomR_len S I O
  have HSAME := Lib.hid (fun (X' : List ByteArray) (h1 : (roomR S I O).1 ≠ 1) (hX : X'.length = I.length) (hq : ∀ q ∈ X', q.size ≤ 40) => rooms_same (S := S) (O := O) h1 hX hq)
  have HNAR := Lib.hid (fun (X' : List ByteArray) (B : List Bool) (h1 : (roomR S I O).1 ≠ 1) (h2 : (roomR S I O).1 ≠ 2) (hX : X'.length = I.length) (hB : B.length = I.length) (hq : ∀ q ∈ X', q.size ≤ 40) => rooms_narrow (S := S) (O := O) h1 h2 hX hB hq)
  have HIN := Lib.hid (fun (h1 : (roomR S I O).1 ≠ 1) => rooms_in (S := S) (I := I) (O := O) h1)
  have HIM := Lib.hid hIm
  have HXM := Lib.hid hXm
  have HOM := Lib.hid hOm
  have HS := Lib.hid hoS
  have HI := Lib.hid hoI
  have HO := Lib.hid hoO
  have HX := Lib.hid hoX
  have HQI := Lib.hid hqI
  have HQX := Lib.hid hqX
  have HUL := Lib.hid hulo
  have HAI := Lib.hid hI
  rw [hIm, hOm]
  clear hS hI hO hqS hqI hqX hqS' hqI' hoS hoI hoO hoX hulo hIm hXm hOm
  generalize hA : roomR S I O = A at *
  obtain ⟨cd, ot, R⟩ := A
  have HRA := Lib.hid hA
  simp only at hA10
  have hR20 : R.length ≤ 1048576 := by omega
  clear hA
  go_wp2_with fail
  refine (KI.out _ (Below.refl _ _)).mono ?_
  rintro e w2 ⟨vr, rfl, hR, hb2⟩
  obtain ⟨ra, rc, rfl, x3⟩ := id hR
  obtain ⟨w3, hw3⟩ : ∃ V, V = w2.alloc (.cells #[.int .i64 cd, .string ot, .slice ra R.length rc] 59) := ⟨_, rfl⟩
  have n3 : Below w2.heap.size w2 w3 := by rw [hw3]; exact (Below.refl _ _).alloc (Nat.le_refl _) _
  have b3 : Below w1.heap.size w1 w3 := hb2.trans (n3.mono hb2.size)
  have HB3 := Lib.hid b3
  have HBX := Lib.hid (show RnBlk w3 w2.heap.size cd ot (.slice ra R.length rc) by rw [hw3]; exact RnBlk.new _ _ _ _)
  have HR3 := Lib.hid (IB.below hR n3)
  have z3 : w2.heap.size < w3.heap.size := HBX.out.lt
  have z12 := hb2.size
  have hz1 := hb1.size
  clear x3 hR hb2 n3 b3
  go_upto_region 5 with fail
  rw [← hw3]
  clear hw3
  obtain ⟨p0, p1, p2, s0, s1, s2⟩ := HBX.out.cells
  by_cases hc1 : cd = 1
  · subst hc1
    go_wp2_with fail
    refine (alive_any _).mono ?_
    rintro e w6 ⟨rfl, hb6⟩
    have b6 := hb1.trans ((HB3.out.trans (hb6.mono HB3.out.size)).mono hb1.size)
    clear hb6
    go_wp2_with fail
    go_ret
    exact ⟨rfl, b6⟩
  · have hcz : (cd == 1) = false := by rw [beq_eq_false_iff_ne]; exact hc1
    have hmk := Obt.makeBool m (by omega) w3
    have lg := World.ownsRow.lt HX.out g rfl
    have hg1 : lo ≤ g ∧ g < w1.heap.size := lg
    have hb34 : Below w3.heap.size w3 (w3.alloc (.cells (madeCells #[.bool false] m) 4)) := (Below.refl _ _).alloc (Nat.le_refl _) _
    obtain ⟨w4, hw4⟩ : ∃ V, V = w3.alloc (.cells (madeCells #[.bool false] m) 4) := ⟨_, rfl⟩
    have HMD := Lib.hid (show OBlk Value.bool 4 w4 w3.heap.size m (List.replicate m false) by rw [hw4]; have := madeB m w3; rwa [Nat.mul_one] at this)
    rw [← hw4] at hb34
    have HB34 := Lib.hid hb34
    have HBX4 := Lib.hid (HBX.out.below hb34)
    have HR4 := Lib.hid (IB.below HR3.out hb34)
    have b14 := HB3.out.trans (hb34.mono HB3.out.size)
    have HB14 := Lib.hid b14
    have HS4 := Lib.hid (row_below HS.out b14)
    have HI4 := Lib.hid (row_below HI.out b14)
    have HO4 := Lib.hid (row_below HO.out b14)
    have HX4 := Lib.hid (row_below HX.out b14)
    have z4 : w3.heap.size < w4.heap.size := by rw [hw4]; simp
    have hcn := hc1
    have HST := Lib.hid (show MRel R I m g c lo w3.heap.size w4 (.int .i64 0) w4 from ⟨0, X, List.replicate m false, Nat.zero_le _, rfl, HXM.out, by simp, HQX.out, by simp, HX4.out, HMD.out, Two.refl _ _ _⟩)
    have HINR := Lib.hid (show ∀ y ∈ R, 0 ≤ y ∧ y < (I.length : Int) from HIN.out (by exact hc1))
    clear hb34 b14 lg
    go_upto_region 8 with fail
    rw [← hw4]
    clear hw4 hmk p0 p1 p2 s0 s1 s2
    obtain ⟨p0, p1, p2, s0, s1, s2⟩ := HBX4.out.cells
    go_wp2_with fail
    go_loopw [9] (fun i wr => MRel R I m g c lo w3.heap.size w4 i wr) (fun i _ => R.length - (intOf i).toNat)
    case atStart => exact HST.out
    case round =>
      obtain ⟨k, X', B, hk, rfl, hX', hB', hq', hag, hox, hnar, htw⟩ := hrel
      clear p0 p1 p2 s0 s1 s2
      have HX' := Lib.hid hX'
      have HB' := Lib.hid hB'
      have HQ' := Lib.hid hq'
      have HAG := Lib.hid hag
      have HOX := Lib.hid hox
      have HNR := Lib.hid hnar
      have HTW := Lib.hid htw
      have zr := htw.size
      have HBXr := Lib.hid (show RnBlk wr w2.heap.size cd ot (.slice ra R.length rc) from (htw.block _ HBX4.out.lt (by omega) (by omega)).trans HBX4.out)
      have HRr := Lib.hid (IB.kept HR4.out (w' := wr) fun q h1 h2 h3 => htw.block q h3 (by omega) (by omega))
      have HIr := Lib.hid (htw.row HI4.out (fun q e => by have h1 := HUL.out q (by rcases ua with _ | _ <;> exact e); have h2 := (World.ownsRow.lt HI4.out q e).2; omega))
      clear hX' hB' hq' hag hox hnar htw
      obtain ⟨p0, p1, p2, s0, s1, s2⟩ := HBXr.out.cells
      by_cases hlt : k < R.length
      · obtain ⟨y, hy⟩ : ∃ y, R[k] = y := ⟨_, rfl⟩
        have hRk : R[k]? = some y := by rw [List.getElem?_eq_getElem hlt, hy]
        obtain ⟨g0, g1⟩ := HINR.out y (List.mem_of_getElem? hRk)
        obtain ⟨j, rfl⟩ : ∃ j : Nat, y = (j : Int) := ⟨y.toNat, by omega⟩
        have hjI : j < I.length := by omega
        have hjm : j < m := by have := HIM.out; omega
        obtain ⟨ti, hti⟩ : ∃ ti, I[j] = ti := ⟨_, rfl⟩
        have hIj : I[j]? = some ti := by rw [List.getElem?_eq_getElem hjI, hti]
        have ti40 := HQI.out ti (List.mem_of_getElem? hIj)
        have HRKJ := Lib.hid hy
        have HNX := Lib.hid (mrel_next hRk hIj HX'.out HB'.out hjm HAG.out)
        obtain ⟨bR, oR, hra, hBR, hcR⟩ : ∃ b o, ra = some ⟨b, o, none⟩ ∧ b < wr.heap.size ∧ ∀ i (h : i < R.length), wr.cell? ⟨b, o + i, none⟩ = some (.int .i64 R[i]) := by
          obtain ⟨a', c', e, hh⟩ := IB.at HRr.out
          simp only [Value.slice.injEq] at e
          obtain ⟨rfl, _, _⟩ := e
          rcases hh with rfl | ⟨b, o, rfl, hB, hc⟩
          · exact absurd hlt (by simp)
          · exact ⟨b, o, rfl, hB, hc⟩
        subst hra
        obtain ⟨bI, oI, hua, hBI, hcI⟩ : ∃ b o, ua = some ⟨b, o, none⟩ ∧ b < wr.heap.size ∧ ∀ i (h : i < I.length), wr.cell? ⟨b, o + i, none⟩ = some (.string I[i]) := by
          obtain ⟨a', c', e, hh⟩ := SOwn.at HIr.out
          simp only [Value.slice.injEq] at e
          obtain ⟨rfl, _, _⟩ := e
          rcases hh with rfl | ⟨b, o, rfl, hB, hc⟩
          · exact absurd hjI (by simp)
          · exact ⟨b, o, rfl, hB, hc⟩
        subst hua
        have k0 := hcR k hlt
        rw [hy] at k0
        have k1 := hcI j hjI
        rw [hti] at k1
        obtain ⟨g', c', e1, hgl, hcell⟩ := row_cells HOX.out (by omega)
        simp only [Value.slice.injEq, Option.some.injEq, Addr.mk.injEq] at e1
        obtain ⟨⟨rfl, _⟩, _, rfl⟩ := e1
        have hjX : j < X'.length := by have := HX'.out; omega
        have k2 := hcell j (.string X'[j]) (by simp [hjX])
        have f2 : wr.frozen? ⟨g, j, none⟩ = false := by
          obtain ⟨_, ⟨e2, _⟩ | ⟨g2, cap2, cur2, e2, _, hg2', _⟩⟩ := HOX.out
          · cases e2
          · simp only [Value.slice.injEq, Option.some.injEq, Addr.mk.injEq] at e2
            obtain ⟨⟨rfl, _⟩, _, _⟩ := e2
            simp [World.frozen?, hg2']
        obtain ⟨w5, hw5⟩ : ∃ V, V = wr.setCell ⟨g, j, none⟩ (.string ti) := ⟨_, rfl⟩
        have HO5 := Lib.hid (show w5.ownsRow lo 9 1 (.slice (some ⟨g, 0, none⟩) m c) m ((X'.set j ti).map Value.string) by rw [hw5]; exact sown_set HOX.out)
        have HN5 := Lib.hid (show OBlk Value.bool 4 w5 w3.heap.size m B by rw [hw5]; exact HNR.out.kept (Below.heap_setCell wr ⟨g, j, none⟩ _ _ (by show w3.heap.size ≠ g; omega)))
        have HT5 := Lib.hid (show Two g w3.heap.size w4 w5 by rw [hw5]; exact HTW.out.set1)
        have HBX5 := Lib.hid (show RnBlk w5 w2.heap.size cd ot (.slice (some ⟨bR, oR, none⟩) R.length rc) by rw [hw5]; exact HBXr.out.other (by omega))
        have HR5 := Lib.hid (IB.at (show IB R w1.heap.size w2.heap.size (.slice (some ⟨bR, oR, none⟩) R.length rc) w5 by rw [hw5]; exact IB.kept HRr.out fun q h1 h2 h3 => Below.heap_setCell wr ⟨g, j, none⟩ _ q (by show q ≠ g; omega)))
        have i0' : (0 : Int) ≤ (k : Int) := by omega
        have i1 : (k : Int) < (R.length : Int) := by omega
        have i2 : (0 : Int) ≤ (j : Int) := by omega
        have i3 : (j : Int) < (m : Int) := by omega
        have hne : g ≠ w2.heap.size := by omega
        clear hcell hcI hcR hRk hIj g0 g1 hy hti
        go_upto_region 11 with fail
        go_region
        all_goals
          rw [← hw5]
          clear hw5 k0 k1 k2 f2 p0 p1 p2 s0 s1 s2
          obtain ⟨p0, p1, p2, s0, s1, s2⟩ := HBX5.out.cells
          obtain ⟨bR', oR', hra', hBR', hcR'⟩ : ∃ b o, some (⟨bR, oR, none⟩ : Addr) = some ⟨b, o, none⟩ ∧ b < w5.heap.size ∧ ∀ i (h : i < R.length), w5.cell? ⟨b, o + i, none⟩ = some (.int .i64 R[i]) := by
            obtain ⟨a', c', e, hh⟩ := HR5.out
            simp only [Value.slice.injEq] at e
            obtain ⟨rfl, _, _⟩ := e
            rcases hh with rfl | ⟨b, o, e3, hB, hc⟩
            · exact absurd hlt (by simp)
            · exact ⟨b, o, e3, hB, hc⟩
          simp only [Option.some.injEq, Addr.mk.injEq, and_true] at hra'
          obtain ⟨rfl, rfl⟩ := hra'
          have k0 := hcR' k hlt
          have hRk2 : R[k] = (j : Int) := HRKJ.out
          rw [hRk2] at k0
          obtain ⟨⟨xn, hxn⟩, fxn⟩ := HN5.out.place hjm
          have HREL := Lib.hid (show MRel R I m g c lo w3.heap.size w4 (.int .i64 ((k + 1 : Nat) : Int)) (w5.setCell ⟨w3.heap.size, j, none⟩ (.bool true)) from
            ⟨k + 1, X'.set j ti, B.set j true, by omega, rfl, by simp [HX'.out], by simp [HB'.out], (fun q hq => by
              rcases List.mem_or_eq_of_mem_set hq with hq | rfl
              · exact HQ'.out q hq
              · exact ti40), HNX.out, row_set HO5.out (fun q e => by have e' : some g = some q := e; injection e' with e'; omega), HN5.out.set (by have := HB'.out; omega) true, HT5.out.set2⟩)
          clear hcR' hRk2
          go_wp2_with fail
          go_roundw
          case rel => first | (have h := HREL.out; simpa using h) | (have h := mrel_drew HREL.out; simpa using h)
          case measure => simp [intOf]; omega
      · obtain rfl : k = R.length := by omega
        have hAG := HAG.out
        rw [List.take_length] at hAG
        have hlenI : X'.length = I.length := by rw [HX'.out, HIM.out]
        have e1 : roomR S X' O = (cd, ot, R) := HSAME.out X' (by exact hc1) hlenI HQ'.out (fun y hy => (hAG y hy).1)
        have e2 : cd ≠ 2 → roomR S X' B = (cd, ot, R) := fun h2 => HNAR.out X' B (by exact hc1) (by exact h2) hlenI (by rw [HB'.out, HIM.out]) HQ'.out hAG
        have HSr := Lib.hid (htwS HTW.out HS4.out HX4.out (by decide) (fun q e => by have := (World.ownsRow.lt HS.out q e).2; omega))
        have HOr := Lib.hid (htwS HTW.out HO4.out HX4.out (by decide) (fun q e => by have := (World.ownsRow.lt HO.out q e).2; omega))
        have aS : LnAt wr wr.heap.size (.slice va S.length vc) S := LOwn.at (show LOwn wr w.heap.size _ S from HSr.out)
        have aX : StAt wr wr.heap.size (.slice (some ⟨g, 0, none⟩) m c) X' := by
          have h0 := HOX.out
          have h1 : SOwn wr lo (.slice (some ⟨g, 0, none⟩) m c) X' := by unfold SOwn; rw [HX'.out]; exact h0
          exact SOwn.at h1
        have aO : BoAt wr wr.heap.size (.slice za m zc) O := by
          have h1 := BOwn.at (show BOwn wr w.heap.size _ O from HOr.out)
          rwa [HOM.out] at h1
        have aN : BoAt wr wr.heap.size (.slice (some ⟨w3.heap.size, 0, none⟩) m m) B := by
          have h1 := OBlk.at (cap := m) HNR.out
          rwa [HB'.out] at h1
        have KZ : Hid (∀ V, Below wr.heap.size wr V → Calls Try.prog 43 #[.slice va S.length vc, .slice (some ⟨g, 0, none⟩) m c, .slice za m zc] V (RoomPost (cd, ot, R) V)) := Lib.hid fun V gg => by
          have := K2.out V X' O _ (aS.stepAt gg) (aX.stepAt gg) (aO.stepAt gg) HX'.out HQ'.out HOM.out
          rwa [e1] at this
        have KN : Hid (cd ≠ 2 → ∀ V, Below wr.heap.size wr V → Calls Try.prog 43 #[.slice va S.length vc, .slice (some ⟨g, 0, none⟩) m c, .slice (some ⟨w3.heap.size, 0, none⟩) m m] V (RoomPost (cd, ot, R) V)) := Lib.hid fun h2 V gg => by
          have := K2.out V X' B _ (aS.stepAt gg) (aX.stepAt gg) (aN.stepAt gg) HX'.out HQ'.out HB'.out
          rwa [e2 h2] at this
        have HRI := Lib.hid (IB.at HRr.out)
        have HBr := Lib.hid (HTW.out.below (hb1.trans (HB14.out.mono hb1.size)) (by have := World.ownsRow.lt HX4.out g rfl; omega) (by omega) (by omega))
        clear hAG hlenI e1 e2 aS aX aO aN
        by_cases h2 : cd = 2
        · subst h2
          clear KN
          go_wp2_with fail
          first | (go_region_law (first | (go_simp; go_at_call 43; refine (KZ.out _ ?_).mono ?_; exact (by go_grown); rintro e w6 ⟨v6, rfl, h6, hb6⟩; obtain ⟨a6, c6, rfl, x6⟩ := id h6; have n6 : Below wr.heap.size wr w6 := (below_heap hb6 (by first | exact .inl rfl | exact .inr rfl)); obtain ⟨p0, p1, p2, s0, s1, s2⟩ := (HBXr.out.below n6).cells; have H6 := Lib.hid (IB.at h6); have N6 := Lib.hid n6; clear x6 h6 hb6 n6) | (go_simp; go_at_call 44; have hck := N6.out; clear hck; refine (sameRan_same 2 ot hR20 (in_drew H6.out (by rfl)) (in_drew (HRI.out.stepAt N6.out) (by rfl))).mono ?_; rintro e w7 ⟨rfl, hb7⟩; have n7 : Below wr.heap.size wr w7 := N6.out.trans ((below_heap hb7 (by first | exact .inl rfl | exact .inr rfl)).mono N6.out.size); obtain ⟨p0, p1, p2, s0, s1, s2⟩ := (HBXr.out.below n7).cells; have N7 := Lib.hid n7; clear hb7 n7) | (go_simp; go_at_call 35; refine (alive_any _).mono ?_; rintro e w10 ⟨rfl, hb10⟩; have n10 : Below wr.heap.size wr w10 := N7.out.trans ((below_heap hb10 (by first | exact .inl rfl | exact .inr rfl)).mono N7.out.size); obtain ⟨p0, p1, p2, s0, s1, s2⟩ := (HBXr.out.below n10).cells; have N10 := Lib.hid n10; clear hb10 n10) | fail)) | fail
          all_goals
            go_wp2_with fail
            go_ret
            exact ⟨rfl, HBr.out.trans (N10.out.mono HBr.out.size)⟩
        · have hc2 : (cd == 2) = false := by rw [beq_eq_false_iff_ne]; exact h2
          have KM := Lib.hid (KN.out h2)
          clear KN
          go_wp2_with fail
          go_region_held3 (fun V => V.cell? ⟨w2.heap.size, 0, none⟩ = some (.int .i64 cd) ∧ V.cell? ⟨w2.heap.size, 1, none⟩ = some (.string ot) ∧ V.cell? ⟨w2.heap.size, 2, none⟩ = some (.slice ra R.length rc)) (go_keep)
            (first
              | (go_at_call 43; have hck := N7.out; clear hck; refine (KM.out _ ?_).mono ?_; exact (Below.trans N7.out (Below.mono (B := w7.heap.size) (by go_grown) N7.out.size)); rintro e w8 ⟨v8, rfl, h8, hb8⟩; obtain ⟨a8, c8, rfl, x8⟩ := id h8; have n8 : Below wr.heap.size wr w8 := N7.out.trans ((below_heap hb8 (by first | exact .inl rfl | exact .inr rfl)).mono N7.out.size); obtain ⟨p0, p1, p2, s0, s1, s2⟩ := (HBXr.out.below n8).cells; have H8 := Lib.hid (IB.at h8); have N8 := Lib.hid n8; clear x8 h8 hb8 n8)
              | (go_at_call 43; refine (KZ.out _ ?_).mono ?_; exact (by go_grown); rintro e w6 ⟨v6, rfl, h6, hb6⟩; obtain ⟨a6, c6, rfl, x6⟩ := id h6; have n6 : Below wr.heap.size wr w6 := (below_heap hb6 (by first | exact .inl rfl | exact .inr rfl)); obtain ⟨p0, p1, p2, s0, s1, s2⟩ := (HBXr.out.below n6).cells; have H6 := Lib.hid (IB.at h6); have N6 := Lib.hid n6; clear x6 h6 hb6 n6)
              | (go_at_call 44; have hck := N8.out; clear hck; refine (sameRan_same cd ot hR20 (in_drew H8.out (by rfl)) (in_drew (HRI.out.stepAt N8.out) (by rfl))).mono ?_; rintro e w9 ⟨rfl, hb9⟩; have n9 : Below wr.heap.size wr w9 := N8.out.trans ((below_heap hb9 (by first | exact .inl rfl | exact .inr rfl)).mono N8.out.size); obtain ⟨p0, p1, p2, s0, s1, s2⟩ := (HBXr.out.below n9).cells; have N9 := Lib.hid n9; clear hb9 n9)
              | (go_at_call 44; have hck := N6.out; clear hck; refine (sameRan_same cd ot hR20 (in_drew H6.out (by rfl)) (in_drew (HRI.out.stepAt N6.out) (by rfl))).mono ?_; rintro e w7 ⟨rfl, hb7⟩; have n7 : Below wr.heap.size wr w7 := N6.out.trans ((below_heap hb7 (by first | exact .inl rfl | exact .inr rfl)).mono N6.out.size); obtain ⟨p0, p1, p2, s0, s1, s2⟩ := (HBXr.out.below n7).cells; have N7 := Lib.hid n7; clear hb7 n7)
              | (go_at_call 35; refine (alive_any _).mono ?_; rintro e w10 ⟨rfl, hb10⟩; have n10 : Below wr.heap.size wr w10 := N9.out.trans ((below_heap hb10 (by first | exact .inl rfl | exact .inr rfl)).mono N9.out.size); obtain ⟨p0, p1, p2, s0, s1, s2⟩ := (HBXr.out.below n10).cells; have N10 := Lib.hid n10; clear hb10 n10)
              | fail)
          all_goals
            go_wp2_with fail
            go_ret
            exact ⟨rfl, HBr.out.trans (N10.out.mono HBr.out.size)⟩

set_option maxHeartbeats 1000000 in
theorem long (a : Option Addr) (len cap : Nat) (w : World) (hl : 1048576 < len) :
    Calls Try.prog 12 #[.slice a len cap] w fun e w' => e = .returned (.bool true) ∧ Below w.heap.size w w' := by
  go_enter Try.func12, Try.ntmps12
  go_wp2
  go_ret
  exact ⟨rfl, Below.refl _ _⟩
theorem walk (a : Option Addr) (len cap : Nat) (w : World) (h : CodeIn w a len cap) :
    Calls Try.prog 12 #[.slice a len cap] w fun e w' => e = .returned (.bool true) ∧ Below w.heap.size w w' := by
  by_cases hl : len ≤ 1048576
  · exact short a len cap w h hl
  · exact long a len cap w (by omega)
end Prs

set_option maxRecDepth 100000 in
theorem rooms_holds : Rows.FnRoomsSaid :=
  OpenClaim.holds_of_wide 12 Try.f12 rfl rfl rfl rfl rfl rfl rfl ⟨rfl, rfl, rfl, rfl, rfl⟩ rfl rfl rfl rfl rfl (by kernel_rfl) Try.func12 (by kernel_rfl)
    (of_decide_eq_true (by kernel_rfl)) (by unfold Func.isWrapper; rw [if_neg (by decide +kernel)]; exact ⟨rfl, rfl⟩)
    (fun os started H enc _ => law_lifted (s := Rows.fnRoomsSpec) (tb := 4) own started laid (by kernel_rfl) Try.func12 rfl (by kernel_rfl) Try.underlying4 (by kernel_rfl)
      (fun ds h => by rw [Try.params12] at h; match ds, h with | [_], _ => rfl)
      (ChangeSpec.witness6 (enc := enc) (C := Try.checked) false ⟨#[], #[.slice none 0 0], []⟩ 8 (by kernel_rfl) (by kernel_rfl) (by kernel_rfl) (by kernel_rfl))
      (law_code Try.params12 Prs.walk))
#print axioms rooms_holds
end Go.Proofs.Ytcibjicgfhgomaa
