/- The contract of the model's draw DrawRooms, over this seat's translation: a script, inputs, as many other ones in a row of their own, and as many truths; nothing that was there has changed. Condition: the code is readable. -/
import Derived.Test.YtcibjicgfhgomaaDrs
import Derived.Test.YtcibjicgfhgomaaRxt
import Derived.Test.YtcibjicgfhgomaaGw
namespace Go.Proofs.Ytcibjicgfhgomaa
open Go.RowKit Go.Sort
namespace Drm
open Obl Rx
theorem sown_set {w : World} {B g c k n : Nat} {N : List ByteArray} {s : ByteArray} (h : w.ownsRow B 9 1 (.slice (some ⟨g, 0, none⟩) n c) n (N.map Value.string))  :
    (w.setCell ⟨g, k, none⟩ (.string s)).ownsRow B 9 1 (.slice (some ⟨g, 0, none⟩) n c) n ((N.set k s).map Value.string) := by
  obtain ⟨hl, ⟨e, _⟩ | ⟨g', cap, cur, e, hb, hg, hnc, hcm, hcs, htk⟩⟩ := h
  · cases e
  · simp only [Value.slice.injEq, Option.some.injEq, Addr.mk.injEq] at e
    obtain ⟨⟨rfl, _⟩, _, rfl⟩ := e
    refine ⟨by simpa using hl, .inr ⟨g, c, cur.setIfInBounds k (.string s), rfl, hb, ?_, hnc, hcm, by simpa using hcs, ?_⟩⟩
    · simp [World.setCell, Array.getElem?_modify, hg]
    · rw [Array.toList_setIfInBounds, List.take_set, htk, List.map_set]
theorem row_some {w : World} {B t s n : Nat} {v : Value} {xs : List Value} (h : w.ownsRow B t s v n xs) (hn : 0 < n) : ∃ g c, v = .slice (some ⟨g, 0, none⟩) n c := by
  obtain ⟨g, cap, rfl, _, _⟩ := row_cells h hn
  exact ⟨g, cap, rfl⟩
theorem own_up {w : World} {B B' t s n : Nat} {v : Value} {xs : List Value} (h : w.ownsRow B t s v n xs) (hB : B' ≤ B) : w.ownsRow B' t s v n xs := by
  refine ⟨h.1, ?_⟩
  rcases h.2 with hn | ⟨g, cap, cur, hv, hb, rest⟩
  · exact .inl hn
  · exact .inr ⟨g, cap, cur, hv, Nat.le_trans hB hb, rest⟩
def RmDraw (w : World) (e : Ending) (w' : World) : Prop :=
  ∃ (m : Nat) (S : List Ln) (I X : List ByteArray) (O : List Bool) (v u z : Value) (g c lo : Nat), e = .returned (.tuple #[v, u, .slice (some ⟨g, 0, none⟩) m c, z]) ∧ 1 ≤ m ∧ m ≤ 4 ∧ I.length = m ∧ X.length = m ∧ O.length = m ∧ S.length ≤ 6 ∧
    (∀ q ∈ S, q.2.2.2.size ≤ 9) ∧ (∀ q ∈ I, q.size ≤ 40) ∧ (∀ q ∈ X, q.size ≤ 40) ∧ LOwn w' w.heap.size v S ∧ SOwn w' w.heap.size u I ∧ (∀ k, u.ownBlock = some k → k < lo) ∧ w.heap.size ≤ lo ∧ w'.ownsRow lo 9 1 (.slice (some ⟨g, 0, none⟩) m c) m (X.map Value.string) ∧ BOwn w' w.heap.size z O ∧ Below w.heap.size w w'

/-- What the loop of DrawRooms keeps. -/
def XRel (R p m B : Nat) (w : World) (g c : Nat) (s10 : Value) (wr : World) : Prop :=
  ∃ (k : Nat) (X : List ByteArray), k ≤ m ∧ s10 = .int .i64 (k : Int) ∧ X.length = m ∧ (∀ q ∈ X, q.size ≤ 40) ∧ wr.ownsRow B 9 1 (.slice (some ⟨g, 0, none⟩) m c) m (X.map Value.string) ∧ Drawn w R p (2 * k) wr

set_option maxRecDepth 100000 in
set_option maxHeartbeats 8000000 in
theorem DrawRooms_any (a : Option Addr) (len cap : Nat) (w : World) (h : CodeIn w a len cap) : Calls Try.prog 42 #[.slice a len cap] w (RmDraw w) := by
  obtain ⟨i0, hi, hz0, hz1, hz2⟩ := info_parts infoStr
  go_enter Try.func42, Try.ntmps42
  go_wp2_with fail
  refine (open_any a len cap _ h).mono ?_
  rintro e w1 ⟨rfl, hr1, hb1⟩
  go_wp2_with fail
  refine (pick_any _ 0 4 w1 hr1 (by omega)).mono ?_
  rintro e w2 ⟨k1, rfl, k10, k11, _, hr2, hg2⟩
  have k12 : k1 < 4 := k11 (by omega)
  obtain ⟨m0, rfl⟩ := Int.eq_ofNat_of_zero_le k10
  obtain ⟨m, hm⟩ : ∃ m : Nat, (1 : Int) + (m0 : Int) = (m : Int) := ⟨m0 + 1, by omega⟩
  have hm1 : 1 ≤ m := by omega
  have hm4 : m ≤ 4 := by omega
  have hz := hb1.size
  have HR2 := Lib.hid hr2
  have hR1 := rdAt_lt hr1
  have z2 := hg2.size
  have HM := Lib.hid hm
  clear k11 hr1 hr2 hm
  go_wp2_with fail
  rw [HM.out]
  refine (l20Ins_any _ _ m 0 _ HR2.out (by omega) (by omega) (by omega) (by omega)).mono ?_
  rintro e w3 ⟨N, u, rfl, ho, _, _, h40, hd⟩
  obtain ⟨hNm, hN40⟩ := h40 rfl
  obtain ⟨ua, uc, rfl⟩ := row_form ho
  obtain ⟨q3, s0, s1, hr3, hg3⟩ := hd
  have HO := Lib.hid (show w3.ownsRow w2.heap.size 9 1 (.slice ua m uc) m (N.map Value.string) by have := ho; unfold SOwn at this; rwa [hNm] at this)
  have HAT := Lib.hid ho.at
  have HR3 := Lib.hid hr3
  have HQ := Lib.hid hN40
  have HNM := Lib.hid hNm
  have g3 := grown_trans hg2 hg3
  have HG3 := Lib.hid g3
  have z3 := hg3.size
  rw [hNm]
  clear ho hg2 hg3 hr3 hN40 h40 g3 hNm
  have r1 : (N.map Value.string).length = m * 1 := by have := HNM.out; simp [this]
  obtain ⟨gu, cu, hu⟩ := row_some HO.out (by omega)
  simp only [Value.slice.injEq] at hu
  obtain ⟨rfl, _, rfl⟩ := hu
  have bA : Below w3.heap.size w3 (w3.alloc (.cells #[] 9)) := (Below.refl _ _).alloc (Nat.le_refl _) _
  have r3 : ∀ ad, some (⟨gu, 0, none⟩ : Addr) = some ad → ∀ j x, (N.map Value.string)[j]? = some x → (w3.alloc (.cells #[] 9)).cell? (ad.add j) = some x := by
    intro ad e j x hx
    injection e with e
    subst e
    obtain ⟨g', c', e1, hgl, hcell⟩ := row_cells HO.out (by omega)
    simp only [Value.slice.injEq, Option.some.injEq, Addr.mk.injEq] at e1
    obtain ⟨⟨rfl, _⟩, _, rfl⟩ := e1
    rw [Obt.plain_add', Nat.zero_add]
    exact (bA.cell (p := ⟨gu, j, none⟩) hgl).trans (hcell j x hx)
  have r4 : ∀ x ∈ N.map Value.string, x.oneCell' = true := by
    intro x hx
    obtain ⟨y, _, rfl⟩ := List.mem_map.1 hx
    rfl
  have ho0 : (w3.alloc (.cells #[] 9)).ownsRow w3.heap.size 9 1 (.slice (some ⟨w3.heap.size, 0, none⟩) 0 0) 0 [] := row_made (Nat.le_refl _)
  go_wp2_with (at_builtin; refine Ap2.wpList_append _ rfl (.tmp 19) (.tmp 20) 54 rfl w3.heap.size 9 i0 (.string ByteArray.empty) 1 16 Try.underlying54 hi hz0 hz1 hz2 rfl (by decide) _ _ [] rfl ho0 (some ⟨gu, 0, none⟩) m uc (N.map Value.string) (by rfl) r1 (fun e => by cases e) r3 r4 (by unfold maxLen; omega) (by omega) (by simp) ?_)
  intro a5 c5 w5 hown5 hgrow5 hat5
  have o5 : w5.ownsRow w3.heap.size 9 1 (.slice a5 m c5) m (N.map Value.string) := by simpa using hown5
  obtain ⟨g5, c5', h5⟩ := row_some o5 (by omega)
  simp only [Value.slice.injEq] at h5
  obtain ⟨rfl, _, rfl⟩ := h5
  have d5 : Drawn w3 w.heap.size q3 0 w5 := dr_push (wr := w3.alloc (.cells #[] 9)) ⟨q3, by omega, by omega, rdAt_alloc HR3.out _, grown_start w3 _ _⟩ (by omega) (by omega) (Below.refl _ _) ho0 hgrow5
  have HST := Lib.hid (show XRel w.heap.size q3 m w3.heap.size w3 g5 c5 (.int .i64 0) w5 from ⟨0, N, Nat.zero_le _, rfl, HNM.out, HQ.out, o5, d5⟩)
  clear hown5 hgrow5 hat5 r1 r3 r4 ho0 bA o5 d5
  go_wp2_with fail
  go_loopw [10] (fun s10 wr => XRel w.heap.size q3 m w3.heap.size w3 g5 c5 s10 wr) (fun s10 _ => m - (intOf s10).toNat)
  case atStart => exact HST.out
  case round =>
    obtain ⟨k, X, hk, rfl, hXm, hX40, hown, hd⟩ := hrel
    have HO6 := Lib.hid hown
    have HX := Lib.hid hXm
    have HXQ := Lib.hid hX40
    obtain ⟨q6, r1, r2, hr6, hg6⟩ := hd
    have HG6 := Lib.hid hg6
    have z6 := hg6.size
    have HR6 := Lib.hid hr6
    clear hown hXm hX40 hg6 hr6
    by_cases hlt : k < m
    · have i1 : (k : Int) < (m : Int) := by omega
      have i0' : (0 : Int) ≤ (k : Int) := by omega
      go_wp2_with fail
      refine (pick_any _ q6 2 _ HR6.out (by omega)).mono ?_
      rintro e w7 ⟨k7, rfl, k70, k71, _, hr7, hg7⟩
      have z7 := hg7.size
      have o7 := row_drawn HO6.out hg7 (by omega)
      have d7 := dr_then HG6.out r1 r2 (drawn_one9 hr7 hg7)
      by_cases h0 : k7 = 0
      · subst h0
        obtain ⟨q7, s2, s3, hr7', hg7'⟩ := d7
        have HG7 := Lib.hid hg7'
        have HO7 := Lib.hid o7
        have HR7 := Lib.hid hr7'
        clear hr7 hg7 k71 hr7' hg7' o7
        go_wp2_with fail
        refine (l20Thing_any _ q7 _ HR7.out (by omega)).mono ?_
        rintro e w8 ⟨s, rfl, hs, hd8⟩
        have d8 := dr_then HG7.out s2 s3 hd8
        have o8 : w8.ownsRow w3.heap.size 9 1 (.slice (some ⟨g5, 0, none⟩) m c5) m (X.map Value.string) := by obtain ⟨_, _, _, _, gg⟩ := hd8; exact row_drawn HO7.out gg (by omega)
        have lt8 := World.ownsRow.lt o8 g5 rfl
        obtain ⟨g', c', e1, hgl, hcell⟩ := row_cells o8 (by omega)
        simp only [Value.slice.injEq, Option.some.injEq, Addr.mk.injEq] at e1
        obtain ⟨⟨rfl, _⟩, _, rfl⟩ := e1
        have hkX : k < X.length := by have := HX.out; omega
        have c8 := hcell k (.string X[k]) (by simp [hkX])
        have f8 : w8.frozen? ⟨g5, k, none⟩ = false := by
          obtain ⟨_, ⟨e2, _⟩ | ⟨g2, cap2, cur2, e2, _, hg2', _⟩⟩ := o8
          · cases e2
          · simp only [Value.slice.injEq, Option.some.injEq, Addr.mk.injEq] at e2
            obtain ⟨⟨rfl, _⟩, _, _⟩ := e2
            simp [World.frozen?, hg2']
        have HREL := Lib.hid (show XRel w.heap.size q3 m w3.heap.size w3 g5 c5 (.int .i64 ((k + 1 : Nat) : Int)) (w8.setCell ⟨g5, k, none⟩ (.string s)) from
          ⟨k + 1, X.set k s, by omega, rfl, by simp [HX.out], (fun y hy => by
            rcases List.mem_or_eq_of_mem_set hy with hy | rfl
            · exact HXQ.out y hy
            · omega), sown_set o8, dr_more (dr_set d8 (by omega) (by omega)) (by omega)⟩)
        clear hd8 d8 o8 hcell
        go_wp2_with fail
        go_roundw
        case rel => have h := HREL.out; simpa using h
        case measure => simp [intOf]; omega
      · have hz0' : (k7 == 0) = false := by rw [beq_eq_false_iff_ne]; exact h0
        have HREL := Lib.hid (show XRel w.heap.size q3 m w3.heap.size w3 g5 c5 (.int .i64 ((k + 1 : Nat) : Int)) w7 from ⟨k + 1, X, by omega, rfl, HX.out, HXQ.out, o7, dr_more d7 (by omega)⟩)
        clear hr7 hg7 k71 o7 d7
        go_wp2_with fail
        go_roundw
        case rel => have h := HREL.out; simpa using h
        case measure => simp [intOf]; omega
    · obtain rfl : k = m := by omega
      have HI6 := Lib.hid (row_drawn HO.out HG6.out (by omega))
      go_wp2_with fail
      refine (l20Script_any _ _ _ 0 _ HR6.out (by omega) (by omega) (by omega)).mono ?_
      rintro e w7 ⟨S, v, rfl, hoS, hlS, hqS, hd7⟩
      obtain ⟨va, vc, rfl⟩ := row_form hoS
      obtain ⟨q7, t0, t1, hr7, hg7⟩ := hd7
      have HO7 := Lib.hid (row_drawn HO6.out hg7 (by omega))
      have HI7 := Lib.hid (row_drawn HI6.out hg7 (by omega))
      have HS := Lib.hid hoS
      have HR7 := Lib.hid hr7
      have HQS := Lib.hid hqS
      have HG7 := Lib.hid (grown_trans HG6.out hg7)
      have z7 := hg7.size
      clear hoS hg7 hr7 hqS
      go_wp2_with fail
      refine (l20Open2_any _ _ k _ HR7.out (by omega) (by omega)).mono ?_
      rintro e w8 ⟨O, z, rfl, hoO, hlO, hd8⟩
      obtain ⟨za, zc, rfl⟩ := row_form hoO
      obtain ⟨_, _, _, _, hg8⟩ := hd8
      have z8 := hg8.size
      have hlt3 := World.ownsRow.lt HO.out
      have HFIN := Lib.hid (show RmDraw w (.returned (.tuple #[.slice va S.length vc, .slice (some ⟨gu, 0, none⟩) k uc, .slice (some ⟨g5, 0, none⟩) k c5, .slice za O.length zc])) w8 from
        ⟨k, S, N, X, O, _, _, _, g5, c5, w3.heap.size, rfl, by omega, by omega, HNM.out, HX.out, hlO, hlS, HQS.out, HQ.out, HXQ.out, own_up (row_drawn HS.out hg8 (by omega)) (by omega),
          (by
            have h9 := own_up (B' := w.heap.size) (row_drawn HI7.out hg8 (by omega)) (by omega)
            have e9 := HNM.out
            unfold SOwn
            rw [e9]
            exact h9),
          fun q e => (hlt3 q e).2, by omega, row_drawn HO7.out hg8 (by omega), own_up hoO (by omega), hb1.grown (grown_trans HG3.out (grown_trans HG7.out hg8)) hz (fun q hq => by injection hq with hq; omega)⟩)
      clear hoO hg8
      rw [show O.length = k from hlO] at HFIN
      go_wp2_with fail
      exact bodyPost_ret (v := .tuple #[.slice va S.length vc, .slice (some ⟨gu, 0, none⟩) k uc, .slice (some ⟨g5, 0, none⟩) k c5, .slice za k zc]) (by simp [results, Try.results42, go_sem]) rfl HFIN.out
end Drm
end Go.Proofs.Ytcibjicgfhgomaa
