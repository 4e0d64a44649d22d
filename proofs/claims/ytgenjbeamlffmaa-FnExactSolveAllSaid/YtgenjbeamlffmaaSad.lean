/- The contract of the program's search for choices (bestChoices), over this seat's translation, as before, and more: the rows that it makes stand on different blocks. Condition: a shelf, needs and held picks that are fine; at most 30 picks open or made. -/
import Derived.Test.YtgenjbeamlffmaaSav
namespace Go.Proofs.Ytgenjbeamlffmaa
open Go.RowKit Go.Sort

namespace Svp
open Foot Copy Nup Cpu Cfa Rch
/-- Rows on different blocks, each below hi, and behind h but for one that is x. -/
def Dst (h hi : Nat) (x : Option Nat) (cs : List Value) : Prop := ∀ (i : Nat) (u : Value) (b : Nat), cs[i]? = some u → u.ownBlock = some b → ((x = some b ∨ h ≤ b) ∧ b < hi) ∧ ∀ (j : Nat) (u' : Value), cs[j]? = some u' → j ≠ i → u'.ownBlock ≠ some b
theorem Dst.nil (h hi : Nat) (x : Option Nat) : Dst h hi x [] := fun i u b e => by simp at e
theorem Dst.wide {h h' hi hi' : Nat} {x : Option Nat} {cs : List Value} (d : Dst h hi x cs) (h1 : h' ≤ h) (h2 : hi ≤ hi') : Dst h' hi' x cs := fun i u b e1 e2 => by
  obtain ⟨⟨k1, k2⟩, k3⟩ := d i u b e1 e2
  exact ⟨⟨by rcases k1 with k | k; exact .inl k; exact .inr (by omega), by omega⟩, k3⟩
theorem Dst.join {h hi h5 hi6 : Nat} {x x5 : Option Nat} {cs ds : List Value} (d : Dst h hi x cs) (e : Dst h5 hi6 x5 ds) (hx : ∀ b, x5 = some b → hi ≤ b) (h1 : hi ≤ h5) (h2 : h ≤ hi) (h3 : hi ≤ hi6) : Dst h hi6 x (cs ++ ds) := by
  have low : ∀ {i : Nat} {u : Value} {b : Nat}, cs[i]? = some u → u.ownBlock = some b → b < hi := fun e1 e2 => (d _ _ _ e1 e2).1.2
  have high : ∀ {i : Nat} {u : Value} {b : Nat}, ds[i]? = some u → u.ownBlock = some b → hi ≤ b := fun e1 e2 => by
    rcases (e _ _ _ e1 e2).1.1 with k | k
    · exact hx _ k
    · omega
  intro i u b e1 e2
  by_cases hi' : i < cs.length
  · rw [List.getElem?_append_left hi'] at e1
    obtain ⟨⟨k1, k2⟩, k3⟩ := d i u b e1 e2
    refine ⟨⟨k1, by omega⟩, fun j u' e3 hne e4 => ?_⟩
    by_cases hj : j < cs.length
    · rw [List.getElem?_append_left hj] at e3
      exact k3 j u' e3 hne e4
    · rw [List.getElem?_append_right (by omega)] at e3
      have := high e3 e4
      omega
  · rw [List.getElem?_append_right (by omega)] at e1
    obtain ⟨⟨k1, k2⟩, k3⟩ := e _ u b e1 e2
    have hb := high e1 e2
    refine ⟨⟨.inr (by omega), k2⟩, fun j u' e3 hne e4 => ?_⟩
    by_cases hj : j < cs.length
    · rw [List.getElem?_append_left hj] at e3
      have := low e3 e4
      omega
    · rw [List.getElem?_append_right (by omega)] at e3
      exact k3 (j - cs.length) u' e3 (by omega) e4
/-- A row of rows of picks that a call makes, the rows on different blocks. -/
def DOwn (w : World) (B base h hi : Nat) (x : Option Nat) (v : Value) (Ls : List (List Pk)) : Prop := ∃ cs, w.ownsRow base 28 1 v Ls.length cs ∧ REls w B cs Ls ∧ Dst h hi x cs
theorem DOwn.rows {w : World} {B base h hi : Nat} {x : Option Nat} {v : Value} {Ls : List (List Pk)} (d : DOwn w B base h hi x v Ls) : LOwn w B base v Ls := by
  obtain ⟨cs, h1, h2, _⟩ := d
  exact ⟨cs, h1, h2⟩
theorem DOwn.below {w w' : World} {B base h hi : Nat} {x : Option Nat} {v : Value} {Ls : List (List Pk)} (d : DOwn w B base h hi x v Ls) (hb : Below w.heap.size w w') : DOwn w' B base h hi x v Ls := by
  obtain ⟨cs, ⟨hl, ho⟩, he, hd⟩ := d
  refine ⟨cs, ⟨hl, ?_⟩, he.below hb, hd⟩
  rcases ho with hn | ⟨g, cap, cur, hv, hb', hg, rest⟩
  · exact .inl hn
  · exact .inr ⟨g, cap, cur, hv, hb', (hb.block g (Array.getElem?_eq_some_iff.1 hg).1).trans hg, rest⟩
theorem DOwn.wide {w : World} {B base base' h h' hi hi' : Nat} {x : Option Nat} {v : Value} {Ls : List (List Pk)} (d : DOwn w B base h hi x v Ls) (hb : base' ≤ base) (h1 : h' ≤ h) (h2 : hi ≤ hi') : DOwn w B base' h' hi' x v Ls := by
  obtain ⟨cs, ⟨hl, ho⟩, he, hd⟩ := d
  refine ⟨cs, ⟨hl, ?_⟩, he, hd.wide h1 h2⟩
  rcases ho with hn | ⟨g, cap, cur, hv, hb', rest⟩
  · exact .inl hn
  · exact .inr ⟨g, cap, cur, hv, Nat.le_trans hb hb', rest⟩
theorem DOwn.nil (w : World) (B base h hi : Nat) (x : Option Nat) : DOwn w B base h hi x (.slice none 0 0) [] := ⟨[], World.ownsRow_nil _ _ _ _, fun i hi => absurd hi (by simp), Dst.nil _ _ _⟩
theorem DOwn.form {w : World} {B base h hi : Nat} {x : Option Nat} {v : Value} {Ls : List (List Pk)} (d : DOwn w B base h hi x v Ls) : ∃ a c, v = .slice a Ls.length c := d.rows.form
theorem DOwn.one {w V : World} {B h : Nat} {z : Value} {L : List Pk} (k : KOwn w B z L) (hV : V.heap = (w.alloc (.cells #[z] 28)).heap) (hb : Below w.heap.size w V) : DOwn V B w.heap.size h w.heap.size z.ownBlock (.slice (some ⟨w.heap.size, 0, none⟩) 1 1) [L] :=
  ⟨[z], ⟨rfl, .inr ⟨w.heap.size, 1, #[z], rfl, Nat.le_refl _, by rw [hV]; exact heap_alloc_new w _, Nat.le_refl _, by unfold maxLen; omega, rfl, rfl⟩⟩, fun i hi => by
    obtain rfl : i = 0 := by simpa using hi
    exact ⟨z, rfl, KOwn.below k hb⟩, fun i u b e1 e2 => by
    have hi0 : i = 0 := by
      have := (List.getElem?_eq_some_iff.1 e1).1
      simpa using this
    subst hi0
    have hz : z = u := by simpa using e1
    subst hz
    refine ⟨⟨.inl e2, (World.ownsRow.lt k b e2).2⟩, fun j u' e3 hne => ?_⟩
    have := (List.getElem?_eq_some_iff.1 e3).1
    simp at this
    omega⟩
/-- Two rows of rows joined by an append. -/
theorem DOwn.join {w w' : World} {B base n h hi : Nat} {x : Option Nat} {v v' : Value} {Ls Ms : List (List Pk)} {cs ds : List Value} (ho : w.ownsRow base 28 1 v Ls.length cs) (he : REls w B cs Ls) (hd : REls w B ds Ms) (hn : n = (Ls ++ Ms).length)
    (hown : w'.ownsRow base 28 1 v' n (cs ++ ds)) (hgrow : w.grownBy w' v.ownBlock) (hD : Dst h hi x (cs ++ ds)) : DOwn w' B base h hi x v' (Ls ++ Ms) := by
  subst hn
  have kept : ∀ {xs : List Value} {Xs : List (List Pk)}, REls w B xs Xs → REls w' B xs Xs := fun h i hi => by
    obtain ⟨z, h1, h2⟩ := h i hi
    exact ⟨z, h1, World.ownsRow.kept h2 hgrow (apart2 h2 ho)⟩
  have hl : cs.length = Ls.length := by have := ho.1; omega
  exact ⟨_, hown, (kept he).append hl (kept hd), hD⟩
def DestPost (B : Nat) (x : Option Nat) (L : List (List Pk)) (w : World) (e : Ending) (w' : World) : Prop := ∃ v, e = .returned v ∧ DOwn w' B w.heap.size w.heap.size w'.heap.size x v L ∧ Below w.heap.size w w'

set_option maxRecDepth 100000 in
set_option maxHeartbeats 2000000 in
theorem dest_walk (sa na : Option Addr) (caps ncap : Nat) (S : List Rel) (N : List Nd) (Hd : List Pk) (hS : shOk S = true) (hN : ndOk N = true) (hH : pkOk Hd = true) (hSq : ∀ q ∈ S, ∀ p ∈ q.2.2.2, p.2.length ≤ 1048576) (hNq : ∀ q ∈ N, q.2.length ≤ 1048576)
    (O C : List Pk) (vc vo : Value) (mo : Int) (B : Nat) (w : World) (IH : ∀ (O' C' : List Pk) (vc' vo' : Value) (mo' : Int) (B' : Nat) (w' : World), O'.length < O.length → Good S Hd C' O' → (C' ++ O').length ≤ 30 → -100 ≤ mo' → mo' ≤ 100 → B' ≤ w'.heap.size → RlAt w' w'.heap.size (.slice sa S.length caps) S → NdAt w' w'.heap.size (.slice na N.length ncap) N → KOwn w' B' vc' C' → PkAt w' w'.heap.size vo' O' → (∃ a c, vo' = .slice a O'.length c ∧ O'.length ≤ c) → Calls Try.prog 73 #[.slice sa S.length caps, .slice na N.length ncap, vc', vo', .int .i64 mo'] w' (DestPost B' vc'.ownBlock ((bestL S N Hd C' O').take (mo').toNat) w'))
    (hG : Good S Hd C O) (hCO : (C ++ O).length ≤ 30) (hm0 : -100 ≤ mo) (hm1 : mo ≤ 100) (hB : B ≤ w.heap.size) (h : RlAt w w.heap.size (.slice sa S.length caps) S) (h' : NdAt w w.heap.size (.slice na N.length ncap) N) (hc : KOwn w B vc C) (ho : PkAt w w.heap.size vo O) (hv : ∃ a c, vo = .slice a O.length c ∧ O.length ≤ c) :
    Calls Try.prog 73 #[.slice sa S.length caps, .slice na N.length ncap, vc, vo, .int .i64 mo] w (DestPost B vc.ownBlock ((bestL S N Hd C O).take (mo).toNat) w) := by
  obtain ⟨r0, hr, hz0, hz1, hz2⟩ := info_parts infoRow
  obtain ⟨oa, oc, rfl, hoc⟩ := hv
  obtain ⟨ca, cc, rfl, hxx⟩ := id (KOwn.pb hc).at
  clear hxx
  have hS5 : ∀ q ∈ S, q.2.2.2.length ≤ 5 ∧ ∀ p ∈ q.2.2.2, p.2.length ≤ 1048576 := fun q hq => ⟨sh_five hS q hq, hSq q hq⟩
  have hS30 := sh_len hS
  have hN5 := nd_len hN
  have hCl : C.length + O.length ≤ 30 := by rwa [List.length_append] at hCO
  have KH : Hid (∀ V, RlAt V V.heap.size (.slice sa S.length caps) S → NdAt V V.heap.size (.slice na N.length ncap) N → PkAt V V.heap.size (.slice ca C.length cc) C → PkAt V V.heap.size (.slice oa O.length oc) O → Calls Try.prog 126 #[.slice sa S.length caps, .slice na N.length ncap, .slice ca C.length cc, .slice oa O.length oc] V fun e w' => e = .returned (.bool (hopeB S N C O)) ∧ Below V.heap.size V w') := Lib.hid fun V g g' g2 g3 => hopeless_any _ _ _ _ S N C O V hS30 hS5 hN5 hNq hCO g g' g2 g3
  have KF : Hid (∀ V, PkAt V V.heap.size (.slice oa O.length oc) O → Calls Try.prog 127 #[.slice oa O.length oc] V fun e w' => e = .returned (.int .i64 (firstN O : Nat)) ∧ Below V.heap.size V w') := Lib.hid fun V g => firstName_any _ O V (by omega) g
  have H := Lib.hid h
  have H' := Lib.hid h'
  have HC := Lib.hid (KOwn.pb hc).at
  have HK := Lib.hid hc
  have HO := Lib.hid ho
  have HIH := Lib.hid IH
  have HGG := Lib.hid hG
  have HNONE := Lib.hid (fun hh => best_none (N := N) (H := Hd) hS hN hG hCO hh)
  clear h h' hc ho IH hSq
  by_cases hmo : mo < 1
  · have HE := Lib.hid (show (bestL S N Hd C O).take mo.toNat = [] by rw [show mo.toNat = 0 by omega]; rfl)
    have hmD : decide (mo < 1) = true := decide_eq_true hmo
    clear KH KF
    go_enter Try.func73, Try.ntmps73
    go_wp2_with fail
    go_ret
    exact ⟨_, rfl, by rw [HE.out]; exact DOwn.nil _ _ _ _ _ _, Below.refl _ _⟩
  have hmD : decide (mo < 1) = false := decide_eq_false hmo
  rcases hb : hopeB S N C O
  all_goals
    rw [hb] at KH
    have HHB := Lib.hid hb
    clear hb
    go_enter Try.func73, Try.ntmps73
    go_wp2_with fail
    refine (KH.out _ H.out H'.out HC.out HO.out).mono ?_
    rintro e w2 ⟨rfl, b2⟩
  rotate_left
  · have HE := Lib.hid (show (bestL S N Hd C O).take mo.toNat = [] by rw [HNONE.out HHB.out]; simp)
    go_wp2_with fail
    go_ret
    exact ⟨_, rfl, by rw [HE.out]; exact DOwn.nil _ _ _ _ _ _, b2⟩
  by_cases hO0 : O = []
  · subst hO0
    have HE := Lib.hid (show (bestL S N Hd C []).take mo.toNat = [C] by
      rw [best_leaf hS hN hH HGG.out (by simpa using hCO) HHB.out]
      exact List.take_of_length_le (by simp; omega))
    have HK2 := Lib.hid (KOwn.below HK.out b2)
    go_wp2_with fail
    go_ret
    exact ⟨_, rfl, by rw [HE.out]; exact (DOwn.one HK2.out rfl ((Below.refl _ _).alloc (Nat.le_refl _) _)).wide b2.size (Nat.le_refl _) (by simp), b2.alloc b2.size _⟩
  · have hOl : 0 < O.length := List.length_pos_iff.2 hO0
    have hOb : ((O.length : Int) == 0) = false := by rw [beq_eq_false_iff_ne]; omega
    have hfp : 0 < firstN O := by
      cases O with
      | nil => exact absurd rfl hO0
      | cons p t => exact firstN_pos p t
    have hfl := firstN_le O
    have HEND := Lib.hid (way_end (S := S) (N := N) (H := Hd) (C := C) hO0)
    have HST := Lib.hid (fun k i q (hk : k + 1 + i = firstN O) hq => way_step (S := S) (N := N) (H := Hd) (C := C) (k := k) (i := i) (q := q) hk hq)
    have HLAT := Lib.hid HGG.out.later
    have HW := Lib.hid (fun q (hq : q ∈ O.take (firstN O)) => HGG.out.with' hS hq)
    have HW0 := Lib.hid (show wayL S N Hd C O 0 = bestL S N Hd C (O.drop (firstN O)) by unfold wayL; simp)
    obtain ⟨m, hm⟩ : ∃ m, firstN O = m := ⟨_, rfl⟩
    rw [hm] at KF hfp hfl HEND HST HLAT HW HW0
    clear hm
    obtain ⟨ob, oo, rfl, hoB, hpc⟩ : ∃ b o, oa = some ⟨b, o, none⟩ ∧ b < w.heap.size ∧ ∀ i (h : i < O.length), PkC w b (o + i * 5) O[i] := by
      obtain ⟨a', c', e, hh⟩ := HO.out
      simp only [Value.slice.injEq] at e
      obtain ⟨rfl, _, _⟩ := e
      rcases hh with hh | hh
      · exact absurd hh hO0
      · exact hh
    have k0 : (0 : Int) ≤ (m : Int) := by omega
    have k1 : (m : Int) ≤ (O.length : Int) := by omega
    have k2 : (m : Int) ≤ (oc : Int) := by omega
    go_wp2_with fail
    refine (KF.out _ (HO.out.stepAt b2)).mono ?_
    rintro e w3 ⟨rfl, hb3⟩
    have n3 := b2.trans (hb3.mono b2.size)
    clear hb3 b2 KF KH
    by_cases hmc : oc = m
    · have hOm : O.length - m = 0 := by omega
      obtain ⟨lv, hlv⟩ : ∃ lv, lv = Value.slice (some ⟨ob, oo, none⟩) 0 0 := ⟨_, rfl⟩
      have HLV := Lib.hid (show ∀ V, Below w.heap.size w V → PkAt V V.heap.size lv (O.drop m) from fun V _ => by
        have hd : O.drop m = [] := List.drop_eq_nil_of_le (by omega)
        rw [hlv, hd]
        exact ⟨_, _, rfl, .inl rfl⟩)
      have HFM := Lib.hid (show ∃ a c, lv = .slice a (O.drop m).length c ∧ (O.drop m).length ≤ c from ⟨_, 0, by rw [hlv, List.length_drop, hOm], by rw [List.length_drop]; omega⟩)
      obtain rfl : m = oc := hmc.symm
      clear hOm
      go_wp2_with fail
      rw [← hlv]
      clear hlv
      refine (HIH.out (O.drop m) C _ lv mo B _ (by rw [List.length_drop]; omega) HLAT.out (by rw [List.length_append, List.length_drop]; omega) hm0 hm1 (Nat.le_trans hB n3.size) (H.out.stepAt n3) (H'.out.stepAt n3) (KOwn.below HK.out n3) (HLV.out _ n3) HFM.out).mono ?_
      rw [← HW0.out]
      rintro e w4 ⟨v4, rfl, lo4, hb4⟩
      have n4 := n3.trans (hb4.mono n3.size)
      have LO4 := Lib.hid (lo4.wide n3.size n3.size (Nat.le_refl _))
      clear lo4 hb4 n3
      have mw : IntKind.i64.wrap ((m : Int) - 1) = (m : Int) - 1 := IntWalk.i64_in _ (by omega)
      go_wp2_with fail
      go_loopw [13, 14] (fun s13 i wr => ∃ k : Nat, k ≤ m ∧ i = .int .i64 ((m : Int) - 1 - (k : Int)) ∧ DOwn wr B w.heap.size w.heap.size wr.heap.size (Value.slice ca C.length cc).ownBlock s13 ((wayL S N Hd C O k).take mo.toNat) ∧ Below w.heap.size w wr) (fun _ i _ => (intOf i + 1).toNat)
      case atStart => exact ⟨0, Nat.zero_le _, by simp, LO4.out, n4⟩
      case round =>
        clear LO4
        obtain ⟨k, hk, rfl, hL, hb⟩ := hrel
        by_cases hkm : k < m
        · obtain ⟨j, hj⟩ : ∃ j : Nat, k + 1 + j = m := ⟨m - (k + 1), by omega⟩
          have ej : (m : Int) - 1 - (k : Int) = (j : Int) := by omega
          rw [ej]
          have hjO : j < O.length := by omega
          obtain ⟨x, a, b, c, d, hxy⟩ : ∃ x a b c d, O[j] = (x, a, b, c, d) := ⟨_, _, _, _, _, rfl⟩
          obtain ⟨r0', r1, r2, r3, r4⟩ := hpc j hjO
          rw [hxy] at r0' r1 r2 r3 r4
          simp only at r0' r1 r2 r3 r4
          have e0 := (hb.cell (p := ⟨ob, oo + j * 5, none⟩) hoB).trans r0'
          have e1 := (hb.cell (p := ⟨ob, oo + j * 5 + 1, none⟩) hoB).trans r1
          have e2 := (hb.cell (p := ⟨ob, oo + j * 5 + 2, none⟩) hoB).trans r2
          have e3 := (hb.cell (p := ⟨ob, oo + j * 5 + 3, none⟩) hoB).trans r3
          have e4 := (hb.cell (p := ⟨ob, oo + j * 5 + 4, none⟩) hoB).trans r4
          have hOj : O[j]? = some (x, a, b, c, d) := by rw [List.getElem?_eq_getElem hjO, hxy]
          have HGW := Lib.hid (HW.out (x, a, b, c, d) (by
            have : (O.take m)[j]? = some (x, a, b, c, d) := by rw [List.getElem?_take, if_pos (by omega), hOj]
            exact List.mem_of_getElem? this))
          have HSK := Lib.hid (HST.out k j (x, a, b, c, d) hj hOj)
          obtain ⟨X, hX⟩ : ∃ X, (wayL S N Hd C O k).take mo.toNat = X := ⟨_, rfl⟩
          have hXl : X.length ≤ mo.toNat := by rw [← hX, List.length_take]; omega
          have HXX := Lib.hid hX
          rw [hX] at hL
          obtain ⟨la, lcap, hlf⟩ := hL.form
          subst hlf
          have HL := Lib.hid hL
          have j0 : (0 : Int) ≤ (j : Int) := by omega
          have j1 : (j : Int) < (O.length : Int) := by omega
          have mw2 : IntKind.i64.wrap (mo - (X.length : Int)) = mo - (X.length : Int) := IntWalk.i64_in _ (by omega)
          clear hX hL hxy hOj r0' r1 r2 r3 r4
          go_wp2_with fail
          refine (picksWith_any _ C x a b c d _ (by omega) (HC.out.stepAt hb)).mono ?_
          rintro e w5 ⟨v5, rfl, ko5, hb5⟩
          have m5 := hb.trans (hb5.mono hb.size)
          have KO5 := Lib.hid (kown_mono ko5 (Nat.le_trans hB hb.size))
          have HL5 := Lib.hid (HL.out.below hb5)
          have z5 := m5.size
          have HX5 := Lib.hid (show ∀ b, v5.ownBlock = some b → wr.heap.size ≤ b from fun b e => (World.ownsRow.lt ko5 b e).1)
          have zr5 := hb5.size
          have zwr := hb.size
          clear ko5 hb5 e0 e1 e2 e3 e4 HL
          go_wp2_with fail
          refine (HIH.out (O.drop m) (C ++ [(x, a, b, c, d)]) v5 lv (mo - (X.length : Int)) B _ (by rw [List.length_drop]; omega) HGW.out (by rw [List.length_append, List.length_append, List.length_drop]; simp; omega) (by omega) (by omega) (Nat.le_trans hB z5) (H.out.stepAt m5) (H'.out.stepAt m5) KO5.out (HLV.out _ m5) HFM.out).mono ?_
          rintro e w6 ⟨v6, rfl, lo6, hb6⟩
          have m6 := m5.trans (hb6.mono m5.size)
          obtain ⟨Y, hY⟩ : ∃ Y, (bestL S N Hd (C ++ [(x, a, b, c, d)]) (O.drop m)).take (mo - (X.length : Int)).toNat = Y := ⟨_, rfl⟩
          have hYl : Y.length ≤ (mo - (X.length : Int)).toNat := by rw [← hY, List.length_take]; omega
          have HXY := Lib.hid (show X ++ Y = (wayL S N Hd C O (k + 1)).take mo.toNat by
            rw [HSK.out, ← take_two, HXX.out, ← hY, show mo.toNat - X.length = (mo - (X.length : Int)).toNat by omega])
          rw [hY] at lo6
          obtain ⟨ya, yc, hyf⟩ := lo6.form
          subst hyf
          obtain ⟨cs, hown, he, hd1⟩ := HL5.out.below hb6
          obtain ⟨ds, hown', he', hd2⟩ := lo6
          have z56 := hb6.size
          have HDD := Lib.hid (Dst.join hd1 hd2 HX5.out zr5 zwr (by omega))
          obtain ⟨l2, l3⟩ := row_news hown'
          have HOW := Lib.hid hown
          have HE1 := Lib.hid he
          have HE2 := Lib.hid he'
          have L3 := Lib.hid l3
          have hdl : ds.length = Y.length * 1 := hown'.1
          have L4 := Lib.hid (rels_ones he' (by omega))
          have HB6 := Lib.hid m6
          have z6 := m6.size
          clear hY hown he hown' he' l3 hb6 m6 HL5 hd1 hd2
          go_wp2_with (at_builtin; refine Ap2.wpList_append _ rfl (.tmp 61) (.tmp 62) 43 rfl w.heap.size 28 r0 (.slice none 0 0) 1 24 Try.underlying43 hr hz0 hz1 hz2 rfl (by decide) _ X.length cs rfl HOW.out ya Y.length yc ds (by rfl) hdl l2 L3.out L4.out (by unfold maxLen; omega) (by omega) (by omega) ?_)
          intro a7 c7 w7 hown7 hgrow7 hat7
          have n7 : Below w.heap.size w w7 := HB6.out.grown hgrow7 HB6.out.size (fun k e => (World.ownsRow.lt HOW.out k e).1)
          have HJ := Lib.hid (show DOwn w7 B w.heap.size w.heap.size w7.heap.size (Value.slice ca C.length cc).ownBlock (.slice a7 (X.length + Y.length) c7) ((wayL S N Hd C O (k + 1)).take mo.toNat) by rw [← HXY.out]; exact DOwn.join HOW.out HE1.out HE2.out (by rw [List.length_append]) hown7 hgrow7 (HDD.out.wide (Nat.le_refl _) hgrow7.size))
          have jw : IntKind.i64.wrap ((j : Int) - 1) = (j : Int) - 1 := IntWalk.i64_in _ (by omega)
          clear hown7 hgrow7 hat7
          go_wp2_with fail
          go_roundw
          case rel => exact ⟨k + 1, by omega, by congr 1; omega, HJ.out, n7⟩
          case measure => first | (simp [intOf]; done) | (simp [intOf]; omega)
        · obtain rfl : k = m := by omega
          have ej : (k : Int) - 1 - (k : Int) = -1 := by omega
          rw [ej]
          rw [HEND.out] at hL
          have HQ := Lib.hid hL
          clear hL
          go_wp2_with fail
          go_ret
          exact ⟨_, rfl, HQ.out, hb⟩
    · obtain ⟨lv, hlv⟩ : ∃ lv, lv = Value.slice (some ⟨ob, oo + m * 5, none⟩) (O.length - m) (oc - m) := ⟨_, rfl⟩
      have HLV := Lib.hid (show ∀ V, Below w.heap.size w V → PkAt V V.heap.size lv (O.drop m) from fun V hV => by
        rw [hlv]
        exact pk_drop (HO.out.stepAt hV) hfl)
      have HFM := Lib.hid (show ∃ a c, lv = .slice a (O.drop m).length c ∧ (O.drop m).length ≤ c from ⟨_, _, by rw [hlv, List.length_drop], by rw [List.length_drop]; omega⟩)
      go_wp2_with fail
      rw [← hlv]
      clear hlv
      refine (HIH.out (O.drop m) C _ lv mo B _ (by rw [List.length_drop]; omega) HLAT.out (by rw [List.length_append, List.length_drop]; omega) hm0 hm1 (Nat.le_trans hB n3.size) (H.out.stepAt n3) (H'.out.stepAt n3) (KOwn.below HK.out n3) (HLV.out _ n3) HFM.out).mono ?_
      rw [← HW0.out]
      rintro e w4 ⟨v4, rfl, lo4, hb4⟩
      have n4 := n3.trans (hb4.mono n3.size)
      have LO4 := Lib.hid (lo4.wide n3.size n3.size (Nat.le_refl _))
      clear lo4 hb4 n3
      have mw : IntKind.i64.wrap ((m : Int) - 1) = (m : Int) - 1 := IntWalk.i64_in _ (by omega)
      go_wp2_with fail
      go_loopw [13, 14] (fun s13 i wr => ∃ k : Nat, k ≤ m ∧ i = .int .i64 ((m : Int) - 1 - (k : Int)) ∧ DOwn wr B w.heap.size w.heap.size wr.heap.size (Value.slice ca C.length cc).ownBlock s13 ((wayL S N Hd C O k).take mo.toNat) ∧ Below w.heap.size w wr) (fun _ i _ => (intOf i + 1).toNat)
      case atStart => exact ⟨0, Nat.zero_le _, by simp, LO4.out, n4⟩
      case round =>
        clear LO4
        obtain ⟨k, hk, rfl, hL, hb⟩ := hrel
        by_cases hkm : k < m
        · obtain ⟨j, hj⟩ : ∃ j : Nat, k + 1 + j = m := ⟨m - (k + 1), by omega⟩
          have ej : (m : Int) - 1 - (k : Int) = (j : Int) := by omega
          rw [ej]
          have hjO : j < O.length := by omega
          obtain ⟨x, a, b, c, d, hxy⟩ : ∃ x a b c d, O[j] = (x, a, b, c, d) := ⟨_, _, _, _, _, rfl⟩
          obtain ⟨r0', r1, r2, r3, r4⟩ := hpc j hjO
          rw [hxy] at r0' r1 r2 r3 r4
          simp only at r0' r1 r2 r3 r4
          have e0 := (hb.cell (p := ⟨ob, oo + j * 5, none⟩) hoB).trans r0'
          have e1 := (hb.cell (p := ⟨ob, oo + j * 5 + 1, none⟩) hoB).trans r1
          have e2 := (hb.cell (p := ⟨ob, oo + j * 5 + 2, none⟩) hoB).trans r2
          have e3 := (hb.cell (p := ⟨ob, oo + j * 5 + 3, none⟩) hoB).trans r3
          have e4 := (hb.cell (p := ⟨ob, oo + j * 5 + 4, none⟩) hoB).trans r4
          have hOj : O[j]? = some (x, a, b, c, d) := by rw [List.getElem?_eq_getElem hjO, hxy]
          have HGW := Lib.hid (HW.out (x, a, b, c, d) (by
            have : (O.take m)[j]? = some (x, a, b, c, d) := by rw [List.getElem?_take, if_pos (by omega), hOj]
            exact List.mem_of_getElem? this))
          have HSK := Lib.hid (HST.out k j (x, a, b, c, d) hj hOj)
          obtain ⟨X, hX⟩ : ∃ X, (wayL S N Hd C O k).take mo.toNat = X := ⟨_, rfl⟩
          have hXl : X.length ≤ mo.toNat := by rw [← hX, List.length_take]; omega
          have HXX := Lib.hid hX
          rw [hX] at hL
          obtain ⟨la, lcap, hlf⟩ := hL.form
          subst hlf
          have HL := Lib.hid hL
          have j0 : (0 : Int) ≤ (j : Int) := by omega
          have j1 : (j : Int) < (O.length : Int) := by omega
          have mw2 : IntKind.i64.wrap (mo - (X.length : Int)) = mo - (X.length : Int) := IntWalk.i64_in _ (by omega)
          clear hX hL hxy hOj r0' r1 r2 r3 r4
          go_wp2_with fail
          refine (picksWith_any _ C x a b c d _ (by omega) (HC.out.stepAt hb)).mono ?_
          rintro e w5 ⟨v5, rfl, ko5, hb5⟩
          have m5 := hb.trans (hb5.mono hb.size)
          have KO5 := Lib.hid (kown_mono ko5 (Nat.le_trans hB hb.size))
          have HL5 := Lib.hid (HL.out.below hb5)
          have z5 := m5.size
          have HX5 := Lib.hid (show ∀ b, v5.ownBlock = some b → wr.heap.size ≤ b from fun b e => (World.ownsRow.lt ko5 b e).1)
          have zr5 := hb5.size
          have zwr := hb.size
          clear ko5 hb5 e0 e1 e2 e3 e4 HL
          go_wp2_with fail
          refine (HIH.out (O.drop m) (C ++ [(x, a, b, c, d)]) v5 lv (mo - (X.length : Int)) B _ (by rw [List.length_drop]; omega) HGW.out (by rw [List.length_append, List.length_append, List.length_drop]; simp; omega) (by omega) (by omega) (Nat.le_trans hB z5) (H.out.stepAt m5) (H'.out.stepAt m5) KO5.out (HLV.out _ m5) HFM.out).mono ?_
          rintro e w6 ⟨v6, rfl, lo6, hb6⟩
          have m6 := m5.trans (hb6.mono m5.size)
          obtain ⟨Y, hY⟩ : ∃ Y, (bestL S N Hd (C ++ [(x, a, b, c, d)]) (O.drop m)).take (mo - (X.length : Int)).toNat = Y := ⟨_, rfl⟩
          have hYl : Y.length ≤ (mo - (X.length : Int)).toNat := by rw [← hY, List.length_take]; omega
          have HXY := Lib.hid (show X ++ Y = (wayL S N Hd C O (k + 1)).take mo.toNat by
            rw [HSK.out, ← take_two, HXX.out, ← hY, show mo.toNat - X.length = (mo - (X.length : Int)).toNat by omega])
          rw [hY] at lo6
          obtain ⟨ya, yc, hyf⟩ := lo6.form
          subst hyf
          obtain ⟨cs, hown, he, hd1⟩ := HL5.out.below hb6
          obtain ⟨ds, hown', he', hd2⟩ := lo6
          have z56 := hb6.size
          have HDD := Lib.hid (Dst.join hd1 hd2 HX5.out zr5 zwr (by omega))
          obtain ⟨l2, l3⟩ := row_news hown'
          have HOW := Lib.hid hown
          have HE1 := Lib.hid he
          have HE2 := Lib.hid he'
          have L3 := Lib.hid l3
          have hdl : ds.length = Y.length * 1 := hown'.1
          have L4 := Lib.hid (rels_ones he' (by omega))
          have HB6 := Lib.hid m6
          have z6 := m6.size
          clear hY hown he hown' he' l3 hb6 m6 HL5 hd1 hd2
          go_wp2_with (at_builtin; refine Ap2.wpList_append _ rfl (.tmp 61) (.tmp 62) 43 rfl w.heap.size 28 r0 (.slice none 0 0) 1 24 Try.underlying43 hr hz0 hz1 hz2 rfl (by decide) _ X.length cs rfl HOW.out ya Y.length yc ds (by rfl) hdl l2 L3.out L4.out (by unfold maxLen; omega) (by omega) (by omega) ?_)
          intro a7 c7 w7 hown7 hgrow7 hat7
          have n7 : Below w.heap.size w w7 := HB6.out.grown hgrow7 HB6.out.size (fun k e => (World.ownsRow.lt HOW.out k e).1)
          have HJ := Lib.hid (show DOwn w7 B w.heap.size w.heap.size w7.heap.size (Value.slice ca C.length cc).ownBlock (.slice a7 (X.length + Y.length) c7) ((wayL S N Hd C O (k + 1)).take mo.toNat) by rw [← HXY.out]; exact DOwn.join HOW.out HE1.out HE2.out (by rw [List.length_append]) hown7 hgrow7 (HDD.out.wide (Nat.le_refl _) hgrow7.size))
          have jw : IntKind.i64.wrap ((j : Int) - 1) = (j : Int) - 1 := IntWalk.i64_in _ (by omega)
          clear hown7 hgrow7 hat7
          go_wp2_with fail
          go_roundw
          case rel => exact ⟨k + 1, by omega, by congr 1; omega, HJ.out, n7⟩
          case measure => first | (simp [intOf]; done) | (simp [intOf]; omega)
        · obtain rfl : k = m := by omega
          have ej : (k : Int) - 1 - (k : Int) = -1 := by omega
          rw [ej]
          rw [HEND.out] at hL
          have HQ := Lib.hid hL
          clear hL
          go_wp2_with fail
          go_ret
          exact ⟨_, rfl, HQ.out, hb⟩

set_option maxRecDepth 100000 in
set_option maxHeartbeats 8000000 in
theorem destChoices_any (sa na : Option Addr) (caps ncap : Nat) (S : List Rel) (N : List Nd) (Hd : List Pk) (hS : shOk S = true) (hN : ndOk N = true) (hH : pkOk Hd = true) (hSq : ∀ q ∈ S, ∀ p ∈ q.2.2.2, p.2.length ≤ 1048576) (hNq : ∀ q ∈ N, q.2.length ≤ 1048576) :
    ∀ (n : Nat) (O C : List Pk) (vc vo : Value) (mo : Int) (B : Nat) (w : World), O.length ≤ n → Good S Hd C O → (C ++ O).length ≤ 30 → -100 ≤ mo → mo ≤ 100 → B ≤ w.heap.size → RlAt w w.heap.size (.slice sa S.length caps) S → NdAt w w.heap.size (.slice na N.length ncap) N → KOwn w B vc C → PkAt w w.heap.size vo O → (∃ a c, vo = .slice a O.length c ∧ O.length ≤ c) →
    Calls Try.prog 73 #[.slice sa S.length caps, .slice na N.length ncap, vc, vo, .int .i64 mo] w (DestPost B vc.ownBlock ((bestL S N Hd C O).take mo.toNat) w) := by
  intro n
  induction n with
  | zero =>
    intro O C vc vo mo B w h0 hG hCO hm0 hm1 hB h h' hc ho hv
    exact dest_walk sa na caps ncap S N Hd hS hN hH hSq hNq O C vc vo mo B w (fun O' C' vc' vo' mo' B' w' hl => by omega) hG hCO hm0 hm1 hB h h' hc ho hv
  | succ n ih =>
    intro O C vc vo mo B w h0 hG hCO hm0 hm1 hB h h' hc ho hv
    exact dest_walk sa na caps ncap S N Hd hS hN hH hSq hNq O C vc vo mo B w (fun O' C' vc' vo' mo' B' w' hl => ih O' C' vc' vo' mo' B' w' (by omega)) hG hCO hm0 hm1 hB h h' hc ho hv
end Svp
end Go.Proofs.Ytgenjbeamlffmaa
