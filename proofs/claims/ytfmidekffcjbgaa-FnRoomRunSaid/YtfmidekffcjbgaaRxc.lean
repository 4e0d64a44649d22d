/- The contracts of the program's ranOn and RoomRun once more, with what they say of capacities: the row of what was read is not longer than its capacity. Conditions: as before. -/
import Derived.Test.YtfmidekffcjbgaaRxs
import Derived.Deep.CutRange
import Derived.Deep.RegionWith
namespace Go.Proofs.Ytfmidekffcjbgaa
open Go.RowKit Go.Sort
namespace Rxc
open Rx Rnw
/-- A row of numbers of one's own, not longer than its capacity. -/
def IC (N : List Int) (lo hi : Nat) (v : Value) (w : World) : Prop := IB N lo hi v w ∧ ∃ a c, v = .slice a N.length c ∧ N.length ≤ c
theorem IC.at {N : List Int} {lo hi : Nat} {v : Value} {w : World} (h : IC N lo hi v w) : InAt w w.heap.size v N := IB.at h.1
theorem IC.below {N : List Int} {lo hi : Nat} {v : Value} {w w' : World} (h : IC N lo hi v w) (hb : Below w.heap.size w w') : IC N lo hi v w' := ⟨IB.below h.1 hb, h.2⟩
theorem IC.wide {N : List Int} {lo lo' hi hi' : Nat} {v : Value} {w : World} (h : IC N lo hi v w) (h1 : lo' ≤ lo) (h2 : hi ≤ hi') : IC N lo' hi' v w := ⟨Rx.IB.wide h.1 h1 h2, h.2⟩
theorem IC.set {N : List Int} {lo hi b o : Nat} {v u : Value} {w : World} (h : IC N lo hi v w) (hd : b < lo ∨ hi ≤ b) : IC N lo hi v (w.setCell ⟨b, o, none⟩ u) := ⟨Rx.IB.set h.1 hd, h.2⟩
theorem ic_nil (lo hi : Nat) (w : World) : IC [] lo hi (.slice none 0 0) w := ⟨⟨none, 0, rfl, .inl rfl⟩, none, 0, rfl, Nat.le_refl _⟩
theorem ic_own {w : World} {base : Nat} {v : Value} {N : List Int} (h : IOwn w base v N) : IC N base w.heap.size v w := by
  refine ⟨IOwn.ib h, ?_⟩
  rcases h.2 with ⟨hv, h0⟩ | ⟨g, cap, cur, hv, _, _, hnc, _⟩
  · exact ⟨none, 0, by rw [hv, h0], by omega⟩
  · exact ⟨_, cap, hv, hnc⟩
/-- What ranOn answers. -/
def OnPost (A : Rn) (lo : Nat) (w : World) (e : Ending) (w' : World) : Prop := ∃ v', e = .returned (ranV A.1 A.2.1 v') ∧ IC A.2.2 lo w'.heap.size v' w' ∧ Below w.heap.size w w'

section
variable (out : ByteArray) (R : List Int) (vR vI vO : Value) (I : List ByteArray) (O : List Bool) (n a b : Int) (t : ByteArray) (lo : Nat) (w : World)

set_option maxRecDepth 100000 in
set_option maxHeartbeats 4000000 in
theorem on_shut (hO5 : O.length ≤ 5) (ha : 0 ≤ a ∧ a < (O.length : Int)) (hr : rd (n, a, b, t) = true) (hs : O.getD a.toNat false = false) (hO : Obl.BoAt w w.heap.size vO O) (hR : IC R lo w.heap.size vR w) :
    Calls Try.prog 46 #[ranV 0 out vR, line n a b t, vI, vO] w (OnPost (2, out, R) lo w) := by
  obtain ⟨j, rfl⟩ : ∃ j : Nat, a = (j : Int) := ⟨a.toNat, by omega⟩
  have hlt : j < O.length := by omega
  have hv : O[j] = false := by
    have h2 := hs
    rw [Int.toNat_natCast, List.getD_eq_getElem?_getD, List.getElem?_eq_getElem hlt] at h2
    exact h2
  obtain ⟨ra, rc, rfl, x1⟩ := id hR.1
  clear x1
  obtain ⟨oa, oc, rfl, hO⟩ := hO
  rcases hO with h | ⟨bO, oO, rfl, hB, hc⟩
  · subst h
    exact absurd hlt (by simp)
  have e0 := hc j hlt
  rw [hv] at e0
  obtain ⟨b0, r0, l0, q0⟩ := boxed_facts w 0 out (.slice ra R.length rc) n j b t
  have K := Lib.hid fun V => readsInput_any n j b t V
  rw [hr] at K
  have HF := Lib.hid (And.intro b0 (And.intro r0 (And.intro l0 q0)))
  have HR := Lib.hid hR
  clear hc hv b0 r0 l0 q0 hR hr hs
  have i0 : (0 : Int) ≤ (j : Int) := by omega
  have i1 : (j : Int) < (O.length : Int) := by omega
  go_enter Try.func46, Try.ntmps46
  go_wp2_with fail
  refine (K.out _).mono ?_
  rintro e w1 ⟨rfl, hb⟩
  obtain ⟨b0, r0, l0, q0⟩ := HF.out
  have b1 := b0.trans (hb.mono b0.size)
  obtain ⟨c0, c1, c2, f0, f1, f2⟩ := (r0.below hb).cells
  obtain ⟨d0, d1, d2, d3⟩ := (l0.below hb).cells
  obtain ⟨g0, g1, g2, h0, h1, h2⟩ := (q0.below hb).cells
  have k0 := (b1.cell (p := ⟨bO, oO + j, none⟩) hB).trans e0
  have z1 : w.heap.size + 1 + 1 + 1 ≤ w1.heap.size := by have := hb.size; simp at this; omega
  have HR1 := Lib.hid (HR.out.below b1)
  clear hb b0 r0 l0 q0 e0
  go_wp2_with fail
  exact bodyPost_ret (v := ranV 2 out (.slice ra R.length rc)) (by simp [results, Try.results46, go_sem, *]) rfl
    ⟨_, rfl, IC.wide (IC.set (IC.set (IC.set (IC.set HR1.out (.inr (by omega))) (.inr (by omega))) (.inr (by omega))) (.inr (by omega))) (Nat.le_refl _) (by simp [World.setCell]; omega), by go_grown⟩

set_option maxRecDepth 100000 in
set_option maxHeartbeats 8000000 in
theorem on_read (hlo : lo ≤ w.heap.size) (hI5 : I.length ≤ 5) (hq : ∀ q ∈ I, q.size ≤ 40) (hok : LOk (n, a, b, t) I.length) (ho : out.size ≤ 40) (hI : Obl.StAt w w.heap.size vI I) (hR : IC R lo w.heap.size vR w) (hO5 : O.length ≤ 5) (hRl : R.length ≤ 900) (ha : 0 ≤ a ∧ a < (O.length : Int)) (hIO : O.length = I.length) (hs : O.getD a.toNat false = true) (hO : Obl.BoAt w w.heap.size vO O) (hn : n = 0 ∨ n = 2 ∨ n = 5) (hm : n = 5 → mkd (inp I (n, a, b, t)) = false) :
    Calls Try.prog 46 #[ranV 0 out vR, line n a b t, vI, vO] w (OnPost (if 40 < (nxt I (n, a, b, t) out).size then 3 else 0, nxt I (n, a, b, t) out, addR R a) lo w) := by
  obtain ⟨j, rfl⟩ : ∃ j : Nat, a = (j : Int) := ⟨a.toNat, by omega⟩
  have hlt : j < O.length := by omega
  have hv : O[j] = true := by
    have h2 := hs
    rw [Int.toNat_natCast, List.getD_eq_getElem?_getD, List.getElem?_eq_getElem hlt] at h2
    exact h2
  obtain ⟨ra, rc, rfl, x1⟩ := id hR.1
  clear x1
  obtain ⟨oa, oc, rfl, hO⟩ := hO
  rcases hO with h | ⟨bO, oO, rfl, hB, hc⟩
  · subst h
    exact absurd hlt (by simp)
  have e0 := hc j hlt
  rw [hv] at e0
  have hltI : j < I.length := by omega
  obtain ⟨ti, hti⟩ : ∃ ti, I[j] = ti := ⟨_, rfl⟩
  have hIx : I[j]? = some ti := by rw [List.getElem?_eq_getElem hltI, hti]
  have HI := Lib.hid hI
  obtain ⟨ia, ic, rfl, hI⟩ := hI
  rcases hI with h | ⟨bI, oI, rfl, hBI, hcI⟩
  · subst h
    exact absurd hltI (by simp)
  have e1 := hcI j hltI
  rw [hti] at e1
  clear hcI hti
  obtain ⟨b0, r0, l0, q0⟩ := boxed_facts w 0 out (.slice ra R.length rc) n j b t
  have K := Lib.hid fun V => readsInput_any n j b t V
  have HF := Lib.hid (And.intro b0 (And.intro r0 (And.intro l0 q0)))
  have HR := Lib.hid hR
  have KB := Lib.hid (fun V (g : Below w.heap.size w V) => textBehind_any _ I n j b t out V hok hI5 hq ho (HI.out.stepAt g))
  have KM := Lib.hid fun V => isMarked_any ti V
  have hin : inp I (n, (j : Int), b, t) = ti := inp_at hIx
  rw [hin] at hm
  have HIx := Lib.hid hIx
  have i2 : (j : Int) < (I.length : Int) := by omega
  clear hin hIx
  have i0 : (0 : Int) ≤ (j : Int) := by omega
  have i1 : (j : Int) < (O.length : Int) := by omega
  clear hc hv hs hIO ha
  clear b0 r0 l0 q0 hR hok hq
  obtain ⟨o2, ho2⟩ : ∃ o2, nxt I (n, (j : Int), b, t) out = o2 := ⟨_, rfl⟩
  rw [ho2] at KB ⊢
  clear ho2
  obtain ⟨code, hcode⟩ : ∃ code : Int, (if 40 < o2.size then 3 else 0) = code := ⟨_, rfl⟩
  rw [hcode]
  have KR : Hid (∀ V, Calls Try.prog 60 #[line n j b t] V fun e w' => e = .returned (.bool true) ∧ Below V.heap.size V w') := Lib.hid fun V => by
    have := K.out V
    rwa [show rd ((n, (j : Int), b, t) : Ln) = true from decide_eq_true (by dsimp only; omega)] at this
  clear K
  have hm5 : n = 5 → mkd ti = false := hm
  clear hm
  rcases hn with rfl | rfl | rfl
  all_goals
    (try (rw [hm5 rfl] at KM))
    clear hm5
    go_enter Try.func46, Try.ntmps46
    go_wp2_with fail
    refine (KR.out _).mono ?_
    rintro e w1 ⟨rfl, hb⟩
    obtain ⟨b0, r0, l0, q0⟩ := HF.out
    have b1 := b0.trans (hb.mono b0.size)
    have R1 := r0.below hb
    have L1 := l0.below hb
    have Q1 := q0.below hb
    have z1 : w.heap.size + 1 + 1 + 1 ≤ w1.heap.size := by have := hb.size; simp at this; omega
    have HR1 := Lib.hid (HR.out.below b1)
    have k0 := (b1.cell (p := ⟨bO, oO + j, none⟩) hB).trans e0
    clear hb b0 r0 l0 q0
    have HC1 := Lib.hid (And.intro R1 (And.intro L1 Q1))
    obtain ⟨c0, c1, c2, f0, f1, f2⟩ := R1.cells
    obtain ⟨d0, d1, d2, d3⟩ := L1.cells
    clear R1 L1 Q1
    go_wp2_with fail
    refine (readsWith_any _ R j w1 (by omega) HR1.out.at).mono ?_
    rintro e w2 ⟨v2, rfl, ho2, hb⟩
    have I2 := ic_own ho2
    obtain ⟨va, vc, rfl, x2⟩ := id I2.1
    clear x2 ho2
    have b2 := b1.trans (hb.mono b1.size)
    have z2 := hb.size
    obtain ⟨R1, L1, Q1⟩ := HC1.out
    have R2 := R1.below hb
    have L2 := L1.below hb
    have Q2 := Q1.below hb
    have e12 := (b2.cell (p := ⟨bI, oI + j, none⟩) hBI).trans e1
    clear c0 c1 c2 f0 f1 f2 d0 d1 d2 d3 k0 R1 L1 Q1 hb b1
    obtain ⟨w3, hw3⟩ : ∃ V, V = w2.setCell ⟨w.heap.size, 2, none⟩ (.slice va (addR R (j : Int)).length vc) := ⟨_, rfl⟩
    have R3 : RnBlk w3 w.heap.size 0 out (.slice va (addR R (j : Int)).length vc) := by rw [hw3]; exact R2.set2
    have L3 := L2.other (k := w.heap.size) (x := 2) (u := .slice va (addR R (j : Int)).length vc) (by omega)
    rw [← hw3] at L3
    have Q3 : RnBlk w3 (w.heap.size + 1 + 1) 0 ⟨#[]⟩ (.slice none 0 0) := by rw [hw3]; exact Q2.other (by omega)
    have b3 : Below w.heap.size w w3 := by rw [hw3]; exact b2.setCell (by simp) _
    have I3 : IC (addR R (j : Int)) w1.heap.size w2.heap.size (.slice va (addR R (j : Int)).length vc) w3 := by rw [hw3]; exact IC.set I2 (.inl (by omega))
    have z3 : w2.heap.size ≤ w3.heap.size := by rw [hw3]; simp [World.setCell]
    have k1 := (b3.cell (p := ⟨bI, oI + j, none⟩) hBI).trans e1
    have HI3 := Lib.hid I3
    obtain ⟨c0, c1, c2, f0, f1, f2⟩ := R2.cells
    obtain ⟨d0, d1, d2, d3⟩ := L2.cells
    go_upto_region 6 with fail
    rw [← hw3]
    clear hw3 c0 c1 c2 f0 f1 f2 d0 d1 d2 d3 R2 L2 Q2 I2 I3 e12 b2
    have HC3 := Lib.hid (And.intro R3 (And.intro L3 Q3))
    obtain ⟨c0, c1, c2, f0, f1, f2⟩ := R3.cells
    obtain ⟨d0, d1, d2, d3⟩ := L3.cells
    clear R3 L3 Q3
    go_wp2_with (go_at_call 62; refine (KM.out _).mono ?_; rintro e wz ⟨rfl, rfl⟩)
    refine (KB.out w3 b3).mono ?_
    rintro e w4 ⟨rfl, hb⟩
    obtain ⟨R3, L3, Q3⟩ := HC3.out
    have b4 := b3.trans (hb.mono b3.size)
    have z4 := hb.size
    have HI4 := Lib.hid (HI3.out.below hb)
    have R4 := R3.below hb
    have Q4 := Q3.below hb
    clear c0 c1 c2 f0 f1 f2 d0 d1 d2 d3 R3 L3 Q3 hb b3
    obtain ⟨c0, c1, c2, f0, f1, f2⟩ := R4.cells
    obtain ⟨g0, g1, g2, h0, h1, h2⟩ := Q4.cells
    clear R4 Q4
    by_cases hl : 40 < o2.size
    · have hc3 : code = 3 := by rw [← hcode, if_pos hl]
      clear hcode
      subst hc3
      have hlI : (40 : Int) < (o2.size : Int) := by omega
      go_wp2_with fail
      exact bodyPost_ret (v := ranV 3 o2 (.slice va (addR R (j : Int)).length vc)) (by simp [results, Try.results46, go_sem, *]) rfl
        ⟨_, rfl, IC.wide (IC.set (IC.set (IC.set (IC.set (IC.set HI4.out (.inl (by omega))) (.inl (by omega))) (.inl (by omega))) (.inl (by omega))) (.inl (by omega))) (by omega) (by simp [World.setCell]; omega), by go_grown⟩
    · have hc3 : code = 0 := by rw [← hcode, if_neg hl]
      clear hcode
      subst hc3
      have hlI : ¬ (40 : Int) < (o2.size : Int) := by omega
      go_wp2_with fail
      exact bodyPost_ret (v := ranV 0 o2 (.slice va (addR R (j : Int)).length vc)) (by simp [results, Try.results46, go_sem, *]) rfl
        ⟨_, rfl, IC.wide (IC.set (IC.set (IC.set (IC.set HI4.out (.inl (by omega))) (.inl (by omega))) (.inl (by omega))) (.inl (by omega))) (by omega) (by simp [World.setCell]; omega), by go_grown⟩

set_option maxRecDepth 100000 in
set_option maxHeartbeats 8000000 in
theorem on_mark (hlo : lo ≤ w.heap.size) (hI5 : I.length ≤ 5) (hq : ∀ q ∈ I, q.size ≤ 40) (hok : LOk (n, a, b, t) I.length) (_ho : out.size ≤ 40) (hI : Obl.StAt w w.heap.size vI I) (hR : IC R lo w.heap.size vR w) (hO5 : O.length ≤ 5) (hRl : R.length ≤ 900) (ha : 0 ≤ a ∧ a < (O.length : Int)) (hIO : O.length = I.length) (hs : O.getD a.toNat false = true) (hO : Obl.BoAt w w.heap.size vO O) (hn : n = 5) (hm : mkd (inp I (n, a, b, t)) = true) :
    Calls Try.prog 46 #[ranV 0 out vR, line n a b t, vI, vO] w (OnPost (4, out, addR R a) lo w) := by
  obtain ⟨j, rfl⟩ : ∃ j : Nat, a = (j : Int) := ⟨a.toNat, by omega⟩
  have hlt : j < O.length := by omega
  have hv : O[j] = true := by
    have h2 := hs
    rw [Int.toNat_natCast, List.getD_eq_getElem?_getD, List.getElem?_eq_getElem hlt] at h2
    exact h2
  obtain ⟨ra, rc, rfl, x1⟩ := id hR.1
  clear x1
  obtain ⟨oa, oc, rfl, hO⟩ := hO
  rcases hO with h | ⟨bO, oO, rfl, hB, hc⟩
  · subst h
    exact absurd hlt (by simp)
  have e0 := hc j hlt
  rw [hv] at e0
  have hltI : j < I.length := by omega
  obtain ⟨ti, hti⟩ : ∃ ti, I[j] = ti := ⟨_, rfl⟩
  have hIx : I[j]? = some ti := by rw [List.getElem?_eq_getElem hltI, hti]
  have HI := Lib.hid hI
  obtain ⟨ia, ic, rfl, hI⟩ := hI
  rcases hI with h | ⟨bI, oI, rfl, hBI, hcI⟩
  · subst h
    exact absurd hltI (by simp)
  have e1 := hcI j hltI
  rw [hti] at e1
  clear hcI hti
  obtain ⟨b0, r0, l0, q0⟩ := boxed_facts w 0 out (.slice ra R.length rc) n j b t
  have K := Lib.hid fun V => readsInput_any n j b t V
  have HF := Lib.hid (And.intro b0 (And.intro r0 (And.intro l0 q0)))
  have HR := Lib.hid hR
  have KM := Lib.hid fun V => isMarked_any ti V
  have hin : inp I (n, (j : Int), b, t) = ti := inp_at hIx
  rw [hin] at hm
  have HIx := Lib.hid hIx
  have i2 : (j : Int) < (I.length : Int) := by omega
  clear hin hIx
  have i0 : (0 : Int) ≤ (j : Int) := by omega
  have i1 : (j : Int) < (O.length : Int) := by omega
  clear hc hv hs hIO ha
  clear b0 r0 l0 q0 hR hok hq
  have KR : Hid (∀ V, Calls Try.prog 60 #[line n j b t] V fun e w' => e = .returned (.bool true) ∧ Below V.heap.size V w') := Lib.hid fun V => by
    have := K.out V
    rwa [show rd ((n, (j : Int), b, t) : Ln) = true from decide_eq_true (by dsimp only; omega)] at this
  clear K
  rw [hm] at KM
  subst hn
  all_goals
    clear hm
    go_enter Try.func46, Try.ntmps46
    go_wp2_with fail
    refine (KR.out _).mono ?_
    rintro e w1 ⟨rfl, hb⟩
    obtain ⟨b0, r0, l0, q0⟩ := HF.out
    have b1 := b0.trans (hb.mono b0.size)
    have R1 := r0.below hb
    have L1 := l0.below hb
    have Q1 := q0.below hb
    have z1 : w.heap.size + 1 + 1 + 1 ≤ w1.heap.size := by have := hb.size; simp at this; omega
    have HR1 := Lib.hid (HR.out.below b1)
    have k0 := (b1.cell (p := ⟨bO, oO + j, none⟩) hB).trans e0
    clear hb b0 r0 l0 q0
    have HC1 := Lib.hid (And.intro R1 (And.intro L1 Q1))
    obtain ⟨c0, c1, c2, f0, f1, f2⟩ := R1.cells
    obtain ⟨d0, d1, d2, d3⟩ := L1.cells
    clear R1 L1 Q1
    go_wp2_with fail
    refine (readsWith_any _ R j w1 (by omega) HR1.out.at).mono ?_
    rintro e w2 ⟨v2, rfl, ho2, hb⟩
    have I2 := ic_own ho2
    obtain ⟨va, vc, rfl, x2⟩ := id I2.1
    clear x2 ho2
    have b2 := b1.trans (hb.mono b1.size)
    have z2 := hb.size
    obtain ⟨R1, L1, Q1⟩ := HC1.out
    have R2 := R1.below hb
    have L2 := L1.below hb
    have Q2 := Q1.below hb
    have e12 := (b2.cell (p := ⟨bI, oI + j, none⟩) hBI).trans e1
    clear c0 c1 c2 f0 f1 f2 d0 d1 d2 d3 k0 R1 L1 Q1 hb b1
    obtain ⟨w3, hw3⟩ : ∃ V, V = w2.setCell ⟨w.heap.size, 2, none⟩ (.slice va (addR R (j : Int)).length vc) := ⟨_, rfl⟩
    have R3 : RnBlk w3 w.heap.size 0 out (.slice va (addR R (j : Int)).length vc) := by rw [hw3]; exact R2.set2
    have L3 := L2.other (k := w.heap.size) (x := 2) (u := .slice va (addR R (j : Int)).length vc) (by omega)
    rw [← hw3] at L3
    have Q3 : RnBlk w3 (w.heap.size + 1 + 1) 0 ⟨#[]⟩ (.slice none 0 0) := by rw [hw3]; exact Q2.other (by omega)
    have b3 : Below w.heap.size w w3 := by rw [hw3]; exact b2.setCell (by simp) _
    have I3 : IC (addR R (j : Int)) w1.heap.size w2.heap.size (.slice va (addR R (j : Int)).length vc) w3 := by rw [hw3]; exact IC.set I2 (.inl (by omega))
    have z3 : w2.heap.size ≤ w3.heap.size := by rw [hw3]; simp [World.setCell]
    have k1 := (b3.cell (p := ⟨bI, oI + j, none⟩) hBI).trans e1
    have HI3 := Lib.hid I3
    obtain ⟨c0, c1, c2, f0, f1, f2⟩ := R2.cells
    obtain ⟨d0, d1, d2, d3⟩ := L2.cells
    go_upto_region 6 with fail
    rw [← hw3]
    clear hw3 c0 c1 c2 f0 f1 f2 d0 d1 d2 d3 R2 L2 Q2 I2 I3 e12 b2
    have HC3 := Lib.hid (And.intro R3 (And.intro L3 Q3))
    obtain ⟨c0, c1, c2, f0, f1, f2⟩ := R3.cells
    obtain ⟨d0, d1, d2, d3⟩ := L3.cells
    obtain ⟨g0, g1, g2, h0, h1, h2⟩ := Q3.cells
    clear R3 L3 Q3
    go_wp2_with (go_at_call 62; refine (KM.out _).mono ?_; rintro e wz ⟨rfl, rfl⟩)
    exact bodyPost_ret (v := ranV 4 out (.slice va (addR R (j : Int)).length vc)) (by simp [results, Try.results46, go_sem, *]) rfl
      ⟨_, rfl, IC.wide (IC.set (IC.set (IC.set (IC.set HI3.out (.inl (by omega))) (.inl (by omega))) (.inl (by omega))) (.inl (by omega))) (by omega) (by simp [World.setCell]; omega), by go_grown⟩

set_option maxRecDepth 100000 in
set_option maxHeartbeats 8000000 in
theorem on_plain (hI5 : I.length ≤ 5) (hq : ∀ q ∈ I, q.size ≤ 40) (hok : LOk (n, a, b, t) I.length) (ho : out.size ≤ 40) (hI : Obl.StAt w w.heap.size vI I) (hR : IC R lo w.heap.size vR w) (hn : n = 1 ∨ n = 3 ∨ n = 4) :
    Calls Try.prog 46 #[ranV 0 out vR, line n a b t, vI, vO] w (OnPost (if 40 < (nxt I (n, a, b, t) out).size then 3 else 0, nxt I (n, a, b, t) out, R) lo w) := by
  obtain ⟨ra, rc, rfl, x1⟩ := id hR.1
  clear x1
  have HI := Lib.hid hI
  obtain ⟨b0, r0, l0, q0⟩ := boxed_facts w 0 out (.slice ra R.length rc) n a b t
  have K := Lib.hid fun V => readsInput_any n a b t V
  have HF := Lib.hid (And.intro b0 (And.intro r0 (And.intro l0 q0)))
  have HR := Lib.hid hR
  have KB := Lib.hid (fun V (g : Below w.heap.size w V) => textBehind_any _ I n a b t out V hok hI5 hq ho (HI.out.stepAt g))
  clear b0 r0 l0 q0 hR hok hq
  obtain ⟨o2, ho2⟩ : ∃ o2, nxt I (n, (a : Int), b, t) out = o2 := ⟨_, rfl⟩
  rw [ho2] at KB ⊢
  clear ho2
  obtain ⟨code, hcode⟩ : ∃ code : Int, (if 40 < o2.size then 3 else 0) = code := ⟨_, rfl⟩
  rw [hcode]
  have KR : Hid (∀ V, Calls Try.prog 60 #[line n a b t] V fun e w' => e = .returned (.bool false) ∧ Below V.heap.size V w') := Lib.hid fun V => by
    have := K.out V
    rwa [show rd ((n, a, b, t) : Ln) = false from decide_eq_false (by dsimp only; omega)] at this
  clear K
  rcases hn with rfl | rfl | rfl
  all_goals
    go_enter Try.func46, Try.ntmps46
    go_wp2_with fail
    refine (KR.out _).mono ?_
    rintro e w1 ⟨rfl, hb⟩
    obtain ⟨b0, r0, l0, q0⟩ := HF.out
    have b1 := b0.trans (hb.mono b0.size)
    have R1 := r0.below hb
    have L1 := l0.below hb
    have Q1 := q0.below hb
    have z1 : w.heap.size + 1 + 1 + 1 ≤ w1.heap.size := by have := hb.size; simp at this; omega
    have HR1 := Lib.hid (HR.out.below b1)
    clear hb b0 r0 l0 q0
    have HC3 := Lib.hid (And.intro R1 (And.intro L1 Q1))
    obtain ⟨c0, c1, c2, f0, f1, f2⟩ := R1.cells
    obtain ⟨d0, d1, d2, d3⟩ := L1.cells
    clear R1 L1 Q1
    have b3 := b1
    clear b1
    go_wp2_with fail
    refine (KB.out w1 b3).mono ?_
    rintro e w4 ⟨rfl, hb⟩
    obtain ⟨R3, L3, Q3⟩ := HC3.out
    have b4 := b3.trans (hb.mono b3.size)
    have z4 := hb.size
    have HI4 := Lib.hid (HR1.out.below hb)
    have R4 := R3.below hb
    have Q4 := Q3.below hb
    clear c0 c1 c2 f0 f1 f2 d0 d1 d2 d3 R3 L3 Q3 hb b3
    obtain ⟨c0, c1, c2, f0, f1, f2⟩ := R4.cells
    obtain ⟨g0, g1, g2, h0, h1, h2⟩ := Q4.cells
    clear R4 Q4
    by_cases hl : 40 < o2.size
    · have hc3 : code = 3 := by rw [← hcode, if_pos hl]
      clear hcode
      subst hc3
      have hlI : (40 : Int) < (o2.size : Int) := by omega
      go_wp2_with fail
      exact bodyPost_ret (v := ranV 3 o2 (.slice ra R.length rc)) (by simp [results, Try.results46, go_sem, *]) rfl
        ⟨_, rfl, IC.wide (IC.set (IC.set (IC.set (IC.set (IC.set HI4.out (.inr (by omega))) (.inr (by omega))) (.inr (by omega))) (.inr (by omega))) (.inr (by omega))) (by omega) (by simp [World.setCell]; omega), by go_grown⟩
    · have hc3 : code = 0 := by rw [← hcode, if_neg hl]
      clear hcode
      subst hc3
      have hlI : ¬ (40 : Int) < (o2.size : Int) := by omega
      go_wp2_with fail
      exact bodyPost_ret (v := ranV 0 o2 (.slice ra R.length rc)) (by simp [results, Try.results46, go_sem, *]) rfl
        ⟨_, rfl, IC.wide (IC.set (IC.set (IC.set (IC.set HI4.out (.inr (by omega))) (.inr (by omega))) (.inr (by omega))) (.inr (by omega))) (by omega) (by simp [World.setCell]; omega), by go_grown⟩


theorem ranOn_any (hlo : lo ≤ w.heap.size) (hI5 : I.length ≤ 5) (hIO : O.length = I.length) (hq : ∀ q ∈ I, q.size ≤ 40) (hok : LOk (n, a, b, t) I.length) (ho : out.size ≤ 40) (hRl : R.length ≤ 900) (hI : Obl.StAt w w.heap.size vI I) (hO : Obl.BoAt w w.heap.size vO O) (hR : IC R lo w.heap.size vR w) :
    Calls Try.prog 46 #[ranV 0 out vR, line n a b t, vI, vO] w (OnPost (stp I O (n, a, b, t) out R) lo w) := by
  by_cases hr : n = 0 ∨ n = 2 ∨ n = 5
  · have hrd : rd ((n, a, b, t) : Ln) = true := decide_eq_true hr
    have ha : 0 ≤ a ∧ a < (O.length : Int) := by
      unfold LOk at hok
      dsimp only at hok
      omega
    rcases hs : O.getD a.toNat false
    · rw [stp_shut (x := (n, a, b, t)) hrd hs]
      exact on_shut out R vR vI vO O n a b t lo w (by omega) ha hrd hs hO hR
    · by_cases h5 : n = 5
      · rcases hm : mkd (inp I (n, a, b, t))
        · have h := on_read out R vR vI vO I O n a b t lo w hlo hI5 hq hok ho hI hR (by omega) hRl ha hIO hs hO hr (fun _ => hm)
          rw [stp_go (x := (n, a, b, t)) (fun _ => hs) (fun _ => hm), if_pos hrd]
          exact h
        · rw [stp_mark (x := (n, a, b, t)) h5 hs hm]
          exact on_mark out R vR vI vO I O n a b t lo w hlo hI5 hq hok ho hI hR (by omega) hRl ha hIO hs hO h5 hm
      · have h := on_read out R vR vI vO I O n a b t lo w hlo hI5 hq hok ho hI hR (by omega) hRl ha hIO hs hO hr (fun e => absurd e h5)
        rw [stp_go (x := (n, a, b, t)) (fun _ => hs) (fun e => absurd e h5), if_pos hrd]
        exact h
  · have hrd : rd ((n, a, b, t) : Ln) = false := decide_eq_false hr
    have hn : n = 1 ∨ n = 3 ∨ n = 4 := by
      unfold LOk at hok
      dsimp only at hok
      omega
    have h := on_plain out R vR vI vO I n a b t lo w hI5 hq hok ho hI hR hn
    rw [stp_go (x := (n, a, b, t)) (fun e => by rw [hrd] at e; cases e) (fun e => by dsimp only at e; omega), hrd]
    exact h
end
def RoomPost (A : Rn) (w : World) (e : Ending) (w' : World) : Prop := ∃ v, e = .returned (ranV A.1 A.2.1 v) ∧ IC A.2.2 w.heap.size w'.heap.size v w' ∧ Below w.heap.size w w'
/-- What the program's loop keeps. -/
def RRel (S : List Ln) (I : List ByteArray) (O : List Bool) (A : Rn) (w : World) (g7 : Nat) (i : Value) (wr : World) : Prop :=
  ∃ (k : Nat) (c : Int) (out : ByteArray) (R : List Int) (v : Value), i = .int .i64 (k : Int) ∧ k ≤ 21 ∧ RnBlk wr g7 c out v ∧ RnBlk wr w.heap.size 0 ⟨#[]⟩ (.slice none 0 0) ∧ IC R (g7 + 1) wr.heap.size v wr ∧ Below w.heap.size w wr ∧ R.length ≤ k + 1 ∧
    ((c = 0 ∧ out.size ≤ 40 ∧ R.length ≤ k ∧ run I O (S.drop k) out R = A) ∨ (c ≠ 0 ∧ A = (c, ByteArray.empty, R)))

theorem room_step {w w4 : World} {g6 g7 lo : Nat} {c xc : Int} {o xo : ByteArray} {v v4 : Value} {xR : List Int} (R7 : RnBlk w4 g7 c o v) (R6 : RnBlk w4 g6 0 ⟨#[]⟩ (.slice none 0 0)) (b4 : Below w.heap.size w w4) (hI : IC xR lo w4.heap.size v4 w4) (h67 : g6 < g7 ∧ g7 < lo) (hw : w.heap.size ≤ g7) :
    RnBlk (((w4.setCell ⟨g7, 0, none⟩ (.int .i64 xc)).setCell ⟨g7, 1, none⟩ (.string xo)).setCell ⟨g7, 2, none⟩ v4) g7 xc xo v4 ∧
    RnBlk (((w4.setCell ⟨g7, 0, none⟩ (.int .i64 xc)).setCell ⟨g7, 1, none⟩ (.string xo)).setCell ⟨g7, 2, none⟩ v4) g6 0 ⟨#[]⟩ (.slice none 0 0) ∧
    IC xR lo w4.heap.size v4 (((w4.setCell ⟨g7, 0, none⟩ (.int .i64 xc)).setCell ⟨g7, 1, none⟩ (.string xo)).setCell ⟨g7, 2, none⟩ v4) ∧
    Below w.heap.size w (((w4.setCell ⟨g7, 0, none⟩ (.int .i64 xc)).setCell ⟨g7, 1, none⟩ (.string xo)).setCell ⟨g7, 2, none⟩ v4) :=
  ⟨R7.set0.set1.set2, ((R6.other (by omega)).other (by omega)).other (by omega), IC.set (IC.set (IC.set hI (.inl h67.2)) (.inl h67.2)) (.inl h67.2), ((b4.setCell hw _).setCell hw _).setCell hw _⟩

section
variable (v u z : Value) (S : List Ln) (I : List ByteArray) (O : List Bool) (w : World)
set_option maxRecDepth 100000 in
set_option maxHeartbeats 4000000 in
theorem room_bad (hlS : S.length ≤ 1048576) (hqS : ∀ q ∈ S, q.2.2.2.size ≤ 1048576) (hlI : I.length ≤ 1048576) (hqI : ∀ q ∈ I, q.size ≤ 1048576) (_hlO : O.length ≤ 1048576) (hS : LnAt w w.heap.size v S) (hI : Obl.StAt w w.heap.size u I) (hO : Obl.BoAt w w.heap.size z O)
    (hb : (thOk I = false ∨ scOk S I.length = false ∨ O.length ≠ I.length)) :
    Calls Try.prog 17 #[v, u, z] w (RoomPost (1, ⟨#[]⟩, []) w) := by
  have b0 := (Below.refl w.heap.size w).alloc (Nat.le_refl _) (box1 0 ⟨#[]⟩ (.slice none 0 0))
  have r0 := RnBlk.new w 0 ⟨#[]⟩ (.slice none 0 0)
  have KT := Lib.hid (fun V (g : Below w.heap.size w V) => implThingsOk_any u I V hlI hqI (hI.stepAt g))
  have KS := Lib.hid (fun V (g : Below w.heap.size w V) => implScriptOk_any v S I.length V hlS hqS (hS.stepAt g))
  have HR := Lib.hid (And.intro b0 r0)
  obtain ⟨a0, c0, rfl, x0⟩ := id hS
  obtain ⟨a1, c1, rfl, x1⟩ := id hI
  obtain ⟨a2, c2, rfl, x2⟩ := id hO
  clear x0 x1 x2 hS hI hO hqS hqI b0 r0
  rcases ht : thOk I
  · rw [ht] at KT
    clear ht hb KS
    go_enter Try.func17, Try.ntmps17
    go_wp2_with fail
    refine (KT.out _ HR.out.1).mono ?_
    rintro e w1 ⟨rfl, hb⟩
    have b1 := HR.out.1.trans (hb.mono HR.out.1.size)
    have R1 := HR.out.2.below hb
    obtain ⟨e0, e1, e2, f0, f1, f2⟩ := R1.cells
    clear hb R1
    go_wp2_with fail
    exact bodyPost_ret (v := ranV 1 ⟨#[]⟩ (.slice none 0 0)) (by simp [results, Try.results17, go_sem, *]) rfl ⟨_, rfl, ic_nil _ _ _, by go_grown⟩
  rw [ht] at KT
  rcases hs : scOk S I.length
  · rw [hs] at KS
    clear ht hb hs
    go_enter Try.func17, Try.ntmps17
    go_wp2_with fail
    refine (KT.out _ HR.out.1).mono ?_
    rintro e w1 ⟨rfl, hb⟩
    have b1 := HR.out.1.trans (hb.mono HR.out.1.size)
    have R1 := HR.out.2.below hb
    clear hb
    go_wp2_with fail
    refine (KS.out _ b1).mono ?_
    rintro e w2 ⟨rfl, hb⟩
    have b2 := b1.trans (hb.mono b1.size)
    have R2 := R1.below hb
    obtain ⟨e0, e1, e2, f0, f1, f2⟩ := R2.cells
    clear hb R1 R2 b1
    go_wp2_with fail
    exact bodyPost_ret (v := ranV 1 ⟨#[]⟩ (.slice none 0 0)) (by simp [results, Try.results17, go_sem, *]) rfl ⟨_, rfl, ic_nil _ _ _, by go_grown⟩
  have hlen : O.length ≠ I.length := by
    rcases hb with h | h | h
    · rw [ht] at h; cases h
    · rw [hs] at h; cases h
    · exact h
  rw [hs] at KS
  have hz : ((O.length : Int) != (I.length : Int)) = true := by rw [bne_iff_ne]; omega
  clear ht hb hs hlen
  go_enter Try.func17, Try.ntmps17
  go_wp2_with fail
  refine (KT.out _ HR.out.1).mono ?_
  rintro e w1 ⟨rfl, hb⟩
  have b1 := HR.out.1.trans (hb.mono HR.out.1.size)
  have R1 := HR.out.2.below hb
  clear hb
  go_wp2_with fail
  refine (KS.out _ b1).mono ?_
  rintro e w2 ⟨rfl, hb⟩
  have b2 := b1.trans (hb.mono b1.size)
  have R2 := R1.below hb
  obtain ⟨e0, e1, e2, f0, f1, f2⟩ := R2.cells
  clear hb R1 R2 b1
  go_wp2_with fail
  exact bodyPost_ret (v := ranV 1 ⟨#[]⟩ (.slice none 0 0)) (by simp [results, Try.results17, go_sem, *]) rfl ⟨_, rfl, ic_nil _ _ _, by go_grown⟩

set_option maxRecDepth 100000 in
set_option maxHeartbeats 16000000 in
theorem room_good (hlS : S.length ≤ 1048576) (hqS : ∀ q ∈ S, q.2.2.2.size ≤ 1048576) (hlI : I.length ≤ 1048576) (hqI : ∀ q ∈ I, q.size ≤ 1048576) (hS : LnAt w w.heap.size v S) (hI : Obl.StAt w w.heap.size u I) (hO : Obl.BoAt w w.heap.size z O)
    (ht : thOk I = true) (hs : scOk S I.length = true) (hIO : O.length = I.length) :
    Calls Try.prog 17 #[v, u, z] w (RoomPost (run I O S ⟨#[]⟩ []) w) := by
  have b0 := (Below.refl w.heap.size w).alloc (Nat.le_refl _) (box1 0 ⟨#[]⟩ (.slice none 0 0))
  have r0 := RnBlk.new w 0 ⟨#[]⟩ (.slice none 0 0)
  have KT := Lib.hid (fun V (g : Below w.heap.size w V) => implThingsOk_any u I V hlI hqI (hI.stepAt g))
  have KS := Lib.hid (fun V (g : Below w.heap.size w V) => implScriptOk_any v S I.length V hlS hqS (hS.stepAt g))
  have HR := Lib.hid (And.intro b0 r0)
  rw [ht] at KT
  rw [hs] at KS
  have hI5 := thOk_len ht
  have hq40 := thOk_at ht
  have hS10 := scOk_len hs
  have HL := Lib.hid (fun (k : Nat) (x : Ln) (hx : S[k]? = some x) => scOk_at hs hx)
  have KO := Lib.hid (fun (out : ByteArray) (R : List Int) (vR : Value) (n a b : Int) (t : ByteArray) (lo : Nat) V (g : Below w.heap.size w V) (h1 : lo ≤ V.heap.size) (h2 : LOk (n, a, b, t) I.length) (h3 : out.size ≤ 40) (h4 : R.length ≤ 900) (h5 : IC R lo V.heap.size vR V) =>
    ranOn_any out R vR u z I O n a b t lo V h1 hI5 hIO hq40 h2 h3 h4 (hI.stepAt g) (hO.stepAt g) h5)
  have KP := Lib.hid (fun (n a b : Int) (t : ByteArray) V (g : Below w.heap.size w V) (h2 : LOk (n, a, b, t) I.length) => linesPassed_any u I n a b t V h2 hI5 (hI.stepAt g))
  have HS := Lib.hid hS
  obtain ⟨a0, c0, rfl, x0⟩ := id hS
  obtain ⟨a1, c1, rfl, x1⟩ := id hI
  obtain ⟨a2, c2, rfl, x2⟩ := id hO
  have hz : ((I.length : Int) != (I.length : Int)) = false := by simp
  obtain ⟨A, hA⟩ : ∃ A, run I O S ⟨#[]⟩ [] = A := ⟨_, rfl⟩
  have HA := Lib.hid hA
  rw [hIO] at KO
  rw [hA, hIO]
  clear x1 x2 hS hI hO hqS hqI b0 r0 ht hs hIO hq40 hA
  go_enter Try.func17, Try.ntmps17
  go_wp2_with fail
  refine (KT.out _ HR.out.1).mono ?_
  rintro e w1 ⟨rfl, hb⟩
  have b1 := HR.out.1.trans (hb.mono HR.out.1.size)
  have R1 := HR.out.2.below hb
  clear hb
  go_wp2_with fail
  refine (KS.out _ b1).mono ?_
  rintro e w2 ⟨rfl, hb⟩
  have b2 := b1.trans (hb.mono b1.size)
  have R2 := R1.below hb
  have HST := Lib.hid (show RRel S I O A w w2.heap.size (.int .i64 0) (w2.alloc (box1 0 ⟨#[]⟩ (.slice none 0 0))) from
    ⟨0, 0, ⟨#[]⟩, [], .slice none 0 0, rfl, by omega, RnBlk.new w2 0 _ _, R2.alloc _, ic_nil _ _ _, b2.alloc b2.size _, by simp, .inl ⟨rfl, by show 0 ≤ 40; omega, Nat.le_refl _, HA.out⟩⟩)
  have z2 := b2.size
  have g67 : w.heap.size < w2.heap.size := R2.lt
  clear hb R1 b1 R2
  go_wp2_with fail
  go_loopw [8] (fun i wr => RRel S I O A w w2.heap.size i wr) (fun i _ => 30 - (intOf i).toNat)
  case atStart => exact HST.out
  case round =>
    obtain ⟨k, c, out, R, vv, rfl, hk, hr7, hr6, hrow, hb, hRl, hst⟩ := hrel
    obtain ⟨ra, rc, rfl, xx⟩ := id hrow.1
    clear xx
    by_cases hlt : k < S.length
    · have i1 : (k : Int) < (S.length : Int) := by omega
      have i0 : (0 : Int) ≤ (k : Int) := by omega
      rcases hst with ⟨rfl, ho, hRk, hrun⟩ | ⟨hc, hAA⟩
      · rcases x0 with h | ⟨bS, oS, rfl, hB, hcS⟩
        · subst h
          exact absurd hlt (by simp)
        obtain ⟨n, a, b, t, hxy⟩ : ∃ n a b t, S[k] = (n, a, b, t) := ⟨_, _, _, _, rfl⟩
        have hx : S[k]? = some (n, a, b, t) := by rw [List.getElem?_eq_getElem hlt, hxy]
        have hok := HL.out _ _ hx
        have hsk := skp_le (I := I) hok
        have HC := Lib.hid (hcS k hlt)
        rw [hxy] at HC
        have m := HC.out.below hb hB
        obtain ⟨e0, e1, e2, e3⟩ := m
        simp only at e0 e1 e2 e3
        have zb := hb.size
        have K : Hid (∀ V, (V = wr ∨ V = wr.drew) → Calls Try.prog 46 #[ranV 0 out (.slice ra R.length rc), line n a b t, .slice a1 I.length c1, .slice a2 I.length c2] V (OnPost (stp I O (n, a, b, t) out R) (w2.heap.size + 1) V)) := Lib.hid fun V hV => by
          rcases hV with rfl | rfl
          · exact KO.out out R _ n a b t (w2.heap.size + 1) _ hb hr7.lt hok ho (by omega) hrow
          · exact KO.out out R _ n a b t (w2.heap.size + 1) wr.drew ⟨hb.os, hb.tape, hb.output, hb.size, hb.block⟩ hr7.lt hok ho (by omega) hrow
        have KPP := Lib.hid (fun V g => KP.out n a b t V g hok)
        have HB := Lib.hid hb
        have H67 := Lib.hid (And.intro hr7 hr6)
        obtain ⟨p0, p1, p2, f0, f1, f2⟩ := hr7.cells
        have hsl := stp_len (I := I) (O := O) (x := (n, a, b, t)) (out := out) (R := R)
        have hss : (stp I O (n, a, b, t) out R).1 = 0 → (stp I O (n, a, b, t) out R).2.1.size ≤ 40 := stp_small
        have HN : Hid ((stp I O (n, a, b, t) out R).1 = 0 → run I O (S.drop (k + 1 + skp I (n, a, b, t))) (stp I O (n, a, b, t) out R).2.1 (stp I O (n, a, b, t) out R).2.2 = A) := Lib.hid fun e => by rw [← run_on hx e]; exact hrun
        have HE : Hid ((stp I O (n, a, b, t) out R).1 ≠ 0 → A = ((stp I O (n, a, b, t) out R).1, ByteArray.empty, (stp I O (n, a, b, t) out R).2.2)) := Lib.hid fun e => by rw [← run_end hx e]; exact hrun.symm
        have HH := Lib.hid hss
        have HLN := Lib.hid hsl
        generalize stp I O (n, a, b, t) out R = X at *
        obtain ⟨sk, hske⟩ : ∃ sk, skp I (n, a, b, t) = sk := ⟨_, rfl⟩
        rw [hske] at KPP HN hsk
        obtain ⟨xc, xo, xR⟩ := X
        simp only at HN HE HH HLN
        clear hxy hx hok hrow hr7 hr6 hb hrun hcS hss hsl hske ho
        go_wp2_with fail
        go_region_with ((go_at_call 46; refine (K.out _ (by first | exact .inl rfl | exact .inr rfl)).mono ?_; rintro e w4 ⟨v4, rfl, hI4, hb4'⟩; have hb4 : Below wr.heap.size wr w4 := ⟨hb4'.os, hb4'.tape, hb4'.output, hb4'.size, hb4'.block⟩; clear hb4'; obtain ⟨ya, yc, rfl, x4⟩ := id hI4.1; clear x4; have H4 := Lib.hid (And.intro hI4 hb4); obtain ⟨q0, q1, q2, h0, h1, h2⟩ := (H67.out.1.below hb4).cells; clear hI4 hb4))
        all_goals
          have hb4 := H4.out.2
          have b4 := HB.out.trans (hb4.mono zb)
          have R7 := H67.out.1.below hb4
          have R6 := H67.out.2.below hb4
          have HW := Lib.hid (room_step (lo := w2.heap.size + 1) (xc := xc) (xo := xo) R7 R6 b4 H4.out.1 (by omega) (by omega))
          obtain ⟨k0, k1, k2, k3⟩ := HC.out.below b4 hB
          simp only at k0 k1 k2 k3
          have z4 := b4.size
          have hne : bS ≠ w2.heap.size := by omega
          have HB4 := Lib.hid b4
          clear hb4 b4 R7 R6 e0 e1 e2 e3 p0 p1 p2 f0 f1 f2
          go_wp2_with fail
          refine (KPP.out _ HW.out.2.2.2).mono ?_
          rintro e w5 ⟨rfl, hb5⟩
          have HR5 := Lib.hid (show RRel S I O A w w2.heap.size (.int .i64 ((k + 1 + sk : Nat) : Int)) w5 from
            ⟨k + 1 + sk, xc, xo, xR, _, rfl, by omega, HW.out.1.below hb5, HW.out.2.1.below hb5, IC.wide (IC.below HW.out.2.2.1 hb5) (Nat.le_refl _) (by have := hb5.size; simp [World.setCell] at this; omega), HW.out.2.2.2.trans (hb5.mono HW.out.2.2.2.size), by have := HLN.out; omega,
              by
                by_cases e : xc = 0
                · exact .inl ⟨e, HH.out e, by have := HLN.out; omega, HN.out e⟩
                · exact .inr ⟨e, HE.out e⟩⟩)
          clear hb5 q0 q1 q2 h0 h1 h2 k0 k1 k2 k3
          go_wp2_with fail
          go_roundw
          case rel => have h := HR5.out; rwa [show ((k + 1 + sk : Nat) : Int) = (k : Int) + (1 + (sk : Int)) by omega] at h
          case measure => simp [intOf]; omega
      · have hzc : (c == 0) = false := by rw [beq_eq_false_iff_ne]; exact hc
        have hzn : (c != 0) = true := by rw [bne_iff_ne]; exact hc
        have HAA := Lib.hid hAA
        have HI6 := Lib.hid hrow
        obtain ⟨p0, p1, p2, f0, f1, f2⟩ := hr7.cells
        obtain ⟨q0, q1, q2, g0, g1, g2⟩ := hr6.cells
        clear hrow hr7 hr6 hAA hc
        go_wp2_with fail
        exact bodyPost_ret (v := ranV c ⟨#[]⟩ (.slice ra R.length rc)) (by simp [results, Try.results17, go_sem, *]) rfl
          (by rw [HAA.out]; exact ⟨_, rfl, IC.wide (IC.set (IC.set (IC.set HI6.out (.inl (by omega))) (.inl (by omega))) (.inl (by omega))) (by omega) (by simp [World.setCell]), by go_grown⟩)
    · have i1 : ¬ (k : Int) < (S.length : Int) := by omega
      have HI6 := Lib.hid hrow
      obtain ⟨p0, p1, p2, f0, f1, f2⟩ := hr7.cells
      obtain ⟨q0, q1, q2, g0, g1, g2⟩ := hr6.cells
      clear hrow hr7 hr6
      rcases hst with ⟨rfl, ho, hRk, hrun⟩ | ⟨hc, hAA⟩
      · have HAA := Lib.hid (show A = (0, out, R) by rw [← hrun, List.drop_eq_nil_of_le (by omega), run_nil])
        clear hrun ho
        go_wp2_with fail
        exact bodyPost_ret (v := ranV 0 out (.slice ra R.length rc)) (by simp [results, Try.results17, go_sem, *]) rfl
          (by rw [HAA.out]; exact ⟨_, rfl, IC.wide (IC.set (IC.set (IC.set HI6.out (.inl (by omega))) (.inl (by omega))) (.inl (by omega))) (by omega) (by simp [World.setCell]), by go_grown⟩)
      · have hzc : (c == 0) = false := by rw [beq_eq_false_iff_ne]; exact hc
        have hzn : (c != 0) = true := by rw [bne_iff_ne]; exact hc
        have HAA := Lib.hid hAA
        clear hAA hc
        go_wp2_with fail
        exact bodyPost_ret (v := ranV c ⟨#[]⟩ (.slice ra R.length rc)) (by simp [results, Try.results17, go_sem, *]) rfl
          (by rw [HAA.out]; exact ⟨_, rfl, IC.wide (IC.set (IC.set (IC.set HI6.out (.inl (by omega))) (.inl (by omega))) (.inl (by omega))) (by omega) (by simp [World.setCell]), by go_grown⟩)

theorem implRoomRun_any (hlS : S.length ≤ 1048576) (hqS : ∀ q ∈ S, q.2.2.2.size ≤ 1048576) (hlI : I.length ≤ 1048576) (hqI : ∀ q ∈ I, q.size ≤ 1048576) (hlO : O.length ≤ 1048576) (hS : LnAt w w.heap.size v S) (hI : Obl.StAt w w.heap.size u I) (hO : Obl.BoAt w w.heap.size z O) :
    Calls Try.prog 17 #[v, u, z] w (RoomPost (roomR S I O) w) := by
  by_cases h : thOk I = true ∧ scOk S I.length = true ∧ O.length = I.length
  · rw [roomR_yes h.1 h.2.1 h.2.2]
    exact room_good v u z S I O w hlS hqS hlI hqI hS hI hO h.1 h.2.1 h.2.2
  · have hb : (thOk I = false ∨ scOk S I.length = false ∨ O.length ≠ I.length) := by
      rcases h1 : thOk I
      · exact .inl rfl
      · rcases h2 : scOk S I.length
        · exact .inr (.inl rfl)
        · exact .inr (.inr fun e => h ⟨h1, h2, e⟩)
    rw [roomR_no hb]
    exact room_bad v u z S I O w hlS hqS hlI hqI hlO hS hI hO hb
end
end Rxc
end Go.Proofs.Ytfmidekffcjbgaa
