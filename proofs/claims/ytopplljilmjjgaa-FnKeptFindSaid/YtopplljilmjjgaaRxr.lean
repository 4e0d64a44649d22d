/- The contract of the program's ranOn, over this seat's translation: what a run comes to by one more line is what stp tells; the row of what was read is the old one or a new one; nothing that was there before the call has changed. Conditions: the line is one for the inputs, the texts have at most 40 bytes. -/
import Derived.Test.YtopplljilmjjgaaRxq
import Derived.Deep.CutRange
namespace Go.Proofs.Ytopplljilmjjgaa
open Go.RowKit Go.Sort
namespace Rx
open Rnw
theorem IB.wide {N : List Int} {lo lo' hi hi' : Nat} {v : Value} {w : World} (h : IB N lo hi v w) (h1 : lo' ≤ lo) (h2 : hi ≤ hi') : IB N lo' hi' v w := by
  obtain ⟨a, cap, rfl, h⟩ := h
  refine ⟨_, _, rfl, ?_⟩
  rcases h with h | ⟨g, m, rfl, hk, k1, k2⟩
  · exact .inl h
  · exact .inr ⟨g, m, rfl, hk, by omega, by omega⟩
theorem IB.set {N : List Int} {lo hi b o : Nat} {v u : Value} {w : World} (h : IB N lo hi v w) (hd : b < lo ∨ hi ≤ b) : IB N lo hi v (w.setCell ⟨b, o, none⟩ u) :=
  h.kept fun g h1 h2 _ => Below.heap_setCell w ⟨b, o, none⟩ u g (by show g ≠ b; omega)
/-- What ranOn answers. -/
def OnPost (A : Rn) (lo : Nat) (w : World) (e : Ending) (w' : World) : Prop := ∃ v', e = .returned (ranV A.1 A.2.1 v') ∧ IB A.2.2 lo w'.heap.size v' w' ∧ Below w.heap.size w w'

/-- The three boxes of a call of ranOn. -/
abbrev box1 (c : Int) (o : ByteArray) (v : Value) : Obj := .cells #[.int .i64 c, .string o, v] 144
abbrev box2 (n a b : Int) (t : ByteArray) : Obj := .cells #[.int .i64 n, .int .i64 a, .int .i64 b, .string t] 99
abbrev boxed (w : World) (c : Int) (o : ByteArray) (v : Value) (n a b : Int) (t : ByteArray) : World := ((w.alloc (box1 c o v)).alloc (box2 n a b t)).alloc (box1 0 ⟨#[]⟩ (.slice none 0 0))
theorem boxed_facts (w : World) (c : Int) (o : ByteArray) (v : Value) (n a b : Int) (t : ByteArray) :
    Below w.heap.size w (boxed w c o v n a b t) ∧ RnBlk (boxed w c o v n a b t) w.heap.size c o v ∧ LnBx (boxed w c o v n a b t) (w.heap.size + 1) n a b t ∧ RnBlk (boxed w c o v n a b t) (w.heap.size + 1 + 1) 0 ⟨#[]⟩ (.slice none 0 0) := by
  refine ⟨(((Below.refl _ _).alloc (Nat.le_refl _) _).alloc (by simp) _).alloc (by simp; omega) _, ?_, ?_, ?_⟩
  · exact ((RnBlk.new w c o v).alloc _).alloc _
  · have := (LnBx.new (w.alloc (box1 c o v)) n a b t).alloc (box1 0 ⟨#[]⟩ (.slice none 0 0))
    rwa [show (w.alloc (box1 c o v)).heap.size = w.heap.size + 1 by simp] at this
  · have := RnBlk.new ((w.alloc (box1 c o v)).alloc (box2 n a b t)) 0 ⟨#[]⟩ (.slice none 0 0)
    rwa [show ((w.alloc (box1 c o v)).alloc (box2 n a b t)).heap.size = w.heap.size + 1 + 1 by simp] at this

theorem stp_shut {I : List ByteArray} {O : List Bool} {x : Ln} {out : ByteArray} {R : List Int} (h : rd x = true) (hO : O.getD x.2.1.toNat false = false) : stp I O x out R = (2, out, R) := by
  unfold stp
  rw [if_pos ⟨h, hO⟩]
theorem stp_mark {I : List ByteArray} {O : List Bool} {x : Ln} {out : ByteArray} {R : List Int} (h : x.1 = 5) (hO : O.getD x.2.1.toNat false = true) (hm : mkd (inp I x) = true) : stp I O x out R = (4, out, addR R x.2.1) := by
  have hr : rd x = true := decide_eq_true (.inr (.inr h))
  unfold stp
  rw [if_neg (by rw [hO]; simp)]
  dsimp only
  rw [if_pos ⟨h, hm⟩, if_pos hr]
theorem stp_go {I : List ByteArray} {O : List Bool} {x : Ln} {out : ByteArray} {R : List Int} (h : rd x = true → O.getD x.2.1.toNat false = true) (hm : x.1 = 5 → mkd (inp I x) = false) :
    stp I O x out R = (if 40 < (nxt I x out).size then 3 else 0, nxt I x out, if rd x then addR R x.2.1 else R) := by
  unfold stp
  rw [if_neg (fun e => by rw [h e.1] at e; simp at e)]
  dsimp only
  rw [if_neg (fun e => by rw [hm e.1] at e; simp at e)]
  split <;> rfl

section
variable (out : ByteArray) (R : List Int) (vR vI vO : Value) (I : List ByteArray) (O : List Bool) (n a b : Int) (t : ByteArray) (lo : Nat) (w : World)

set_option maxRecDepth 100000 in
set_option maxHeartbeats 4000000 in
theorem on_shut (hO5 : O.length ≤ 5) (ha : 0 ≤ a ∧ a < (O.length : Int)) (hr : rd (n, a, b, t) = true) (hs : O.getD a.toNat false = false) (hO : Obl.BoAt w w.heap.size vO O) (hR : IB R lo w.heap.size vR w) :
    Calls Try.prog 141 #[ranV 0 out vR, line n a b t, vI, vO] w (OnPost (2, out, R) lo w) := by
  obtain ⟨j, rfl⟩ : ∃ j : Nat, a = (j : Int) := ⟨a.toNat, by omega⟩
  have hlt : j < O.length := by omega
  have hv : O[j] = false := by
    have h2 := hs
    rw [Int.toNat_natCast, List.getD_eq_getElem?_getD, List.getElem?_eq_getElem hlt] at h2
    exact h2
  obtain ⟨ra, rc, rfl, x1⟩ := id hR
  clear x1
  obtain ⟨oa, oc, rfl, hO⟩ := hO
  rcases hO with h | ⟨bO, oO, rfl, hB, hc⟩
  · subst h
    exact absurd hlt (by simp)
  have e0 := hc j hlt
  rw [hv] at e0
  obtain ⟨b0, r0, l0, q0⟩ := boxed_facts w 0 out (.slice ra R.length rc) n j b t
  have K := Lib.hid fun V => readsInput_any n j b t V
  rw [hr] at K
  have HF := Lib.hid (And.intro b0 (And.intro r0 (And.intro l0 q0)))
  have HR := Lib.hid hR
  clear hc hv b0 r0 l0 q0 hR hr hs
  have i0 : (0 : Int) ≤ (j : Int) := by omega
  have i1 : (j : Int) < (O.length : Int) := by omega
  go_enter Try.func141, Try.ntmps141
  go_wp2_with fail
  refine (K.out _).mono ?_
  rintro e w1 ⟨rfl, hb⟩
  obtain ⟨b0, r0, l0, q0⟩ := HF.out
  have b1 := b0.trans (hb.mono b0.size)
  obtain ⟨c0, c1, c2, f0, f1, f2⟩ := (r0.below hb).cells
  obtain ⟨d0, d1, d2, d3⟩ := (l0.below hb).cells
  obtain ⟨g0, g1, g2, h0, h1, h2⟩ := (q0.below hb).cells
  have k0 := (b1.cell (p := ⟨bO, oO + j, none⟩) hB).trans e0
  have z1 : w.heap.size + 1 + 1 + 1 ≤ w1.heap.size := by have := hb.size; simp at this; omega
  have HR1 := Lib.hid (HR.out.below b1)
  clear hb b0 r0 l0 q0 e0
  go_wp2_with fail
  exact bodyPost_ret (v := ranV 2 out (.slice ra R.length rc)) (by simp [results, Try.results141, go_sem, *]) rfl
    ⟨_, rfl, IB.wide (IB.set (IB.set (IB.set (IB.set HR1.out (.inr (by omega))) (.inr (by omega))) (.inr (by omega))) (.inr (by omega))) (Nat.le_refl _) (by simp [World.setCell]; omega), by go_grown⟩

set_option maxRecDepth 100000 in
set_option maxHeartbeats 8000000 in
theorem on_read (hlo : lo ≤ w.heap.size) (hI5 : I.length ≤ 5) (hq : ∀ q ∈ I, q.size ≤ 40) (hok : LOk (n, a, b, t) I.length) (ho : out.size ≤ 40) (hI : Obl.StAt w w.heap.size vI I) (hR : IB R lo w.heap.size vR w) (hO5 : O.length ≤ 5) (hRl : R.length ≤ 900) (ha : 0 ≤ a ∧ a < (O.length : Int)) (hIO : O.length = I.length) (hs : O.getD a.toNat false = true) (hO : Obl.BoAt w w.heap.size vO O) (hn : n = 0 ∨ n = 2 ∨ n = 5) (hm : n = 5 → mkd (inp I (n, a, b, t)) = false) :
    Calls Try.prog 141 #[ranV 0 out vR, line n a b t, vI, vO] w (OnPost (if 40 < (nxt I (n, a, b, t) out).size then 3 else 0, nxt I (n, a, b, t) out, addR R a) lo w) := by
  obtain ⟨j, rfl⟩ : ∃ j : Nat, a = (j : Int) := ⟨a.toNat, by omega⟩
  have hlt : j < O.length := by omega
  have hv : O[j] = true := by
    have h2 := hs
    rw [Int.toNat_natCast, List.getD_eq_getElem?_getD, List.getElem?_eq_getElem hlt] at h2
    exact h2
  obtain ⟨ra, rc, rfl, x1⟩ := id hR
  clear x1
  obtain ⟨oa, oc, rfl, hO⟩ := hO
  rcases hO with h | ⟨bO, oO, rfl, hB, hc⟩
  · subst h
    exact absurd hlt (by simp)
  have e0 := hc j hlt
  rw [hv] at e0
  have hltI : j < I.length := by omega
  obtain ⟨ti, hti⟩ : ∃ ti, I[j] = ti := ⟨_, rfl⟩
  have hIx : I[j]? = some ti := by rw [List.getElem?_eq_getElem hltI, hti]
  have HI := Lib.hid hI
  obtain ⟨ia, ic, rfl, hI⟩ := hI
  rcases hI with h | ⟨bI, oI, rfl, hBI, hcI⟩
  · subst h
    exact absurd hltI (by simp)
  have e1 := hcI j hltI
  rw [hti] at e1
  clear hcI hti
  obtain ⟨b0, r0, l0, q0⟩ := boxed_facts w 0 out (.slice ra R.length rc) n j b t
  have K := Lib.hid fun V => readsInput_any n j b t V
  have HF := Lib.hid (And.intro b0 (And.intro r0 (And.intro l0 q0)))
  have HR := Lib.hid hR
  have KB := Lib.hid (fun V (g : Below w.heap.size w V) => textBehind_any _ I n j b t out V hok hI5 hq ho (HI.out.stepAt g))
  have KM := Lib.hid fun V => isMarked_any ti V
  have hin : inp I (n, (j : Int), b, t) = ti := inp_at hIx
  rw [hin] at hm
  have HIx := Lib.hid hIx
  have i2 : (j : Int) < (I.length : Int) := by omega
  clear hin hIx
  have i0 : (0 : Int) ≤ (j : Int) := by omega
  have i1 : (j : Int) < (O.length : Int) := by omega
  clear hc hv hs hIO ha
  clear b0 r0 l0 q0 hR hok hq
  obtain ⟨o2, ho2⟩ : ∃ o2, nxt I (n, (j : Int), b, t) out = o2 := ⟨_, rfl⟩
  rw [ho2] at KB ⊢
  clear ho2
  obtain ⟨code, hcode⟩ : ∃ code : Int, (if 40 < o2.size then 3 else 0) = code := ⟨_, rfl⟩
  rw [hcode]
  have KR : Hid (∀ V, Calls Try.prog 142 #[line n j b t] V fun e w' => e = .returned (.bool true) ∧ Below V.heap.size V w') := Lib.hid fun V => by
    have := K.out V
    rwa [show rd ((n, (j : Int), b, t) : Ln) = true from decide_eq_true (by dsimp only; omega)] at this
  clear K
  have hm5 : n = 5 → mkd ti = false := hm
  clear hm
  rcases hn with rfl | rfl | rfl
  all_goals
    (try (rw [hm5 rfl] at KM))
    clear hm5
    go_enter Try.func141, Try.ntmps141
    go_wp2_with fail
    refine (KR.out _).mono ?_
    rintro e w1 ⟨rfl, hb⟩
    obtain ⟨b0, r0, l0, q0⟩ := HF.out
    have b1 := b0.trans (hb.mono b0.size)
    have R1 := r0.below hb
    have L1 := l0.below hb
    have Q1 := q0.below hb
    have z1 : w.heap.size + 1 + 1 + 1 ≤ w1.heap.size := by have := hb.size; simp at this; omega
    have HR1 := Lib.hid (HR.out.below b1)
    have k0 := (b1.cell (p := ⟨bO, oO + j, none⟩) hB).trans e0
    clear hb b0 r0 l0 q0
    have HC1 := Lib.hid (And.intro R1 (And.intro L1 Q1))
    obtain ⟨c0, c1, c2, f0, f1, f2⟩ := R1.cells
    obtain ⟨d0, d1, d2, d3⟩ := L1.cells
    clear R1 L1 Q1
    go_wp2_with fail
    refine (readsWith_any _ R j w1 (by omega) HR1.out.at).mono ?_
    rintro e w2 ⟨v2, rfl, ho2, hb⟩
    have I2 := IOwn.ib ho2
    obtain ⟨va, vc, rfl, x2⟩ := id I2
    clear x2 ho2
    have b2 := b1.trans (hb.mono b1.size)
    have z2 := hb.size
    obtain ⟨R1, L1, Q1⟩ := HC1.out
    have R2 := R1.below hb
    have L2 := L1.below hb
    have Q2 := Q1.below hb
    have e12 := (b2.cell (p := ⟨bI, oI + j, none⟩) hBI).trans e1
    clear c0 c1 c2 f0 f1 f2 d0 d1 d2 d3 k0 R1 L1 Q1 hb b1
    obtain ⟨w3, hw3⟩ : ∃ V, V = w2.setCell ⟨w.heap.size, 2, none⟩ (.slice va (addR R (j : Int)).length vc) := ⟨_, rfl⟩
    have R3 : RnBlk w3 w.heap.size 0 out (.slice va (addR R (j : Int)).length vc) := by rw [hw3]; exact R2.set2
    have L3 := L2.other (k := w.heap.size) (x := 2) (u := .slice va (addR R (j : Int)).length vc) (by omega)
    rw [← hw3] at L3
    have Q3 : RnBlk w3 (w.heap.size + 1 + 1) 0 ⟨#[]⟩ (.slice none 0 0) := by rw [hw3]; exact Q2.other (by omega)
    have b3 : Below w.heap.size w w3 := by rw [hw3]; exact b2.setCell (by simp) _
    have I3 : IB (addR R (j : Int)) w1.heap.size w2.heap.size (.slice va (addR R (j : Int)).length vc) w3 := by rw [hw3]; exact IB.set I2 (.inl (by omega))
    have z3 : w2.heap.size ≤ w3.heap.size := by rw [hw3]; simp [World.setCell]
    have k1 := (b3.cell (p := ⟨bI, oI + j, none⟩) hBI).trans e1
    have HI3 := Lib.hid I3
    obtain ⟨c0, c1, c2, f0, f1, f2⟩ := R2.cells
    obtain ⟨d0, d1, d2, d3⟩ := L2.cells
    go_upto_region 6 with fail
    rw [← hw3]
    clear hw3 c0 c1 c2 f0 f1 f2 d0 d1 d2 d3 R2 L2 Q2 I2 I3 e12 b2
    have HC3 := Lib.hid (And.intro R3 (And.intro L3 Q3))
    obtain ⟨c0, c1, c2, f0, f1, f2⟩ := R3.cells
    obtain ⟨d0, d1, d2, d3⟩ := L3.cells
    clear R3 L3 Q3
    go_wp2_with (go_at_call 144; refine (KM.out _).mono ?_; rintro e wz ⟨rfl, rfl⟩)
    refine (KB.out w3 b3).mono ?_
    rintro e w4 ⟨rfl, hb⟩
    obtain ⟨R3, L3, Q3⟩ := HC3.out
    have b4 := b3.trans (hb.mono b3.size)
    have z4 := hb.size
    have HI4 := Lib.hid (HI3.out.below hb)
    have R4 := R3.below hb
    have Q4 := Q3.below hb
    clear c0 c1 c2 f0 f1 f2 d0 d1 d2 d3 R3 L3 Q3 hb b3
    obtain ⟨c0, c1, c2, f0, f1, f2⟩ := R4.cells
    obtain ⟨g0, g1, g2, h0, h1, h2⟩ := Q4.cells
    clear R4 Q4
    by_cases hl : 40 < o2.size
    · have hc3 : code = 3 := by rw [← hcode, if_pos hl]
      clear hcode
      subst hc3
      have hlI : (40 : Int) < (o2.size : Int) := by omega
      go_wp2_with fail
      exact bodyPost_ret (v := ranV 3 o2 (.slice va (addR R (j : Int)).length vc)) (by simp [results, Try.results141, go_sem, *]) rfl
        ⟨_, rfl, IB.wide (IB.set (IB.set (IB.set (IB.set (IB.set HI4.out (.inl (by omega))) (.inl (by omega))) (.inl (by omega))) (.inl (by omega))) (.inl (by omega))) (by omega) (by simp [World.setCell]; omega), by go_grown⟩
    · have hc3 : code = 0 := by rw [← hcode, if_neg hl]
      clear hcode
      subst hc3
      have hlI : ¬ (40 : Int) < (o2.size : Int) := by omega
      go_wp2_with fail
      exact bodyPost_ret (v := ranV 0 o2 (.slice va (addR R (j : Int)).length vc)) (by simp [results, Try.results141, go_sem, *]) rfl
        ⟨_, rfl, IB.wide (IB.set (IB.set (IB.set (IB.set HI4.out (.inl (by omega))) (.inl (by omega))) (.inl (by omega))) (.inl (by omega))) (by omega) (by simp [World.setCell]; omega), by go_grown⟩

set_option maxRecDepth 100000 in
set_option maxHeartbeats 8000000 in
theorem on_mark (hlo : lo ≤ w.heap.size) (hI5 : I.length ≤ 5) (hq : ∀ q ∈ I, q.size ≤ 40) (hok : LOk (n, a, b, t) I.length) (_ho : out.size ≤ 40) (hI : Obl.StAt w w.heap.size vI I) (hR : IB R lo w.heap.size vR w) (hO5 : O.length ≤ 5) (hRl : R.length ≤ 900) (ha : 0 ≤ a ∧ a < (O.length : Int)) (hIO : O.length = I.length) (hs : O.getD a.toNat false = true) (hO : Obl.BoAt w w.heap.size vO O) (hn : n = 5) (hm : mkd (inp I (n, a, b, t)) = true) :
    Calls Try.prog 141 #[ranV 0 out vR, line n a b t, vI, vO] w (OnPost (4, out, addR R a) lo w) := by
  obtain ⟨j, rfl⟩ : ∃ j : Nat, a = (j : Int) := ⟨a.toNat, by omega⟩
  have hlt : j < O.length := by omega
  have hv : O[j] = true := by
    have h2 := hs
    rw [Int.toNat_natCast, List.getD_eq_getElem?_getD, List.getElem?_eq_getElem hlt] at h2
    exact h2
  obtain ⟨ra, rc, rfl, x1⟩ := id hR
  clear x1
  obtain ⟨oa, oc, rfl, hO⟩ := hO
  rcases hO with h | ⟨bO, oO, rfl, hB, hc⟩
  · subst h
    exact absurd hlt (by simp)
  have e0 := hc j hlt
  rw [hv] at e0
  have hltI : j < I.length := by omega
  obtain ⟨ti, hti⟩ : ∃ ti, I[j] = ti := ⟨_, rfl⟩
  have hIx : I[j]? = some ti := by rw [List.getElem?_eq_getElem hltI, hti]
  have HI := Lib.hid hI
  obtain ⟨ia, ic, rfl, hI⟩ := hI
  rcases hI with h | ⟨bI, oI, rfl, hBI, hcI⟩
  · subst h
    exact absurd hltI (by simp)
  have e1 := hcI j hltI
  rw [hti] at e1
  clear hcI hti
  obtain ⟨b0, r0, l0, q0⟩ := boxed_facts w 0 out (.slice ra R.length rc) n j b t
  have K := Lib.hid fun V => readsInput_any n j b t V
  have HF := Lib.hid (And.intro b0 (And.intro r0 (And.intro l0 q0)))
  have HR := Lib.hid hR
  have KM := Lib.hid fun V => isMarked_any ti V
  have hin : inp I (n, (j : Int), b, t) = ti := inp_at hIx
  rw [hin] at hm
  have HIx := Lib.hid hIx
  have i2 : (j : Int) < (I.length : Int) := by omega
  clear hin hIx
  have i0 : (0 : Int) ≤ (j : Int) := by omega
  have i1 : (j : Int) < (O.length : Int) := by omega
  clear hc hv hs hIO ha
  clear b0 r0 l0 q0 hR hok hq
  have KR : Hid (∀ V, Calls Try.prog 142 #[line n j b t] V fun e w' => e = .returned (.bool true) ∧ Below V.heap.size V w') := Lib.hid fun V => by
    have := K.out V
    rwa [show rd ((n, (j : Int), b, t) : Ln) = true from decide_eq_true (by dsimp only; omega)] at this
  clear K
  rw [hm] at KM
  subst hn
  all_goals
    clear hm
    go_enter Try.func141, Try.ntmps141
    go_wp2_with fail
    refine (KR.out _).mono ?_
    rintro e w1 ⟨rfl, hb⟩
    obtain ⟨b0, r0, l0, q0⟩ := HF.out
    have b1 := b0.trans (hb.mono b0.size)
    have R1 := r0.below hb
    have L1 := l0.below hb
    have Q1 := q0.below hb
    have z1 : w.heap.size + 1 + 1 + 1 ≤ w1.heap.size := by have := hb.size; simp at this; omega
    have HR1 := Lib.hid (HR.out.below b1)
    have k0 := (b1.cell (p := ⟨bO, oO + j, none⟩) hB).trans e0
    clear hb b0 r0 l0 q0
    have HC1 := Lib.hid (And.intro R1 (And.intro L1 Q1))
    obtain ⟨c0, c1, c2, f0, f1, f2⟩ := R1.cells
    obtain ⟨d0, d1, d2, d3⟩ := L1.cells
    clear R1 L1 Q1
    go_wp2_with fail
    refine (readsWith_any _ R j w1 (by omega) HR1.out.at).mono ?_
    rintro e w2 ⟨v2, rfl, ho2, hb⟩
    have I2 := IOwn.ib ho2
    obtain ⟨va, vc, rfl, x2⟩ := id I2
    clear x2 ho2
    have b2 := b1.trans (hb.mono b1.size)
    have z2 := hb.size
    obtain ⟨R1, L1, Q1⟩ := HC1.out
    have R2 := R1.below hb
    have L2 := L1.below hb
    have Q2 := Q1.below hb
    have e12 := (b2.cell (p := ⟨bI, oI + j, none⟩) hBI).trans e1
    clear c0 c1 c2 f0 f1 f2 d0 d1 d2 d3 k0 R1 L1 Q1 hb b1
    obtain ⟨w3, hw3⟩ : ∃ V, V = w2.setCell ⟨w.heap.size, 2, none⟩ (.slice va (addR R (j : Int)).length vc) := ⟨_, rfl⟩
    have R3 : RnBlk w3 w.heap.size 0 out (.slice va (addR R (j : Int)).length vc) := by rw [hw3]; exact R2.set2
    have L3 := L2.other (k := w.heap.size) (x := 2) (u := .slice va (addR R (j : Int)).length vc) (by omega)
    rw [← hw3] at L3
    have Q3 : RnBlk w3 (w.heap.size + 1 + 1) 0 ⟨#[]⟩ (.slice none 0 0) := by rw [hw3]; exact Q2.other (by omega)
    have b3 : Below w.heap.size w w3 := by rw [hw3]; exact b2.setCell (by simp) _
    have I3 : IB (addR R (j : Int)) w1.heap.size w2.heap.size (.slice va (addR R (j : Int)).length vc) w3 := by rw [hw3]; exact IB.set I2 (.inl (by omega))
    have z3 : w2.heap.size ≤ w3.heap.size := by rw [hw3]; simp [World.setCell]
    have k1 := (b3.cell (p := ⟨bI, oI + j, none⟩) hBI).trans e1
    have HI3 := Lib.hid I3
    obtain ⟨c0, c1, c2, f0, f1, f2⟩ := R2.cells
    obtain ⟨d0, d1, d2, d3⟩ := L2.cells
    go_upto_region 6 with fail
    rw [← hw3]
    clear hw3 c0 c1 c2 f0 f1 f2 d0 d1 d2 d3 R2 L2 Q2 I2 I3 e12 b2
    have HC3 := Lib.hid (And.intro R3 (And.intro L3 Q3))
    obtain ⟨c0, c1, c2, f0, f1, f2⟩ := R3.cells
    obtain ⟨d0, d1, d2, d3⟩ := L3.cells
    obtain ⟨g0, g1, g2, h0, h1, h2⟩ := Q3.cells
    clear R3 L3 Q3
    go_wp2_with (go_at_call 144; refine (KM.out _).mono ?_; rintro e wz ⟨rfl, rfl⟩)
    exact bodyPost_ret (v := ranV 4 out (.slice va (addR R (j : Int)).length vc)) (by simp [results, Try.results141, go_sem, *]) rfl
      ⟨_, rfl, IB.wide (IB.set (IB.set (IB.set (IB.set HI3.out (.inl (by omega))) (.inl (by omega))) (.inl (by omega))) (.inl (by omega))) (by omega) (by simp [World.setCell]; omega), by go_grown⟩

set_option maxRecDepth 100000 in
set_option maxHeartbeats 8000000 in
theorem on_plain (hI5 : I.length ≤ 5) (hq : ∀ q ∈ I, q.size ≤ 40) (hok : LOk (n, a, b, t) I.length) (ho : out.size ≤ 40) (hI : Obl.StAt w w.heap.size vI I) (hR : IB R lo w.heap.size vR w) (hn : n = 1 ∨ n = 3 ∨ n = 4) :
    Calls Try.prog 141 #[ranV 0 out vR, line n a b t, vI, vO] w (OnPost (if 40 < (nxt I (n, a, b, t) out).size then 3 else 0, nxt I (n, a, b, t) out, R) lo w) := by
  obtain ⟨ra, rc, rfl, x1⟩ := id hR
  clear x1
  have HI := Lib.hid hI
  obtain ⟨b0, r0, l0, q0⟩ := boxed_facts w 0 out (.slice ra R.length rc) n a b t
  have K := Lib.hid fun V => readsInput_any n a b t V
  have HF := Lib.hid (And.intro b0 (And.intro r0 (And.intro l0 q0)))
  have HR := Lib.hid hR
  have KB := Lib.hid (fun V (g : Below w.heap.size w V) => textBehind_any _ I n a b t out V hok hI5 hq ho (HI.out.stepAt g))
  clear b0 r0 l0 q0 hR hok hq
  obtain ⟨o2, ho2⟩ : ∃ o2, nxt I (n, (a : Int), b, t) out = o2 := ⟨_, rfl⟩
  rw [ho2] at KB ⊢
  clear ho2
  obtain ⟨code, hcode⟩ : ∃ code : Int, (if 40 < o2.size then 3 else 0) = code := ⟨_, rfl⟩
  rw [hcode]
  have KR : Hid (∀ V, Calls Try.prog 142 #[line n a b t] V fun e w' => e = .returned (.bool false) ∧ Below V.heap.size V w') := Lib.hid fun V => by
    have := K.out V
    rwa [show rd ((n, a, b, t) : Ln) = false from decide_eq_false (by dsimp only; omega)] at this
  clear K
  rcases hn with rfl | rfl | rfl
  all_goals
    go_enter Try.func141, Try.ntmps141
    go_wp2_with fail
    refine (KR.out _).mono ?_
    rintro e w1 ⟨rfl, hb⟩
    obtain ⟨b0, r0, l0, q0⟩ := HF.out
    have b1 := b0.trans (hb.mono b0.size)
    have R1 := r0.below hb
    have L1 := l0.below hb
    have Q1 := q0.below hb
    have z1 : w.heap.size + 1 + 1 + 1 ≤ w1.heap.size := by have := hb.size; simp at this; omega
    have HR1 := Lib.hid (HR.out.below b1)
    clear hb b0 r0 l0 q0
    have HC3 := Lib.hid (And.intro R1 (And.intro L1 Q1))
    obtain ⟨c0, c1, c2, f0, f1, f2⟩ := R1.cells
    obtain ⟨d0, d1, d2, d3⟩ := L1.cells
    clear R1 L1 Q1
    have b3 := b1
    clear b1
    go_wp2_with fail
    refine (KB.out w1 b3).mono ?_
    rintro e w4 ⟨rfl, hb⟩
    obtain ⟨R3, L3, Q3⟩ := HC3.out
    have b4 := b3.trans (hb.mono b3.size)
    have z4 := hb.size
    have HI4 := Lib.hid (HR1.out.below hb)
    have R4 := R3.below hb
    have Q4 := Q3.below hb
    clear c0 c1 c2 f0 f1 f2 d0 d1 d2 d3 R3 L3 Q3 hb b3
    obtain ⟨c0, c1, c2, f0, f1, f2⟩ := R4.cells
    obtain ⟨g0, g1, g2, h0, h1, h2⟩ := Q4.cells
    clear R4 Q4
    by_cases hl : 40 < o2.size
    · have hc3 : code = 3 := by rw [← hcode, if_pos hl]
      clear hcode
      subst hc3
      have hlI : (40 : Int) < (o2.size : Int) := by omega
      go_wp2_with fail
      exact bodyPost_ret (v := ranV 3 o2 (.slice ra R.length rc)) (by simp [results, Try.results141, go_sem, *]) rfl
        ⟨_, rfl, IB.wide (IB.set (IB.set (IB.set (IB.set (IB.set HI4.out (.inr (by omega))) (.inr (by omega))) (.inr (by omega))) (.inr (by omega))) (.inr (by omega))) (by omega) (by simp [World.setCell]; omega), by go_grown⟩
    · have hc3 : code = 0 := by rw [← hcode, if_neg hl]
      clear hcode
      subst hc3
      have hlI : ¬ (40 : Int) < (o2.size : Int) := by omega
      go_wp2_with fail
      exact bodyPost_ret (v := ranV 0 o2 (.slice ra R.length rc)) (by simp [results, Try.results141, go_sem, *]) rfl
        ⟨_, rfl, IB.wide (IB.set (IB.set (IB.set (IB.set HI4.out (.inr (by omega))) (.inr (by omega))) (.inr (by omega))) (.inr (by omega))) (by omega) (by simp [World.setCell]; omega), by go_grown⟩


theorem ranOn_any (hlo : lo ≤ w.heap.size) (hI5 : I.length ≤ 5) (hIO : O.length = I.length) (hq : ∀ q ∈ I, q.size ≤ 40) (hok : LOk (n, a, b, t) I.length) (ho : out.size ≤ 40) (hRl : R.length ≤ 900) (hI : Obl.StAt w w.heap.size vI I) (hO : Obl.BoAt w w.heap.size vO O) (hR : IB R lo w.heap.size vR w) :
    Calls Try.prog 141 #[ranV 0 out vR, line n a b t, vI, vO] w (OnPost (stp I O (n, a, b, t) out R) lo w) := by
  by_cases hr : n = 0 ∨ n = 2 ∨ n = 5
  · have hrd : rd ((n, a, b, t) : Ln) = true := decide_eq_true hr
    have ha : 0 ≤ a ∧ a < (O.length : Int) := by
      unfold LOk at hok
      dsimp only at hok
      omega
    rcases hs : O.getD a.toNat false
    · rw [stp_shut (x := (n, a, b, t)) hrd hs]
      exact on_shut out R vR vI vO O n a b t lo w (by omega) ha hrd hs hO hR
    · by_cases h5 : n = 5
      · rcases hm : mkd (inp I (n, a, b, t))
        · have h := on_read out R vR vI vO I O n a b t lo w hlo hI5 hq hok ho hI hR (by omega) hRl ha hIO hs hO hr (fun _ => hm)
          rw [stp_go (x := (n, a, b, t)) (fun _ => hs) (fun _ => hm), if_pos hrd]
          exact h
        · rw [stp_mark (x := (n, a, b, t)) h5 hs hm]
          exact on_mark out R vR vI vO I O n a b t lo w hlo hI5 hq hok ho hI hR (by omega) hRl ha hIO hs hO h5 hm
      · have h := on_read out R vR vI vO I O n a b t lo w hlo hI5 hq hok ho hI hR (by omega) hRl ha hIO hs hO hr (fun e => absurd e h5)
        rw [stp_go (x := (n, a, b, t)) (fun _ => hs) (fun e => absurd e h5), if_pos hrd]
        exact h
  · have hrd : rd ((n, a, b, t) : Ln) = false := decide_eq_false hr
    have hn : n = 1 ∨ n = 3 ∨ n = 4 := by
      unfold LOk at hok
      dsimp only at hok
      omega
    have h := on_plain out R vR vI vO I n a b t lo w hI5 hq hok ho hI hR hn
    rw [stp_go (x := (n, a, b, t)) (fun e => by rw [hrd] at e; cases e) (fun e => by dsimp only at e; omega), hrd]
    exact h
end
end Rx
end Go.Proofs.Ytopplljilmjjgaa
