/- The contract of the program's RoomRun, over this seat's translation: it answers what roomR tells, and its row of numbers is its own; nothing that was there before the call has changed. Conditions: at most 1048576 lines, texts and truths, of at most 1048576 bytes. -/
import Derived.Test.YtopplljilmjjgaaRxr
import Derived.Deep.RegionWith
namespace Go.Proofs.Ytopplljilmjjgaa
open Go.RowKit Go.Sort
namespace Rx
open Rnw
theorem roomR_no {S : List Ln} {I : List ByteArray} {O : List Bool} (h : thOk I = false ∨ scOk S I.length = false ∨ O.length ≠ I.length) : roomR S I O = (1, ⟨#[]⟩, []) := by
  have : (thOk I && scOk S I.length && decide (O.length = I.length)) = false := by
    rcases h with h | h | h
    · rw [h]; rfl
    · rw [h, Bool.and_false]; rfl
    · rw [decide_eq_false h, Bool.and_false]
  unfold roomR
  rw [this]
  rfl
theorem roomR_yes {S : List Ln} {I : List ByteArray} {O : List Bool} (h1 : thOk I = true) (h2 : scOk S I.length = true) (h3 : O.length = I.length) : roomR S I O = run I O S ⟨#[]⟩ [] := by
  unfold roomR
  rw [h1, h2, decide_eq_true h3]
  rfl
theorem skp_le {I : List ByteArray} {x : Ln} {ins : Int} (h : LOk x ins) : skp I x ≤ 10 := by
  unfold skp
  split
  · unfold LOk at h
    omega
  · omega
theorem run_len (I : List ByteArray) (O : List Bool) : ∀ (n : Nat) (L : List Ln) (out : ByteArray) (R : List Int), L.length ≤ n → (run I O L out R).2.2.length ≤ R.length + n := by
  intro n
  induction n with
  | zero =>
    intro L out R h
    obtain rfl : L = [] := List.eq_nil_of_length_eq_zero (by omega)
    rw [run_nil]
    exact Nat.le_refl _
  | succ n ih =>
    intro L out R h
    rcases L with _ | ⟨x, t⟩
    · rw [run_nil]
      exact Nat.le_add_right _ _
    · have hs := stp_len (I := I) (O := O) (x := x) (out := out) (R := R)
      rw [run]
      split
      · have := ih (t.drop (skp I x)) (stp I O x out R).2.1 (stp I O x out R).2.2 (by simp at h ⊢; omega)
        omega
      · show (stp I O x out R).2.2.length ≤ R.length + (n + 1)
        omega
theorem roomR_len (S : List Ln) (I : List ByteArray) (O : List Bool) : (roomR S I O).2.2.length ≤ 10 := by
  unfold roomR
  split
  · rename_i h
    simp only [Bool.and_eq_true] at h
    have hl := scOk_len h.1.2
    have := run_len I O 10 S ByteArray.empty [] hl
    simpa using this
  · exact Nat.zero_le _

def RoomPost (A : Rn) (w : World) (e : Ending) (w' : World) : Prop := ∃ v, e = .returned (ranV A.1 A.2.1 v) ∧ IB A.2.2 w.heap.size w'.heap.size v w' ∧ Below w.heap.size w w'
/-- What the program's loop keeps. -/
def RRel (S : List Ln) (I : List ByteArray) (O : List Bool) (A : Rn) (w : World) (g7 : Nat) (i : Value) (wr : World) : Prop :=
  ∃ (k : Nat) (c : Int) (out : ByteArray) (R : List Int) (v : Value), i = .int .i64 (k : Int) ∧ k ≤ 21 ∧ RnBlk wr g7 c out v ∧ RnBlk wr w.heap.size 0 ⟨#[]⟩ (.slice none 0 0) ∧ IB R (g7 + 1) wr.heap.size v wr ∧ Below w.heap.size w wr ∧ R.length ≤ k + 1 ∧
    ((c = 0 ∧ out.size ≤ 40 ∧ R.length ≤ k ∧ run I O (S.drop k) out R = A) ∨ (c ≠ 0 ∧ A = (c, ByteArray.empty, R)))

theorem room_step {w w4 : World} {g6 g7 lo : Nat} {c xc : Int} {o xo : ByteArray} {v v4 : Value} {xR : List Int} (R7 : RnBlk w4 g7 c o v) (R6 : RnBlk w4 g6 0 ⟨#[]⟩ (.slice none 0 0)) (b4 : Below w.heap.size w w4) (hI : IB xR lo w4.heap.size v4 w4) (h67 : g6 < g7 ∧ g7 < lo) (hw : w.heap.size ≤ g7) :
    RnBlk (((w4.setCell ⟨g7, 0, none⟩ (.int .i64 xc)).setCell ⟨g7, 1, none⟩ (.string xo)).setCell ⟨g7, 2, none⟩ v4) g7 xc xo v4 ∧
    RnBlk (((w4.setCell ⟨g7, 0, none⟩ (.int .i64 xc)).setCell ⟨g7, 1, none⟩ (.string xo)).setCell ⟨g7, 2, none⟩ v4) g6 0 ⟨#[]⟩ (.slice none 0 0) ∧
    IB xR lo w4.heap.size v4 (((w4.setCell ⟨g7, 0, none⟩ (.int .i64 xc)).setCell ⟨g7, 1, none⟩ (.string xo)).setCell ⟨g7, 2, none⟩ v4) ∧
    Below w.heap.size w (((w4.setCell ⟨g7, 0, none⟩ (.int .i64 xc)).setCell ⟨g7, 1, none⟩ (.string xo)).setCell ⟨g7, 2, none⟩ v4) :=
  ⟨R7.set0.set1.set2, ((R6.other (by omega)).other (by omega)).other (by omega), IB.set (IB.set (IB.set hI (.inl h67.2)) (.inl h67.2)) (.inl h67.2), ((b4.setCell hw _).setCell hw _).setCell hw _⟩

section
variable (v u z : Value) (S : List Ln) (I : List ByteArray) (O : List Bool) (w : World)
set_option maxRecDepth 100000 in
set_option maxHeartbeats 4000000 in
theorem room_bad (hlS : S.length ≤ 1048576) (hqS : ∀ q ∈ S, q.2.2.2.size ≤ 1048576) (hlI : I.length ≤ 1048576) (hqI : ∀ q ∈ I, q.size ≤ 1048576) (_hlO : O.length ≤ 1048576) (hS : LnAt w w.heap.size v S) (hI : Obl.StAt w w.heap.size u I) (hO : Obl.BoAt w w.heap.size z O)
    (hb : (thOk I = false ∨ scOk S I.length = false ∨ O.length ≠ I.length)) :
    Calls Try.prog 131 #[v, u, z] w (RoomPost (1, ⟨#[]⟩, []) w) := by
  have b0 := (Below.refl w.heap.size w).alloc (Nat.le_refl _) (box1 0 ⟨#[]⟩ (.slice none 0 0))
  have r0 := RnBlk.new w 0 ⟨#[]⟩ (.slice none 0 0)
  have KT := Lib.hid (fun V (g : Below w.heap.size w V) => implThingsOk_any u I V hlI hqI (hI.stepAt g))
  have KS := Lib.hid (fun V (g : Below w.heap.size w V) => implScriptOk_any v S I.length V hlS hqS (hS.stepAt g))
  have HR := Lib.hid (And.intro b0 r0)
  obtain ⟨a0, c0, rfl, x0⟩ := id hS
  obtain ⟨a1, c1, rfl, x1⟩ := id hI
  obtain ⟨a2, c2, rfl, x2⟩ := id hO
  clear x0 x1 x2 hS hI hO hqS hqI b0 r0
  rcases ht : thOk I
  · rw [ht] at KT
    clear ht hb KS
    go_enter Try.func131, Try.ntmps131
    go_wp2_with fail
    refine (KT.out _ HR.out.1).mono ?_
    rintro e w1 ⟨rfl, hb⟩
    have b1 := HR.out.1.trans (hb.mono HR.out.1.size)
    have R1 := HR.out.2.below hb
    obtain ⟨e0, e1, e2, f0, f1, f2⟩ := R1.cells
    clear hb R1
    go_wp2_with fail
    exact bodyPost_ret (v := ranV 1 ⟨#[]⟩ (.slice none 0 0)) (by simp [results, Try.results131, go_sem, *]) rfl ⟨_, rfl, ⟨none, 0, rfl, .inl rfl⟩, by go_grown⟩
  rw [ht] at KT
  rcases hs : scOk S I.length
  · rw [hs] at KS
    clear ht hb hs
    go_enter Try.func131, Try.ntmps131
    go_wp2_with fail
    refine (KT.out _ HR.out.1).mono ?_
    rintro e w1 ⟨rfl, hb⟩
    have b1 := HR.out.1.trans (hb.mono HR.out.1.size)
    have R1 := HR.out.2.below hb
    clear hb
    go_wp2_with fail
    refine (KS.out _ b1).mono ?_
    rintro e w2 ⟨rfl, hb⟩
    have b2 := b1.trans (hb.mono b1.size)
    have R2 := R1.below hb
    obtain ⟨e0, e1, e2, f0, f1, f2⟩ := R2.cells
    clear hb R1 R2 b1
    go_wp2_with fail
    exact bodyPost_ret (v := ranV 1 ⟨#[]⟩ (.slice none 0 0)) (by simp [results, Try.results131, go_sem, *]) rfl ⟨_, rfl, ⟨none, 0, rfl, .inl rfl⟩, by go_grown⟩
  have hlen : O.length ≠ I.length := by
    rcases hb with h | h | h
    · rw [ht] at h; cases h
    · rw [hs] at h; cases h
    · exact h
  rw [hs] at KS
  have hz : ((O.length : Int) != (I.length : Int)) = true := by rw [bne_iff_ne]; omega
  clear ht hb hs hlen
  go_enter Try.func131, Try.ntmps131
  go_wp2_with fail
  refine (KT.out _ HR.out.1).mono ?_
  rintro e w1 ⟨rfl, hb⟩
  have b1 := HR.out.1.trans (hb.mono HR.out.1.size)
  have R1 := HR.out.2.below hb
  clear hb
  go_wp2_with fail
  refine (KS.out _ b1).mono ?_
  rintro e w2 ⟨rfl, hb⟩
  have b2 := b1.trans (hb.mono b1.size)
  have R2 := R1.below hb
  obtain ⟨e0, e1, e2, f0, f1, f2⟩ := R2.cells
  clear hb R1 R2 b1
  go_wp2_with fail
  exact bodyPost_ret (v := ranV 1 ⟨#[]⟩ (.slice none 0 0)) (by simp [results, Try.results131, go_sem, *]) rfl ⟨_, rfl, ⟨none, 0, rfl, .inl rfl⟩, by go_grown⟩

set_option maxRecDepth 100000 in
set_option maxHeartbeats 16000000 in
theorem room_good (hlS : S.length ≤ 1048576) (hqS : ∀ q ∈ S, q.2.2.2.size ≤ 1048576) (hlI : I.length ≤ 1048576) (hqI : ∀ q ∈ I, q.size ≤ 1048576) (hS : LnAt w w.heap.size v S) (hI : Obl.StAt w w.heap.size u I) (hO : Obl.BoAt w w.heap.size z O)
    (ht : thOk I = true) (hs : scOk S I.length = true) (hIO : O.length = I.length) :
    Calls Try.prog 131 #[v, u, z] w (RoomPost (run I O S ⟨#[]⟩ []) w) := by
  have b0 := (Below.refl w.heap.size w).alloc (Nat.le_refl _) (box1 0 ⟨#[]⟩ (.slice none 0 0))
  have r0 := RnBlk.new w 0 ⟨#[]⟩ (.slice none 0 0)
  have KT := Lib.hid (fun V (g : Below w.heap.size w V) => implThingsOk_any u I V hlI hqI (hI.stepAt g))
  have KS := Lib.hid (fun V (g : Below w.heap.size w V) => implScriptOk_any v S I.length V hlS hqS (hS.stepAt g))
  have HR := Lib.hid (And.intro b0 r0)
  rw [ht] at KT
  rw [hs] at KS
  have hI5 := thOk_len ht
  have hq40 := thOk_at ht
  have hS10 := scOk_len hs
  have HL := Lib.hid (fun (k : Nat) (x : Ln) (hx : S[k]? = some x) => scOk_at hs hx)
  have KO := Lib.hid (fun (out : ByteArray) (R : List Int) (vR : Value) (n a b : Int) (t : ByteArray) (lo : Nat) V (g : Below w.heap.size w V) (h1 : lo ≤ V.heap.size) (h2 : LOk (n, a, b, t) I.length) (h3 : out.size ≤ 40) (h4 : R.length ≤ 900) (h5 : IB R lo V.heap.size vR V) =>
    ranOn_any out R vR u z I O n a b t lo V h1 hI5 hIO hq40 h2 h3 h4 (hI.stepAt g) (hO.stepAt g) h5)
  have KP := Lib.hid (fun (n a b : Int) (t : ByteArray) V (g : Below w.heap.size w V) (h2 : LOk (n, a, b, t) I.length) => linesPassed_any u I n a b t V h2 hI5 (hI.stepAt g))
  have HS := Lib.hid hS
  obtain ⟨a0, c0, rfl, x0⟩ := id hS
  obtain ⟨a1, c1, rfl, x1⟩ := id hI
  obtain ⟨a2, c2, rfl, x2⟩ := id hO
  have hz : ((I.length : Int) != (I.length : Int)) = false := by simp
  obtain ⟨A, hA⟩ : ∃ A, run I O S ⟨#[]⟩ [] = A := ⟨_, rfl⟩
  have HA := Lib.hid hA
  rw [hIO] at KO
  rw [hA, hIO]
  clear x1 x2 hS hI hO hqS hqI b0 r0 ht hs hIO hq40 hA
  go_enter Try.func131, Try.ntmps131
  go_wp2_with fail
  refine (KT.out _ HR.out.1).mono ?_
  rintro e w1 ⟨rfl, hb⟩
  have b1 := HR.out.1.trans (hb.mono HR.out.1.size)
  have R1 := HR.out.2.below hb
  clear hb
  go_wp2_with fail
  refine (KS.out _ b1).mono ?_
  rintro e w2 ⟨rfl, hb⟩
  have b2 := b1.trans (hb.mono b1.size)
  have R2 := R1.below hb
  have HST := Lib.hid (show RRel S I O A w w2.heap.size (.int .i64 0) (w2.alloc (box1 0 ⟨#[]⟩ (.slice none 0 0))) from
    ⟨0, 0, ⟨#[]⟩, [], .slice none 0 0, rfl, by omega, RnBlk.new w2 0 _ _, R2.alloc _, ⟨none, 0, rfl, .inl rfl⟩, b2.alloc b2.size _, by simp, .inl ⟨rfl, by show 0 ≤ 40; omega, Nat.le_refl _, HA.out⟩⟩)
  have z2 := b2.size
  have g67 : w.heap.size < w2.heap.size := R2.lt
  clear hb R1 b1 R2
  go_wp2_with fail
  go_loopw [8] (fun i wr => RRel S I O A w w2.heap.size i wr) (fun i _ => 30 - (intOf i).toNat)
  case atStart => exact HST.out
  case round =>
    obtain ⟨k, c, out, R, vv, rfl, hk, hr7, hr6, hrow, hb, hRl, hst⟩ := hrel
    obtain ⟨ra, rc, rfl, xx⟩ := id hrow
    clear xx
    by_cases hlt : k < S.length
    · have i1 : (k : Int) < (S.length : Int) := by omega
      have i0 : (0 : Int) ≤ (k : Int) := by omega
      rcases hst with ⟨rfl, ho, hRk, hrun⟩ | ⟨hc, hAA⟩
      · rcases x0 with h | ⟨bS, oS, rfl, hB, hcS⟩
        · subst h
          exact absurd hlt (by simp)
        obtain ⟨n, a, b, t, hxy⟩ : ∃ n a b t, S[k] = (n, a, b, t) := ⟨_, _, _, _, rfl⟩
        have hx : S[k]? = some (n, a, b, t) := by rw [List.getElem?_eq_getElem hlt, hxy]
        have hok := HL.out _ _ hx
        have hsk := skp_le (I := I) hok
        have HC := Lib.hid (hcS k hlt)
        rw [hxy] at HC
        have m := HC.out.below hb hB
        obtain ⟨e0, e1, e2, e3⟩ := m
        simp only at e0 e1 e2 e3
        have zb := hb.size
        have K : Hid (∀ V, (V = wr ∨ V = wr.drew) → Calls Try.prog 141 #[ranV 0 out (.slice ra R.length rc), line n a b t, .slice a1 I.length c1, .slice a2 I.length c2] V (OnPost (stp I O (n, a, b, t) out R) (w2.heap.size + 1) V)) := Lib.hid fun V hV => by
          rcases hV with rfl | rfl
          · exact KO.out out R _ n a b t (w2.heap.size + 1) _ hb hr7.lt hok ho (by omega) hrow
          · exact KO.out out R _ n a b t (w2.heap.size + 1) wr.drew ⟨hb.os, hb.tape, hb.output, hb.size, hb.block⟩ hr7.lt hok ho (by omega) hrow
        have KPP := Lib.hid (fun V g => KP.out n a b t V g hok)
        have HB := Lib.hid hb
        have H67 := Lib.hid (And.intro hr7 hr6)
        obtain ⟨p0, p1, p2, f0, f1, f2⟩ := hr7.cells
        have hsl := stp_len (I := I) (O := O) (x := (n, a, b, t)) (out := out) (R := R)
        have hss : (stp I O (n, a, b, t) out R).1 = 0 → (stp I O (n, a, b, t) out R).2.1.size ≤ 40 := stp_small
        have HN : Hid ((stp I O (n, a, b, t) out R).1 = 0 → run I O (S.drop (k + 1 + skp I (n, a, b, t))) (stp I O (n, a, b, t) out R).2.1 (stp I O (n, a, b, t) out R).2.2 = A) := Lib.hid fun e => by rw [← run_on hx e]; exact hrun
        have HE : Hid ((stp I O (n, a, b, t) out R).1 ≠ 0 → A = ((stp I O (n, a, b, t) out R).1, ByteArray.empty, (stp I O (n, a, b, t) out R).2.2)) := Lib.hid fun e => by rw [← run_end hx e]; exact hrun.symm
        have HH := Lib.hid hss
        have HLN := Lib.hid hsl
        generalize stp I O (n, a, b, t) out R = X at *
        obtain ⟨sk, hske⟩ : ∃ sk, skp I (n, a, b, t) = sk := ⟨_, rfl⟩
        rw [hske] at KPP HN hsk
        obtain ⟨xc, xo, xR⟩ := X
        simp only at HN HE HH HLN
        clear hxy hx hok hrow hr7 hr6 hb hrun hcS hss hsl hske ho
        go_wp2_with fail
        go_region_with ((go_at_call 141; refine (K.out _ (by first | exact .inl rfl | exact .inr rfl)).mono ?_; rintro e w4 ⟨v4, rfl, hI4, hb4'⟩; have hb4 : Below wr.heap.size wr w4 := ⟨hb4'.os, hb4'.tape, hb4'.output, hb4'.size, hb4'.block⟩; clear hb4'; obtain ⟨ya, yc, rfl, x4⟩ := id hI4; clear x4; have H4 := Lib.hid (And.intro hI4 hb4); obtain ⟨q0, q1, q2, h0, h1, h2⟩ := (H67.out.1.below hb4).cells; clear hI4 hb4))
        all_goals
          have hb4 := H4.out.2
          have b4 := HB.out.trans (hb4.mono zb)
          have R7 := H67.out.1.below hb4
          have R6 := H67.out.2.below hb4
          have HW := Lib.hid (room_step (lo := w2.heap.size + 1) (xc := xc) (xo := xo) R7 R6 b4 H4.out.1 (by omega) (by omega))
          obtain ⟨k0, k1, k2, k3⟩ := HC.out.below b4 hB
          simp only at k0 k1 k2 k3
          have z4 := b4.size
          have hne : bS ≠ w2.heap.size := by omega
          have HB4 := Lib.hid b4
          clear hb4 b4 R7 R6 e0 e1 e2 e3 p0 p1 p2 f0 f1 f2
          go_wp2_with fail
          refine (KPP.out _ HW.out.2.2.2).mono ?_
          rintro e w5 ⟨rfl, hb5⟩
          have HR5 := Lib.hid (show RRel S I O A w w2.heap.size (.int .i64 ((k + 1 + sk : Nat) : Int)) w5 from
            ⟨k + 1 + sk, xc, xo, xR, _, rfl, by omega, HW.out.1.below hb5, HW.out.2.1.below hb5, IB.wide (IB.below HW.out.2.2.1 hb5) (Nat.le_refl _) (by have := hb5.size; simp [World.setCell] at this; omega), HW.out.2.2.2.trans (hb5.mono HW.out.2.2.2.size), by have := HLN.out; omega,
              by
                by_cases e : xc = 0
                · exact .inl ⟨e, HH.out e, by have := HLN.out; omega, HN.out e⟩
                · exact .inr ⟨e, HE.out e⟩⟩)
          clear hb5 q0 q1 q2 h0 h1 h2 k0 k1 k2 k3
          go_wp2_with fail
          go_roundw
          case rel => have h := HR5.out; rwa [show ((k + 1 + sk : Nat) : Int) = (k : Int) + (1 + (sk : Int)) by omega] at h
          case measure => simp [intOf]; omega
      · have hzc : (c == 0) = false := by rw [beq_eq_false_iff_ne]; exact hc
        have hzn : (c != 0) = true := by rw [bne_iff_ne]; exact hc
        have HAA := Lib.hid hAA
        have HI6 := Lib.hid hrow
        obtain ⟨p0, p1, p2, f0, f1, f2⟩ := hr7.cells
        obtain ⟨q0, q1, q2, g0, g1, g2⟩ := hr6.cells
        clear hrow hr7 hr6 hAA hc
        go_wp2_with fail
        exact bodyPost_ret (v := ranV c ⟨#[]⟩ (.slice ra R.length rc)) (by simp [results, Try.results131, go_sem, *]) rfl
          (by rw [HAA.out]; exact ⟨_, rfl, IB.wide (IB.set (IB.set (IB.set HI6.out (.inl (by omega))) (.inl (by omega))) (.inl (by omega))) (by omega) (by simp [World.setCell]), by go_grown⟩)
    · have i1 : ¬ (k : Int) < (S.length : Int) := by omega
      have HI6 := Lib.hid hrow
      obtain ⟨p0, p1, p2, f0, f1, f2⟩ := hr7.cells
      obtain ⟨q0, q1, q2, g0, g1, g2⟩ := hr6.cells
      clear hrow hr7 hr6
      rcases hst with ⟨rfl, ho, hRk, hrun⟩ | ⟨hc, hAA⟩
      · have HAA := Lib.hid (show A = (0, out, R) by rw [← hrun, List.drop_eq_nil_of_le (by omega), run_nil])
        clear hrun ho
        go_wp2_with fail
        exact bodyPost_ret (v := ranV 0 out (.slice ra R.length rc)) (by simp [results, Try.results131, go_sem, *]) rfl
          (by rw [HAA.out]; exact ⟨_, rfl, IB.wide (IB.set (IB.set (IB.set HI6.out (.inl (by omega))) (.inl (by omega))) (.inl (by omega))) (by omega) (by simp [World.setCell]), by go_grown⟩)
      · have hzc : (c == 0) = false := by rw [beq_eq_false_iff_ne]; exact hc
        have hzn : (c != 0) = true := by rw [bne_iff_ne]; exact hc
        have HAA := Lib.hid hAA
        clear hAA hc
        go_wp2_with fail
        exact bodyPost_ret (v := ranV c ⟨#[]⟩ (.slice ra R.length rc)) (by simp [results, Try.results131, go_sem, *]) rfl
          (by rw [HAA.out]; exact ⟨_, rfl, IB.wide (IB.set (IB.set (IB.set HI6.out (.inl (by omega))) (.inl (by omega))) (.inl (by omega))) (by omega) (by simp [World.setCell]), by go_grown⟩)

theorem implRoomRun_any (hlS : S.length ≤ 1048576) (hqS : ∀ q ∈ S, q.2.2.2.size ≤ 1048576) (hlI : I.length ≤ 1048576) (hqI : ∀ q ∈ I, q.size ≤ 1048576) (hlO : O.length ≤ 1048576) (hS : LnAt w w.heap.size v S) (hI : Obl.StAt w w.heap.size u I) (hO : Obl.BoAt w w.heap.size z O) :
    Calls Try.prog 131 #[v, u, z] w (RoomPost (roomR S I O) w) := by
  by_cases h : thOk I = true ∧ scOk S I.length = true ∧ O.length = I.length
  · rw [roomR_yes h.1 h.2.1 h.2.2]
    exact room_good v u z S I O w hlS hqS hlI hqI hS hI hO h.1 h.2.1 h.2.2
  · have hb : (thOk I = false ∨ scOk S I.length = false ∨ O.length ≠ I.length) := by
      rcases h1 : thOk I
      · exact .inl rfl
      · rcases h2 : scOk S I.length
        · exact .inr (.inl rfl)
        · exact .inr (.inr fun e => h ⟨h1, h2, e⟩)
    rw [roomR_no hb]
    exact room_bad v u z S I O w hlS hqS hlI hqI hlO hS hI hO hb
end
end Rx
end Go.Proofs.Ytopplljilmjjgaa
