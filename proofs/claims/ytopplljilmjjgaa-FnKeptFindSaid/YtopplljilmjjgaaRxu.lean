/- The contract of the model's RoomRun, over this seat's translation: it answers what roomR tells, and its row of numbers is its own; nothing that was there before the call has changed. Conditions: at most 1048576 lines, texts and truths, of at most 1048576 bytes. -/
import Derived.Test.YtopplljilmjjgaaRxs
namespace Go.Proofs.Ytopplljilmjjgaa
open Go.RowKit Go.Sort
namespace Rx
open Rnw
section
variable {I : List ByteArray} {O : List Bool} {j : Nat} {a b : Int} {t ti out : ByteArray} {R : List Int}
theorem stp0 (hx : I[j]? = some ti) (ho : O.getD j false = true) : stp I O (0, (j : Int), b, t) out R = (if 40 < (out ++ ti).size then 3 else 0, out ++ ti, addR R j) := by
  have hr : rd ((0, (j : Int), b, t) : Ln) = true := rfl
  rw [stp_go (x := (0, (j : Int), b, t)) (fun _ => ho) (fun e => by dsimp only at e; omega), hr, if_pos rfl]
  rw [show nxt I ((0, (j : Int), b, t) : Ln) out = out ++ ti by unfold nxt; rw [inp_at hx]; rfl]
theorem stp2 (ho : O.getD j false = true) : stp I O (2, (j : Int), b, t) out R = (if 40 < out.size then 3 else 0, out, addR R j) := by
  have hr : rd ((2, (j : Int), b, t) : Ln) = true := rfl
  rw [stp_go (x := (2, (j : Int), b, t)) (fun _ => ho) (fun e => by dsimp only at e; omega), hr, if_pos rfl]
  rfl
theorem stp5 (hx : I[j]? = some ti) (ho : O.getD j false = true) (hm : mkd ti = false) : stp I O (5, (j : Int), b, t) out R = (if 40 < out.size then 3 else 0, out, addR R j) := by
  have hr : rd ((5, (j : Int), b, t) : Ln) = true := rfl
  rw [stp_go (x := (5, (j : Int), b, t)) (fun _ => ho) (fun _ => by rw [inp_at hx]; exact hm), hr, if_pos rfl]
  rfl
theorem stp5m (hx : I[j]? = some ti) (ho : O.getD j false = true) (hm : mkd ti = true) : stp I O (5, (j : Int), b, t) out R = (4, out, addR R j) :=
  stp_mark (x := (5, (j : Int), b, t)) rfl ho (by rw [inp_at hx]; exact hm)
theorem stp1 : stp I O (1, a, b, t) out R = (if 40 < (out ++ t).size then 3 else 0, out ++ t, R) := by
  have hr : rd ((1, a, b, t) : Ln) = false := rfl
  rw [stp_go (x := (1, a, b, t)) (fun e => by rw [hr] at e; cases e) (fun e => by dsimp only at e; omega), hr]
  rfl
theorem stp3 : stp I O (3, a, b, t) out R = (if 40 < (tnd out).size then 3 else 0, tnd out, R) := by
  have hr : rd ((3, a, b, t) : Ln) = false := rfl
  rw [stp_go (x := (3, a, b, t)) (fun e => by rw [hr] at e; cases e) (fun e => by dsimp only at e; omega), hr]
  rfl
theorem stp4 : stp I O (4, a, b, t) out R = (if 40 < (cutT out a).size then 3 else 0, cutT out a, R) := by
  have hr : rd ((4, a, b, t) : Ln) = false := rfl
  rw [stp_go (x := (4, a, b, t)) (fun e => by rw [hr] at e; cases e) (fun e => by dsimp only at e; omega), hr]
  rfl
theorem tnd_size : (tnd out).size = out.size := by rw [size_list, size_list]; simp [tnd]
theorem cutT_size : (cutT out a).size ≤ out.size := by
  unfold cutT
  split
  · rw [size_list, ext_list, size_list]
    simp
    omega
  · exact Nat.le_refl _
theorem skp_no {n : Int} (h : n ≠ 2) : skp I (n, a, b, t) = 0 := by
  unfold skp
  rw [if_neg (fun e => h e.1)]
theorem skp_two (hx : I[j]? = some ti) : skp I (2, (j : Int), b, t) = if ti.size = 0 then b.toNat else 0 := by
  unfold skp
  rw [inp_at hx]
  simp
theorem run_next {S : List Ln} {k sk : Nat} {x : Ln} {o' : ByteArray} {R' : List Int} {A : Rn} (hx : S[k]? = some x) (hs : stp I O x out R = (0, o', R')) (hk : skp I x = sk) (h : run I O (S.drop k) out R = A) : run I O (S.drop (k + 1 + sk)) o' R' = A := by
  rw [run_on hx (by rw [hs]), hs, hk] at h
  exact h
theorem run_stop {S : List Ln} {k : Nat} {x : Ln} {c : Int} {o' : ByteArray} {R' : List Int} {A : Rn} (hx : S[k]? = some x) (hs : stp I O x out R = (c, o', R')) (hc : c ≠ 0) (h : run I O (S.drop k) out R = A) : A = (c, ByteArray.empty, R') := by
  rw [run_end hx (by rw [hs]; exact hc), hs] at h
  exact h.symm
end
theorem ext_all (s : ByteArray) : s.extract 0 s.size = s := by
  apply text_eq
  rw [ext_list, List.drop_zero, Nat.sub_zero, size_list, List.take_length]
theorem own_set {w : World} {B b o : Nat} {v u : Value} {N : List Int} (h : IOwn w B v N) (hb : b < B) : IOwn (w.setCell ⟨b, o, none⟩ u) B v N := by
  refine ⟨h.1, ?_⟩
  rcases h.2 with hn | ⟨g, cap, cur, hv, hb', hg, rest⟩
  · exact .inl hn
  · exact .inr ⟨g, cap, cur, hv, hb', (Below.heap_setCell w ⟨b, o, none⟩ u g (by show g ≠ b; omega)).trans hg, rest⟩
/-- What the model's loop keeps. -/
def SRel (S : List Ln) (I : List ByteArray) (O : List Bool) (A : Rn) (w : World) (g7 : Nat) (i : Value) (wr : World) : Prop :=
  ∃ (k : Nat) (out : ByteArray) (R : List Int) (v : Value), i = .int .i64 (k : Int) ∧ k ≤ 21 ∧ RnBlk wr g7 0 out v ∧ RnBlk wr w.heap.size 0 ⟨#[]⟩ (.slice none 0 0) ∧ IOwn wr (g7 + 1) v R ∧ Below w.heap.size w wr ∧ R.length ≤ k ∧ out.size ≤ 40 ∧ run I O (S.drop k) out R = A

section
variable (v u z : Value) (S : List Ln) (I : List ByteArray) (O : List Bool) (w : World)
set_option maxRecDepth 100000 in
set_option maxHeartbeats 4000000 in
theorem sroom_bad (hlS : S.length ≤ 1048576) (hqS : ∀ q ∈ S, q.2.2.2.size ≤ 1048576) (hlI : I.length ≤ 1048576) (hqI : ∀ q ∈ I, q.size ≤ 1048576) (_hlO : O.length ≤ 1048576) (hS : LnAt w w.heap.size v S) (hI : Obl.StAt w w.heap.size u I) (hO : Obl.BoAt w w.heap.size z O)
    (hb : (thOk I = false ∨ scOk S I.length = false ∨ O.length ≠ I.length)) :
    Calls Try.prog 124 #[v, u, z] w (RoomPost (1, ⟨#[]⟩, []) w) := by
  have b0 := (Below.refl w.heap.size w).alloc (Nat.le_refl _) (box1 0 ⟨#[]⟩ (.slice none 0 0))
  have r0 := RnBlk.new w 0 ⟨#[]⟩ (.slice none 0 0)
  have KT := Lib.hid (fun V (g : Below w.heap.size w V) => specThingsOk_any u I V hlI hqI (hI.stepAt g))
  have KS := Lib.hid (fun V (g : Below w.heap.size w V) => specScriptOk_any v S I.length V hlS hqS (hS.stepAt g))
  have HR := Lib.hid (And.intro b0 r0)
  obtain ⟨a0, c0, rfl, x0⟩ := id hS
  obtain ⟨a1, c1, rfl, x1⟩ := id hI
  obtain ⟨a2, c2, rfl, x2⟩ := id hO
  clear x0 x1 x2 hS hI hO hqS hqI b0 r0
  rcases hs : scOk S I.length
  · rw [hs] at KS
    clear hs hb KT
    go_enter Try.func124, Try.ntmps124
    go_wp2_with fail
    refine (KS.out _ HR.out.1).mono ?_
    rintro e w1 ⟨rfl, hb⟩
    have b1 := HR.out.1.trans (hb.mono HR.out.1.size)
    have R1 := HR.out.2.below hb
    obtain ⟨e0, e1, e2, f0, f1, f2⟩ := R1.cells
    clear hb R1
    go_wp2_with fail
    exact bodyPost_ret (v := ranV 1 ⟨#[]⟩ (.slice none 0 0)) (by simp [results, Try.results124, go_sem, *]) rfl ⟨_, rfl, ⟨none, 0, rfl, .inl rfl⟩, by go_grown⟩
  rw [hs] at KS
  rcases ht : thOk I
  · rw [ht] at KT
    clear ht hb hs
    go_enter Try.func124, Try.ntmps124
    go_wp2_with fail
    refine (KS.out _ HR.out.1).mono ?_
    rintro e w1 ⟨rfl, hb⟩
    have b1 := HR.out.1.trans (hb.mono HR.out.1.size)
    have R1 := HR.out.2.below hb
    clear hb
    go_wp2_with fail
    refine (KT.out _ b1).mono ?_
    rintro e w2 ⟨rfl, hb⟩
    have b2 := b1.trans (hb.mono b1.size)
    have R2 := R1.below hb
    obtain ⟨e0, e1, e2, f0, f1, f2⟩ := R2.cells
    clear hb R1 R2 b1
    go_wp2_with fail
    exact bodyPost_ret (v := ranV 1 ⟨#[]⟩ (.slice none 0 0)) (by simp [results, Try.results124, go_sem, *]) rfl ⟨_, rfl, ⟨none, 0, rfl, .inl rfl⟩, by go_grown⟩
  have hlen : O.length ≠ I.length := by
    rcases hb with h | h | h
    · rw [ht] at h; cases h
    · rw [hs] at h; cases h
    · exact h
  rw [ht] at KT
  have hz : ((O.length : Int) != (I.length : Int)) = true := by rw [bne_iff_ne]; omega
  clear ht hb hs hlen
  go_enter Try.func124, Try.ntmps124
  go_wp2_with fail
  refine (KS.out _ HR.out.1).mono ?_
  rintro e w1 ⟨rfl, hb⟩
  have b1 := HR.out.1.trans (hb.mono HR.out.1.size)
  have R1 := HR.out.2.below hb
  clear hb
  go_wp2_with fail
  refine (KT.out _ b1).mono ?_
  rintro e w2 ⟨rfl, hb⟩
  have b2 := b1.trans (hb.mono b1.size)
  have R2 := R1.below hb
  obtain ⟨e0, e1, e2, f0, f1, f2⟩ := R2.cells
  clear hb R1 R2 b1
  go_wp2_with fail
  exact bodyPost_ret (v := ranV 1 ⟨#[]⟩ (.slice none 0 0)) (by simp [results, Try.results124, go_sem, *]) rfl ⟨_, rfl, ⟨none, 0, rfl, .inl rfl⟩, by go_grown⟩

set_option maxRecDepth 100000 in
set_option maxHeartbeats 64000000 in
theorem sroom_good (hlS : S.length ≤ 1048576) (hqS : ∀ q ∈ S, q.2.2.2.size ≤ 1048576) (hlI : I.length ≤ 1048576) (hqI : ∀ q ∈ I, q.size ≤ 1048576) (hS : LnAt w w.heap.size v S) (hI : Obl.StAt w w.heap.size u I) (hO : Obl.BoAt w w.heap.size z O)
    (ht : thOk I = true) (hs : scOk S I.length = true) (hIO : O.length = I.length) :
    Calls Try.prog 124 #[v, u, z] w (RoomPost (run I O S ⟨#[]⟩ []) w) := by
  obtain ⟨i0, hi, hz0, hz1, hz2⟩ := info_parts infoInt
  have b0 := (Below.refl w.heap.size w).alloc (Nat.le_refl _) (box1 0 ⟨#[]⟩ (.slice none 0 0))
  have r0 := RnBlk.new w 0 ⟨#[]⟩ (.slice none 0 0)
  have KT := Lib.hid (fun V (g : Below w.heap.size w V) => specThingsOk_any u I V hlI hqI (hI.stepAt g))
  have KS := Lib.hid (fun V (g : Below w.heap.size w V) => specScriptOk_any v S I.length V hlS hqS (hS.stepAt g))
  have HR := Lib.hid (And.intro b0 r0)
  rw [ht] at KT
  rw [hs] at KS
  have hI5 := thOk_len ht
  have HQ := Lib.hid (thOk_at ht)
  have hS10 := scOk_len hs
  have HL := Lib.hid (fun (k : Nat) (x : Ln) (hx : S[k]? = some x) => scOk_at hs hx)
  obtain ⟨a0, c0, rfl, x0⟩ := hS
  obtain ⟨a1, c1, rfl, x1⟩ := hI
  obtain ⟨a2, c2, rfl, x2⟩ := hO
  have HX0 := Lib.hid x0
  have HX1 := Lib.hid x1
  have HX2 := Lib.hid x2
  have hz : ((I.length : Int) != (I.length : Int)) = false := by simp
  obtain ⟨A, hA⟩ : ∃ A, run I O S ⟨#[]⟩ [] = A := ⟨_, rfl⟩
  have HA := Lib.hid hA
  rw [hA, hIO]
  have HIO := Lib.hid hIO
  clear x0 x1 x2 hqS hqI b0 r0 ht hs hIO hA
  go_enter Try.func124, Try.ntmps124
  go_wp2_with fail
  refine (KS.out _ HR.out.1).mono ?_
  rintro e w1 ⟨rfl, hb⟩
  have b1 := HR.out.1.trans (hb.mono HR.out.1.size)
  have R1 := HR.out.2.below hb
  clear hb
  go_wp2_with fail
  refine (KT.out _ b1).mono ?_
  rintro e w2 ⟨rfl, hb⟩
  have b2 := b1.trans (hb.mono b1.size)
  have R2 := R1.below hb
  have HST := Lib.hid (show SRel S I O A w w2.heap.size (.int .i64 0) (w2.alloc (box1 0 ⟨#[]⟩ (.slice none 0 0))) from
    ⟨0, ⟨#[]⟩, [], .slice none 0 0, rfl, by omega, RnBlk.new w2 0 _ _, R2.alloc _, World.ownsRow_nil _ _ _ _, b2.alloc b2.size _, Nat.le_refl _, by show 0 ≤ 40; omega, HA.out⟩)
  have z2 := b2.size
  have g67 : w.heap.size < w2.heap.size := R2.lt
  clear hb R1 b1 R2 KT KS HR
  go_wp2_with fail
  go_loopw [8] (fun i wr => SRel S I O A w w2.heap.size i wr) (fun i _ => 30 - (intOf i).toNat)
  case atStart => exact HST.out
  case round =>
    obtain ⟨k, out, R, vv, rfl, hk, hr7, hr6, hown, hb, hRl, ho, hrun⟩ := hrel
    obtain ⟨ra, rc, rfl, xx⟩ := id (IOwn.ib hown)
    clear xx
    by_cases hlt : k < S.length
    · have i1 : (k : Int) < (S.length : Int) := by omega
      have i0' : (0 : Int) ≤ (k : Int) := by omega
      rcases HX0.out with h | ⟨bS, oS, rfl, hB, hcS⟩
      · subst h
        exact absurd hlt (by simp)
      obtain ⟨n, a, b, t, hxy⟩ : ∃ n a b t, S[k] = (n, a, b, t) := ⟨_, _, _, _, rfl⟩
      have hx : S[k]? = some (n, a, b, t) := by rw [List.getElem?_eq_getElem hlt, hxy]
      have hok := HL.out _ _ hx
      have m := (hcS k hlt).below hb hB
      rw [hxy] at m
      obtain ⟨e0, e1, e2, e3⟩ := m
      simp only at e0 e1 e2 e3
      have HRUN := Lib.hid hrun
      have HX := Lib.hid hx
      have zb := hb.size
      have g7 := hr7.lt
      obtain ⟨V1, hV1⟩ : ∃ V, V = wr.alloc (box2 n a b t) := ⟨_, rfl⟩
      have HOWN := Lib.hid (show IOwn V1 (w2.heap.size + 1) (.slice ra R.length rc) R by rw [hV1]; exact iown_below hown ((Below.refl _ _).alloc (Nat.le_refl _) _))
      have HBX := Lib.hid (show RnBlk V1 w2.heap.size 0 out (.slice ra R.length rc) ∧ RnBlk V1 w.heap.size 0 ⟨#[]⟩ (.slice none 0 0) by rw [hV1]; exact ⟨hr7.alloc _, hr6.alloc _⟩)
      have HB := Lib.hid (show Below w.heap.size w V1 by rw [hV1]; exact hb.alloc zb _)
      have HLB := Lib.hid (show LnBx V1 wr.heap.size n a b t by rw [hV1]; exact LnBx.new wr n a b t)
      have zV : wr.heap.size < V1.heap.size := by rw [hV1]; simp
      have lt3 : ∀ q, (Value.slice ra R.length rc).ownBlock = some q → w2.heap.size + 1 ≤ q ∧ q < wr.heap.size := World.ownsRow.lt hown
      clear hrun hx hxy hcS hown hr7 hr6 hb
      go_upto_region 9 with fail
      rw [← hV1]
      clear hV1 e0 e1 e2 e3
      obtain ⟨d0, d1, d2, d3⟩ := HLB.out.cells
      have zb1 : w.heap.size ≤ V1.heap.size := by omega
      have hkind : (n = 0 ∨ n = 2 ∨ n = 5) ∨ n = 1 ∨ n = 3 ∨ n = 4 := by
        unfold LOk at hok
        dsimp only at hok
        omega
      rcases hkind with hread | hplain
      · have ha : 0 ≤ a ∧ a < (I.length : Int) ∧ (n = 2 → 1 ≤ b ∧ b ≤ 10) := by
          unfold LOk at hok
          dsimp only at hok
          omega
        obtain ⟨ha0, ha1, hb10⟩ := ha
        clear hok
        obtain ⟨j, rfl⟩ : ∃ j : Nat, a = (j : Int) := ⟨a.toNat, by omega⟩
        have hjI : j < I.length := by omega
        have hjO : j < O.length := by have := HIO.out; omega
        rcases HX1.out with h | ⟨bI, oI, rfl, hBI, hcI⟩
        · subst h
          exact absurd hjI (by simp)
        rcases HX2.out with h | ⟨bO, oO, rfl, hBO, hcO⟩
        · subst h
          exact absurd hjO (by simp)
        obtain ⟨ti, hti⟩ : ∃ ti, I[j] = ti := ⟨_, rfl⟩
        have HIX := Lib.hid (show I[j]? = some ti by rw [List.getElem?_eq_getElem hjI, hti])
        have ti40 := HQ.out _ (List.mem_of_getElem? HIX.out)
        have CI := Lib.hid (hcI j hjI)
        rw [hti] at CI
        have CO := Lib.hid (hcO j hjO)
        obtain ⟨oj, hoj⟩ : ∃ oj, O[j] = oj := ⟨_, rfl⟩
        rw [hoj] at CO
        have HOJ := Lib.hid (show O.getD j false = oj by rw [List.getD_eq_getElem?_getD, List.getElem?_eq_getElem hjO, hoj]; rfl)
        have k0 := (HB.out.cell (p := ⟨bO, oO + j, none⟩) hBO).trans CO.out
        clear hcI hcO hti hoj
        rcases oj with _ | _
        · rcases hread with rfl | rfl | rfl
          all_goals
            as_aux_lemma =>
              have HAA := Lib.hid (run_stop HX.out (stp_shut (x := (_, (j : Int), b, t)) (by rfl) HOJ.out) (by decide) HRUN.out)
              have HI6 := Lib.hid (IOwn.ib HOWN.out)
              obtain ⟨p0, p1, p2, f0, f1, f2⟩ := HBX.out.1.cells
              obtain ⟨q0, q1, q2, g0, g1, g2⟩ := HBX.out.2.cells
              have hb := HB.out
              have x6 : w.heap.size < wr.heap.size := by omega
              have y6 : ¬ wr.heap.size = w.heap.size := by omega
              have y7 : ¬ w.heap.size = wr.heap.size := by omega
              clear HRUN
              go_wp2_with fail
              exact bodyPost_ret (v := ranV 2 ⟨#[]⟩ (.slice ra R.length rc)) (by simp [results, Try.results124, go_sem, *]) rfl
                (by rw [HAA.out]; exact ⟨_, rfl, IB.wide (IB.set (IB.set (IB.set (HI6.out) (.inl (by omega))) (.inl (by omega))) (.inl (by omega))) (by omega) (by simp [World.setCell]; try omega), by go_grown⟩)
        · have KH := Lib.hid (l9Has_any (.slice ra R.length rc) R j V1 (by omega) (IOwn.ib HOWN.out).at)
          by_cases hm : (j : Int) ∈ R
          · have HAD := Lib.hid (show addR R (j : Int) = R from if_pos hm)
            rw [decide_eq_true hm] at KH
            clear hm
            rcases hread with rfl | rfl | rfl
            · by_cases hl : 40 < (out ++ ti).size
              · as_aux_lemma =>
                  obtain ⟨p0, p1, p2, f0, f1, f2⟩ := HBX.out.1.cells
                  go_wp2_with fail
                  refine KH.out.mono ?_
                  rintro e w3 ⟨rfl, b3⟩
                  have R7 := HBX.out.1.below b3
                  have R6 := HBX.out.2.below b3
                  have L3 := HLB.out.below b3
                  have o3 := iown_below HOWN.out b3
                  have w3b := HB.out.trans (b3.mono zb1)
                  have z3 := b3.size
                  have zL := L3.lt
                  clear p0 p1 p2 f0 f1 f2 d0 d1 d2 d3 k0
                  obtain ⟨w6, hw6⟩ : ∃ V, V = w3 := ⟨_, rfl⟩
                  rw [← hw6] at R7 R6 L3 o3 w3b z3 zL ⊢
                  clear hw6 b3
                  have HO6 := Lib.hid o3
                  have HB6 := Lib.hid w3b
                  have HC6 := Lib.hid (And.intro R7 (And.intro R6 L3))
                  have c0 := (HB6.out.cell (p := ⟨bI, oI + j, none⟩) hBI).trans CI.out
                  obtain ⟨p0, p1, p2, f0, f1, f2⟩ := HC6.out.1.cells
                  obtain ⟨q0, q1, q2, g0, g1, g2⟩ := HC6.out.2.1.cells
                  obtain ⟨d0, d1, d2, d3⟩ := HC6.out.2.2.cells
                  have b6 := HB6.out
                  have zz := HC6.out.2.2.lt
                  have hst : stp I O ((0, (j : Int), b, t) : Ln) out R = (3, (out ++ ti), R) := by rw [stp0 HIX.out HOJ.out, if_pos hl]; rw [HAD.out]
                  have HAA := Lib.hid (run_stop HX.out hst (by decide) HRUN.out)
                  clear hst HRUN
                  have n1 : ¬ 9223372036854775807 < out.size + ti.size := by omega
                  have hsz : (out ++ ti).size = out.size + ti.size := ByteArray.size_append
                  rw [hsz] at hl
                  have hlI : (40 : Int) < ((out.size + ti.size : Nat) : Int) := by omega
                  go_wp2_with fail
                  exact bodyPost_ret (v := ranV 3 ⟨#[]⟩ (.slice ra R.length rc)) (by simp [results, Try.results124, go_sem, *]) rfl
                    (by rw [HAA.out]; exact ⟨_, rfl, IB.wide (IB.set (IB.set (IB.set (IB.set (IOwn.ib HO6.out) (.inl (by omega))) (.inl (by omega))) (.inl (by omega))) (.inl (by omega))) (by omega) (by simp [World.setCell]; try omega), by go_grown⟩)
              · as_aux_lemma =>
                  obtain ⟨p0, p1, p2, f0, f1, f2⟩ := HBX.out.1.cells
                  go_wp2_with fail
                  refine KH.out.mono ?_
                  rintro e w3 ⟨rfl, b3⟩
                  have R7 := HBX.out.1.below b3
                  have R6 := HBX.out.2.below b3
                  have L3 := HLB.out.below b3
                  have o3 := iown_below HOWN.out b3
                  have w3b := HB.out.trans (b3.mono zb1)
                  have z3 := b3.size
                  have zL := L3.lt
                  clear p0 p1 p2 f0 f1 f2 d0 d1 d2 d3 k0
                  obtain ⟨w6, hw6⟩ : ∃ V, V = w3 := ⟨_, rfl⟩
                  rw [← hw6] at R7 R6 L3 o3 w3b z3 zL ⊢
                  clear hw6 b3
                  have HO6 := Lib.hid o3
                  have HB6 := Lib.hid w3b
                  have HC6 := Lib.hid (And.intro R7 (And.intro R6 L3))
                  have c0 := (HB6.out.cell (p := ⟨bI, oI + j, none⟩) hBI).trans CI.out
                  obtain ⟨p0, p1, p2, f0, f1, f2⟩ := HC6.out.1.cells
                  obtain ⟨q0, q1, q2, g0, g1, g2⟩ := HC6.out.2.1.cells
                  obtain ⟨d0, d1, d2, d3⟩ := HC6.out.2.2.cells
                  have b6 := HB6.out
                  have zz := HC6.out.2.2.lt
                  have hst : stp I O ((0, (j : Int), b, t) : Ln) out R = (0, (out ++ ti), R) := by rw [stp0 HIX.out HOJ.out, if_neg (by omega)]; rw [HAD.out]
                  have HN := Lib.hid (run_next (sk := 0) HX.out hst (skp_no (by decide)) HRUN.out)
                  clear hst HRUN
                  have n1 : ¬ 9223372036854775807 < out.size + ti.size := by omega
                  have hsz : (out ++ ti).size = out.size + ti.size := ByteArray.size_append
                  rw [hsz] at hl
                  have hlI : ¬ (40 : Int) < ((out.size + ti.size : Nat) : Int) := by omega
                  have ho2 : (out ++ ti).size ≤ 40 := by omega
                  have HREL := Lib.hid (show SRel S I O A w w2.heap.size (.int .i64 ((k + 1 : Nat) : Int)) (w6.setCell ⟨w2.heap.size, 1, none⟩ (.string (out ++ ti))) from
                    ⟨k + 1, _, R, _, rfl, by omega, HC6.out.1.set1, HC6.out.2.1.other (by omega), own_set HO6.out (by omega), HB6.out.setCell (by show w.heap.size ≤ w2.heap.size; omega) _, by first | omega | (have := HL5.out; omega) | (simp; omega), ho2, by have := HN.out; simpa using this⟩)
                  go_wp2_with fail
                  go_roundw
                  case rel => have h := HREL.out; rwa [show ((k + 1 : Nat) : Int) = (k : Int) + 1 by omega] at h
                  case measure => simp [intOf]; omega
            · have HBB := Lib.hid (hb10 rfl)
              clear hb10
              by_cases hte : ti.size = 0
              · as_aux_lemma =>
                  obtain ⟨p0, p1, p2, f0, f1, f2⟩ := HBX.out.1.cells
                  go_wp2_with fail
                  refine KH.out.mono ?_
                  rintro e w3 ⟨rfl, b3⟩
                  have R7 := HBX.out.1.below b3
                  have R6 := HBX.out.2.below b3
                  have L3 := HLB.out.below b3
                  have o3 := iown_below HOWN.out b3
                  have w3b := HB.out.trans (b3.mono zb1)
                  have z3 := b3.size
                  have zL := L3.lt
                  clear p0 p1 p2 f0 f1 f2 d0 d1 d2 d3 k0
                  obtain ⟨w6, hw6⟩ : ∃ V, V = w3 := ⟨_, rfl⟩
                  rw [← hw6] at R7 R6 L3 o3 w3b z3 zL ⊢
                  clear hw6 b3
                  have HO6 := Lib.hid o3
                  have HB6 := Lib.hid w3b
                  have HC6 := Lib.hid (And.intro R7 (And.intro R6 L3))
                  have c0 := (HB6.out.cell (p := ⟨bI, oI + j, none⟩) hBI).trans CI.out
                  obtain ⟨p0, p1, p2, f0, f1, f2⟩ := HC6.out.1.cells
                  obtain ⟨q0, q1, q2, g0, g1, g2⟩ := HC6.out.2.1.cells
                  obtain ⟨d0, d1, d2, d3⟩ := HC6.out.2.2.cells
                  have b6 := HB6.out
                  have zz := HC6.out.2.2.lt
                  have hst : stp I O ((2, (j : Int), b, t) : Ln) out R = (0, out, R) := by rw [stp2 HOJ.out, if_neg (by omega)]; rw [HAD.out]
                  have HN := Lib.hid (run_next (sk := b.toNat) HX.out hst (by rw [skp_two HIX.out, if_pos hte]) HRUN.out)
                  clear hst HRUN
                  have hlI : ¬ (40 : Int) < (out.size : Int) := by omega
                  have ho2 : out.size ≤ 40 := ho
                  obtain ⟨m, rfl⟩ : ∃ m : Nat, b = (m : Int) := ⟨b.toNat, by have := HBB.out; omega⟩
                  have hm10 := HBB.out.2
                  obtain rfl := text_nil hte
                  have HREL := Lib.hid (show SRel S I O A w w2.heap.size (.int .i64 ((k + 1 + m : Nat) : Int)) w6 from
                    ⟨k + 1 + m, _, R, _, rfl, by omega, HC6.out.1, HC6.out.2.1, HO6.out, HB6.out, by first | omega | (have := HL5.out; omega) | (simp; omega), ho2, by have := HN.out; simpa using this⟩)
                  go_wp2_with fail
                  go_roundw
                  case rel => have h := HREL.out; rwa [show ((k + 1 + m : Nat) : Int) = (k : Int) + (m : Int) + 1 by omega] at h
                  case measure => simp [intOf]; omega
              · as_aux_lemma =>
                  obtain ⟨p0, p1, p2, f0, f1, f2⟩ := HBX.out.1.cells
                  go_wp2_with fail
                  refine KH.out.mono ?_
                  rintro e w3 ⟨rfl, b3⟩
                  have R7 := HBX.out.1.below b3
                  have R6 := HBX.out.2.below b3
                  have L3 := HLB.out.below b3
                  have o3 := iown_below HOWN.out b3
                  have w3b := HB.out.trans (b3.mono zb1)
                  have z3 := b3.size
                  have zL := L3.lt
                  clear p0 p1 p2 f0 f1 f2 d0 d1 d2 d3 k0
                  obtain ⟨w6, hw6⟩ : ∃ V, V = w3 := ⟨_, rfl⟩
                  rw [← hw6] at R7 R6 L3 o3 w3b z3 zL ⊢
                  clear hw6 b3
                  have HO6 := Lib.hid o3
                  have HB6 := Lib.hid w3b
                  have HC6 := Lib.hid (And.intro R7 (And.intro R6 L3))
                  have c0 := (HB6.out.cell (p := ⟨bI, oI + j, none⟩) hBI).trans CI.out
                  obtain ⟨p0, p1, p2, f0, f1, f2⟩ := HC6.out.1.cells
                  obtain ⟨q0, q1, q2, g0, g1, g2⟩ := HC6.out.2.1.cells
                  obtain ⟨d0, d1, d2, d3⟩ := HC6.out.2.2.cells
                  have b6 := HB6.out
                  have zz := HC6.out.2.2.lt
                  have hst : stp I O ((2, (j : Int), b, t) : Ln) out R = (0, out, R) := by rw [stp2 HOJ.out, if_neg (by omega)]; rw [HAD.out]
                  have HN := Lib.hid (run_next (sk := 0) HX.out hst (by rw [skp_two HIX.out, if_neg hte]) HRUN.out)
                  clear hst HRUN
                  have hlI : ¬ (40 : Int) < (out.size : Int) := by omega
                  have ho2 : out.size ≤ 40 := ho
                  have hT := text_ne hte
                  have HREL := Lib.hid (show SRel S I O A w w2.heap.size (.int .i64 ((k + 1 : Nat) : Int)) w6 from
                    ⟨k + 1, _, R, _, rfl, by omega, HC6.out.1, HC6.out.2.1, HO6.out, HB6.out, by first | omega | (have := HL5.out; omega) | (simp; omega), ho2, by have := HN.out; simpa using this⟩)
                  go_wp2_with fail
                  go_roundw
                  case rel => have h := HREL.out; rwa [show ((k + 1 : Nat) : Int) = (k : Int) + 1 by omega] at h
                  case measure => simp [intOf]; omega
            · rcases hmk : mkd ti
              · as_aux_lemma =>
                  obtain ⟨p0, p1, p2, f0, f1, f2⟩ := HBX.out.1.cells
                  go_wp2_with fail
                  refine KH.out.mono ?_
                  rintro e w3 ⟨rfl, b3⟩
                  have R7 := HBX.out.1.below b3
                  have R6 := HBX.out.2.below b3
                  have L3 := HLB.out.below b3
                  have o3 := iown_below HOWN.out b3
                  have w3b := HB.out.trans (b3.mono zb1)
                  have z3 := b3.size
                  have zL := L3.lt
                  clear p0 p1 p2 f0 f1 f2 d0 d1 d2 d3 k0
                  obtain ⟨w6, hw6⟩ : ∃ V, V = w3 := ⟨_, rfl⟩
                  rw [← hw6] at R7 R6 L3 o3 w3b z3 zL ⊢
                  clear hw6 b3
                  have HO6 := Lib.hid o3
                  have HB6 := Lib.hid w3b
                  have HC6 := Lib.hid (And.intro R7 (And.intro R6 L3))
                  have c0 := (HB6.out.cell (p := ⟨bI, oI + j, none⟩) hBI).trans CI.out
                  obtain ⟨p0, p1, p2, f0, f1, f2⟩ := HC6.out.1.cells
                  obtain ⟨q0, q1, q2, g0, g1, g2⟩ := HC6.out.2.1.cells
                  obtain ⟨d0, d1, d2, d3⟩ := HC6.out.2.2.cells
                  have b6 := HB6.out
                  have zz := HC6.out.2.2.lt
                  have hst : stp I O ((5, (j : Int), b, t) : Ln) out R = (0, out, R) := by rw [stp5 HIX.out HOJ.out hmk, if_neg (by omega)]; rw [HAD.out]
                  have HN := Lib.hid (run_next (sk := 0) HX.out hst (skp_no (by decide)) HRUN.out)
                  clear hst HRUN
                  have hlI : ¬ (40 : Int) < (out.size : Int) := by omega
                  have ho2 : out.size ≤ 40 := ho
                  by_cases ht0 : 0 < ti.size
                  · have htI : (0 : Int) < (ti.size : Int) := by omega
                    have hq : ((ti[0].toNat : Int) == 33) = false := by
                      rw [mkd_at ht0, beq_eq_false_iff_ne] at hmk
                      rw [beq_eq_false_iff_ne]
                      intro e
                      apply hmk
                      apply UInt8.toNat_inj.1
                      have : ti[0].toNat = 33 := by omega
                      rw [this]
                      rfl
                    clear hmk
                    have HREL := Lib.hid (show SRel S I O A w w2.heap.size (.int .i64 ((k + 1 : Nat) : Int)) w6 from
                      ⟨k + 1, _, R, _, rfl, by omega, HC6.out.1, HC6.out.2.1, HO6.out, HB6.out, by first | omega | (have := HL5.out; omega) | (simp; omega), ho2, by have := HN.out; simpa using this⟩)
                    go_wp2_with fail
                    go_roundw
                    case rel => have h := HREL.out; rwa [show ((k + 1 : Nat) : Int) = (k : Int) + 1 by omega] at h
                    case measure => simp [intOf]; omega
                  · have htI : ¬ (0 : Int) < (ti.size : Int) := by omega
                    clear hmk
                    have HREL := Lib.hid (show SRel S I O A w w2.heap.size (.int .i64 ((k + 1 : Nat) : Int)) w6 from
                      ⟨k + 1, _, R, _, rfl, by omega, HC6.out.1, HC6.out.2.1, HO6.out, HB6.out, by first | omega | (have := HL5.out; omega) | (simp; omega), ho2, by have := HN.out; simpa using this⟩)
                    go_wp2_with fail
                    go_roundw
                    case rel => have h := HREL.out; rwa [show ((k + 1 : Nat) : Int) = (k : Int) + 1 by omega] at h
                    case measure => simp [intOf]; omega
              · as_aux_lemma =>
                  obtain ⟨p0, p1, p2, f0, f1, f2⟩ := HBX.out.1.cells
                  go_wp2_with fail
                  refine KH.out.mono ?_
                  rintro e w3 ⟨rfl, b3⟩
                  have R7 := HBX.out.1.below b3
                  have R6 := HBX.out.2.below b3
                  have L3 := HLB.out.below b3
                  have o3 := iown_below HOWN.out b3
                  have w3b := HB.out.trans (b3.mono zb1)
                  have z3 := b3.size
                  have zL := L3.lt
                  clear p0 p1 p2 f0 f1 f2 d0 d1 d2 d3 k0
                  obtain ⟨w6, hw6⟩ : ∃ V, V = w3 := ⟨_, rfl⟩
                  rw [← hw6] at R7 R6 L3 o3 w3b z3 zL ⊢
                  clear hw6 b3
                  have HO6 := Lib.hid o3
                  have HB6 := Lib.hid w3b
                  have HC6 := Lib.hid (And.intro R7 (And.intro R6 L3))
                  have c0 := (HB6.out.cell (p := ⟨bI, oI + j, none⟩) hBI).trans CI.out
                  obtain ⟨p0, p1, p2, f0, f1, f2⟩ := HC6.out.1.cells
                  obtain ⟨q0, q1, q2, g0, g1, g2⟩ := HC6.out.2.1.cells
                  obtain ⟨d0, d1, d2, d3⟩ := HC6.out.2.2.cells
                  have b6 := HB6.out
                  have zz := HC6.out.2.2.lt
                  have hst : stp I O ((5, (j : Int), b, t) : Ln) out R = (4, out, R) := by rw [stp5m HIX.out HOJ.out hmk]; rw [HAD.out]
                  have HAA := Lib.hid (run_stop HX.out hst (by decide) HRUN.out)
                  clear hst HRUN
                  have hlI : ¬ (40 : Int) < (out.size : Int) := by omega
                  have ho2 : out.size ≤ 40 := ho
                  have ht0 : 0 < ti.size := by
                    rcases Nat.eq_zero_or_pos ti.size with h | h
                    · rw [mkd_no h] at hmk
                      cases hmk
                    · exact h
                  have htI : (0 : Int) < (ti.size : Int) := by omega
                  have hq : ((ti[0].toNat : Int) == 33) = true := by
                    rw [mkd_at ht0, beq_iff_eq] at hmk
                    rw [hmk]
                    rfl
                  clear hmk
                  go_wp2_with fail
                  exact bodyPost_ret (v := ranV 4 ⟨#[]⟩ (.slice ra R.length rc)) (by simp [results, Try.results124, go_sem, *]) rfl
                    (by rw [HAA.out]; exact ⟨_, rfl, IB.wide (IB.set (IB.set (IB.set (IOwn.ib HO6.out) (.inl (by omega))) (.inl (by omega))) (.inl (by omega))) (by omega) (by simp [World.setCell]; try omega), by go_grown⟩)
          · have HAD := Lib.hid (show addR R (j : Int) = R ++ [(j : Int)] from if_neg hm)
            rw [decide_eq_false hm] at KH
            clear hm
            rcases hread with rfl | rfl | rfl
            · by_cases hl : 40 < (out ++ ti).size
              · as_aux_lemma =>
                  obtain ⟨p0, p1, p2, f0, f1, f2⟩ := HBX.out.1.cells
                  go_wp2_with fail
                  refine KH.out.mono ?_
                  rintro e w3 ⟨rfl, b3⟩
                  have R7 := HBX.out.1.below b3
                  have R6 := HBX.out.2.below b3
                  have L3 := HLB.out.below b3
                  have o3 := iown_below HOWN.out b3
                  have w3b := HB.out.trans (b3.mono zb1)
                  have z3 := b3.size
                  have zL := L3.lt
                  clear p0 p1 p2 f0 f1 f2 d0 d1 d2 d3 k0
                  obtain ⟨p0, p1, p2, f0, f1, f2⟩ := R7.cells
                  obtain ⟨d0, d1, d2, d3⟩ := L3.cells
                  go_wp2_with (at_builtin; refine wpList_append_own _ rfl _ _ 43 rfl (w2.heap.size + 1) 3 i0 (.int .i64 0) 1 8 Try.underlying43 hi hz0 hz1 hz2 rfl (by decide) _ _ _ rfl (iown_below o3 ((Below.refl w3.heap.size w3).alloc (Nat.le_refl _) (.cells #[.int .i64 (j : Int)] 3))) ⟨w3.heap.size, 0, none⟩ 1 1 [.int .i64 (j : Int)] rfl rfl (one_new w3 _) (one_one _) (by unfold maxLen; omega) (by omega) (by simp; omega) ?_)
                  intro v5 w5 hown5 hgrow hnn
                  have o5 : IOwn w5 (w2.heap.size + 1) v5 (R ++ [(j : Int)]) := IOwn.push hown5
                  obtain ⟨R5, hR5⟩ : ∃ X, R ++ [(j : Int)] = X := ⟨_, rfl⟩
                  have HL5 := Lib.hid (show R5.length = R.length + 1 by rw [← hR5]; simp)
                  have HAD5 := Lib.hid (HAD.out.trans hR5)
                  rw [hR5] at o5
                  clear hR5
                  obtain ⟨va, vc, rfl, x5⟩ := id (IOwn.ib o5)
                  have ne7 : (Value.slice ra R.length rc).ownBlock ≠ some w2.heap.size := fun e => by have := lt3 _ e; omega
                  have ne6 : (Value.slice ra R.length rc).ownBlock ≠ some w.heap.size := fun e => by have := lt3 _ e; omega
                  have neL : (Value.slice ra R.length rc).ownBlock ≠ some wr.heap.size := fun e => by have := lt3 _ e; omega
                  have A7 := (R7.alloc (.cells #[.int .i64 (j : Int)] 3)).grown hgrow ne7
                  have A6 := (R6.alloc (.cells #[.int .i64 (j : Int)] 3)).grown hgrow ne6
                  have AL := (L3.alloc (.cells #[.int .i64 (j : Int)] 3)).grown hgrow neL
                  have b5 : Below w.heap.size w w5 := (w3b.alloc w3b.size _).grown hgrow (by simp; omega) (fun q hq => by have := lt3 q hq; omega)
                  have z5 : w3.heap.size ≤ w5.heap.size := by have := hgrow.size; simp at this; omega
                  clear x5 hown5 hgrow hnn p0 p1 p2 f0 f1 f2 d0 d1 d2 d3 R7 R6 L3 o3 w3b ne7 ne6 neL b3
                  obtain ⟨w6, hw6⟩ : ∃ V, V = w5.setCell ⟨w2.heap.size, 2, none⟩ (.slice va R5.length vc) := ⟨_, rfl⟩
                  have B7 : RnBlk w6 w2.heap.size 0 out (.slice va R5.length vc) := by rw [hw6]; exact A7.set2
                  have B6 : RnBlk w6 w.heap.size 0 ⟨#[]⟩ (.slice none 0 0) := by rw [hw6]; exact A6.other (by omega)
                  have BL := AL.other (k := w2.heap.size) (x := 2) (u := .slice va R5.length vc) (by omega)
                  rw [← hw6] at BL
                  have o6 : IOwn w6 (w2.heap.size + 1) (.slice va R5.length vc) R5 := by rw [hw6]; exact own_set o5 (by omega)
                  have b6 : Below w.heap.size w w6 := by rw [hw6]; exact b5.setCell (by show w.heap.size ≤ w2.heap.size; omega) _
                  have z6 : w3.heap.size ≤ w6.heap.size := by rw [hw6]; simpa [World.setCell] using z5
                  obtain ⟨p0, p1, p2, f0, f1, f2⟩ := A7.cells
                  go_upto_region 14 with fail
                  rw [← hw6]
                  clear hw6 p0 p1 p2 f0 f1 f2 A7 A6 AL o5 b5
                  have HO6 := Lib.hid o6
                  have HB6 := Lib.hid b6
                  have HC6 := Lib.hid (And.intro B7 (And.intro B6 BL))
                  have c0 := (HB6.out.cell (p := ⟨bI, oI + j, none⟩) hBI).trans CI.out
                  obtain ⟨p0, p1, p2, f0, f1, f2⟩ := HC6.out.1.cells
                  obtain ⟨q0, q1, q2, g0, g1, g2⟩ := HC6.out.2.1.cells
                  obtain ⟨d0, d1, d2, d3⟩ := HC6.out.2.2.cells
                  have b6 := HB6.out
                  have zz := HC6.out.2.2.lt
                  have hst : stp I O ((0, (j : Int), b, t) : Ln) out R = (3, (out ++ ti), R5) := by rw [stp0 HIX.out HOJ.out, if_pos hl]; rw [HAD5.out]
                  have HAA := Lib.hid (run_stop HX.out hst (by decide) HRUN.out)
                  clear hst HRUN
                  have n1 : ¬ 9223372036854775807 < out.size + ti.size := by omega
                  have hsz : (out ++ ti).size = out.size + ti.size := ByteArray.size_append
                  rw [hsz] at hl
                  have hlI : (40 : Int) < ((out.size + ti.size : Nat) : Int) := by omega
                  go_wp2_with fail
                  exact bodyPost_ret (v := ranV 3 ⟨#[]⟩ (.slice va R5.length vc)) (by simp [results, Try.results124, go_sem, *]) rfl
                    (by rw [HAA.out]; exact ⟨_, rfl, IB.wide (IB.set (IB.set (IB.set (IB.set (IOwn.ib HO6.out) (.inl (by omega))) (.inl (by omega))) (.inl (by omega))) (.inl (by omega))) (by omega) (by simp [World.setCell]; try omega), by go_grown⟩)
              · as_aux_lemma =>
                  obtain ⟨p0, p1, p2, f0, f1, f2⟩ := HBX.out.1.cells
                  go_wp2_with fail
                  refine KH.out.mono ?_
                  rintro e w3 ⟨rfl, b3⟩
                  have R7 := HBX.out.1.below b3
                  have R6 := HBX.out.2.below b3
                  have L3 := HLB.out.below b3
                  have o3 := iown_below HOWN.out b3
                  have w3b := HB.out.trans (b3.mono zb1)
                  have z3 := b3.size
                  have zL := L3.lt
                  clear p0 p1 p2 f0 f1 f2 d0 d1 d2 d3 k0
                  obtain ⟨p0, p1, p2, f0, f1, f2⟩ := R7.cells
                  obtain ⟨d0, d1, d2, d3⟩ := L3.cells
                  go_wp2_with (at_builtin; refine wpList_append_own _ rfl _ _ 43 rfl (w2.heap.size + 1) 3 i0 (.int .i64 0) 1 8 Try.underlying43 hi hz0 hz1 hz2 rfl (by decide) _ _ _ rfl (iown_below o3 ((Below.refl w3.heap.size w3).alloc (Nat.le_refl _) (.cells #[.int .i64 (j : Int)] 3))) ⟨w3.heap.size, 0, none⟩ 1 1 [.int .i64 (j : Int)] rfl rfl (one_new w3 _) (one_one _) (by unfold maxLen; omega) (by omega) (by simp; omega) ?_)
                  intro v5 w5 hown5 hgrow hnn
                  have o5 : IOwn w5 (w2.heap.size + 1) v5 (R ++ [(j : Int)]) := IOwn.push hown5
                  obtain ⟨R5, hR5⟩ : ∃ X, R ++ [(j : Int)] = X := ⟨_, rfl⟩
                  have HL5 := Lib.hid (show R5.length = R.length + 1 by rw [← hR5]; simp)
                  have HAD5 := Lib.hid (HAD.out.trans hR5)
                  rw [hR5] at o5
                  clear hR5
                  obtain ⟨va, vc, rfl, x5⟩ := id (IOwn.ib o5)
                  have ne7 : (Value.slice ra R.length rc).ownBlock ≠ some w2.heap.size := fun e => by have := lt3 _ e; omega
                  have ne6 : (Value.slice ra R.length rc).ownBlock ≠ some w.heap.size := fun e => by have := lt3 _ e; omega
                  have neL : (Value.slice ra R.length rc).ownBlock ≠ some wr.heap.size := fun e => by have := lt3 _ e; omega
                  have A7 := (R7.alloc (.cells #[.int .i64 (j : Int)] 3)).grown hgrow ne7
                  have A6 := (R6.alloc (.cells #[.int .i64 (j : Int)] 3)).grown hgrow ne6
                  have AL := (L3.alloc (.cells #[.int .i64 (j : Int)] 3)).grown hgrow neL
                  have b5 : Below w.heap.size w w5 := (w3b.alloc w3b.size _).grown hgrow (by simp; omega) (fun q hq => by have := lt3 q hq; omega)
                  have z5 : w3.heap.size ≤ w5.heap.size := by have := hgrow.size; simp at this; omega
                  clear x5 hown5 hgrow hnn p0 p1 p2 f0 f1 f2 d0 d1 d2 d3 R7 R6 L3 o3 w3b ne7 ne6 neL b3
                  obtain ⟨w6, hw6⟩ : ∃ V, V = w5.setCell ⟨w2.heap.size, 2, none⟩ (.slice va R5.length vc) := ⟨_, rfl⟩
                  have B7 : RnBlk w6 w2.heap.size 0 out (.slice va R5.length vc) := by rw [hw6]; exact A7.set2
                  have B6 : RnBlk w6 w.heap.size 0 ⟨#[]⟩ (.slice none 0 0) := by rw [hw6]; exact A6.other (by omega)
                  have BL := AL.other (k := w2.heap.size) (x := 2) (u := .slice va R5.length vc) (by omega)
                  rw [← hw6] at BL
                  have o6 : IOwn w6 (w2.heap.size + 1) (.slice va R5.length vc) R5 := by rw [hw6]; exact own_set o5 (by omega)
                  have b6 : Below w.heap.size w w6 := by rw [hw6]; exact b5.setCell (by show w.heap.size ≤ w2.heap.size; omega) _
                  have z6 : w3.heap.size ≤ w6.heap.size := by rw [hw6]; simpa [World.setCell] using z5
                  obtain ⟨p0, p1, p2, f0, f1, f2⟩ := A7.cells
                  go_upto_region 14 with fail
                  rw [← hw6]
                  clear hw6 p0 p1 p2 f0 f1 f2 A7 A6 AL o5 b5
                  have HO6 := Lib.hid o6
                  have HB6 := Lib.hid b6
                  have HC6 := Lib.hid (And.intro B7 (And.intro B6 BL))
                  have c0 := (HB6.out.cell (p := ⟨bI, oI + j, none⟩) hBI).trans CI.out
                  obtain ⟨p0, p1, p2, f0, f1, f2⟩ := HC6.out.1.cells
                  obtain ⟨q0, q1, q2, g0, g1, g2⟩ := HC6.out.2.1.cells
                  obtain ⟨d0, d1, d2, d3⟩ := HC6.out.2.2.cells
                  have b6 := HB6.out
                  have zz := HC6.out.2.2.lt
                  have hst : stp I O ((0, (j : Int), b, t) : Ln) out R = (0, (out ++ ti), R5) := by rw [stp0 HIX.out HOJ.out, if_neg (by omega)]; rw [HAD5.out]
                  have HN := Lib.hid (run_next (sk := 0) HX.out hst (skp_no (by decide)) HRUN.out)
                  clear hst HRUN
                  have n1 : ¬ 9223372036854775807 < out.size + ti.size := by omega
                  have hsz : (out ++ ti).size = out.size + ti.size := ByteArray.size_append
                  rw [hsz] at hl
                  have hlI : ¬ (40 : Int) < ((out.size + ti.size : Nat) : Int) := by omega
                  have ho2 : (out ++ ti).size ≤ 40 := by omega
                  have HREL := Lib.hid (show SRel S I O A w w2.heap.size (.int .i64 ((k + 1 : Nat) : Int)) (w6.setCell ⟨w2.heap.size, 1, none⟩ (.string (out ++ ti))) from
                    ⟨k + 1, _, R5, _, rfl, by omega, HC6.out.1.set1, HC6.out.2.1.other (by omega), own_set HO6.out (by omega), HB6.out.setCell (by show w.heap.size ≤ w2.heap.size; omega) _, by first | omega | (have := HL5.out; omega) | (simp; omega), ho2, by have := HN.out; simpa using this⟩)
                  go_wp2_with fail
                  go_roundw
                  case rel => have h := HREL.out; rwa [show ((k + 1 : Nat) : Int) = (k : Int) + 1 by omega] at h
                  case measure => simp [intOf]; omega
            · have HBB := Lib.hid (hb10 rfl)
              clear hb10
              by_cases hte : ti.size = 0
              · as_aux_lemma =>
                  obtain ⟨p0, p1, p2, f0, f1, f2⟩ := HBX.out.1.cells
                  go_wp2_with fail
                  refine KH.out.mono ?_
                  rintro e w3 ⟨rfl, b3⟩
                  have R7 := HBX.out.1.below b3
                  have R6 := HBX.out.2.below b3
                  have L3 := HLB.out.below b3
                  have o3 := iown_below HOWN.out b3
                  have w3b := HB.out.trans (b3.mono zb1)
                  have z3 := b3.size
                  have zL := L3.lt
                  clear p0 p1 p2 f0 f1 f2 d0 d1 d2 d3 k0
                  obtain ⟨p0, p1, p2, f0, f1, f2⟩ := R7.cells
                  obtain ⟨d0, d1, d2, d3⟩ := L3.cells
                  go_wp2_with (at_builtin; refine wpList_append_own _ rfl _ _ 43 rfl (w2.heap.size + 1) 3 i0 (.int .i64 0) 1 8 Try.underlying43 hi hz0 hz1 hz2 rfl (by decide) _ _ _ rfl (iown_below o3 ((Below.refl w3.heap.size w3).alloc (Nat.le_refl _) (.cells #[.int .i64 (j : Int)] 3))) ⟨w3.heap.size, 0, none⟩ 1 1 [.int .i64 (j : Int)] rfl rfl (one_new w3 _) (one_one _) (by unfold maxLen; omega) (by omega) (by simp; omega) ?_)
                  intro v5 w5 hown5 hgrow hnn
                  have o5 : IOwn w5 (w2.heap.size + 1) v5 (R ++ [(j : Int)]) := IOwn.push hown5
                  obtain ⟨R5, hR5⟩ : ∃ X, R ++ [(j : Int)] = X := ⟨_, rfl⟩
                  have HL5 := Lib.hid (show R5.length = R.length + 1 by rw [← hR5]; simp)
                  have HAD5 := Lib.hid (HAD.out.trans hR5)
                  rw [hR5] at o5
                  clear hR5
                  obtain ⟨va, vc, rfl, x5⟩ := id (IOwn.ib o5)
                  have ne7 : (Value.slice ra R.length rc).ownBlock ≠ some w2.heap.size := fun e => by have := lt3 _ e; omega
                  have ne6 : (Value.slice ra R.length rc).ownBlock ≠ some w.heap.size := fun e => by have := lt3 _ e; omega
                  have neL : (Value.slice ra R.length rc).ownBlock ≠ some wr.heap.size := fun e => by have := lt3 _ e; omega
                  have A7 := (R7.alloc (.cells #[.int .i64 (j : Int)] 3)).grown hgrow ne7
                  have A6 := (R6.alloc (.cells #[.int .i64 (j : Int)] 3)).grown hgrow ne6
                  have AL := (L3.alloc (.cells #[.int .i64 (j : Int)] 3)).grown hgrow neL
                  have b5 : Below w.heap.size w w5 := (w3b.alloc w3b.size _).grown hgrow (by simp; omega) (fun q hq => by have := lt3 q hq; omega)
                  have z5 : w3.heap.size ≤ w5.heap.size := by have := hgrow.size; simp at this; omega
                  clear x5 hown5 hgrow hnn p0 p1 p2 f0 f1 f2 d0 d1 d2 d3 R7 R6 L3 o3 w3b ne7 ne6 neL b3
                  obtain ⟨w6, hw6⟩ : ∃ V, V = w5.setCell ⟨w2.heap.size, 2, none⟩ (.slice va R5.length vc) := ⟨_, rfl⟩
                  have B7 : RnBlk w6 w2.heap.size 0 out (.slice va R5.length vc) := by rw [hw6]; exact A7.set2
                  have B6 : RnBlk w6 w.heap.size 0 ⟨#[]⟩ (.slice none 0 0) := by rw [hw6]; exact A6.other (by omega)
                  have BL := AL.other (k := w2.heap.size) (x := 2) (u := .slice va R5.length vc) (by omega)
                  rw [← hw6] at BL
                  have o6 : IOwn w6 (w2.heap.size + 1) (.slice va R5.length vc) R5 := by rw [hw6]; exact own_set o5 (by omega)
                  have b6 : Below w.heap.size w w6 := by rw [hw6]; exact b5.setCell (by show w.heap.size ≤ w2.heap.size; omega) _
                  have z6 : w3.heap.size ≤ w6.heap.size := by rw [hw6]; simpa [World.setCell] using z5
                  obtain ⟨p0, p1, p2, f0, f1, f2⟩ := A7.cells
                  go_upto_region 14 with fail
                  rw [← hw6]
                  clear hw6 p0 p1 p2 f0 f1 f2 A7 A6 AL o5 b5
                  have HO6 := Lib.hid o6
                  have HB6 := Lib.hid b6
                  have HC6 := Lib.hid (And.intro B7 (And.intro B6 BL))
                  have c0 := (HB6.out.cell (p := ⟨bI, oI + j, none⟩) hBI).trans CI.out
                  obtain ⟨p0, p1, p2, f0, f1, f2⟩ := HC6.out.1.cells
                  obtain ⟨q0, q1, q2, g0, g1, g2⟩ := HC6.out.2.1.cells
                  obtain ⟨d0, d1, d2, d3⟩ := HC6.out.2.2.cells
                  have b6 := HB6.out
                  have zz := HC6.out.2.2.lt
                  have hst : stp I O ((2, (j : Int), b, t) : Ln) out R = (0, out, R5) := by rw [stp2 HOJ.out, if_neg (by omega)]; rw [HAD5.out]
                  have HN := Lib.hid (run_next (sk := b.toNat) HX.out hst (by rw [skp_two HIX.out, if_pos hte]) HRUN.out)
                  clear hst HRUN
                  have hlI : ¬ (40 : Int) < (out.size : Int) := by omega
                  have ho2 : out.size ≤ 40 := ho
                  obtain ⟨m, rfl⟩ : ∃ m : Nat, b = (m : Int) := ⟨b.toNat, by have := HBB.out; omega⟩
                  have hm10 := HBB.out.2
                  obtain rfl := text_nil hte
                  have HREL := Lib.hid (show SRel S I O A w w2.heap.size (.int .i64 ((k + 1 + m : Nat) : Int)) w6 from
                    ⟨k + 1 + m, _, R5, _, rfl, by omega, HC6.out.1, HC6.out.2.1, HO6.out, HB6.out, by first | omega | (have := HL5.out; omega) | (simp; omega), ho2, by have := HN.out; simpa using this⟩)
                  go_wp2_with fail
                  go_roundw
                  case rel => have h := HREL.out; rwa [show ((k + 1 + m : Nat) : Int) = (k : Int) + (m : Int) + 1 by omega] at h
                  case measure => simp [intOf]; omega
              · as_aux_lemma =>
                  obtain ⟨p0, p1, p2, f0, f1, f2⟩ := HBX.out.1.cells
                  go_wp2_with fail
                  refine KH.out.mono ?_
                  rintro e w3 ⟨rfl, b3⟩
                  have R7 := HBX.out.1.below b3
                  have R6 := HBX.out.2.below b3
                  have L3 := HLB.out.below b3
                  have o3 := iown_below HOWN.out b3
                  have w3b := HB.out.trans (b3.mono zb1)
                  have z3 := b3.size
                  have zL := L3.lt
                  clear p0 p1 p2 f0 f1 f2 d0 d1 d2 d3 k0
                  obtain ⟨p0, p1, p2, f0, f1, f2⟩ := R7.cells
                  obtain ⟨d0, d1, d2, d3⟩ := L3.cells
                  go_wp2_with (at_builtin; refine wpList_append_own _ rfl _ _ 43 rfl (w2.heap.size + 1) 3 i0 (.int .i64 0) 1 8 Try.underlying43 hi hz0 hz1 hz2 rfl (by decide) _ _ _ rfl (iown_below o3 ((Below.refl w3.heap.size w3).alloc (Nat.le_refl _) (.cells #[.int .i64 (j : Int)] 3))) ⟨w3.heap.size, 0, none⟩ 1 1 [.int .i64 (j : Int)] rfl rfl (one_new w3 _) (one_one _) (by unfold maxLen; omega) (by omega) (by simp; omega) ?_)
                  intro v5 w5 hown5 hgrow hnn
                  have o5 : IOwn w5 (w2.heap.size + 1) v5 (R ++ [(j : Int)]) := IOwn.push hown5
                  obtain ⟨R5, hR5⟩ : ∃ X, R ++ [(j : Int)] = X := ⟨_, rfl⟩
                  have HL5 := Lib.hid (show R5.length = R.length + 1 by rw [← hR5]; simp)
                  have HAD5 := Lib.hid (HAD.out.trans hR5)
                  rw [hR5] at o5
                  clear hR5
                  obtain ⟨va, vc, rfl, x5⟩ := id (IOwn.ib o5)
                  have ne7 : (Value.slice ra R.length rc).ownBlock ≠ some w2.heap.size := fun e => by have := lt3 _ e; omega
                  have ne6 : (Value.slice ra R.length rc).ownBlock ≠ some w.heap.size := fun e => by have := lt3 _ e; omega
                  have neL : (Value.slice ra R.length rc).ownBlock ≠ some wr.heap.size := fun e => by have := lt3 _ e; omega
                  have A7 := (R7.alloc (.cells #[.int .i64 (j : Int)] 3)).grown hgrow ne7
                  have A6 := (R6.alloc (.cells #[.int .i64 (j : Int)] 3)).grown hgrow ne6
                  have AL := (L3.alloc (.cells #[.int .i64 (j : Int)] 3)).grown hgrow neL
                  have b5 : Below w.heap.size w w5 := (w3b.alloc w3b.size _).grown hgrow (by simp; omega) (fun q hq => by have := lt3 q hq; omega)
                  have z5 : w3.heap.size ≤ w5.heap.size := by have := hgrow.size; simp at this; omega
                  clear x5 hown5 hgrow hnn p0 p1 p2 f0 f1 f2 d0 d1 d2 d3 R7 R6 L3 o3 w3b ne7 ne6 neL b3
                  obtain ⟨w6, hw6⟩ : ∃ V, V = w5.setCell ⟨w2.heap.size, 2, none⟩ (.slice va R5.length vc) := ⟨_, rfl⟩
                  have B7 : RnBlk w6 w2.heap.size 0 out (.slice va R5.length vc) := by rw [hw6]; exact A7.set2
                  have B6 : RnBlk w6 w.heap.size 0 ⟨#[]⟩ (.slice none 0 0) := by rw [hw6]; exact A6.other (by omega)
                  have BL := AL.other (k := w2.heap.size) (x := 2) (u := .slice va R5.length vc) (by omega)
                  rw [← hw6] at BL
                  have o6 : IOwn w6 (w2.heap.size + 1) (.slice va R5.length vc) R5 := by rw [hw6]; exact own_set o5 (by omega)
                  have b6 : Below w.heap.size w w6 := by rw [hw6]; exact b5.setCell (by show w.heap.size ≤ w2.heap.size; omega) _
                  have z6 : w3.heap.size ≤ w6.heap.size := by rw [hw6]; simpa [World.setCell] using z5
                  obtain ⟨p0, p1, p2, f0, f1, f2⟩ := A7.cells
                  go_upto_region 14 with fail
                  rw [← hw6]
                  clear hw6 p0 p1 p2 f0 f1 f2 A7 A6 AL o5 b5
                  have HO6 := Lib.hid o6
                  have HB6 := Lib.hid b6
                  have HC6 := Lib.hid (And.intro B7 (And.intro B6 BL))
                  have c0 := (HB6.out.cell (p := ⟨bI, oI + j, none⟩) hBI).trans CI.out
                  obtain ⟨p0, p1, p2, f0, f1, f2⟩ := HC6.out.1.cells
                  obtain ⟨q0, q1, q2, g0, g1, g2⟩ := HC6.out.2.1.cells
                  obtain ⟨d0, d1, d2, d3⟩ := HC6.out.2.2.cells
                  have b6 := HB6.out
                  have zz := HC6.out.2.2.lt
                  have hst : stp I O ((2, (j : Int), b, t) : Ln) out R = (0, out, R5) := by rw [stp2 HOJ.out, if_neg (by omega)]; rw [HAD5.out]
                  have HN := Lib.hid (run_next (sk := 0) HX.out hst (by rw [skp_two HIX.out, if_neg hte]) HRUN.out)
                  clear hst HRUN
                  have hlI : ¬ (40 : Int) < (out.size : Int) := by omega
                  have ho2 : out.size ≤ 40 := ho
                  have hT := text_ne hte
                  have HREL := Lib.hid (show SRel S I O A w w2.heap.size (.int .i64 ((k + 1 : Nat) : Int)) w6 from
                    ⟨k + 1, _, R5, _, rfl, by omega, HC6.out.1, HC6.out.2.1, HO6.out, HB6.out, by first | omega | (have := HL5.out; omega) | (simp; omega), ho2, by have := HN.out; simpa using this⟩)
                  go_wp2_with fail
                  go_roundw
                  case rel => have h := HREL.out; rwa [show ((k + 1 : Nat) : Int) = (k : Int) + 1 by omega] at h
                  case measure => simp [intOf]; omega
            · rcases hmk : mkd ti
              · as_aux_lemma =>
                  obtain ⟨p0, p1, p2, f0, f1, f2⟩ := HBX.out.1.cells
                  go_wp2_with fail
                  refine KH.out.mono ?_
                  rintro e w3 ⟨rfl, b3⟩
                  have R7 := HBX.out.1.below b3
                  have R6 := HBX.out.2.below b3
                  have L3 := HLB.out.below b3
                  have o3 := iown_below HOWN.out b3
                  have w3b := HB.out.trans (b3.mono zb1)
                  have z3 := b3.size
                  have zL := L3.lt
                  clear p0 p1 p2 f0 f1 f2 d0 d1 d2 d3 k0
                  obtain ⟨p0, p1, p2, f0, f1, f2⟩ := R7.cells
                  obtain ⟨d0, d1, d2, d3⟩ := L3.cells
                  go_wp2_with (at_builtin; refine wpList_append_own _ rfl _ _ 43 rfl (w2.heap.size + 1) 3 i0 (.int .i64 0) 1 8 Try.underlying43 hi hz0 hz1 hz2 rfl (by decide) _ _ _ rfl (iown_below o3 ((Below.refl w3.heap.size w3).alloc (Nat.le_refl _) (.cells #[.int .i64 (j : Int)] 3))) ⟨w3.heap.size, 0, none⟩ 1 1 [.int .i64 (j : Int)] rfl rfl (one_new w3 _) (one_one _) (by unfold maxLen; omega) (by omega) (by simp; omega) ?_)
                  intro v5 w5 hown5 hgrow hnn
                  have o5 : IOwn w5 (w2.heap.size + 1) v5 (R ++ [(j : Int)]) := IOwn.push hown5
                  obtain ⟨R5, hR5⟩ : ∃ X, R ++ [(j : Int)] = X := ⟨_, rfl⟩
                  have HL5 := Lib.hid (show R5.length = R.length + 1 by rw [← hR5]; simp)
                  have HAD5 := Lib.hid (HAD.out.trans hR5)
                  rw [hR5] at o5
                  clear hR5
                  obtain ⟨va, vc, rfl, x5⟩ := id (IOwn.ib o5)
                  have ne7 : (Value.slice ra R.length rc).ownBlock ≠ some w2.heap.size := fun e => by have := lt3 _ e; omega
                  have ne6 : (Value.slice ra R.length rc).ownBlock ≠ some w.heap.size := fun e => by have := lt3 _ e; omega
                  have neL : (Value.slice ra R.length rc).ownBlock ≠ some wr.heap.size := fun e => by have := lt3 _ e; omega
                  have A7 := (R7.alloc (.cells #[.int .i64 (j : Int)] 3)).grown hgrow ne7
                  have A6 := (R6.alloc (.cells #[.int .i64 (j : Int)] 3)).grown hgrow ne6
                  have AL := (L3.alloc (.cells #[.int .i64 (j : Int)] 3)).grown hgrow neL
                  have b5 : Below w.heap.size w w5 := (w3b.alloc w3b.size _).grown hgrow (by simp; omega) (fun q hq => by have := lt3 q hq; omega)
                  have z5 : w3.heap.size ≤ w5.heap.size := by have := hgrow.size; simp at this; omega
                  clear x5 hown5 hgrow hnn p0 p1 p2 f0 f1 f2 d0 d1 d2 d3 R7 R6 L3 o3 w3b ne7 ne6 neL b3
                  obtain ⟨w6, hw6⟩ : ∃ V, V = w5.setCell ⟨w2.heap.size, 2, none⟩ (.slice va R5.length vc) := ⟨_, rfl⟩
                  have B7 : RnBlk w6 w2.heap.size 0 out (.slice va R5.length vc) := by rw [hw6]; exact A7.set2
                  have B6 : RnBlk w6 w.heap.size 0 ⟨#[]⟩ (.slice none 0 0) := by rw [hw6]; exact A6.other (by omega)
                  have BL := AL.other (k := w2.heap.size) (x := 2) (u := .slice va R5.length vc) (by omega)
                  rw [← hw6] at BL
                  have o6 : IOwn w6 (w2.heap.size + 1) (.slice va R5.length vc) R5 := by rw [hw6]; exact own_set o5 (by omega)
                  have b6 : Below w.heap.size w w6 := by rw [hw6]; exact b5.setCell (by show w.heap.size ≤ w2.heap.size; omega) _
                  have z6 : w3.heap.size ≤ w6.heap.size := by rw [hw6]; simpa [World.setCell] using z5
                  obtain ⟨p0, p1, p2, f0, f1, f2⟩ := A7.cells
                  go_upto_region 14 with fail
                  rw [← hw6]
                  clear hw6 p0 p1 p2 f0 f1 f2 A7 A6 AL o5 b5
                  have HO6 := Lib.hid o6
                  have HB6 := Lib.hid b6
                  have HC6 := Lib.hid (And.intro B7 (And.intro B6 BL))
                  have c0 := (HB6.out.cell (p := ⟨bI, oI + j, none⟩) hBI).trans CI.out
                  obtain ⟨p0, p1, p2, f0, f1, f2⟩ := HC6.out.1.cells
                  obtain ⟨q0, q1, q2, g0, g1, g2⟩ := HC6.out.2.1.cells
                  obtain ⟨d0, d1, d2, d3⟩ := HC6.out.2.2.cells
                  have b6 := HB6.out
                  have zz := HC6.out.2.2.lt
                  have hst : stp I O ((5, (j : Int), b, t) : Ln) out R = (0, out, R5) := by rw [stp5 HIX.out HOJ.out hmk, if_neg (by omega)]; rw [HAD5.out]
                  have HN := Lib.hid (run_next (sk := 0) HX.out hst (skp_no (by decide)) HRUN.out)
                  clear hst HRUN
                  have hlI : ¬ (40 : Int) < (out.size : Int) := by omega
                  have ho2 : out.size ≤ 40 := ho
                  by_cases ht0 : 0 < ti.size
                  · have htI : (0 : Int) < (ti.size : Int) := by omega
                    have hq : ((ti[0].toNat : Int) == 33) = false := by
                      rw [mkd_at ht0, beq_eq_false_iff_ne] at hmk
                      rw [beq_eq_false_iff_ne]
                      intro e
                      apply hmk
                      apply UInt8.toNat_inj.1
                      have : ti[0].toNat = 33 := by omega
                      rw [this]
                      rfl
                    clear hmk
                    have HREL := Lib.hid (show SRel S I O A w w2.heap.size (.int .i64 ((k + 1 : Nat) : Int)) w6 from
                      ⟨k + 1, _, R5, _, rfl, by omega, HC6.out.1, HC6.out.2.1, HO6.out, HB6.out, by first | omega | (have := HL5.out; omega) | (simp; omega), ho2, by have := HN.out; simpa using this⟩)
                    go_wp2_with fail
                    go_roundw
                    case rel => have h := HREL.out; rwa [show ((k + 1 : Nat) : Int) = (k : Int) + 1 by omega] at h
                    case measure => simp [intOf]; omega
                  · have htI : ¬ (0 : Int) < (ti.size : Int) := by omega
                    clear hmk
                    have HREL := Lib.hid (show SRel S I O A w w2.heap.size (.int .i64 ((k + 1 : Nat) : Int)) w6 from
                      ⟨k + 1, _, R5, _, rfl, by omega, HC6.out.1, HC6.out.2.1, HO6.out, HB6.out, by first | omega | (have := HL5.out; omega) | (simp; omega), ho2, by have := HN.out; simpa using this⟩)
                    go_wp2_with fail
                    go_roundw
                    case rel => have h := HREL.out; rwa [show ((k + 1 : Nat) : Int) = (k : Int) + 1 by omega] at h
                    case measure => simp [intOf]; omega
              · as_aux_lemma =>
                  obtain ⟨p0, p1, p2, f0, f1, f2⟩ := HBX.out.1.cells
                  go_wp2_with fail
                  refine KH.out.mono ?_
                  rintro e w3 ⟨rfl, b3⟩
                  have R7 := HBX.out.1.below b3
                  have R6 := HBX.out.2.below b3
                  have L3 := HLB.out.below b3
                  have o3 := iown_below HOWN.out b3
                  have w3b := HB.out.trans (b3.mono zb1)
                  have z3 := b3.size
                  have zL := L3.lt
                  clear p0 p1 p2 f0 f1 f2 d0 d1 d2 d3 k0
                  obtain ⟨p0, p1, p2, f0, f1, f2⟩ := R7.cells
                  obtain ⟨d0, d1, d2, d3⟩ := L3.cells
                  go_wp2_with (at_builtin; refine wpList_append_own _ rfl _ _ 43 rfl (w2.heap.size + 1) 3 i0 (.int .i64 0) 1 8 Try.underlying43 hi hz0 hz1 hz2 rfl (by decide) _ _ _ rfl (iown_below o3 ((Below.refl w3.heap.size w3).alloc (Nat.le_refl _) (.cells #[.int .i64 (j : Int)] 3))) ⟨w3.heap.size, 0, none⟩ 1 1 [.int .i64 (j : Int)] rfl rfl (one_new w3 _) (one_one _) (by unfold maxLen; omega) (by omega) (by simp; omega) ?_)
                  intro v5 w5 hown5 hgrow hnn
                  have o5 : IOwn w5 (w2.heap.size + 1) v5 (R ++ [(j : Int)]) := IOwn.push hown5
                  obtain ⟨R5, hR5⟩ : ∃ X, R ++ [(j : Int)] = X := ⟨_, rfl⟩
                  have HL5 := Lib.hid (show R5.length = R.length + 1 by rw [← hR5]; simp)
                  have HAD5 := Lib.hid (HAD.out.trans hR5)
                  rw [hR5] at o5
                  clear hR5
                  obtain ⟨va, vc, rfl, x5⟩ := id (IOwn.ib o5)
                  have ne7 : (Value.slice ra R.length rc).ownBlock ≠ some w2.heap.size := fun e => by have := lt3 _ e; omega
                  have ne6 : (Value.slice ra R.length rc).ownBlock ≠ some w.heap.size := fun e => by have := lt3 _ e; omega
                  have neL : (Value.slice ra R.length rc).ownBlock ≠ some wr.heap.size := fun e => by have := lt3 _ e; omega
                  have A7 := (R7.alloc (.cells #[.int .i64 (j : Int)] 3)).grown hgrow ne7
                  have A6 := (R6.alloc (.cells #[.int .i64 (j : Int)] 3)).grown hgrow ne6
                  have AL := (L3.alloc (.cells #[.int .i64 (j : Int)] 3)).grown hgrow neL
                  have b5 : Below w.heap.size w w5 := (w3b.alloc w3b.size _).grown hgrow (by simp; omega) (fun q hq => by have := lt3 q hq; omega)
                  have z5 : w3.heap.size ≤ w5.heap.size := by have := hgrow.size; simp at this; omega
                  clear x5 hown5 hgrow hnn p0 p1 p2 f0 f1 f2 d0 d1 d2 d3 R7 R6 L3 o3 w3b ne7 ne6 neL b3
                  obtain ⟨w6, hw6⟩ : ∃ V, V = w5.setCell ⟨w2.heap.size, 2, none⟩ (.slice va R5.length vc) := ⟨_, rfl⟩
                  have B7 : RnBlk w6 w2.heap.size 0 out (.slice va R5.length vc) := by rw [hw6]; exact A7.set2
                  have B6 : RnBlk w6 w.heap.size 0 ⟨#[]⟩ (.slice none 0 0) := by rw [hw6]; exact A6.other (by omega)
                  have BL := AL.other (k := w2.heap.size) (x := 2) (u := .slice va R5.length vc) (by omega)
                  rw [← hw6] at BL
                  have o6 : IOwn w6 (w2.heap.size + 1) (.slice va R5.length vc) R5 := by rw [hw6]; exact own_set o5 (by omega)
                  have b6 : Below w.heap.size w w6 := by rw [hw6]; exact b5.setCell (by show w.heap.size ≤ w2.heap.size; omega) _
                  have z6 : w3.heap.size ≤ w6.heap.size := by rw [hw6]; simpa [World.setCell] using z5
                  obtain ⟨p0, p1, p2, f0, f1, f2⟩ := A7.cells
                  go_upto_region 14 with fail
                  rw [← hw6]
                  clear hw6 p0 p1 p2 f0 f1 f2 A7 A6 AL o5 b5
                  have HO6 := Lib.hid o6
                  have HB6 := Lib.hid b6
                  have HC6 := Lib.hid (And.intro B7 (And.intro B6 BL))
                  have c0 := (HB6.out.cell (p := ⟨bI, oI + j, none⟩) hBI).trans CI.out
                  obtain ⟨p0, p1, p2, f0, f1, f2⟩ := HC6.out.1.cells
                  obtain ⟨q0, q1, q2, g0, g1, g2⟩ := HC6.out.2.1.cells
                  obtain ⟨d0, d1, d2, d3⟩ := HC6.out.2.2.cells
                  have b6 := HB6.out
                  have zz := HC6.out.2.2.lt
                  have hst : stp I O ((5, (j : Int), b, t) : Ln) out R = (4, out, R5) := by rw [stp5m HIX.out HOJ.out hmk]; rw [HAD5.out]
                  have HAA := Lib.hid (run_stop HX.out hst (by decide) HRUN.out)
                  clear hst HRUN
                  have hlI : ¬ (40 : Int) < (out.size : Int) := by omega
                  have ho2 : out.size ≤ 40 := ho
                  have ht0 : 0 < ti.size := by
                    rcases Nat.eq_zero_or_pos ti.size with h | h
                    · rw [mkd_no h] at hmk
                      cases hmk
                    · exact h
                  have htI : (0 : Int) < (ti.size : Int) := by omega
                  have hq : ((ti[0].toNat : Int) == 33) = true := by
                    rw [mkd_at ht0, beq_iff_eq] at hmk
                    rw [hmk]
                    rfl
                  clear hmk
                  go_wp2_with fail
                  exact bodyPost_ret (v := ranV 4 ⟨#[]⟩ (.slice va R5.length vc)) (by simp [results, Try.results124, go_sem, *]) rfl
                    (by rw [HAA.out]; exact ⟨_, rfl, IB.wide (IB.set (IB.set (IB.set (IOwn.ib HO6.out) (.inl (by omega))) (.inl (by omega))) (.inl (by omega))) (by omega) (by simp [World.setCell]; try omega), by go_grown⟩)
      · have hpl : (n = 1 → t.size ≤ 8) ∧ (n = 4 → 0 ≤ a ∧ a ≤ 40) := by
          unfold LOk at hok
          dsimp only at hok
          omega
        obtain ⟨hp1, hp4⟩ := hpl
        clear hok
        rcases hplain with rfl | rfl | rfl
        · have ht8 := hp1 rfl
          by_cases hl : 40 < (out ++ t).size
          · as_aux_lemma =>
              obtain ⟨p0, p1, p2, f0, f1, f2⟩ := HBX.out.1.cells
              obtain ⟨q0, q1, q2, g0, g1, g2⟩ := HBX.out.2.cells
              have hb := HB.out
              have x6 : w.heap.size < wr.heap.size := by omega
              have y6 : ¬ wr.heap.size = w.heap.size := by omega
              have y7 : ¬ w.heap.size = wr.heap.size := by omega
              have HO6 := HOWN
              have hst : stp I O ((1, a, b, t) : Ln) out R = (3, (out ++ t), R) := by rw [stp1, if_pos hl]
              have HAA := Lib.hid (run_stop HX.out hst (by decide) HRUN.out)
              clear hst HRUN
              have n1 : ¬ 9223372036854775807 < out.size + t.size := by omega
              have hsz : (out ++ t).size = out.size + t.size := ByteArray.size_append
              rw [hsz] at hl
              have hlI : (40 : Int) < ((out.size + t.size : Nat) : Int) := by omega
              go_wp2_with fail
              exact bodyPost_ret (v := ranV 3 ⟨#[]⟩ (.slice ra R.length rc)) (by simp [results, Try.results124, go_sem, *]) rfl
                (by rw [HAA.out]; exact ⟨_, rfl, IB.wide (IB.set (IB.set (IB.set (IB.set (IOwn.ib HO6.out) (.inl (by omega))) (.inl (by omega))) (.inl (by omega))) (.inl (by omega))) (by omega) (by simp [World.setCell]; try omega), by go_grown⟩)
          · as_aux_lemma =>
              obtain ⟨p0, p1, p2, f0, f1, f2⟩ := HBX.out.1.cells
              obtain ⟨q0, q1, q2, g0, g1, g2⟩ := HBX.out.2.cells
              have hb := HB.out
              have x6 : w.heap.size < wr.heap.size := by omega
              have y6 : ¬ wr.heap.size = w.heap.size := by omega
              have y7 : ¬ w.heap.size = wr.heap.size := by omega
              have HO6 := HOWN
              have hst : stp I O ((1, a, b, t) : Ln) out R = (0, (out ++ t), R) := by rw [stp1, if_neg (by omega)]
              have HN := Lib.hid (run_next (sk := 0) HX.out hst (skp_no (by decide)) HRUN.out)
              clear hst HRUN
              have n1 : ¬ 9223372036854775807 < out.size + t.size := by omega
              have hsz : (out ++ t).size = out.size + t.size := ByteArray.size_append
              rw [hsz] at hl
              have hlI : ¬ (40 : Int) < ((out.size + t.size : Nat) : Int) := by omega
              have ho2 : (out ++ t).size ≤ 40 := by omega
              have HREL := Lib.hid (show SRel S I O A w w2.heap.size (.int .i64 ((k + 1 : Nat) : Int)) (V1.setCell ⟨w2.heap.size, 1, none⟩ (.string (out ++ t))) from
                ⟨k + 1, _, R, _, rfl, by omega, HBX.out.1.set1, HBX.out.2.other (by omega), own_set HO6.out (by omega), HB.out.setCell (by show w.heap.size ≤ w2.heap.size; omega) _, by first | omega | (have := HL5.out; omega) | (simp; omega), ho2, by have := HN.out; simpa using this⟩)
              go_wp2_with fail
              go_roundw
              case rel => have h := HREL.out; rwa [show ((k + 1 : Nat) : Int) = (k : Int) + 1 by omega] at h
              case measure => simp [intOf]; omega
        · have hl := tnd_size (out := out)
          as_aux_lemma =>
            obtain ⟨p0, p1, p2, f0, f1, f2⟩ := HBX.out.1.cells
            obtain ⟨q0, q1, q2, g0, g1, g2⟩ := HBX.out.2.cells
            have hb := HB.out
            have x6 : w.heap.size < wr.heap.size := by omega
            have y6 : ¬ wr.heap.size = w.heap.size := by omega
            have y7 : ¬ w.heap.size = wr.heap.size := by omega
            have hst : stp I O ((3, a, b, t) : Ln) out R = (0, (tnd out), R) := by rw [stp3, if_neg (by omega)]
            have HN := Lib.hid (run_next (sk := 0) HX.out hst (skp_no (by decide)) HRUN.out)
            clear hst HRUN
            go_wp2_with fail
            refine (l9Turn_any out _ (by omega)).mono ?_
            rintro e w6 ⟨rfl, hb6⟩
            have R7 := HBX.out.1.below hb6
            have R6 := HBX.out.2.below hb6
            have o6 := iown_below HOWN.out hb6
            have wb := HB.out.trans (hb6.mono zb1)
            have hsz := tnd_size (out := out)
            have ho2 : (tnd out).size ≤ 40 := by omega
            have HO2 := Lib.hid ho2
            have hlI : ¬ (40 : Int) < ((tnd out).size : Int) := by omega
            clear hb6 p0 p1 p2 f0 f1 f2 q0 q1 q2 g0 g1 g2 d0 d1 d2 d3 hsz
            have HREL := Lib.hid (show SRel S I O A w w2.heap.size (.int .i64 ((k + 1 : Nat) : Int)) (w6.setCell ⟨w2.heap.size, 1, none⟩ (.string (tnd out))) from
              ⟨k + 1, _, R, _, rfl, by omega, R7.set1, R6.other (by omega), own_set o6 (by omega), wb.setCell (by show w.heap.size ≤ w2.heap.size; omega) _, by first | omega | (have := HL5.out; omega) | (simp; omega), HO2.out, by have := HN.out; simpa using this⟩)
            obtain ⟨p0, p1, p2, f0, f1, f2⟩ := R7.cells
            clear R7 R6 o6 wb ho2
            go_wp2_with fail
            go_roundw
            case rel => have h := HREL.out; rwa [show ((k + 1 : Nat) : Int) = (k : Int) + 1 by omega] at h
            case measure => simp [intOf]; omega
        · have hl := cutT_size (out := out) (a := a)
          as_aux_lemma =>
            obtain ⟨m, rfl⟩ : ∃ m : Nat, a = (m : Int) := ⟨a.toNat, by have := hp4 rfl; omega⟩
            obtain ⟨p0, p1, p2, f0, f1, f2⟩ := HBX.out.1.cells
            obtain ⟨q0, q1, q2, g0, g1, g2⟩ := HBX.out.2.cells
            have hb := HB.out
            have x6 : w.heap.size < wr.heap.size := by omega
            have y6 : ¬ wr.heap.size = w.heap.size := by omega
            have y7 : ¬ w.heap.size = wr.heap.size := by omega
            have HO6 := HOWN
            have hst : stp I O ((4, (m : Int), b, t) : Ln) out R = (0, (cutT out (m : Int)), R) := by rw [stp4, if_neg (by omega)]
            have HN := Lib.hid (run_next (sk := 0) HX.out hst (skp_no (by decide)) HRUN.out)
            clear hst HRUN
            have hcs := cutT_size (out := out) (a := (m : Int))
            have ho2 : (cutT out (m : Int)).size ≤ 40 := by omega
            have HO2 := Lib.hid ho2
            clear ho2 hcs
            by_cases hmo : m ≤ out.size
            · have hmI : ¬ out.size < m := by omega
              have hmz : ¬ (out.size : Int) < (m : Int) := by omega
              have hlc : (out.extract 0 m).size = m := by rw [size_list, ext_list]; simp; rw [size_list] at hmo; simp at hmo; omega
              have hl40 : ¬ (40 : Int) < (m : Int) := by omega
              have hm40 : (m : Int) ≤ 40 := by omega
              have hcut : cutT out (m : Int) = out.extract 0 m := by by_cases h : m < out.size; (unfold cutT; rw [if_pos (by omega)]; rfl); (obtain rfl : m = out.size := by omega); rw [ext_all]; unfold cutT; rw [if_neg (by omega)]
              have HREL := Lib.hid (show SRel S I O A w w2.heap.size (.int .i64 ((k + 1 : Nat) : Int)) (V1.setCell ⟨w2.heap.size, 1, none⟩ (.string (out.extract 0 m))) from
                ⟨k + 1, _, R, _, rfl, by omega, HBX.out.1.set1, HBX.out.2.other (by omega), own_set HO6.out (by omega), HB.out.setCell (by show w.heap.size ≤ w2.heap.size; omega) _, by omega, by rw [← hcut]; exact HO2.out, by have := HN.out; rw [hcut] at this; simpa using this⟩)
              go_wp2_with fail
              go_roundw
              case rel => have h := HREL.out; rwa [show ((k + 1 : Nat) : Int) = (k : Int) + 1 by omega] at h
              case measure => simp [intOf]; omega
            · have hmI : out.size < m := by omega
              have hmz : (out.size : Int) < (m : Int) := by omega
              have hea := ext_all out
              have hl40 : ¬ (40 : Int) < (out.size : Int) := by omega
              have hm40 : (out.size : Int) ≤ 40 := by omega
              have hcut : cutT out (m : Int) = out := by unfold cutT; rw [if_neg (by omega)]
              have HREL := Lib.hid (show SRel S I O A w w2.heap.size (.int .i64 ((k + 1 : Nat) : Int)) (V1.setCell ⟨w2.heap.size, 1, none⟩ (.string (out))) from
                ⟨k + 1, _, R, _, rfl, by omega, HBX.out.1.set1, HBX.out.2.other (by omega), own_set HO6.out (by omega), HB.out.setCell (by show w.heap.size ≤ w2.heap.size; omega) _, by omega, by rw [← hcut]; exact HO2.out, by have := HN.out; rw [hcut] at this; simpa using this⟩)
              go_wp2_with fail
              go_roundw
              case rel => have h := HREL.out; rwa [show ((k + 1 : Nat) : Int) = (k : Int) + 1 by omega] at h
              case measure => simp [intOf]; omega
    · have i1 : ¬ (k : Int) < (S.length : Int) := by omega
      have HI6 := Lib.hid (IOwn.ib hown)
      obtain ⟨p0, p1, p2, f0, f1, f2⟩ := hr7.cells
      obtain ⟨q0, q1, q2, g0, g1, g2⟩ := hr6.cells
      have HAA := Lib.hid (show A = (0, out, R) by rw [← hrun, List.drop_eq_nil_of_le (by omega), run_nil])
      clear hown hr7 hr6 hrun ho
      go_wp2_with fail
      exact bodyPost_ret (v := ranV 0 out (.slice ra R.length rc)) (by simp [results, Try.results124, go_sem, *]) rfl
        (by rw [HAA.out]; exact ⟨_, rfl, IB.wide (IB.set (IB.set (IB.set HI6.out (.inl (by omega))) (.inl (by omega))) (.inl (by omega))) (by omega) (by simp [World.setCell]), by go_grown⟩)

theorem specRoomRun_any (hlS : S.length ≤ 1048576) (hqS : ∀ q ∈ S, q.2.2.2.size ≤ 1048576) (hlI : I.length ≤ 1048576) (hqI : ∀ q ∈ I, q.size ≤ 1048576) (hlO : O.length ≤ 1048576) (hS : LnAt w w.heap.size v S) (hI : Obl.StAt w w.heap.size u I) (hO : Obl.BoAt w w.heap.size z O) :
    Calls Try.prog 124 #[v, u, z] w (RoomPost (roomR S I O) w) := by
  by_cases h : thOk I = true ∧ scOk S I.length = true ∧ O.length = I.length
  · rw [roomR_yes h.1 h.2.1 h.2.2]
    exact sroom_good v u z S I O w hlS hqS hlI hqI hS hI hO h.1 h.2.1 h.2.2
  · have hb : (thOk I = false ∨ scOk S I.length = false ∨ O.length ≠ I.length) := by
      rcases h1 : thOk I
      · exact .inl rfl
      · rcases h2 : scOk S I.length
        · exact .inr (.inl rfl)
        · exact .inr (.inr fun e => h ⟨h1, h2, e⟩)
    rw [roomR_no hb]
    exact sroom_bad v u z S I O w hlS hqS hlI hqI hlO hS hI hO hb
end
end Rx
end Go.Proofs.Ytopplljilmjjgaa
