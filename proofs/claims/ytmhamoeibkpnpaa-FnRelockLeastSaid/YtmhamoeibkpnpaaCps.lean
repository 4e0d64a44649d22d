/- Contracts of the model's ChoiceReach and ChoiceTrim, over this seat's translation, as plain functions tell them; nothing that was there before a call has changed. Condition: at most 1048576 of each row and of what is in it. -/
import Derived.Test.YtmhamoeibkpnpaaGi
import Derived.Test.YtmhamoeibkpnpaaNms
import Derived.Test.YtmhamoeibkpnpaaGu
namespace Go.Proofs.Ytmhamoeibkpnpaa
open Go.RowKit Go.Sort

namespace Cpu
open Foot Copy Nup Pkf
/-- What the loop over the needs keeps. -/
def QRel (S : List Rel) (N : List Nd) (C : List Pk) (w : World) (gs : Nat) (v i : Value) (wr : World) : Prop :=
  ∃ (k : Nat) (st : St), i = .int .i64 (k : Int) ∧ k ≤ st.2.length ∧ OkK S N C st ∧ endK S N C = runK S C (200 - k) k st ∧ NOwn wr w.heap.size 0 v st.2 ∧ Fl wr gs (seenK (cameL C st.1)) ∧ Below w.heap.size w wr
theorem q_next {S : List Rel} {N : List Nd} {C : List Pk} {w wr : World} {gs k : Nat} {n : Nd} {st s2 : St} {v : Value} (hk : k < 200) (hn : st.2[k]? = some n) (hu : endK S N C = runK S C (200 - k) k st) (hp : passK S n.1 0 C st = s2)
    (hl : k < s2.2.length) (ho : OkK S N C s2) (hN : NOwn wr w.heap.size 0 v s2.2) (hF : Fl wr gs (seenK (cameL C s2.1))) (hb : Below w.heap.size w wr) : QRel S N C w gs v (.int .i64 ((k : Int) + 1)) wr := by
  refine ⟨k + 1, s2, by go_num, by omega, ho, ?_, hN, hF, hb⟩
  rw [hu, show 200 - k = (200 - (k + 1)) + 1 by omega, runK_step hn, hp]

set_option maxRecDepth 100000 in
set_option maxHeartbeats 16000000 in
theorem specReach_any (v u z : Value) (S : List Rel) (N : List Nd) (C : List Pk) (w : World) (hl : S.length ≤ 1048576) (hq : ∀ q ∈ S, q.2.2.2.length ≤ 1048576 ∧ ∀ p ∈ q.2.2.2, p.2.length ≤ 1048576) (hN : N.length ≤ 1048576) (hNq : ∀ q ∈ N, q.2.length ≤ 1048576) (hC : C.length ≤ 1048576) (h : RlAt w w.heap.size v S) (h' : NdAt w w.heap.size u N) (h2 : PkAt w w.heap.size z C) :
    Calls Try.prog 116 #[v, u, z] w (IPost (reachL S N C) w) := by
  obtain ⟨i0, hi, hz0, hz1, hz2⟩ := info_parts infoNeed
  obtain ⟨j0, hj, hy0, hy1, hy2⟩ := info_parts infoInt
  obtain ⟨sa, caps, rfl, hx⟩ := id h
  obtain ⟨na, ncap, rfl, hy⟩ := id h'
  obtain ⟨pa, pc, rfl, hz⟩ := id h2
  clear hy hz
  have H := Lib.hid h
  have H' := Lib.hid h'
  have H2 := Lib.hid h2
  have HX := Lib.hid hx
  clear h h' h2 hx
  have KS : Hid (∀ V, RlAt V V.heap.size (.slice sa S.length caps) S → Calls Try.prog 51 #[.slice sa S.length caps] V fun e w' => e = .returned (.bool (shOk S)) ∧ Below V.heap.size V w') := Lib.hid fun V g => specShelfOk_any _ S V hl hq g
  have KN : Hid (∀ V, NdAt V V.heap.size (.slice na N.length ncap) N → Calls Try.prog 52 #[.slice na N.length ncap] V fun e w' => e = .returned (.bool (ndOk N)) ∧ Below V.heap.size V w') := Lib.hid fun V g => specNeedsOk_any _ N V hN hNq g
  have KC : Hid (∀ V, PkAt V V.heap.size (.slice pa C.length pc) C → Calls Try.prog 42 #[.slice pa C.length pc] V fun e w' => e = .returned (.bool (pkOk C)) ∧ Below V.heap.size V w') := Lib.hid fun V g => specPicksOk_any _ C V hC g
  obtain ⟨w1, hw1⟩ : ∃ V : World, V = w.alloc (.cells #[] 3) := ⟨_, rfl⟩
  have b1 : Below w.heap.size w w1 := by rw [hw1]; exact (Below.refl _ _).alloc (Nat.le_refl _) _
  have s1 : w.heap.size + 1 = w1.heap.size := by rw [hw1]; simp
  have o1 : IOwn w1 w.heap.size (.slice (some ⟨w.heap.size, 0, none⟩) 0 0) [] := by
    rw [hw1]
    have := World.ownsRow_made (base := w.heap.size) (e := 3) (size := 1) w #[] 0 (by simp) (by unfold maxLen; omega) rfl
    exact this
  have HO1 := Lib.hid o1
  clear o1
  have z1 := b1.size
  rcases hs : shOk S
  · rw [hs] at KS
    have HE := Lib.hid (show reachL S N C = [] by unfold reachL trimL; rw [hs]; rfl)
    clear hs KN KC
    go_enter Try.func116, Try.ntmps116
    go_upto_region 2 with fail
    rw [← hw1]
    clear hw1
    go_wp2_with fail
    refine (KS.out _ (H.out.stepAt b1)).mono ?_
    rintro e w2 ⟨rfl, hb⟩
    go_wp2_with fail
    go_ret
    exact ⟨_, rfl, by rw [HE.out]; exact IOwn.ib (IOwn.below HO1.out hb), b1.trans (hb.mono z1)⟩
  rcases hn : ndOk N
  · rw [hs] at KS
    rw [hn] at KN
    have HE := Lib.hid (show reachL S N C = [] by unfold reachL trimL; rw [hs, hn]; rfl)
    clear hs hn KC
    go_enter Try.func116, Try.ntmps116
    go_upto_region 2 with fail
    rw [← hw1]
    clear hw1
    go_wp2_with fail
    refine (KS.out _ (H.out.stepAt b1)).mono ?_
    rintro e w2 ⟨rfl, hb⟩
    have n2 := b1.trans (hb.mono z1)
    have o2 := IOwn.below HO1.out hb
    clear hb
    go_wp2_with fail
    refine (KN.out _ (H'.out.stepAt n2)).mono ?_
    rintro e w3 ⟨rfl, hb⟩
    go_wp2_with fail
    go_ret
    exact ⟨_, rfl, by rw [HE.out]; exact IOwn.ib (IOwn.below o2 hb), n2.trans (hb.mono n2.size)⟩
  have HOS := Lib.hid hs
  have HON := Lib.hid hn
  rw [hs] at KS
  rw [hn] at KN
  have hS30 := sh_len hs
  have hN5 := nd_len hn
  have HSN := Lib.hid (sh_needs hs)
  have hq5 : ∀ q ∈ S, q.2.2.2.length ≤ 5 := fun q h => nd_len (HSN.out q h)
  have hall : ∀ {st : St}, OkK S N C st → ∀ q ∈ st.2, 0 ≤ q.1 ∧ q.1 ≤ 7 := fun ho q hm => by
    rcases ho.mem q hm with h | ⟨x, hx, h⟩
    · have := nd_one HON.out q h; exact ⟨this.1, this.2.1⟩
    · have := nd_one (HSN.out x hx) q h; exact ⟨this.1, this.2.1⟩
  have hmk8 : ∀ V : World, (Instr.makeSlice 157 (.int .i64 8) (.int .i64 8)).run Try.prog V = .ok (.slice (some ⟨V.heap.size, 0, none⟩) 8 8) (V.alloc (.cells (madeCells #[.bool false] 8) 4)) := fun V => make_flags 8 (by omega) V
  clear hs hn
  rcases hc : pkOk C
  all_goals
    rw [hc] at KC
    have HOC := Lib.hid hc
    clear hc
    go_enter Try.func116, Try.ntmps116
    go_upto_region 2 with fail
    rw [← hw1]
    clear hw1
    go_wp2_with fail
    refine (KS.out _ (H.out.stepAt b1)).mono ?_
    rintro e w2 ⟨rfl, hb⟩
    have n2 := b1.trans (hb.mono z1)
    have o2 := IOwn.below HO1.out hb
    have q2 : w1.heap.size ≤ w2.heap.size := hb.size
    clear hb
    go_wp2_with fail
    refine (KN.out _ (H'.out.stepAt n2)).mono ?_
    rintro e w2' ⟨rfl, hb⟩
    have n2' := n2.trans (hb.mono n2.size)
    have o2' := IOwn.below o2 hb
    have q2' : w2.heap.size ≤ w2'.heap.size := hb.size
    clear hb o2
    go_wp2_with fail
    refine (KC.out _ (H2.out.stepAt n2')).mono ?_
    rintro e w3 ⟨rfl, hb⟩
    have n3 := n2'.trans (hb.mono n2'.size)
    have HO3 := Lib.hid (IOwn.below o2' hb)
    have q3 : w2'.heap.size ≤ w3.heap.size := hb.size
    clear hb o2'
  · go_wp2_with fail
    go_ret
    exact ⟨_, rfl, by rw [show reachL S N C = [] by unfold reachL trimL; rw [HOS.out, HON.out, HOC.out]; rfl]; exact IOwn.ib HO3.out, n3⟩
  have hC8 := pk_len HOC.out
  have HEN := Lib.hid (reach_names HOS.out HON.out HOC.out)
  have HCF := Lib.hid (show pkFrom 0 C = true from HOC.out)
  have hle : ∀ {st : St}, OkK S N C st → st.2.length ≤ 45 := fun ho => by have := ho.size; omega
  obtain ⟨w4, hw4⟩ : ∃ V : World, V = w3.alloc (.cells (madeCells #[.bool false] 8) 4) := ⟨_, rfl⟩
  have b4 : Below w3.heap.size w3 w4 := by rw [hw4]; exact (Below.refl _ _).alloc (Nat.le_refl _) _
  have f4 : Fl w4 w3.heap.size (List.replicate 8 false) := by rw [hw4]; exact made_flags 8 w3
  have q4 : w3.heap.size + 1 ≤ w4.heap.size := by rw [hw4]; simp
  go_upto_region 5 with fail
  rw [← hw4]
  clear hw4 hmk8
  have n4 := n3.trans (b4.mono n3.size)
  go_wp2_with fail
  refine (l3Needs_any _ N _ (H'.out.stepAt n4) hN hNq).mono ?_
  rintro e w5 ⟨v5, fs, rfl, g5, hb⟩
  have m5 : Below w3.heap.size w3 w5 := b4.trans (hb.mono b4.size)
  have n5 := n4.trans (hb.mono n4.size)
  have f5 := f4.below hb
  have q5 : w4.heap.size ≤ w5.heap.size := hb.size
  obtain ⟨a5, c5, hv5, hx5⟩ := id g5.own.at
  subst hv5
  clear hx5 hb f4
  have hst : QRel S N C w3 w3.heap.size (.slice a5 N.length c5) (.int .i64 0) w5 := by
    refine ⟨0, startK C N, rfl, Nat.zero_le _, OkK.start, rfl, ?_, ?_, m5⟩
    · obtain ⟨cs, ho, hc⟩ := NOwn.down g5.own (Nat.zero_le _)
      refine ⟨cs, ⟨ho.1, ?_⟩, hc⟩
      rcases ho.2 with hn | ⟨g, cap, cur, hv, hb', rest⟩
      · exact .inl hn
      · exact .inr ⟨g, cap, cur, hv, by omega, rest⟩
    · have e0 : ∀ (C : List Pk), cameL C (List.replicate C.length false) = [] := fun C => by
        induction C with
        | nil => rfl
        | cons x t ih => exact ih
      have e : seenK (cameL C (startK C N).1) = List.replicate 8 false := by
        show seenK (cameL C (List.replicate C.length false)) = _
        rw [e0]
        rfl
      rw [e]
      exact f5
  have HST := Lib.hid hst
  clear hst g5 f5
  go_wp2_with fail
  go_loopw [9, 10] (fun v i wr => QRel S N C w3 w3.heap.size v i wr) (fun _ i _ => 200 - (intOf i).toNat)
  case atStart => exact HST.out
  case round =>
    obtain ⟨k, st, rfl, hk, hok, hu, hown, hse, hb⟩ := hrel
    have hle1 := hle hok
    obtain ⟨va, vc, rfl, hat⟩ := id hown.at
    by_cases hlt : k < st.2.length
    · obtain ⟨nm, L, hn⟩ : ∃ nm L, st.2[k] = (nm, L) := ⟨_, _, rfl⟩
      have hn' : st.2[k]? = some (nm, L) := by rw [List.getElem?_eq_getElem hlt, hn]
      have hL := hall hok _ (List.getElem_mem hlt)
      rw [hn] at hL
      obtain ⟨hL2, hL3⟩ := hL
      simp only at hL2 hL3
      obtain ⟨gn, on, hva, hgn, hcn⟩ : ∃ b o, va = some ⟨b, o, none⟩ ∧ b < wr.heap.size ∧ ∀ i (h : i < st.2.length), NdC wr wr.heap.size b (o + i * 2) st.2[i] := by
        rcases hat with hat | hat
        · rw [hat] at hlt; simp at hlt
        · exact hat
      subst hva
      obtain ⟨p0, _⟩ := hcn k hlt
      rw [hn] at p0
      simp only at p0
      obtain ⟨m, rfl⟩ : ∃ m : Nat, nm = (m : Int) := ⟨nm.toNat, by omega⟩
      have hm8 : m < 8 := by omega
      have HU := Lib.hid hu
      have HN' := Lib.hid hn'
      have HOK := Lib.hid hok
      have HOW := Lib.hid hown
      have HSE := Lib.hid hse
      have g0 := hse.cell (i := m) (by rw [seenK_len]; exact hm8)
      rw [seenK_at _ hm8] at g0
      have g1 := hse.frozen (i := m)
      have hgsl := hse.lt
      have hgs : gn ≠ w3.heap.size := by
        intro e
        subst e
        have h' : wr.heap[w3.heap.size]? = some (.cells ((seenK (cameL C st.1)).map Value.bool).toArray 4 (0, 0)) := hse
        have h2 := (cell_of_row wr _ _ _ _ (0, 0) h').symm.trans p0
        rw [List.getElem?_toArray, List.getElem?_map] at h2
        rcases hcc : (seenK (cameL C st.1))[on + k * 2]? with _ | y <;> rw [hcc] at h2 <;> simp at h2
      have KP : Hid (∀ V, PkAt V V.heap.size (.slice pa C.length pc) C → Calls Try.prog 97 #[.slice pa C.length pc, .int .i64 (m : Int)] V fun e w' => e = .returned (got (pkOf C (m : Int))) ∧ Below V.heap.size V w') := Lib.hid fun V g => specPickOf_any _ C (m : Int) V hC g
      have hpk : pkOf C (m : Int) = pkGet (m : Int) C := by unfold pkOf; rw [HOC.out]; rfl
      rw [hpk] at KP
      have i0' : (0 : Int) ≤ (m : Int) := by omega
      have i1 : (m : Int) < 8 := by omega
      have i2 : (0 : Int) ≤ (k : Int) := by omega
      have i3 : (k : Int) < (st.2.length : Int) := by omega
      have nr : Below w.heap.size w wr := n3.trans (hb.mono n3.size)
      have zr := nr.size
      have zr3 := hb.size
      clear hat hcn hu hn' hok hown hse hn hpk
      rcases hgt : pkGet (m : Int) C with _ | ⟨va', vb', vc', vd'⟩
      · rw [hgt] at KP
        simp only [got] at KP
        have HPN := Lib.hid (passK_none (S := S) (nm := (m : Int)) (t := C) (i := 0) (st := st) (get_no hgt))
        clear hgt
        go_wp2_with fail
        refine (KP.out _ (H2.out.stepAt nr)).mono ?_
        rintro e w6 ⟨rfl, hb6⟩
        obtain ⟨w7, hw7⟩ : ∃ V : World, V = w6.alloc (.cells #[.int .i64 0, .int .i64 0, .int .i64 0, .int .i64 0] 69) := ⟨_, rfl⟩
        have hal : Below w6.heap.size w6 w7 := by rw [hw7]; exact (Below.refl _ _).alloc (Nat.le_refl _) _
        have b7 : Below wr.heap.size wr w7 := hb6.trans (hal.mono hb6.size)
        have HR := Lib.hid (q_next (w := w3) (by omega) HN'.out HU.out HPN.out hlt HOK.out (HOW.out.below b7) (HSE.out.below b7) (hb.trans (b7.mono zr3)))
        clear hb6 hal
        go_upto_region 10 with fail
        rw [← hw7]
        clear hw7
        go_wp2_with fail
        go_roundw
        case rel => exact HR.out
        case measure => simp [intOf]; omega
      · rw [hgt] at KP
        simp only [got] at KP
        obtain ⟨j, hj1, hj2⟩ := passK_get (S := S) 0 HCF.out hgt
        have hjl : j < C.length := (List.getElem?_eq_some_iff.1 hj1).1
        have hjc : j < st.1.length := by rw [HOK.out.flags]; exact hjl
        have hfg := came_flag (c := st.1) HCF.out hj1 hjc
        simp only at hfg
        rw [hfg] at g0
        have HPJ := Lib.hid (hj2 st)
        have HJ1 := Lib.hid hj1
        clear hgt hj2 hfg hj1
        go_wp2_with fail
        refine (KP.out _ (H2.out.stepAt nr)).mono ?_
        rintro e w6 ⟨rfl, hb6⟩
        obtain ⟨w7, hw7⟩ : ∃ V : World, V = w6.alloc (.cells #[.int .i64 va', .int .i64 vb', .int .i64 vc', .int .i64 vd'] 69) := ⟨_, rfl⟩
        have hal : Below w6.heap.size w6 w7 := by rw [hw7]; exact (Below.refl _ _).alloc (Nat.le_refl _) _
        have b7 : Below wr.heap.size wr w7 := hb6.trans (hal.mono hb6.size)
        have z6 := hb6.size
        have z7 : w6.heap.size + 1 ≤ w7.heap.size := by rw [hw7]; simp
        have x0 : w7.cell? ⟨w6.heap.size, 0, none⟩ = some (.int .i64 va') := by rw [hw7]; go_simp
        have x1 : w7.cell? ⟨w6.heap.size, 1, none⟩ = some (.int .i64 vb') := by rw [hw7]; go_simp
        have x2 : w7.cell? ⟨w6.heap.size, 2, none⟩ = some (.int .i64 vc') := by rw [hw7]; go_simp
        have x3 : w7.cell? ⟨w6.heap.size, 3, none⟩ = some (.int .i64 vd') := by rw [hw7]; go_simp
        have p7 := (b7.cell (p := ⟨gn, on + k * 2, none⟩) hgn).trans p0
        have g7 := (b7.cell (p := ⟨w3.heap.size, m, none⟩) hgsl).trans g0
        have f7 := (b7.frozen (p := ⟨w3.heap.size, m, none⟩) hgsl).trans g1
        clear hb6 hal
        go_upto_region 10 with fail
        rw [← hw7]
        clear hw7 p0 g0 g1
        rcases hcj : st.1.getD j true
        · rw [hcj] at g7
          have HH := Lib.hid (show passK S (m : Int) 0 C st = (st.1.set j true, st.2 ++ ndsOf S ((m : Int), va', vb', vc', vd')) by rw [HPJ.out, Nat.zero_add]; exact hitK_yes hcj rfl)
          have HSX := Lib.hid (seenK_next HCF.out HJ1.out hm8 hjc)
          have HOX := Lib.hid (show OkK S N C (st.1.set j true, st.2 ++ ndsOf S ((m : Int), va', vb', vc', vd')) by have := HOK.out.hit hq5 (m : Int) j ((m : Int), va', vb', vc', vd'); rwa [hitK_yes (nm := (m : Int)) (x := ((m : Int), va', vb', vc', vd')) hcj rfl] at this)
          have ngs : w3.heap.size ≠ w6.heap.size := by omega
          have ngs' : w6.heap.size ≠ w3.heap.size := by omega
          have m7 : Below w3.heap.size w3 w7 := hb.trans (b7.mono zr3)
          have hse7 := HSE.out.below b7
          have HS8 := Lib.hid (show Fl (w7.setCell ⟨w3.heap.size, m, none⟩ (.bool true)) w3.heap.size (seenK (cameL C (st.1.set j true))) by rw [← HSX.out]; exact hse7.set true)
          have HW8 := Lib.hid (NOwn.flag (i := m) (b := true) (HOW.out.below b7) hse7)
          have HB8 := Lib.hid (m7.setCell (show w3.heap.size ≤ (⟨w3.heap.size, m, none⟩ : Addr).block from Nat.le_refl _) (.bool true))
          clear hcj hse7
          go_upto_region 12 with fail
          obtain ⟨w8, hw8⟩ : ∃ V : World, V = w7.setCell ⟨w3.heap.size, m, none⟩ (.bool true) := ⟨_, rfl⟩
          have far : ∀ b o v, b ≠ w3.heap.size → w7.cell? ⟨b, o, none⟩ = some v → w8.cell? ⟨b, o, none⟩ = some v := fun b o v hne e => by
            rw [hw8]
            exact (World.cell?_of_block (a := ⟨b, o, none⟩) (Below.heap_setCell _ _ _ _ (by show b ≠ _; exact hne))).trans e
          have t0 := cell_regrown (far _ _ _ ngs' x0)
          have t1 := cell_regrown (far _ _ _ ngs' x1)
          have t2 := cell_regrown (far _ _ _ ngs' x2)
          have t3 := cell_regrown (far _ _ _ ngs' x3)
          have t4 := cell_regrown (far _ _ _ hgs p7)
          rw [← hw8] at HS8 HW8 HB8 ⊢
          clear hw8 far x0 x1 x2 x3 p7 g7 f7
          have n8 : Below w.heap.size w w8 := n3.trans (HB8.out.mono n3.size)
          have HS8' := Lib.hid (H.out.stepAt n8)
          have KA : Hid (∀ V, RlAt V V.heap.size (.slice sa S.length caps) S → Calls Try.prog 107 #[.slice sa S.length caps, .int .i64 (m : Int), ver va' vb' vc' vd'] V fun e w' => e = .returned (.int .i64 (shAt S (m : Int) (va', vb', vc', vd'))) ∧ Below V.heap.size V w') := Lib.hid fun V g => specShelfAt_any _ S (m : Int) va' vb' vc' vd' V hl hq g
          have hsa : shAt S (m : Int) (va', vb', vc', vd') = shFind (m : Int) (va', vb', vc', vd') 0 S := by unfold shAt; rw [HOS.out]; rfl
          rw [hsa] at KA
          clear hsa
          rcases nds_cases S ((m : Int), va', vb', vc', vd') with ⟨hf, hnd⟩ | ⟨q, hqS, hf, hnd⟩
          · simp only at hf
            rw [hf] at KA
            rw [hnd, List.append_nil] at HH HOX
            clear hf hnd
            go_wp2_with fail
            refine wp_region_quiet_below (by kernel_rfl) (by kernel_rfl) ?_
            repeat (any_goals (first | go_big_quiet_step ((go_at_call 107; exact Calls.regrown_of (KA.out _ (HS8'.out.stepAt (below_regrown _ _ _))))) | quiet_step ((go_at_call 107; exact Calls.regrown_of (KA.out _ (HS8'.out.stepAt (below_regrown _ _ _)))))))
            refine wpQuiet_nil ?_
            intro W9 hw9
            have nn := quiet_end hw9
            clear hw9 t0 t1 t2 t3 t4
            have HR := Lib.hid (q_next (w := w3) (by omega) HN'.out HU.out HH.out hlt HOX.out (HW8.out.below nn) (HS8.out.below nn) (HB8.out.trans (nn.mono HB8.out.size)))
            go_wp2_with fail
            go_roundw
            case rel => exact HR.out
            case measure => simp [intOf]; omega
          · simp only at hf
            rw [hf] at KA
            rw [hnd] at HH HOX
            obtain ⟨b, o, hsa, hB, hc⟩ : ∃ b o, sa = some ⟨b, o, none⟩ ∧ b < w.heap.size ∧ ∀ i (h : i < S.length), RlC w w.heap.size b (o + i * 7) S[i] := by
              rcases HX.out with hh | hh
              · rw [hh] at hqS; simp at hqS
              · exact hh
            subst hsa
            obtain ⟨M, hM⟩ : ∃ M, S[q].2.2.2 = M := ⟨_, rfl⟩
            obtain ⟨_, ad, cap, r6, hs6⟩ := (hc q hqS).below n8 hB
            have hM1 := hq _ (List.getElem_mem hqS)
            have hM5 := hq5 _ (List.getElem_mem hqS)
            rw [hM] at r6 hs6 HH HOX hM1 hM5
            have HND := Lib.hid (hs6.mono n8.size)
            have bl : b < w8.heap.size := Nat.lt_of_lt_of_le hB n8.size
            have j1 : (0 : Int) ≤ (q : Int) := by omega
            have j2 : (q : Int) < (S.length : Int) := by omega
            clear hf hnd hc hM hs6
            go_wp2_with fail
            refine wp_region_quiet_below (by kernel_rfl) (by kernel_rfl) ?_
            repeat (any_goals (first | go_big_quiet_step ((go_at_call 107; exact Calls.regrown_of (KA.out _ (HS8'.out.stepAt (below_regrown _ _ _))))) | quiet_step ((go_at_call 107; exact Calls.regrown_of (KA.out _ (HS8'.out.stepAt (below_regrown _ _ _)))))))
            refine wpQuiet_nil ?_
            intro W9 hw9
            have nn := quiet_end hw9
            clear hw9 t0 t1 t2 t3 t4
            have r9 := (nn.cell (p := ⟨b, o + q * 7 + 6, none⟩) bl).trans r6
            have m9 : Below w3.heap.size w3 W9 := HB8.out.trans (nn.mono HB8.out.size)
            go_wp2_with fail
            refine (l3Needs_any _ M _ (HND.out.stepAt nn) hM1.1 hM1.2).mono ?_
            rintro e wA ⟨vA, fsA, rfl, gA, hbA⟩
            have mA : Below w3.heap.size w3 wA := m9.trans (hbA.mono m9.size)
            obtain ⟨aA, cA, hvA, hxA⟩ := id gA.own.at
            subst hvA
            clear hxA
            have nnA : Below w8.heap.size w8 wA := nn.trans (hbA.mono nn.size)
            obtain ⟨cs, hownA, hcA⟩ := HW8.out.below nnA
            have hlt8 := (HW8.out.below nn).lt
            have hltA := World.ownsRow.lt hownA
            obtain ⟨news, l1, l2, l3, l4, l5⟩ := made_news (y := (Value.slice (some ⟨gn, on, none⟩) st.2.length vc).ownBlock) gA.own (fun c e => (hlt8 c e).2)
            have HCA := Lib.hid hcA
            have HL5 := Lib.hid l5
            have HSA := Lib.hid (HS8.out.below nnA)
            have HNE := Lib.hid (own_ne hownA HSA.out)
            clear hcA l5 gA hbA r9
            go_wp2_with (at_builtin; refine Ap2.wpList_append _ rfl (.tmp 78) (.tmp 84) 32 rfl w3.heap.size 110 i0 (.agg #[.int .i64 0, .slice none 0 0]) 2 32 Try.underlying32 hi hz0 hz1 hz2 rfl (by decide) _ _ cs rfl hownA aA M.length cA news (by rfl) l1 l2 l3 l4 (by unfold maxLen; omega) (by omega) mA.size ?_)
            intro a7 c7 wz hownz hgrowz hatz
            have nz : Below w3.heap.size w3 wz := Below.grown mA hgrowz mA.size (fun k e => (hltA k e).1)
            have hOz := grow_any hownA HCA.out HL5.out hownz hgrowz hatz
            have hSz := HSA.out.kept (hgrowz.block _ HSA.out.lt (fun e => HNE.out _ e.symm rfl))
            have HR := Lib.hid (q_next (w := w3) (by omega) HN'.out HU.out HH.out (by simp; omega) HOX.out (v := .slice a7 (st.2.length + M.length) c7) hOz hSz nz)
            clear hownz hgrowz hatz hownA hOz hSz
            go_wp2_with fail
            go_roundw
            case rel => exact HR.out
            case measure => simp [intOf]; omega
        · rw [hcj] at g7
          have HH := Lib.hid (show passK S (m : Int) 0 C st = st by rw [HPJ.out, Nat.zero_add]; exact hitK_no (.inl hcj))
          have HR := Lib.hid (q_next (w := w3) (by omega) HN'.out HU.out HH.out hlt HOK.out (HOW.out.below b7) (HSE.out.below b7) (hb.trans (b7.mono zr3)))
          clear hcj
          go_wp2_with fail
          go_roundw
          case rel => exact HR.out
          case measure => simp [intOf]; omega
    · obtain rfl : k = st.2.length := by omega
      have HEU := Lib.hid (show endK S N C = st by rw [hu, runK_end (Nat.le_refl _)])
      have HSS := Lib.hid hse
      have hnx : Below w.heap.size w wr := n3.trans (hb.mono n3.size)
      have hox : IOwn wr w.heap.size (.slice (some ⟨w.heap.size, 0, none⟩) 0 0) (npTo (cameL C st.1) 0) := IOwn.below (N := []) HO3.out hb
      have HOX := Lib.hid hox
      clear hok hown hse hu hat hox
      obtain ⟨T, hT⟩ : ∃ T, cameL C st.1 = T := ⟨_, rfl⟩
      rw [hT] at HSS HOX
      have HT := Lib.hid hT
      clear hT
      go_wp2_with fail
      go_loopw [7, 14] (fun v i wx => ∃ q : Nat, q ≤ 8 ∧ i = .int .i64 (q : Int) ∧ IOwn wx w.heap.size v (npTo T q) ∧ Fl wx w3.heap.size (seenK T) ∧ Below w.heap.size w wx) (fun _ i _ => 8 - (intOf i).toNat)
      case atStart => exact ⟨0, Nat.zero_le _, rfl, HOX.out, HSS.out, hnx⟩
      case round =>
        rename World => wx
        obtain ⟨q, hq8, rfl, hown, hse, hb2⟩ := hrel
        obtain ⟨ga, gc, hv, hx⟩ := id (IOwn.ib hown).at
        subst hv
        clear hx
        have hnl := npTo_len T q
        by_cases hlt2 : q < 8
        · have c0 := hse.cell (i := q) (by rw [seenK_len]; exact hlt2)
          rw [seenK_at _ hlt2] at c0
          have j1 : (0 : Int) ≤ (q : Int) := by omega
          have j2 : (q : Int) < 8 := by omega
          have HO := Lib.hid hown
          have HSE := Lib.hid hse
          rcases hh : hasP (q : Int) T
          · have HTT := Lib.hid (show npTo T (q + 1) = npTo T q by show npTo T q ++ _ = _; rw [hh]; simp)
            rw [hh] at c0
            have HR := Lib.hid (show ∃ k' : Nat, k' ≤ 8 ∧ Value.int .i64 ((q : Int) + 1) = .int .i64 (k' : Int) ∧ IOwn wx w.heap.size (.slice ga (npTo T q).length gc) (npTo T k') ∧ Fl wx w3.heap.size (seenK T) ∧ Below w.heap.size w wx from ⟨q + 1, by omega, by go_num, by rw [HTT.out]; exact HO.out, hse, hb2⟩)
            clear hh hown hse
            go_wp2_with fail
            go_roundw
            case rel => exact HR.out
            case measure => simp [intOf]; omega
          · have HTT := Lib.hid (show npTo T (q + 1) = npTo T q ++ [(q : Int)] by show npTo T q ++ _ = _; rw [hh]; simp)
            rw [hh] at c0
            have HNE := Lib.hid (own_int hown hse)
            have z4 := hb2.size
            clear hh hse
            go_wp2_with (at_builtin; refine wpList_append_own _ rfl _ _ 24 rfl w.heap.size 3 j0 (.int .i64 0) 1 8 Try.underlying24 hj hy0 hy1 hy2 rfl (by decide) _ _ _ rfl (hown.below ((Below.refl wx.heap.size wx).alloc (Nat.le_refl _) (.cells #[.int .i64 (q : Int)] 3))) ⟨wx.heap.size, 0, none⟩ 1 1 [.int .i64 (q : Int)] rfl rfl (one_new wx (q : Int)) (one_one _) (by unfold maxLen; omega) (by omega) (by simp; omega) ?_)
            intro v' w5' hown' hgrow hnn
            have hbl : w5'.heap[w3.heap.size]? = wx.heap[w3.heap.size]? := (hgrow.block _ (by have := HSE.out.lt; simp; omega) (fun e => HNE.out _ e.symm rfl)).trans (Below.heap_alloc _ _ _ HSE.out.lt)
            have HR := Lib.hid (show ∃ k' : Nat, k' ≤ 8 ∧ Value.int .i64 ((q : Int) + 1) = .int .i64 (k' : Int) ∧ IOwn w5' w.heap.size v' (npTo T k') ∧ Fl w5' w3.heap.size (seenK T) ∧ Below w.heap.size w w5' from ⟨q + 1, by omega, by go_num, by rw [HTT.out]; exact IOwn.push hown', HSE.out.kept hbl, IOwn.gone HO.out hb2 z4 hgrow⟩)
            clear hown' hgrow hnn hown
            go_wp2_with fail
            go_roundw
            case rel => exact HR.out
            case measure => simp [intOf]; omega
        · obtain rfl : q = 8 := by omega
          have HO := Lib.hid hown
          clear hown hse
          go_wp2_with fail
          go_ret
          exact ⟨_, rfl, by rw [HEN.out, HEU.out, HT.out]; exact IOwn.ib HO.out, hb2⟩
end Cpu
end Go.Proofs.Ytmhamoeibkpnpaa
