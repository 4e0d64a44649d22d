/- At every code the law FnChoiceFault returns true: the program and the model find the same fault; picks that are fine are not fine with one pick less, all of them are needed, and they are fine where they are held themselves. No condition. -/
import Derived.BigFrame
import Derived.Deep.RegionHeld3
import Derived.Test.YthbfhalciioehaaDcf
import Derived.Test.YthbfhalciioehaaCrf
import Derived.Test.YthbfhalciioehaaCft
import Derived.Test.YthbfhalciioehaaGe
namespace Go.Proofs.Ythbfhalciioehaa
open Go.ChangeShapes Go.WideShapes Go.ChangeAt Go.RowKit Go.Joins Go.Sort

namespace Pcf
open Foot Dsh Dpk Dch Copy Nup Cpu Cfa Rch
section
variable {P : Program} (w : World)
/-- An append in a region that draws its order, of a row that may be empty, where its guard stands. -/
theorem step_append_want {ops : Array Oper} {o : Oper} {a : Act} {K : Act → World → Prop} {Q : Exit → Act → World → Prop} {E : Prop} (hw : Region.wanted o (yielded ops a.tmps) = true) (s x : Operand) (t : TypeId)
    (ho : o.op = .call { callee := .builtin .append, args := #[s, x], argTypes := #[t, t] })
    (base : Nat) (e : TypeId) (i : TypeInfo) (z : Value) (size bytes : Nat) (ht : P.underlying t = some (.slice e)) (hi : P.info? e = some i) (hz : i.zero = some z)
    (hsize : i.size = size) (hby : i.bytes = bytes) (hzs : z.cells.size = size) (hsz : 0 < size)
    (v : Value) (n : Nat) (xs : List Value) (hs : a.eval s = v) (hown : w.ownsRow base e size v n xs)
    (ad : Addr) (m c : Nat) (news : List Value) (hx : a.eval x = .slice (some ad) m c) (hl : news.length = m * size) (hnews : ∀ j u, news[j]? = some u → w.cell? (ad.add j) = some u) (h1 : ∀ u ∈ news, u.oneCell' = true)
    (h63 : n + m ≤ maxLen) (hbytes : (n + m) * bytes ≤ 140737488355328) (hbase : base ≤ w.heap.size)
    (h : ∀ a' c' w', w'.ownsRow base e size (.slice a' (n + m) c') (n + m) (xs ++ news) → w.grownBy w' v.ownBlock → ((Value.slice a' (n + m) c').ownBlock = v.ownBlock ∨ (Value.slice a' (n + m) c').ownBlock = some w.heap.size) → K (a.put o.dst (.slice a' (n + m) c')) w') :
    if Region.wanted o (yielded ops a.tmps) = true then Oper.wp P o a w K Q else E := by
  rw [if_pos hw]
  obtain ⟨a', c', w', hr, h2, h3, h4⟩ := run_append_rows (P := P) w t o.type base e i z size bytes ht hi hz hsize hby hzs hsz v n xs hown (some ad) m c news hl (fun e => by cases e) (fun _ e => by cases e; exact hnews) h1 h63 hbytes hbase
  unfold Oper.wp execOp
  simp only [ho, resolve, invoke, builtin, Sem.run_bind, Sem.run_pure, Result.andThen_ok, List.map_toArray, List.map_cons, List.map_nil, hs, hx, hr]
  exact h a' c' w' h2 h3 h4
end
theorem pk_cells {W : World} {B b o cap : Nat} {T : List Pk} (h : PkAt W B (.slice (some ⟨b, o, none⟩) T.length cap) T) : ∀ j u, (pcs T)[j]? = some u → W.cell? ⟨b, o + j, none⟩ = some u := by
  intro j u hu
  obtain ⟨a', c', e, hc⟩ := h
  simp only [Value.slice.injEq] at e
  obtain ⟨rfl, _, _⟩ := e
  have hj := (List.getElem?_eq_some_iff.1 hu).1
  rw [pcs_len] at hj
  rcases hc with rfl | ⟨b', o', e, hB, hc⟩
  · simp at hj
  · injection e with e
    simp only [Addr.mk.injEq] at e
    obtain ⟨rfl, rfl, _⟩ := e
    obtain ⟨c0, c1, c2, c3, c4⟩ := hc (j / 5) (by omega)
    obtain ⟨p0, p1, p2, p3, p4⟩ := pcs_at T (j / 5) (by omega)
    have : j = j / 5 * 5 ∨ j = j / 5 * 5 + 1 ∨ j = j / 5 * 5 + 2 ∨ j = j / 5 * 5 + 3 ∨ j = j / 5 * 5 + 4 := by omega
    rcases this with e | e | e | e | e <;> rw [e] at hu ⊢
    · rw [p0] at hu; rw [← hu]; exact c0
    · rw [p1] at hu; rw [← hu]; exact c1
    · rw [p2] at hu; rw [← hu]; exact c2
    · rw [p3] at hu; rw [← hu]; exact c3
    · rw [p4] at hu; rw [← hu]; exact c4
theorem own_at {W : World} {B n c : Nat} {a : Option Addr} {A : List Pk} (h : W.ownsRow B 98 5 (.slice a n c) n (pcs A)) (hn : n = A.length) : PkAt W W.heap.size (.slice a n c) A := by
  subst hn
  exact POwn.at (B := B) h

set_option maxRecDepth 100000 in
set_option maxHeartbeats 3000000 in
theorem faultP_short (a : Option Addr) (len cap : Nat) (w : World) (h : CodeIn w a len cap) (hl : len ≤ 1048576) :
    Calls Try.prog 8 #[.slice a len cap] w fun e w' => e = .returned (.bool true) ∧ Below w.heap.size w w' := by
  obtain ⟨i0, hi, hz0, hz1, hz2⟩ := info_parts infoPick
  go_enter Try.func8, Try.ntmps8
  go_wp2_with fail
  refine (Dcr.DrawChoiceFault_any a len cap w h).mono ?_
  rintro e w1 ⟨S, sa, caps, M, na, ncap, D, da, dc, C, pa, pc, rfl, hat1, hnd1, hdk1, hpk1, hl31, hsz, hM9, hM41, hD30, hC30, hCc, b1⟩
  have hl' : S.length ≤ 1048576 := by omega
  have hq := hsz.big
  have hm' : M.length ≤ 1048576 := by omega
  have hmq : ∀ q ∈ M, q.2.length ≤ 1048576 := fun q hq => by have := hM41 q hq; omega
  have hc' : C.length ≤ 1048576 := by omega
  have hd' : D.length ≤ 1048576 := by omega
  have KF : Hid (∀ V u y E C', E.length ≤ 1048576 → C'.length ≤ 1048576 → RlAt V V.heap.size (.slice sa S.length caps) S → NdAt V V.heap.size (.slice na M.length ncap) M → PkAt V V.heap.size u E → PkAt V V.heap.size y C' → Calls Try.prog 34 #[.slice sa S.length caps, .slice na M.length ncap, u, y] V fun e w' => e = .returned (.int .i64 (faultF S M E C')) ∧ Below V.heap.size V w') := Lib.hid fun V u y E C' hE hC' g g' g2 g3 => implFault_any _ _ _ _ S M E C' V hl' hq hm' hmq hE hC' g g' g2 g3
  have KS : Hid (∀ V, RlAt V V.heap.size (.slice sa S.length caps) S → NdAt V V.heap.size (.slice na M.length ncap) M → PkAt V V.heap.size (.slice da D.length dc) D → PkAt V V.heap.size (.slice pa C.length pc) C → Calls Try.prog 33 #[.slice sa S.length caps, .slice na M.length ncap, .slice da D.length dc, .slice pa C.length pc] V fun e w' => e = .returned (.int .i64 (faultF S M D C)) ∧ Below V.heap.size V w') := Lib.hid fun V g g' g2 g3 => specFault_any _ _ _ _ S M D C V hl' hq hm' hmq hd' hc' g g' g2 g3
  have KR : Hid (∀ V, RlAt V V.heap.size (.slice sa S.length caps) S → NdAt V V.heap.size (.slice na M.length ncap) M → PkAt V V.heap.size (.slice pa C.length pc) C → Calls Try.prog 43 #[.slice sa S.length caps, .slice na M.length ncap, .slice pa C.length pc] V (IPost (reachL S M C) V)) := Lib.hid fun V g g' g2 => implReach_any _ _ _ S M C V hl' hq hm' hmq hc' g g' g2
  have H := Lib.hid hat1
  have HN := Lib.hid hnd1
  have HD := Lib.hid hdk1
  have HC := Lib.hid hpk1
  clear hat1 hnd1 hdk1 hpk1 h hsz hM41 hq hmq
  obtain ⟨f, hf⟩ : ∃ f, faultF S M D C = f := ⟨_, rfl⟩
  have KI : Hid (∀ V, RlAt V V.heap.size (.slice sa S.length caps) S → NdAt V V.heap.size (.slice na M.length ncap) M → PkAt V V.heap.size (.slice da D.length dc) D → PkAt V V.heap.size (.slice pa C.length pc) C → Calls Try.prog 34 #[.slice sa S.length caps, .slice na M.length ncap, .slice da D.length dc, .slice pa C.length pc] V fun e w' => e = .returned (.int .i64 f) ∧ Below V.heap.size V w') := Lib.hid fun V g g' g2 g3 => by
    have := KF.out V _ _ D C hd' hc' g g' g2 g3
    rwa [hf] at this
  rw [hf] at KS
  have hff : (f != f) = false := by simp
  have HF := Lib.hid hf
  clear hf
  go_wp2_with fail
  refine (KI.out _ H.out HN.out HD.out HC.out).mono ?_
  rintro e w2 ⟨rfl, b2⟩
  go_wp2_with fail
  refine (KS.out _ (H.out.stepAt b2) (HN.out.stepAt b2) (HD.out.stepAt b2) (HC.out.stepAt b2)).mono ?_
  rintro e w3 ⟨rfl, hb⟩
  have b3 := b2.trans (hb.mono b2.size)
  clear hb b2 KI KS
  by_cases hf0 : f = 0
  · subst hf0
    have HLF := Lib.hid (fun k (hk : k < C.length) => less_fault (k := k) hk HF.out)
    have HAL := Lib.hid (fine_all HF.out)
    clear hff HF
    go_wp2_with fail
    go_loopw [8] (fun i wr => ∃ k : Nat, k ≤ C.length ∧ i = .int .i64 (k : Int) ∧ Below w3.heap.size w3 wr) (fun i _ => C.length - (intOf i).toNat)
    case atStart => exact ⟨0, Nat.zero_le _, rfl, Below.refl _ _⟩
    case round =>
      obtain ⟨k, hk, rfl, hb⟩ := hrel
      have m1 := b3.trans (hb.mono b3.size)
      by_cases hlt : k < C.length
      · obtain ⟨pb, po, rfl, hpB⟩ : ∃ b o, pa = some ⟨b, o, none⟩ ∧ b < w1.heap.size := by
          obtain ⟨a', c', e, hh⟩ := HC.out
          simp only [Value.slice.injEq] at e
          obtain ⟨rfl, _, _⟩ := e
          rcases hh with hh | ⟨b, o, e, hB, _⟩
          · rw [hh] at hlt; simp at hlt
          · exact ⟨b, o, e, hB⟩
        have HPC := Lib.hid (pk_cells HC.out)
        obtain ⟨j, hjk⟩ : ∃ j, j = k + 1 := ⟨_, rfl⟩
        have HJ := Lib.hid hjk
        have k0 : (0 : Int) ≤ (k : Int) := by omega
        have k1 : (k : Int) < (C.length : Int) := by omega
        have k2 : (j : Int) ≤ (C.length : Int) := by omega
        have k3 : (j : Int) ≤ (pc : Int) := by omega
        have k4 : (k : Int) ≤ (pc : Int) := by omega
        have k5 : (0 : Int) ≤ (j : Int) := by omega
        have k6 : (C.length : Int) ≤ (pc : Int) := by omega
        have kw : IntKind.i64.wrap ((k : Int) + 1) = (j : Int) := (IntWalk.i64_in _ (by omega)).trans (by omega)
        have kj : k ≤ j ∧ j ≤ 30 := by omega
        have HL := Lib.hid (show (C.take k ++ C.drop j).length = 0 + k + (C.length - j) by simp; omega)
        have L1 := Lib.hid (show (pcs (C.take k)).length = k * 5 by rw [pcs_len, List.length_take, Nat.min_eq_left (by omega)])
        have L2 := Lib.hid (show (pcs (C.drop j)).length = (C.length - j) * 5 by rw [pcs_len, List.length_drop])
        have G1 := Lib.hid (show ∀ V, Below w1.heap.size w1 V → ∀ i u, (pcs (C.take k))[i]? = some u → V.cell? ((⟨pb, po, none⟩ : Addr).add i) = some u from fun V hV i u hu => by
          rw [add_at]
          exact (hV.cell (p := ⟨pb, po + i, none⟩) hpB).trans (HPC.out i u (pcs_take C k i u hu)))
        have G2 := Lib.hid (show ∀ V, Below w1.heap.size w1 V → ∀ i u, (pcs (C.drop j))[i]? = some u → V.cell? ((⟨pb, po + j * 5, none⟩ : Addr).add i) = some u from fun V hV i u hu => by
          rw [add_at, Nat.add_assoc]
          exact (hV.cell (p := ⟨pb, po + (j * 5 + i), none⟩) hpB).trans (HPC.out _ u (pcs_drop C j (by omega) i u hu)))
        have HNF := Lib.hid (show ¬ faultF S M D (C.take k ++ C.drop j) = 0 by rw [HJ.out]; exact HLF.out k hlt)
        obtain ⟨ff, hff'⟩ : ∃ ff, faultF S M D (C.take k ++ C.drop j) = ff := ⟨_, rfl⟩
        have hfz : (ff == 0) = false := by rw [beq_eq_false_iff_ne, ← hff']; exact HNF.out
        have KL : Hid (∀ V u, RlAt V V.heap.size (.slice sa S.length caps) S → NdAt V V.heap.size (.slice na M.length ncap) M → PkAt V V.heap.size (.slice da D.length dc) D → PkAt V V.heap.size u (C.take k ++ C.drop j) → Calls Try.prog 34 #[.slice sa S.length caps, .slice na M.length ncap, .slice da D.length dc, u] V fun e w' => e = .returned (.int .i64 ff) ∧ Below V.heap.size V w') := Lib.hid fun V u g g' g2 g3 => by
          have := KF.out V _ u D _ hd' (by have := HL.out; omega) g g' g2 g3
          rwa [hff'] at this
        clear hff' HNF
        have zr := hb.size
        clear hjk hCc
        by_cases he : j = pc
        · have hd0 : C.drop j = [] := List.drop_eq_nil_of_le (by omega)
          have HD0 := Lib.hid hd0
          clear hd0
          subst he
          go_wp2_with fail
          go_region_held3 (fun _ => True) (trivial)
            (first
              | (refine step_append_want _ (by rfl) (.tmp 41) (.tmp 44) 28 rfl wr.heap.size 98 i0 (.agg #[.int .i64 0, .int .i64 0, .int .i64 0, .int .i64 0, .int .i64 0]) 5 40 Try.underlying28 hi hz0 hz1 hz2 rfl (by decide) _ 0 [] (by rfl) (POwn.made (w := wr) (B := wr.heap.size) rfl (Nat.le_refl _)) ⟨pb, po, none⟩ k j (pcs (C.take k)) (by rfl) L1.out (fun i u hu => G1.out _ (m1.trans (Below.mono (by go_grown) m1.size)) i u hu) (pcs_one _) (by unfold maxLen; omega) (by omega) (by first | exact Nat.le_refl _ | omega | (simp; done) | (simp; omega)) ?_; intro a4 c4 x4 own4 grow4 at4; have n4 : Below wr.heap.size wr x4 := Below.grown (by go_grown) grow4 (by first | exact Nat.le_refl _ | omega | (simp; done) | (simp; omega)) (fun k' e => by have e' : some wr.heap.size = some k' := e; injection e' with e'; omega); have z4 := n4.size)
              | (refine step_append_want _ (by rfl) (.tmp 45) (.tmp 49) 28 rfl wr.heap.size 98 i0 (.agg #[.int .i64 0, .int .i64 0, .int .i64 0, .int .i64 0, .int .i64 0]) 5 40 Try.underlying28 hi hz0 hz1 hz2 rfl (by decide) (.slice a4 (0 + k) c4) (0 + k) ([] ++ pcs (C.take k)) (by first | rfl | (rw [Nat.zero_add]; rfl) | (simp only [Nat.zero_add]; rfl) | simp [Act.eval]) own4 ⟨pb, po, none⟩ (C.length - j) 0 (pcs (C.drop j)) (by rfl) L2.out (fun i u hu => by rw [HD0.out] at hu; simp [pcs] at hu) (pcs_one _) (by unfold maxLen; omega) (by omega) (by first | exact Nat.le_refl _ | omega | (simp; done) | (simp; omega)) ?_; intro a5 c5 x5 own5 grow5 at5; have n5 : Below wr.heap.size wr x5 := Below.grown n4 grow5 n4.size (fun k' e => (World.ownsRow.lt own4 k' e).1))
              | fail)
          all_goals
            have hP5 : PkAt x5 x5.heap.size (.slice a5 (k + (C.length - j)) c5) (C.take k ++ C.drop j) := by
              rw [List.nil_append, ← pcs_append, Nat.zero_add] at own5
              exact own_at own5 (by have := HL.out; omega)
            have HP5 := Lib.hid hP5
            have m5 := m1.trans (n5.mono m1.size)
            have hb5 := hb.trans (n5.mono hb.size)
            clear hP5 own5 grow5 at5 own4 grow4 at4 n4 n5
            go_wp2_with fail
            refine (KL.out _ _ (H.out.stepAt m5) (HN.out.stepAt m5) (HD.out.stepAt m5) HP5.out).mono ?_
            rintro e w6 ⟨rfl, hb6⟩
            have n6 := hb5.trans (hb6.mono hb5.size)
            clear hb6
            go_wp2_with fail
            go_roundw
            case rel => exact ⟨j, by have := HJ.out; omega, rfl, n6⟩
            case measure => have := HJ.out; simp [intOf]; omega
        · have k9 : ¬ pc = j := fun e => he e.symm
          clear he
          go_wp2_with fail
          go_region_held3 (fun _ => True) (trivial)
            (first
              | (refine step_append_want _ (by rfl) (.tmp 41) (.tmp 44) 28 rfl wr.heap.size 98 i0 (.agg #[.int .i64 0, .int .i64 0, .int .i64 0, .int .i64 0, .int .i64 0]) 5 40 Try.underlying28 hi hz0 hz1 hz2 rfl (by decide) _ 0 [] (by rfl) (POwn.made (w := wr) (B := wr.heap.size) rfl (Nat.le_refl _)) ⟨pb, po, none⟩ k pc (pcs (C.take k)) (by rfl) L1.out (fun i u hu => G1.out _ (m1.trans (Below.mono (by go_grown) m1.size)) i u hu) (pcs_one _) (by unfold maxLen; omega) (by omega) (by first | exact Nat.le_refl _ | omega | (simp; done) | (simp; omega)) ?_; intro a4 c4 x4 own4 grow4 at4; have n4 : Below wr.heap.size wr x4 := Below.grown (by go_grown) grow4 (by first | exact Nat.le_refl _ | omega | (simp; done) | (simp; omega)) (fun k' e => by have e' : some wr.heap.size = some k' := e; injection e' with e'; omega); have z4 := n4.size)
              | (refine step_append_want _ (by rfl) (.tmp 45) (.tmp 49) 28 rfl wr.heap.size 98 i0 (.agg #[.int .i64 0, .int .i64 0, .int .i64 0, .int .i64 0, .int .i64 0]) 5 40 Try.underlying28 hi hz0 hz1 hz2 rfl (by decide) (.slice a4 (0 + k) c4) (0 + k) ([] ++ pcs (C.take k)) (by first | rfl | (rw [Nat.zero_add]; rfl) | (simp only [Nat.zero_add]; rfl) | simp [Act.eval]) own4 ⟨pb, po + j * 5, none⟩ (C.length - j) (pc - j) (pcs (C.drop j)) (by rfl) L2.out (fun i u hu => G2.out _ (m1.trans (n4.mono m1.size)) i u hu) (pcs_one _) (by unfold maxLen; omega) (by omega) (by first | exact Nat.le_refl _ | omega | (simp; done) | (simp; omega)) ?_; intro a5 c5 x5 own5 grow5 at5; have n5 : Below wr.heap.size wr x5 := Below.grown n4 grow5 n4.size (fun k' e => (World.ownsRow.lt own4 k' e).1))
              | fail)
          all_goals
            have hP5 : PkAt x5 x5.heap.size (.slice a5 (k + (C.length - j)) c5) (C.take k ++ C.drop j) := by
              rw [List.nil_append, ← pcs_append, Nat.zero_add] at own5
              exact own_at own5 (by have := HL.out; omega)
            have HP5 := Lib.hid hP5
            have m5 := m1.trans (n5.mono m1.size)
            have hb5 := hb.trans (n5.mono hb.size)
            clear hP5 own5 grow5 at5 own4 grow4 at4 n4 n5
            go_wp2_with fail
            refine (KL.out _ _ (H.out.stepAt m5) (HN.out.stepAt m5) (HD.out.stepAt m5) HP5.out).mono ?_
            rintro e w6 ⟨rfl, hb6⟩
            have n6 := hb5.trans (hb6.mono hb5.size)
            clear hb6
            go_wp2_with fail
            go_roundw
            case rel => exact ⟨j, by have := HJ.out; omega, rfl, n6⟩
            case measure => have := HJ.out; simp [intOf]; omega
      · obtain rfl : k = C.length := by omega
        have hRl := HAL.out.1
        have KZ : Hid (∀ V, RlAt V V.heap.size (.slice sa S.length caps) S → NdAt V V.heap.size (.slice na M.length ncap) M → PkAt V V.heap.size (.slice pa C.length pc) C → Calls Try.prog 34 #[.slice sa S.length caps, .slice na M.length ncap, .slice pa C.length pc, .slice pa C.length pc] V fun e w' => e = .returned (.int .i64 0) ∧ Below V.heap.size V w') := Lib.hid fun V g g' g2 => by
          have := KF.out V _ _ C C hc' hc' g g' g2 g2
          rwa [HAL.out.2] at this
        generalize reachL S M C = T at KR hRl
        clear KF HAL HLF
        go_wp2_with fail
        refine (KR.out _ (H.out.stepAt m1) (HN.out.stepAt m1) (HC.out.stepAt m1)).mono ?_
        rintro e w5 ⟨v5, rfl, ib5, hb5⟩
        obtain ⟨ta, tc, rfl, hx⟩ := id ib5
        have n5 := m1.trans (hb5.mono m1.size)
        clear hx ib5 hb5
        go_wp2_with fail
        refine (KZ.out _ (H.out.stepAt n5) (HN.out.stepAt n5) (HC.out.stepAt n5)).mono ?_
        rintro e w6 ⟨rfl, hb6⟩
        have n6 := n5.trans (hb6.mono n5.size)
        clear hb6
        go_wp2_with fail
        refine (alive_any _).mono ?_
        rintro e w7 ⟨rfl, hb7⟩
        have n7 := n6.trans (hb7.mono n6.size)
        clear hb7
        go_wp2_with fail
        go_ret
        exact ⟨rfl, b1.trans (n7.mono b1.size)⟩
  · have hfb : (f != 0) = true := by rw [bne_iff_ne]; exact hf0
    clear hf0 HF KF KR
    go_wp2_with fail
    refine (alive_any _).mono ?_
    rintro e w7 ⟨rfl, hb7⟩
    have n7 := b3.trans (hb7.mono b3.size)
    clear hb7
    go_wp2_with fail
    go_ret
    exact ⟨rfl, b1.trans (n7.mono b1.size)⟩

set_option maxRecDepth 100000 in
set_option maxHeartbeats 1000000 in
theorem faultP_long (a : Option Addr) (len cap : Nat) (w : World) (hl : 1048576 < len) :
    Calls Try.prog 8 #[.slice a len cap] w fun e w' => e = .returned (.bool true) ∧ Below w.heap.size w w' := by
  go_enter Try.func8, Try.ntmps8
  go_wp2
  go_ret
  exact ⟨rfl, Below.refl _ _⟩

theorem faultP_walk (a : Option Addr) (len cap : Nat) (w : World) (h : CodeIn w a len cap) :
    Calls Try.prog 8 #[.slice a len cap] w fun e w' => e = .returned (.bool true) ∧ Below w.heap.size w w' := by
  by_cases hl : len ≤ 1048576
  · exact faultP_short a len cap w h hl
  · exact faultP_long a len cap w (by omega)
end Pcf

set_option maxRecDepth 100000 in
theorem choiceFaultP_holds : Rows.FnChoiceFaultSaid :=
  OpenClaim.holds_of_wide 8 Try.f8 rfl rfl rfl rfl rfl rfl rfl ⟨rfl, rfl, rfl, rfl, rfl⟩ rfl rfl rfl rfl rfl (by kernel_rfl) Try.func8 (by kernel_rfl)
    (of_decide_eq_true (by kernel_rfl)) (by unfold Func.isWrapper; rw [if_neg (by decide +kernel)]; exact ⟨rfl, rfl⟩)
    (fun os started H enc _ => law_lifted (s := Rows.fnChoiceFaultSpec) (tb := 4) own started laid (by kernel_rfl) Try.func8 rfl (by kernel_rfl) Try.underlying4 (by kernel_rfl)
      (fun ds h => by rw [Try.params8] at h; match ds, h with | [_], _ => rfl)
      (ChangeSpec.witness6 (enc := enc) (C := Try.checked) false ⟨#[], #[.slice none 0 0], []⟩ 8 (by kernel_rfl) (by kernel_rfl) (by kernel_rfl) (by kernel_rfl))
      (law_code Try.params8 Pcf.faultP_walk))
#print axioms choiceFaultP_holds

end Go.Proofs.Ythbfhalciioehaa
