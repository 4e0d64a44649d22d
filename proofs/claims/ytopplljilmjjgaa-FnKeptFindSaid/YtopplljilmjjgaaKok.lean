/- Contracts of what tells an entry to be right, and of KeptOk, the program's and the model's, over this seat's translation; nothing that was there before the call has changed. Conditions: at most 1048576 entries, lines, texts and bytes of each. -/
import Derived.Test.YtopplljilmjjgaaKfi
import Derived.Test.YtopplljilmjjgaaBli
import Derived.Test.YtopplljilmjjgaaBls
import Derived.Test.YtopplljilmjjgaaRxu
namespace Go.Proofs.Ytopplljilmjjgaa
open Go.ChangeShapes Go.WideShapes Go.ChangeAt Go.RowKit Go.Sort Go.Joins Go.Deep
namespace Kf
open En Rx Bl
theorem EnAt.take {w : World} {B cap k : Nat} {a : Option Addr} {S : List Ent} (h : EnAt w B (.slice a S.length cap) S) (hk : k ≤ S.length) : EnAt w B (.slice a k cap) (S.take k) := by
  obtain ⟨a', cap', e, hcp, h⟩ := h
  simp only [Value.slice.injEq] at e
  obtain ⟨rfl, _, rfl⟩ := e
  have hl : (S.take k).length = k := by rw [List.length_take]; omega
  refine ⟨a, cap, by rw [hl], by omega, ?_⟩
  rcases h with rfl | ⟨b, o, rfl, hB, hc⟩
  · exact .inl (by simp)
  · exact .inr ⟨b, o, rfl, hB, fun i hi => by rw [List.getElem_take]; exact hc i (by omega)⟩
theorem mdE_any (m m' : Bool) (t t' : ByteArray) (V : World) : (binOp .eql 73 (mde m t) (mde m' t')).run Try.prog V = .ok (.bool (decide ((m, t) = (m', t')))) V := by
  by_cases h1 : m = m'
  · subst h1
    have g1 : (m == m) = true := by simp
    by_cases h2 : t = t'
    · subst h2
      have g2 : (t.toList == t.toList) = true := by simp
      rw [show decide ((m, t) = (m, t)) = true by simp]
      go_simp
    · have g2 : (t.toList == t'.toList) = false := by rw [beq_eq_false_iff_ne]; exact fun e => h2 (txt_eq e)
      rw [show decide ((m, t) = (m, t')) = false by simp [h2]]
      go_simp
  · have g1 : (m == m') = false := by rw [beq_eq_false_iff_ne]; exact h1
    rw [show decide ((m, t) = (m', t')) = false by simp [h1]]
    go_simp
theorem mdN_any (m m' : Bool) (t t' : ByteArray) (V : World) : (binOp .neq 73 (mde m t) (mde m' t')).run Try.prog V = .ok (.bool (decide ((m, t) ≠ (m', t')))) V := by
  by_cases h1 : m = m'
  · subst h1
    have g1 : (m == m) = true := by simp
    by_cases h2 : t = t'
    · subst h2
      have g2 : (t.toList == t.toList) = true := by simp
      rw [show decide ((m, t) ≠ (m, t)) = false by simp]
      go_simp
    · have g2 : (t.toList == t'.toList) = false := by rw [beq_eq_false_iff_ne]; exact fun e => h2 (txt_eq e)
      rw [show decide ((m, t) ≠ (m, t')) = true by simp [h2]]
      go_simp
  · have g1 : (m == m') = false := by rw [beq_eq_false_iff_ne]; exact h1
    rw [show decide ((m, t) ≠ (m', t')) = true by simp [h1]]
    go_simp

set_option maxRecDepth 100000 in
set_option maxHeartbeats 4000000 in
theorem l11Run_any (v u : Value) (L : List Ln) (T : List ByteArray) (w : World) (hl : L.length ≤ 1048576) (hq : ∀ q ∈ L, q.2.2.2.size ≤ 1048576) (hT : T.length ≤ 20) (hTq : ∀ q ∈ T, q.size ≤ 1048576) (h : LnAt w w.heap.size v L) (h' : Obl.StAt w w.heap.size u T) :
    Calls Try.prog 80 #[v, u] w fun e w' => e = .returned (mde (runMade L T).1 (runMade L T).2) ∧ Below w.heap.size w w' := by
  obtain ⟨a, c, rfl, x1⟩ := id h
  obtain ⟨a', c', rfl, x2⟩ := id h'
  clear x1 x2
  have KO := Lib.hid fun V => Bm.specOpen_any T.length V hT
  have KR := Lib.hid fun V z (g : Below w.heap.size w V) g' => specRoomRun_any (v := .slice a L.length c) (u := .slice a' T.length c') (z := z) (S := L) (I := T) (O := List.replicate T.length true) (w := V) hl hq (by omega) hTq (by simp; omega) (h.stepAt g) (h'.stepAt g) g'
  have HM := Lib.hid (show runMade L T = ranMade (roomR L T (List.replicate T.length true)) from rfl)
  rw [HM.out]
  clear HM
  generalize roomR L T (List.replicate T.length true) = r at *
  obtain ⟨rc, ro, rr⟩ := r
  have KM := Lib.hid fun V va n vc => Bm.l10Made_any rc ro va n vc rr V
  generalize ranMade (rc, ro, rr) = y at *
  obtain ⟨y0, y1⟩ := y
  have HB := Lib.hid ((Below.refl w.heap.size w).alloc (Nat.le_refl _) (.cells #[.bool false, .string ByteArray.empty] 73))
  clear h h'
  go_enter Try.func80, Try.ntmps80
  go_wp2_with fail
  refine (KO.out _).mono ?_
  rintro e w1 ⟨oa, oc, rfl, hbo, hb⟩
  have b1 := Lib.hid (HB.out.trans (hb.mono HB.out.size))
  have s1 : w.heap.size + 1 ≤ w1.heap.size := by have := hb.size; simpa using this
  have hc1 : ∀ o, w1.cell? ⟨w.heap.size, o, none⟩ = _ := fun o => hb.cell (p := ⟨w.heap.size, o, none⟩) (by simp)
  have hf1 : ∀ o, w1.frozen? ⟨w.heap.size, o, none⟩ = _ := fun o => hb.frozen (p := ⟨w.heap.size, o, none⟩) (by simp)
  have HBO := Lib.hid hbo
  clear hb hbo
  go_wp2_with fail
  refine (KR.out _ _ b1.out (by simpa using HBO.out)).mono ?_
  rintro e w2 ⟨vv, rfl, hib, hb⟩
  have b2 := Lib.hid (b1.out.trans (hb.mono b1.out.size))
  have s2 : w.heap.size + 1 ≤ w2.heap.size := by have := hb.size; omega
  have hc2 : ∀ o, w2.cell? ⟨w.heap.size, o, none⟩ = _ := fun o => (hb.cell (p := ⟨w.heap.size, o, none⟩) (by show w.heap.size < _; omega)).trans (hc1 o)
  have hf2 : ∀ o, w2.frozen? ⟨w.heap.size, o, none⟩ = _ := fun o => (hb.frozen (p := ⟨w.heap.size, o, none⟩) (by show w.heap.size < _; omega)).trans (hf1 o)
  obtain ⟨va, vc, rfl, x⟩ := hib
  clear hb x hc1 hf1
  go_wp2_with fail
  refine (KM.out _ va rr.length vc).mono ?_
  rintro e w3 ⟨rfl, hb⟩
  have b3 := Lib.hid (b2.out.trans (hb.mono b2.out.size))
  have q0 : w3.cell? ⟨w.heap.size, 0, none⟩ = some (.bool false) := (hb.cell (p := ⟨w.heap.size, 0, none⟩) (by show w.heap.size < _; omega)).trans ((hc2 0).trans (by go_simp))
  have q1 : w3.cell? ⟨w.heap.size, 1, none⟩ = some (.string ⟨#[]⟩) := (hb.cell (p := ⟨w.heap.size, 1, none⟩) (by show w.heap.size < _; omega)).trans ((hc2 1).trans (by go_simp))
  have q2 : w3.frozen? ⟨w.heap.size, 0, none⟩ = false := (hb.frozen (p := ⟨w.heap.size, 0, none⟩) (by show w.heap.size < _; omega)).trans ((hf2 0).trans (by go_simp))
  have q3 : w3.frozen? ⟨w.heap.size, 1, none⟩ = false := (hb.frozen (p := ⟨w.heap.size, 1, none⟩) (by show w.heap.size < _; omega)).trans ((hf2 1).trans (by go_simp))
  have n3 : Below w.heap.size w w3 := b3.out
  clear hb hc2 hf2
  go_wp2_with fail
  exact bodyPost_ret (v := mde y0 y1) (by simp [results, Try.results80, go_sem, q0, q1]) rfl ⟨rfl, by go_grown⟩

set_option maxRecDepth 100000 in
set_option maxHeartbeats 8000000 in
theorem entryOk_any (m : Bool) (t : ByteArray) (v u : Value) (L : List Ln) (N : List ByteArray) (w : World) (hP : Pen (m, t, L, N)) (h : LnAt w w.heap.size v L) (h' : Obl.StAt w w.heap.size u N) :
    Calls Try.prog 81 #[ent m t v u] w fun e w' => e = .returned (.bool (entOk (m, t, L, N))) ∧ Below w.heap.size w w' := by
  obtain ⟨a, c, rfl, z1⟩ := id h
  obtain ⟨a', c', rfl, z2⟩ := id h'
  clear z1 z2
  obtain ⟨_, hl, hq, hn, hr⟩ := hP
  simp only at hl hq hn hr
  have hB := (Below.refl w.heap.size w).alloc (Nat.le_refl _) (.cells #[.slice a L.length c, .slice a' N.length c', .bool m, .string t] 83)
  have x0 : (w.alloc (.cells #[.slice a L.length c, .slice a' N.length c', .bool m, .string t] 83)).cell? ⟨w.heap.size, 0, none⟩ = some (.slice a L.length c) := by go_simp
  have x1 : (w.alloc (.cells #[.slice a L.length c, .slice a' N.length c', .bool m, .string t] 83)).cell? ⟨w.heap.size, 1, none⟩ = some (.slice a' N.length c') := by go_simp
  have x2 : (w.alloc (.cells #[.slice a L.length c, .slice a' N.length c', .bool m, .string t] 83)).cell? ⟨w.heap.size, 2, none⟩ = some (.bool m) := by go_simp
  have x3 : (w.alloc (.cells #[.slice a L.length c, .slice a' N.length c', .bool m, .string t] 83)).cell? ⟨w.heap.size, 3, none⟩ = some (.string t) := by go_simp
  obtain ⟨W, hW⟩ : ∃ W, w.alloc (.cells #[.slice a L.length c, .slice a' N.length c', .bool m, .string t] 83) = W := ⟨_, rfl⟩
  have hB0 := hB
  rw [hW] at hB0 x0 x1 x2 x3
  have HB := Lib.hid hB0
  have HW := Lib.hid hW
  have KT := Lib.hid fun V (g : Below W.heap.size W V) => implThingsOk_any (.slice a' N.length c') N V hn hr (h'.stepAt (hB0.trans (g.mono hB0.size)))
  have KS := Lib.hid fun V (g : Below W.heap.size W V) => implScriptOk_any (.slice a L.length c) L (N.length : Int) V hl hq (h.stepAt (hB0.trans (g.mono hB0.size)))
  have KM := Lib.hid fun (ht : N.length ≤ 20) V (g : Below W.heap.size W V) => scriptMade_any (.slice a L.length c) (.slice a' N.length c') L N V hl hq ht hr (h.stepAt (hB0.trans (g.mono hB0.size))) (h'.stepAt (hB0.trans (g.mono hB0.size)))
  obtain ⟨r, hr0⟩ : ∃ r, entOk (m, t, L, N) = r := ⟨_, rfl⟩
  have HR := Lib.hid hr0
  rw [hr0]
  clear hr0 h h' hl hq hn hr hB hB0
  unfold entOk at HR
  simp only at HR
  rcases hp : thOk N
  · obtain rfl : false = r := by have := HR.out; simp only [hp] at this; simpa using this
    rw [hp] at KT
    go_enter Try.func81, Try.ntmps81
    go_upto_region 1 with fail
    clear hW HW
    have t0 := cell_regrown x0
    have t1 := cell_regrown x1
    have t2 := cell_regrown x2
    have t3 := cell_regrown x3
    refine wp_region_quiet_below (by kernel_rfl) (by kernel_rfl) ?_
    repeat (any_goals (first | go_big_quiet_step ((go_at_call 126; exact Calls.regrown_of (KT.out _ (below_regrown _ _ _)))) | quiet_step ((go_at_call 126; exact Calls.regrown_of (KT.out _ (below_regrown _ _ _))))))
    refine wpQuiet_nil ?_
    intro W2 hw
    have nn := quiet_end hw
    clear hw t0 t1 t2 t3 x0 x1 x2 x3
    have HP := Lib.hid (HB.out.trans (nn.mono HB.out.size))
    go_wp2_with fail
    go_ret
    exact ⟨rfl, HP.out⟩
  rcases hs : scOk L (N.length : Int)
  · obtain rfl : false = r := by have := HR.out; simp only [hp, hs] at this; simpa using this
    rw [hp] at KT
    rw [hs] at KS
    go_enter Try.func81, Try.ntmps81
    go_upto_region 1 with fail
    clear hW HW
    have t0 := cell_regrown x0
    have t1 := cell_regrown x1
    have t2 := cell_regrown x2
    have t3 := cell_regrown x3
    refine wp_region_quiet_below (by kernel_rfl) (by kernel_rfl) ?_
    repeat (any_goals (first | go_big_quiet_step ((first | (go_at_call 126; exact Calls.regrown_of (KT.out _ (below_regrown _ _ _))) | (go_at_call 127; exact Calls.regrown_of (KS.out _ (below_regrown _ _ _))))) | quiet_step ((first | (go_at_call 126; exact Calls.regrown_of (KT.out _ (below_regrown _ _ _))) | (go_at_call 127; exact Calls.regrown_of (KS.out _ (below_regrown _ _ _)))))))
    refine wpQuiet_nil ?_
    intro W2 hw
    have nn := quiet_end hw
    clear hw t0 t1 t2 t3 x0 x1 x2 x3
    have HP := Lib.hid (HB.out.trans (nn.mono HB.out.size))
    go_wp2_with fail
    go_ret
    exact ⟨rfl, HP.out⟩
  have HE := Lib.hid (show decide ((m, t) = runMade L N) = r by have := HR.out; simp only [hp, hs, Bool.true_and] at this; exact this)
  have KM2 := Lib.hid (KM.out (by have := thOk_len hp; omega))
  rw [hp] at KT
  rw [hs] at KS
  have hE := fun V => mdE_any m (runMade L N).1 t (runMade L N).2 V
  simp only [HE.out] at hE
  clear KM HR HE hp hs
  go_enter Try.func81, Try.ntmps81
  go_upto_region 1 with fail
  clear hW HW
  have t0 := cell_regrown x0
  have t1 := cell_regrown x1
  have t2 := cell_regrown x2
  have t3 := cell_regrown x3
  refine wp_region_quiet_below (by kernel_rfl) (by kernel_rfl) ?_
  repeat (any_goals (first | go_big_quiet_step ((first | (go_at_call 126; exact Calls.regrown_of (KT.out _ (below_regrown _ _ _))) | (go_at_call 127; exact Calls.regrown_of (KS.out _ (below_regrown _ _ _))) | (go_at_call 91; exact Calls.regrown_of (KM2.out _ (below_regrown _ _ _))))) | quiet_step ((first | (go_at_call 126; exact Calls.regrown_of (KT.out _ (below_regrown _ _ _))) | (go_at_call 127; exact Calls.regrown_of (KS.out _ (below_regrown _ _ _))) | (go_at_call 91; exact Calls.regrown_of (KM2.out _ (below_regrown _ _ _)))))))
  refine wpQuiet_nil ?_
  intro W2 hw
  have nn := quiet_end hw
  clear hw t0 t1 t2 t3 x0 x1 x2 x3
  have HP := Lib.hid (HB.out.trans (nn.mono HB.out.size))
  go_wp2_with fail
  go_ret
  exact ⟨rfl, HP.out⟩

set_option maxRecDepth 100000 in
set_option maxHeartbeats 8000000 in
theorem implKeptOk_any (v : Value) (E : List Ent) (w : World) (hl : E.length ≤ 1048576) (hq : ∀ q ∈ E, Pen q) (h : EnAt w w.heap.size v E) :
    Calls Try.prog 27 #[v] w fun e w' => e = .returned (.bool (koL E)) ∧ Below w.heap.size w w' := by
  have HA := Lib.hid h
  obtain ⟨va, cap, rfl, hcp, h⟩ := h
  have HH := Lib.hid h
  have HQ := Lib.hid hq
  clear h hq
  by_cases g0 : 60 < E.length
  · have HE := Lib.hid (ko_long g0)
    have gI : (60 : Int) < (E.length : Int) := by omega
    go_enter Try.func27, Try.ntmps27
    go_wp2_with fail
    go_ret
    exact ⟨by rw [HE.out]; rfl, Below.refl _ _⟩
  have gI : ¬ (60 : Int) < (E.length : Int) := by omega
  go_enter Try.func27, Try.ntmps27
  go_wp2_with fail
  go_loopw [10] (fun i wr => ∃ k : Nat, k ≤ E.length ∧ i = .int .i64 (k : Int) ∧ oksL E k = true ∧ Below w.heap.size w wr) (fun i _ => E.length - (intOf i).toNat)
  case atStart => exact ⟨0, Nat.zero_le _, rfl, rfl, Below.refl _ _⟩
  case round =>
    obtain ⟨k, hk, rfl, he, hb⟩ := hrel
    have HO := Lib.hid he
    clear he
    by_cases hlt : k < E.length
    · rcases HH.out with h | ⟨b, o, rfl, hB, hc⟩
      · subst h
        exact absurd hlt (by simp)
      obtain ⟨m, t, L, N, hxy⟩ : ∃ m t L N, E[k] = (m, t, L, N) := ⟨_, _, _, _, rfl⟩
      have cc := (hc k hlt).below hb hB
      rw [hxy] at cc
      obtain ⟨⟨e2, e3⟩, a, c, a', c', e0, e1, h1, h2⟩ := cc
      simp only at e0 e1 e2 e3 h1 h2
      have HX := Lib.hid (show E[k]? = some (m, t, L, N) by rw [List.getElem?_eq_getElem hlt, hxy])
      have hp := HQ.out _ (List.mem_of_getElem? HX.out)
      clear hc hxy
      have i0 : (0 : Int) ≤ (k : Int) := by omega
      have i1 : (k : Int) < (E.length : Int) := by omega
      have i2 : (k : Int) ≤ (cap : Int) := by omega
      have hwz := hb.size
      have ba := (Below.refl wr.heap.size wr).alloc (Nat.le_refl _) (.cells #[.slice a L.length c, .slice a' N.length c', .bool m, .string t] 83)
      have BA := Lib.hid (hb.trans (ba.mono hwz))
      have x0 : (wr.alloc (.cells #[.slice a L.length c, .slice a' N.length c', .bool m, .string t] 83)).cell? ⟨wr.heap.size, 0, none⟩ = some (.slice a L.length c) := by go_simp
      have x1 : (wr.alloc (.cells #[.slice a L.length c, .slice a' N.length c', .bool m, .string t] 83)).cell? ⟨wr.heap.size, 1, none⟩ = some (.slice a' N.length c') := by go_simp
      have x2 : (wr.alloc (.cells #[.slice a L.length c, .slice a' N.length c', .bool m, .string t] 83)).cell? ⟨wr.heap.size, 2, none⟩ = some (.bool m) := by go_simp
      have x3 : (wr.alloc (.cells #[.slice a L.length c, .slice a' N.length c', .bool m, .string t] 83)).cell? ⟨wr.heap.size, 3, none⟩ = some (.string t) := by go_simp
      obtain ⟨W, hW⟩ : ∃ W, wr.alloc (.cells #[.slice a L.length c, .slice a' N.length c', .bool m, .string t] 83) = W := ⟨_, rfl⟩
      rw [hW] at ba BA x0 x1 x2 x3
      have HW := Lib.hid hW
      have h1' := (h1.mono hwz).stepAt ba
      have h2' := (h2.mono hwz).stepAt ba
      have KE := Lib.hid fun V (g : Below W.heap.size W V) => entryOk_any m t (.slice a L.length c) (.slice a' N.length c') L N V hp (h1'.stepAt g) (h2'.stepAt g)
      have KF := Lib.hid fun V (g : Below W.heap.size W V) => by
        have := implFind_any (.slice (some ⟨b, o, none⟩) k cap) (.slice a L.length c) (.slice a' N.length c') (E.take k) L N V (by rw [List.length_take]; omega) (fun q hq => ⟨(HQ.out q (List.mem_of_mem_take hq)).2.1, (HQ.out q (List.mem_of_mem_take hq)).2.2.2.1⟩) hp.2.1 hp.2.2.2.1 (EnAt.take (HA.out.stepAt (BA.out.trans (g.mono BA.out.size))) hk) (h1'.stepAt g) (h2'.stepAt g)
        exact this
      have HFB := Lib.hid (find_bound (E.take k) L N)
      clear h1 h2 hp h1' h2' ba
      rcases hen : entOk (m, t, L, N)
      · rw [hen] at KE
        have HG := Lib.hid (ko_bad HX.out (fun h => by rw [hen] at h; cases h.1))
        clear hen
        go_upto_region 6 with fail
        clear hW HW e0 e1 e2 e3
        have t0 := cell_regrown x0
        have t1 := cell_regrown x1
        have t2 := cell_regrown x2
        have t3 := cell_regrown x3
        refine wp_region_quiet_below (by kernel_rfl) (by kernel_rfl) ?_
        repeat (any_goals (first | go_big_quiet_step ((go_at_call 81; exact Calls.regrown_of (KE.out _ (below_regrown _ _ _)))) | quiet_step ((go_at_call 81; exact Calls.regrown_of (KE.out _ (below_regrown _ _ _))))))
        refine wpQuiet_nil ?_
        intro W2 hw
        have nn := quiet_end hw
        clear hw t0 t1 t2 t3 x0 x1 x2 x3
        have HP := Lib.hid (BA.out.trans (nn.mono BA.out.size))
        go_wp2_with fail
        go_ret
        exact ⟨by rw [HG.out]; rfl, HP.out⟩
      rw [hen] at KE
      by_cases hf : findL (E.take k) L N = -1
      · rw [hf] at KF
        have HG := Lib.hid (oks_next HX.out HO.out hen hf)
        clear hen hf HFB
        go_upto_region 6 with fail
        clear hW HW e0 e1 e2 e3
        have t0 := cell_regrown x0
        have t1 := cell_regrown x1
        have t2 := cell_regrown x2
        have t3 := cell_regrown x3
        refine wp_region_quiet_below (by kernel_rfl) (by kernel_rfl) ?_
        repeat (any_goals (first | go_big_quiet_step ((first | (go_at_call 81; exact Calls.regrown_of (KE.out _ (below_regrown _ _ _))) | (go_at_call 22; exact Calls.regrown_of (KF.out _ (below_regrown _ _ _))))) | quiet_step ((first | (go_at_call 81; exact Calls.regrown_of (KE.out _ (below_regrown _ _ _))) | (go_at_call 22; exact Calls.regrown_of (KF.out _ (below_regrown _ _ _)))))))
        refine wpQuiet_nil ?_
        intro W2 hw
        have nn := quiet_end hw
        clear hw t0 t1 t2 t3 x0 x1 x2 x3
        have HP := Lib.hid (BA.out.trans (nn.mono BA.out.size))
        go_wp2_with fail
        go_roundw
        case rel => exact ⟨k + 1, by omega, by go_num, HG.out, HP.out⟩
        case measure => simp [intOf]; omega
      · have HG := Lib.hid (ko_bad HX.out (fun h => hf h.2))
        obtain ⟨z, hz⟩ : ∃ z, findL (E.take k) L N = z := ⟨_, rfl⟩
        rw [hz] at KF
        have z0 : (0 : Int) ≤ z := by have := HFB.out.1; omega
        clear hen hf HFB hz
        go_upto_region 6 with fail
        clear hW HW e0 e1 e2 e3
        have t0 := cell_regrown x0
        have t1 := cell_regrown x1
        have t2 := cell_regrown x2
        have t3 := cell_regrown x3
        refine wp_region_quiet_below (by kernel_rfl) (by kernel_rfl) ?_
        repeat (any_goals (first | go_big_quiet_step ((first | (go_at_call 81; exact Calls.regrown_of (KE.out _ (below_regrown _ _ _))) | (go_at_call 22; exact Calls.regrown_of (KF.out _ (below_regrown _ _ _))))) | quiet_step ((first | (go_at_call 81; exact Calls.regrown_of (KE.out _ (below_regrown _ _ _))) | (go_at_call 22; exact Calls.regrown_of (KF.out _ (below_regrown _ _ _)))))))
        refine wpQuiet_nil ?_
        intro W2 hw
        have nn := quiet_end hw
        clear hw t0 t1 t2 t3 x0 x1 x2 x3
        have HP := Lib.hid (BA.out.trans (nn.mono BA.out.size))
        go_wp2_with fail
        go_ret
        exact ⟨by rw [HG.out]; rfl, HP.out⟩
    · obtain rfl : k = E.length := by omega
      have HG := Lib.hid (show koL E = true from ko_iff.2 ⟨by omega, HO.out⟩)
      go_wp2_with fail
      go_ret
      exact ⟨by rw [HG.out]; rfl, hb⟩

set_option maxRecDepth 100000 in
set_option maxHeartbeats 8000000 in
theorem specKeptOk_any (v : Value) (E : List Ent) (w : World) (hl : E.length ≤ 1048576) (hq : ∀ q ∈ E, Pen q) (h : EnAt w w.heap.size v E) :
    Calls Try.prog 26 #[v] w fun e w' => e = .returned (.bool (koL E)) ∧ Below w.heap.size w w' := by
  have HA := Lib.hid h
  obtain ⟨va, cap, rfl, hcp, h⟩ := h
  have HH := Lib.hid h
  have HQ := Lib.hid hq
  clear h hq
  go_enter Try.func26, Try.ntmps26
  go_wp2_with fail
  go_loopw [3] (fun i wr => ∃ k : Nat, k ≤ E.length ∧ i = .int .i64 (k : Int) ∧ oksL E k = true ∧ Below w.heap.size w wr) (fun i _ => E.length - (intOf i).toNat)
  case atStart => exact ⟨0, Nat.zero_le _, rfl, rfl, Below.refl _ _⟩
  case round =>
    obtain ⟨k, hk, rfl, he, hb⟩ := hrel
    have HO := Lib.hid he
    clear he
    by_cases hlt : k < E.length
    · rcases HH.out with h | ⟨b, o, rfl, hB, hc⟩
      · subst h
        exact absurd hlt (by simp)
      obtain ⟨m, t, L, N, hxy⟩ : ∃ m t L N, E[k] = (m, t, L, N) := ⟨_, _, _, _, rfl⟩
      have cc := (hc k hlt).below hb hB
      rw [hxy] at cc
      obtain ⟨⟨e2, e3⟩, a, c, a', c', e0, e1, h1, h2⟩ := cc
      simp only at e0 e1 e2 e3 h1 h2
      have HX := Lib.hid (show E[k]? = some (m, t, L, N) by rw [List.getElem?_eq_getElem hlt, hxy])
      have hp := HQ.out _ (List.mem_of_getElem? HX.out)
      clear hc hxy
      have i0 : (0 : Int) ≤ (k : Int) := by omega
      have i1 : (k : Int) < (E.length : Int) := by omega
      have i2 : (k : Int) ≤ (cap : Int) := by omega
      have hwz := hb.size
      have ba := (Below.refl wr.heap.size wr).alloc (Nat.le_refl _) (.cells #[.slice a L.length c, .slice a' N.length c', .bool m, .string t] 83)
      have BA := Lib.hid (hb.trans (ba.mono hwz))
      have x0 : (wr.alloc (.cells #[.slice a L.length c, .slice a' N.length c', .bool m, .string t] 83)).cell? ⟨wr.heap.size, 0, none⟩ = some (.slice a L.length c) := by go_simp
      have x1 : (wr.alloc (.cells #[.slice a L.length c, .slice a' N.length c', .bool m, .string t] 83)).cell? ⟨wr.heap.size, 1, none⟩ = some (.slice a' N.length c') := by go_simp
      have x2 : (wr.alloc (.cells #[.slice a L.length c, .slice a' N.length c', .bool m, .string t] 83)).cell? ⟨wr.heap.size, 2, none⟩ = some (.bool m) := by go_simp
      have x3 : (wr.alloc (.cells #[.slice a L.length c, .slice a' N.length c', .bool m, .string t] 83)).cell? ⟨wr.heap.size, 3, none⟩ = some (.string t) := by go_simp
      obtain ⟨W, hW⟩ : ∃ W, wr.alloc (.cells #[.slice a L.length c, .slice a' N.length c', .bool m, .string t] 83) = W := ⟨_, rfl⟩
      rw [hW] at ba BA x0 x1 x2 x3
      have HW := Lib.hid hW
      have h1' := (h1.mono hwz).stepAt ba
      have h2' := (h2.mono hwz).stepAt ba
      have KS := Lib.hid fun V (g : Below W.heap.size W V) => specScriptOk_any (.slice a L.length c) L (N.length : Int) V hp.2.1 hp.2.2.1 (h1'.stepAt g)
      have KT := Lib.hid fun V (g : Below W.heap.size W V) => specThingsOk_any (.slice a' N.length c') N V hp.2.2.2.1 hp.2.2.2.2 (h2'.stepAt g)
      have KM := Lib.hid fun (ht : N.length ≤ 20) V (g : Below W.heap.size W V) => l11Run_any (.slice a L.length c) (.slice a' N.length c') L N V hp.2.1 hp.2.2.1 ht hp.2.2.2.2 (h1'.stepAt g) (h2'.stepAt g)
      have KF := Lib.hid fun V (g : Below W.heap.size W V) => specFind_any (.slice (some ⟨b, o, none⟩) E.length cap) (.slice a L.length c) (.slice a' N.length c') E L N V hl (fun q hq => ⟨(HQ.out q hq).2.1, (HQ.out q hq).2.2.2.1⟩) hp.2.1 hp.2.2.2.1 (HA.out.stepAt (BA.out.trans (g.mono BA.out.size))) (h1'.stepAt g) (h2'.stepAt g)
      have HFB := Lib.hid (find_bound E L N)
      have HFT := Lib.hid (find_take HX.out)
      clear h1 h2 hp h1' h2' ba
      rcases hs : scOk L (N.length : Int)
      · rw [hs] at KS
        have HG := Lib.hid (ko_bad HX.out (fun h => by have h := h.1; unfold entOk at h; simp only [hs] at h; simp at h))
        clear hs HFB HFT
        go_upto_region 5 with fail
        clear hW HW e0 e1 e2 e3
        have t0 := cell_regrown x0
        have t1 := cell_regrown x1
        have t2 := cell_regrown x2
        have t3 := cell_regrown x3
        refine wp_region_quiet_below (by kernel_rfl) (by kernel_rfl) ?_
        repeat (any_goals (first | go_big_quiet_step ((go_at_call 78; exact Calls.regrown_of (KS.out _ (below_regrown _ _ _)))) | quiet_step ((go_at_call 78; exact Calls.regrown_of (KS.out _ (below_regrown _ _ _))))))
        refine wpQuiet_nil ?_
        intro W2 hw
        have nn := quiet_end hw
        clear hw t0 t1 t2 t3 x0 x1 x2 x3
        have HP := Lib.hid (BA.out.trans (nn.mono BA.out.size))
        go_wp2_with fail
        go_ret
        exact ⟨by rw [HG.out]; rfl, HP.out⟩
      rcases hp : thOk N
      · rw [hs] at KS
        rw [hp] at KT
        have HG := Lib.hid (ko_bad HX.out (fun h => by have h := h.1; unfold entOk at h; simp only [hs, hp] at h; simp at h))
        clear hs hp HFB HFT
        go_upto_region 5 with fail
        clear hW HW e0 e1 e2 e3
        have t0 := cell_regrown x0
        have t1 := cell_regrown x1
        have t2 := cell_regrown x2
        have t3 := cell_regrown x3
        refine wp_region_quiet_below (by kernel_rfl) (by kernel_rfl) ?_
        repeat (any_goals (first | go_big_quiet_step ((first | (go_at_call 78; exact Calls.regrown_of (KS.out _ (below_regrown _ _ _))) | (go_at_call 79; exact Calls.regrown_of (KT.out _ (below_regrown _ _ _))))) | quiet_step ((first | (go_at_call 78; exact Calls.regrown_of (KS.out _ (below_regrown _ _ _))) | (go_at_call 79; exact Calls.regrown_of (KT.out _ (below_regrown _ _ _)))))))
        refine wpQuiet_nil ?_
        intro W2 hw
        have nn := quiet_end hw
        clear hw t0 t1 t2 t3 x0 x1 x2 x3
        have HP := Lib.hid (BA.out.trans (nn.mono BA.out.size))
        go_wp2_with fail
        go_ret
        exact ⟨by rw [HG.out]; rfl, HP.out⟩
      rw [hs] at KS
      rw [hp] at KT
      have KM2 := Lib.hid (KM.out (by have := thOk_len hp; omega))
      have hE := fun V => mdN_any m (runMade L N).1 t (runMade L N).2 V
      clear KM
      by_cases hm : (m, t) = runMade L N
      rotate_left
      · simp only [show decide ((m, t) ≠ ((runMade L N).1, (runMade L N).2)) = true from decide_eq_true hm] at hE
        have HG := Lib.hid (ko_bad HX.out (fun h => by have h := h.1; unfold entOk at h; simp only [hs, hp, decide_eq_false hm] at h; simp at h))
        clear hs hp hm HFB HFT
        go_upto_region 5 with fail
        clear hW HW e0 e1 e2 e3
        have t0 := cell_regrown x0
        have t1 := cell_regrown x1
        have t2 := cell_regrown x2
        have t3 := cell_regrown x3
        refine wp_region_quiet_below (by kernel_rfl) (by kernel_rfl) ?_
        repeat (any_goals (first | go_big_quiet_step ((first | (go_at_call 78; exact Calls.regrown_of (KS.out _ (below_regrown _ _ _))) | (go_at_call 79; exact Calls.regrown_of (KT.out _ (below_regrown _ _ _))) | (go_at_call 80; exact Calls.regrown_of (KM2.out _ (below_regrown _ _ _))))) | quiet_step ((first | (go_at_call 78; exact Calls.regrown_of (KS.out _ (below_regrown _ _ _))) | (go_at_call 79; exact Calls.regrown_of (KT.out _ (below_regrown _ _ _))) | (go_at_call 80; exact Calls.regrown_of (KM2.out _ (below_regrown _ _ _)))))))
        refine wpQuiet_nil ?_
        intro W2 hw
        have nn := quiet_end hw
        clear hw t0 t1 t2 t3 x0 x1 x2 x3
        have HP := Lib.hid (BA.out.trans (nn.mono BA.out.size))
        go_wp2_with fail
        go_ret
        exact ⟨by rw [HG.out]; rfl, HP.out⟩
      simp only [show decide ((m, t) ≠ ((runMade L N).1, (runMade L N).2)) = false from decide_eq_false (fun h => h hm)] at hE
      have HEN := Lib.hid (show entOk (m, t, L, N) = true by unfold entOk; simp only [hs, hp, decide_eq_true hm]; rfl)
      clear hs hp hm
      obtain ⟨z, hz⟩ : ∃ z, findL E L N = z := ⟨_, rfl⟩
      rw [hz] at KF
      by_cases hf : z < (k : Int)
      · have HG := Lib.hid (ko_bad HX.out (fun h => HFT.out.1 h.2 (by simp only; rw [hz]; exact hf)))
        clear HFB HFT hz HEN
        go_upto_region 5 with fail
        clear hW HW e0 e1 e2 e3
        have t0 := cell_regrown x0
        have t1 := cell_regrown x1
        have t2 := cell_regrown x2
        have t3 := cell_regrown x3
        refine wp_region_quiet_below (by kernel_rfl) (by kernel_rfl) ?_
        repeat (any_goals (first | go_big_quiet_step ((first | (go_at_call 78; exact Calls.regrown_of (KS.out _ (below_regrown _ _ _))) | (go_at_call 79; exact Calls.regrown_of (KT.out _ (below_regrown _ _ _))) | (go_at_call 80; exact Calls.regrown_of (KM2.out _ (below_regrown _ _ _))) | (go_at_call 18; exact Calls.regrown_of (KF.out _ (below_regrown _ _ _))))) | quiet_step ((first | (go_at_call 78; exact Calls.regrown_of (KS.out _ (below_regrown _ _ _))) | (go_at_call 79; exact Calls.regrown_of (KT.out _ (below_regrown _ _ _))) | (go_at_call 80; exact Calls.regrown_of (KM2.out _ (below_regrown _ _ _))) | (go_at_call 18; exact Calls.regrown_of (KF.out _ (below_regrown _ _ _)))))))
        refine wpQuiet_nil ?_
        intro W2 hw
        have nn := quiet_end hw
        clear hw t0 t1 t2 t3 x0 x1 x2 x3
        have HP := Lib.hid (BA.out.trans (nn.mono BA.out.size))
        go_wp2_with fail
        go_ret
        exact ⟨by rw [HG.out]; rfl, HP.out⟩
      · have HG := Lib.hid (oks_next HX.out HO.out HEN.out (HFT.out.2 (by simp only; rw [hz]; exact hf)))
        clear HFB HFT hz HEN
        go_upto_region 5 with fail
        clear hW HW e0 e1 e2 e3
        have t0 := cell_regrown x0
        have t1 := cell_regrown x1
        have t2 := cell_regrown x2
        have t3 := cell_regrown x3
        refine wp_region_quiet_below (by kernel_rfl) (by kernel_rfl) ?_
        repeat (any_goals (first | go_big_quiet_step ((first | (go_at_call 78; exact Calls.regrown_of (KS.out _ (below_regrown _ _ _))) | (go_at_call 79; exact Calls.regrown_of (KT.out _ (below_regrown _ _ _))) | (go_at_call 80; exact Calls.regrown_of (KM2.out _ (below_regrown _ _ _))) | (go_at_call 18; exact Calls.regrown_of (KF.out _ (below_regrown _ _ _))))) | quiet_step ((first | (go_at_call 78; exact Calls.regrown_of (KS.out _ (below_regrown _ _ _))) | (go_at_call 79; exact Calls.regrown_of (KT.out _ (below_regrown _ _ _))) | (go_at_call 80; exact Calls.regrown_of (KM2.out _ (below_regrown _ _ _))) | (go_at_call 18; exact Calls.regrown_of (KF.out _ (below_regrown _ _ _)))))))
        refine wpQuiet_nil ?_
        intro W2 hw
        have nn := quiet_end hw
        clear hw t0 t1 t2 t3 x0 x1 x2 x3
        have HP := Lib.hid (BA.out.trans (nn.mono BA.out.size))
        go_wp2_with fail
        go_roundw
        case rel => exact ⟨k + 1, by omega, by go_num, HG.out, HP.out⟩
        case measure => simp [intOf]; omega
    · obtain rfl : k = E.length := by omega
      by_cases g0 : E.length ≤ 60
      · have HG := Lib.hid (show koL E = true from ko_iff.2 ⟨g0, HO.out⟩)
        have gI : (E.length : Int) ≤ 60 := by omega
        go_wp2_with fail
        go_ret
        exact ⟨by rw [HG.out]; rfl, hb⟩
      · have HG := Lib.hid (show koL E = false from ko_long (by omega))
        have gI : ¬ (E.length : Int) ≤ 60 := by omega
        go_wp2_with fail
        go_ret
        exact ⟨by rw [HG.out]; rfl, hb⟩
end Kf
end Go.Proofs.Ytopplljilmjjgaa
