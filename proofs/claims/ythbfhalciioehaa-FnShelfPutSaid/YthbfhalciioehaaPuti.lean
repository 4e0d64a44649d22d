/- The contract of the program's ShelfPut, over this seat's translation: a new shelf with a release more, all that it stands on new and different, or none; nothing that was there before the call has changed. Condition: at most 1048576 releases, needs of each and spans of those. -/
import Derived.Deep.RegionHeld3
import Derived.Test.YthbfhalciioehaaPuts
import Derived.Test.YthbfhalciioehaaMkl
namespace Go.Proofs.Ythbfhalciioehaa
open Go.RowKit Go.Sort

section
variable {P : Program} (w : World)
theorem wpList_append_rows {ops : Array Oper} {rest : List Oper} {o : Oper} {a : Act} {Q : Exit → Act → World → Prop} (hgd : o.guard = none) (s x : Operand) (t : TypeId)
    (ho : o.op = .call { callee := .builtin .append, args := #[s, x], argTypes := #[t, t] })
    (base : Nat) (e : TypeId) (i : TypeInfo) (z : Value) (size bytes : Nat) (ht : P.underlying t = some (.slice e)) (hi : P.info? e = some i) (hz : i.zero = some z)
    (hsize : i.size = size) (hby : i.bytes = bytes) (hzs : z.cells.size = size) (hsz : 0 < size)
    (v : Value) (n : Nat) (xs : List Value) (hs : a.eval s = v) (hown : w.ownsRow base e size v n xs)
    (ao : Option Addr) (m c : Nat) (news : List Value) (hx : a.eval x = .slice ao m c) (hl : news.length = m * size) (hnone : ao = none → m = 0 ∧ c = 0) (hnews : ∀ ad, ao = some ad → ∀ j u, news[j]? = some u → w.cell? (ad.add j) = some u) (h1 : ∀ u ∈ news, u.oneCell' = true)
    (h63 : n + m ≤ maxLen) (hbytes : (n + m) * bytes ≤ 140737488355328) (hbase : base ≤ w.heap.size)
    (h : ∀ a' c' w', w'.ownsRow base e size (.slice a' (n + m) c') (n + m) (xs ++ news) → w.grownBy w' v.ownBlock → ((Value.slice a' (n + m) c').ownBlock = v.ownBlock ∨ (Value.slice a' (n + m) c').ownBlock = some w.heap.size) → wpList P ops Q rest (a.put o.dst (.slice a' (n + m) c')) w') : wpList P ops Q (o :: rest) a w :=
  wpList_plain hgd fun K hK => by
    obtain ⟨a', c', w', hr, h2, h3, h4⟩ := run_append_rows (P := P) w t o.type base e i z size bytes ht hi hz hsize hby hzs hsz v n xs hown ao m c news hl hnone hnews h1 h63 hbytes hbase
    unfold Oper.wp execOp
    simp only [ho, resolve, invoke, builtin, Sem.run_bind, Sem.run_pure, Result.andThen_ok, List.map_toArray, List.map_cons, List.map_nil, hs, hx, hr]
    exact hK _ _ (h a' c' w' h2 h3 h4)
end

namespace Copy
open Foot Shal
theorem shFrom_all : ∀ (S : List Rel) (p : Option Rel), shFrom p S = true → ∀ q ∈ S, relOk q = true
  | [], _, _, q, h => by simp at h
  | y :: t, p, hs, q, h => by
    unfold shFrom at hs
    rw [Bool.and_eq_true, Bool.and_eq_true] at hs
    rcases List.mem_cons.1 h with rfl | h
    · exact hs.1
    · exact shFrom_all t _ hs.2.2 q h
theorem putOk_bad {x : Rel} {S : List Rel} (h : relOk x = false) : putOk x S = false := by
  unfold putOk
  rcases hp : shOk (putL x S)
  · rw [Bool.and_false]
  · unfold shOk at hp
    rw [Bool.and_eq_true] at hp
    have := shFrom_all _ _ hp.1 x (by unfold putL; simp)
    rw [h] at this
    cases this
/-- The cells of a grown row: what it is for an append of all of it. -/
theorem RGrow_row {w : World} {B : Nat} {v : Value} {S : List Rel} {fs : List (List Nat)} (h : RGrow w B v S fs) :
    ∃ ao c cs, v = .slice ao S.length c ∧ w.ownsRow B 54 7 v S.length cs ∧ cs.length = S.length * 7 ∧ (ao = none → S.length = 0 ∧ c = 0) ∧ (∀ ad, ao = some ad → ∀ j u, cs[j]? = some u → w.cell? (ad.add j) = some u) ∧ (∀ u ∈ cs, u.oneCell' = true) ∧ REl w cs S fs ∧ fs.flatten.Nodup ∧ ∀ b ∈ fs.flatten, B ≤ b ∧ b < w.heap.size ∧ v.ownBlock ≠ some b := by
  obtain ⟨cs, ho, he, hn, hi⟩ := h
  have hl := ho.1
  rcases ho.2 with ⟨hv, h0⟩ | ⟨g, cap, cur, hv, rest⟩
  · exact ⟨none, 0, cs, by rw [hv, h0], ho, hl, fun _ => ⟨h0, rfl⟩, (by intro ad e; cases e), REl.one he hl, he, hn, hi⟩
  · subst hv
    refine ⟨some ⟨g, 0, none⟩, cap, cs, rfl, ho, hl, (by intro e; cases e), fun ad e j u hu => ?_, REl.one he hl, he, hn, hi⟩
    cases e
    exact own_news ho j u hu
theorem join_rows {w2 w3 : World} {B Z c' : Nat} {a' : Option Addr} {v v2 : Value} {S S2 : List Rel} {cs cs2 : List Value} {fs fs2 : List (List Nat)}
    (he : REl w2 cs S fs) (hcl : cs.length = S.length * 7) (hnd : fs.flatten.Nodup) (hin : ∀ b ∈ fs.flatten, B ≤ b ∧ b < Z ∧ v.ownBlock ≠ some b) (hv : ∀ k, v.ownBlock = some k → k < Z)
    (he2 : REl w2 cs2 S2 fs2) (hnd2 : fs2.flatten.Nodup) (hin2 : ∀ b ∈ fs2.flatten, Z ≤ b ∧ b < w2.heap.size ∧ v2.ownBlock ≠ some b) (hB : B ≤ Z) (hZ : Z ≤ w2.heap.size) (hp : 0 < S.length)
    (hown : w3.ownsRow B 54 7 (.slice a' (S.length + S2.length) c') (S.length + S2.length) (cs ++ cs2)) (hgrow : w2.grownBy w3 v.ownBlock) (hat : (Value.slice a' (S.length + S2.length) c').ownBlock = v.ownBlock ∨ (Value.slice a' (S.length + S2.length) c').ownBlock = some w2.heap.size) :
    ∃ fs', RGrow w3 B (.slice a' (S.length + S2.length) c') (S ++ S2) fs' := by
  rcases hown.2 with ⟨_, h0⟩ | ⟨g, cap, cur, e, rest⟩
  · omega
  · simp only [Value.slice.injEq] at e
    obtain ⟨rfl, _, _⟩ := e
    refine ⟨_, RGrow.join (w2 := w2) (Z := Z) (v := v) he hcl hnd hin hv he2 hnd2 (fun b k => ⟨(hin2 b k).1, (hin2 b k).2.1⟩) hB hZ hown hgrow ?_⟩
    rcases hat with h | h
    · exact .inl h.symm
    · right
      have h' : some g = some w2.heap.size := h
      injection h'

/-- A release behind a row, in the world behind the append. -/
theorem put_one {wa wb wc : World} {B cc ca ncap : Nat} {ac aa na : Option Addr} {T : List Rel} {x : Rel} {cs : List Value} {fs : List (List Nat)} {F : List Nat}
    (hown : wc.ownsRow B 54 7 (.slice ac (T.length + 1) cc) (T.length + 1) (cs ++ relc x (.slice na x.2.2.2.length ncap))) (he : REl wb cs T fs) (hnd : fs.flatten.Nodup) (hin : ∀ b ∈ fs.flatten, B ≤ b ∧ b < wa.heap.size ∧ (Value.slice aa T.length ca).ownBlock ≠ some b) (hv : ∀ k, (Value.slice aa T.length ca).ownBlock = some k → k < wa.heap.size)
    (hs : NdF wb (.slice na x.2.2.2.length ncap) x.2.2.2 F) (hFn : F.Nodup) (hF : ∀ b ∈ F, wa.heap.size ≤ b) (hz : wa.heap.size ≤ wb.heap.size) (hgrow : (wb.alloc (.cells (relc x (.slice na x.2.2.2.length ncap)).toArray 54)).grownBy wc (Value.slice aa T.length ca).ownBlock)
    (hat : (Value.slice ac (T.length + 1) cc).ownBlock = (Value.slice aa T.length ca).ownBlock ∨ (Value.slice ac (T.length + 1) cc).ownBlock = some (wb.alloc (.cells (relc x (.slice na x.2.2.2.length ncap)).toArray 54)).heap.size) (hB : B ≤ wa.heap.size) :
    ∃ fs', RGrow wc B (.slice ac (T.length + 1) cc) (T ++ [x]) fs' := by
  have hcl : cs.length = T.length * 7 := by have := hown.1; simp at this; omega
  rcases hown.2 with ⟨_, h0⟩ | ⟨g, cap, cur, e, rest⟩
  · omega
  · simp only [Value.slice.injEq] at e
    obtain ⟨rfl, _, _⟩ := e
    refine ⟨_, RGrow.push (w2 := wb) (W := wb.alloc (.cells (relc x (.slice na x.2.2.2.length ncap)).toArray 54)) (Z := wa.heap.size) (v := .slice aa T.length ca) ((Below.refl _ _).alloc (Nat.le_refl _) _) he hcl hnd hin hv hs hFn hF hB hown hgrow ?_ hz⟩
    rcases hat with h | h
    · exact .inl h.symm
    · right
      have h' : some g = some _ := h
      injection h'

set_option maxRecDepth 100000 in
set_option maxHeartbeats 16000000 in
theorem implShelfPut_any (sa : Option Addr) (caps : Nat) (S : List Rel) (x a b c d : Int) (f : Bool) (ad : Option Addr) (cap : Nat) (M : List Nd) (w : World) (h : RlAt w w.heap.size (.slice sa S.length caps) S) (hform : (sa = none ∧ caps = 0 ∧ S = []) ∨ ∃ b o, sa = some ⟨b, o, none⟩) (hcap : S.length ≤ caps) (hl : S.length ≤ 1048576) (hq : ∀ q ∈ S, q.2.2.2.length ≤ 1048576 ∧ ∀ p ∈ q.2.2.2, p.2.length ≤ 1048576)
    (hx : NdAt w w.heap.size (.slice ad M.length cap) M) (hM : M.length ≤ 1048576 ∧ ∀ p ∈ M, p.2.length ≤ 1048576) :
    Calls Try.prog 36 #[.slice sa S.length caps, rels x a b c d f (.slice ad M.length cap)] w (PutPost (x, (a, b, c, d), f, M) S w) := by
  obtain ⟨i0, hi, hz0, hz1, hz2⟩ := info_parts infoRelease
  obtain ⟨w1, hw1⟩ : ∃ V : World, V = w.alloc (.cells #[.int .i64 x, .int .i64 a, .int .i64 b, .int .i64 c, .int .i64 d, .bool f, .slice ad M.length cap] 54) := ⟨_, rfl⟩
  have b1 : Below w.heap.size w w1 := by rw [hw1]; exact (Below.refl w.heap.size w).alloc (Nat.le_refl _) _
  have z1 : w.heap.size + 1 ≤ w1.heap.size := by rw [hw1]; simp
  have q0 : w1.cell? ⟨w.heap.size, 0, none⟩ = some (.int .i64 x) := by rw [hw1]; go_simp
  have q1 : w1.cell? ⟨w.heap.size, 1, none⟩ = some (.int .i64 a) := by rw [hw1]; go_simp
  have q2 : w1.cell? ⟨w.heap.size, 2, none⟩ = some (.int .i64 b) := by rw [hw1]; go_simp
  have q3 : w1.cell? ⟨w.heap.size, 3, none⟩ = some (.int .i64 c) := by rw [hw1]; go_simp
  have q4 : w1.cell? ⟨w.heap.size, 4, none⟩ = some (.int .i64 d) := by rw [hw1]; go_simp
  have q5 : w1.cell? ⟨w.heap.size, 5, none⟩ = some (.bool f) := by rw [hw1]; go_simp
  have q6 : w1.cell? ⟨w.heap.size, 6, none⟩ = some (.slice ad M.length cap) := by rw [hw1]; go_simp
  have H := Lib.hid h
  have HX := Lib.hid hx
  have KA : Hid (∀ V, RlAt V V.heap.size (.slice sa S.length caps) S → Calls Try.prog 41 #[.slice sa S.length caps] V fun e w' => e = .returned (.bool (shOk S)) ∧ Below V.heap.size V w') := Lib.hid fun V g => implShelfOk_any _ S V (by omega) hq g
  have KB : Hid (∀ V, NdAt V V.heap.size (.slice ad M.length cap) M → Calls Try.prog 87 #[rels x a b c d f (.slice ad M.length cap)] V fun e w' => e = .returned (.bool (relOk (x, (a, b, c, d), f, M))) ∧ Below V.heap.size V w') := Lib.hid fun V g => releaseOk_any x a b c d f _ M V hM.1 hM.2 g
  clear h hx
  go_enter Try.func36, Try.ntmps36
  go_upto_region 1 with fail
  rw [← hw1]
  clear hw1
  rcases ho : shOk S
  · rw [ho] at KA
    have HP := Lib.hid (show putOk (x, (a, b, c, d), f, M) S = false by unfold putOk; rw [ho]; rfl)
    clear ho q0 q1 q2 q3 q4 q5 q6 KB
    go_wp2_with fail
    refine (KA.out _ (H.out.stepAt b1)).mono ?_
    rintro e w2 ⟨rfl, hb⟩
    have n2 := b1.trans (hb.mono b1.size)
    clear hb
    go_wp2_with fail
    exact bodyPost_ret (v := .tuple #[.slice none 0 0, .bool false]) (by simp [results, Try.results36, go_sem]) rfl
      ⟨_, [], by rw [HP.out], by rw [if_neg (by rw [HP.out]; decide)]; exact RGrow.nil _ _, n2⟩
  rw [ho] at KA
  have hS30 := shOk_len ho
  have HOK := Lib.hid ho
  clear ho
  rcases hr : relOk (x, (a, b, c, d), f, M)
  all_goals
    rw [hr] at KB
    have HR0 := Lib.hid hr
    clear hr
    go_wp2_with fail
    refine (KA.out _ (H.out.stepAt b1)).mono ?_
    rintro e w2 ⟨rfl, hb⟩
    have n2 := b1.trans (hb.mono b1.size)
    obtain ⟨hc2, hf2⟩ := bcells hb
    have y0 := (hc2 w.heap.size 0 (by omega)).trans q0
    have y1 := (hc2 w.heap.size 1 (by omega)).trans q1
    have y2 := (hc2 w.heap.size 2 (by omega)).trans q2
    have y3 := (hc2 w.heap.size 3 (by omega)).trans q3
    have y4 := (hc2 w.heap.size 4 (by omega)).trans q4
    have y5 := (hc2 w.heap.size 5 (by omega)).trans q5
    have y6 := (hc2 w.heap.size 6 (by omega)).trans q6
    have z2 : w.heap.size + 1 ≤ w2.heap.size := by have := hb.size; omega
    clear hb hc2 hf2 q0 q1 q2 q3 q4 q5 q6
    go_wp2_with fail
    refine (KB.out _ (HX.out.stepAt n2)).mono ?_
    rintro e w3 ⟨rfl, hb⟩
    have n3 := n2.trans (hb.mono n2.size)
    obtain ⟨hc2, hf2⟩ := bcells hb
    have t0 := (hc2 w.heap.size 0 (by omega)).trans y0
    have t1 := (hc2 w.heap.size 1 (by omega)).trans y1
    have t2 := (hc2 w.heap.size 2 (by omega)).trans y2
    have t3 := (hc2 w.heap.size 3 (by omega)).trans y3
    have t4 := (hc2 w.heap.size 4 (by omega)).trans y4
    have t5 := (hc2 w.heap.size 5 (by omega)).trans y5
    have t6 := (hc2 w.heap.size 6 (by omega)).trans y6
    have z3 : w.heap.size + 1 ≤ w3.heap.size := by have := hb.size; omega
    clear hb hc2 hf2 y0 y1 y2 y3 y4 y5 y6
  · go_wp2_with fail
    have HP := Lib.hid (putOk_bad (S := S) HR0.out)
    exact bodyPost_ret (v := .tuple #[.slice none 0 0, .bool false]) (by simp [results, Try.results36, go_sem]) rfl
      ⟨_, [], by rw [HP.out], by rw [if_neg (by rw [HP.out]; decide)]; exact RGrow.nil _ _, n3⟩
  go_wp2_with fail
  refine (releasesBefore_any _ S x a b c d f ad cap M _ (H.out.stepAt n3) (by omega)).mono ?_
  rintro e w4 ⟨rfl, hb⟩
  have n4 := n3.trans (hb.mono n3.size)
  obtain ⟨hc2, hf2⟩ := bcells hb
  have u0 := (hc2 w.heap.size 0 (by omega)).trans t0
  have u1 := (hc2 w.heap.size 1 (by omega)).trans t1
  have u2 := (hc2 w.heap.size 2 (by omega)).trans t2
  have u3 := (hc2 w.heap.size 3 (by omega)).trans t3
  have u4 := (hc2 w.heap.size 4 (by omega)).trans t4
  have u5 := (hc2 w.heap.size 5 (by omega)).trans t5
  have u6 := (hc2 w.heap.size 6 (by omega)).trans t6
  have z4 : w.heap.size + 1 ≤ w4.heap.size := by have := hb.size; omega
  clear hb hc2 hf2 t0 t1 t2 t3 t4 t5 t6
  have hk := befL_le (x, (a, b, c, d), f, M) S
  have HXP := Lib.hid (show putL (x, (a, b, c, d), f, M) S = S.take (befL (x, (a, b, c, d), f, M) S) ++ [(x, (a, b, c, d), f, M)] ++ S.drop (befL (x, (a, b, c, d), f, M) S) from rfl)
  generalize befL (x, (a, b, c, d), f, M) S = k at hk HXP ⊢
  have k0 : (0 : Int) ≤ (k : Int) := by omega
  have k1 : (k : Int) ≤ (S.length : Int) := by omega
  have k2 : (k : Int) ≤ (caps : Int) := by omega
  have k3 : (S.length : Int) ≤ (caps : Int) := by omega
  have hTl : (S.take k).length = k := by simp; omega
  have HTl := Lib.hid hTl
  have hTq : ∀ q ∈ S.take k, q.2.2.2.length ≤ 1048576 ∧ ∀ p ∈ q.2.2.2, p.2.length ≤ 1048576 := fun q h => hq q (List.mem_of_mem_take h)
  have hDq : ∀ q ∈ S.drop k, q.2.2.2.length ≤ 1048576 ∧ ∀ p ∈ q.2.2.2, p.2.length ≤ 1048576 := fun q h => hq q (List.mem_of_mem_drop h)
  have HT := Lib.hid (RlAt_take (cap' := caps) (H.out.stepAt n4) hk)
  obtain ⟨T, hT⟩ : ∃ T, S.take k = T := ⟨_, rfl⟩
  obtain ⟨D, hD⟩ : ∃ D, S.drop k = D := ⟨_, rfl⟩
  have hDl : D.length = S.length - k := by rw [← hD]; simp
  have HDl := Lib.hid hDl
  rw [hT] at HXP HT HTl hTq
  rw [hD] at HXP hDq
  have HD := Lib.hid hD
  have hTm : T.length ≤ 30 := by rw [HTl.out]; omega
  have hDm : D.length ≤ 30 := by rw [HDl.out]; omega
  clear hTl hDl hT hD
  obtain ⟨L1, hL1⟩ : ∃ L1, T ++ [(x, (a, b, c, d), f, M)] = L1 := ⟨_, rfl⟩
  have HL1 := Lib.hid hL1
  clear hL1
  go_wp2_with fail
  go_cut [7] from 19 (fun p wx => (∃ fs, RGrow wx w4.heap.size p L1 fs) ∧ Below w4.heap.size w4 wx)
  case first =>
    have HNX := Lib.hid (show NdAt w4 w4.heap.size (.slice ad M.length cap) M from HX.out.stepAt n4)
    rcases hform with ⟨rfl, rfl, rfl⟩ | ⟨sb, so, rfl⟩
    · obtain rfl : k = 0 := by simpa using hk
      have HT1 := Lib.hid (show RlAt w4 w4.heap.size (.slice none 0 0) T from HT.out)
      go_region_held3 (fun V => V.cell? ⟨w.heap.size, 0, none⟩ = some (.int .i64 x) ∧ V.cell? ⟨w.heap.size, 1, none⟩ = some (.int .i64 a) ∧ V.cell? ⟨w.heap.size, 2, none⟩ = some (.int .i64 b) ∧ V.cell? ⟨w.heap.size, 3, none⟩ = some (.int .i64 c) ∧ V.cell? ⟨w.heap.size, 4, none⟩ = some (.int .i64 d) ∧ V.cell? ⟨w.heap.size, 5, none⟩ = some (.bool f) ∧ V.cell? ⟨w.heap.size, 6, none⟩ = some (.slice ad M.length cap)) (go_keep)
        (first
      | (go_at_call 89; refine (shelfCopy_any _ T _ (HT1.out.stepAt (by go_grown)) (by omega) hTq).mono ?_; rintro e wa ⟨va, fsa, rfl, ga, hba⟩; have na4 : Below w4.heap.size w4 wa := Below.step (by go_grown) hba; have gb := ga.mono (B' := w4.heap.size) (by first | exact Nat.le_refl _ | (simp; done) | (simp; omega)); obtain ⟨aa, ca, hva, hxa⟩ := id gb.at; subst hva; clear hxa ga; have GA := Lib.hid gb; clear gb; have ak0 := (na4.cell (p := ⟨w.heap.size, 0, none⟩) (by show w.heap.size < w4.heap.size; omega)).trans u0; have ak1 := (na4.cell (p := ⟨w.heap.size, 1, none⟩) (by show w.heap.size < w4.heap.size; omega)).trans u1; have ak2 := (na4.cell (p := ⟨w.heap.size, 2, none⟩) (by show w.heap.size < w4.heap.size; omega)).trans u2; have ak3 := (na4.cell (p := ⟨w.heap.size, 3, none⟩) (by show w.heap.size < w4.heap.size; omega)).trans u3; have ak4 := (na4.cell (p := ⟨w.heap.size, 4, none⟩) (by show w.heap.size < w4.heap.size; omega)).trans u4; have ak5 := (na4.cell (p := ⟨w.heap.size, 5, none⟩) (by show w.heap.size < w4.heap.size; omega)).trans u5; have ak6 := (na4.cell (p := ⟨w.heap.size, 6, none⟩) (by show w.heap.size < w4.heap.size; omega)).trans u6)
      | (refine step_append_rows _ rfl (.tmp 22) (.tmp 25) 31 rfl w4.heap.size 54 i0 (.agg #[.int .i64 0, .int .i64 0, .int .i64 0, .int .i64 0, .int .i64 0, .bool false, .slice none 0 0]) 7 72 Try.underlying31 hi hz0 hz1 hz2 rfl (by decide) (.slice aa T.length ca) T.length cs (by rfl) HO2.out _ 1 1 [.int .i64 x, .int .i64 a, .int .i64 b, .int .i64 c, .int .i64 d, .bool f, .slice na M.length ncap] (by rfl) rfl (fun e => by cases e) (fun ad e j u hu => by cases e; exact rel_new rfl j u hu) rel_one (by unfold maxLen; omega) (by omega) (by first | omega | (simp; done) | (simp; omega)) ?_; intro ac cc wc hownc hgrowc hatc; have nc4 : Below w4.heap.size w4 wc := Below.grown (show Below w4.heap.size w4 (wb.alloc (.cells #[.int .i64 x, .int .i64 a, .int .i64 b, .int .i64 c, .int .i64 d, .bool f, .slice na M.length ncap] 54)) from nb4.alloc (by omega) _) hgrowc (by first | (simp; done) | (simp; omega)) (fun k' e => (hlt2 k' e).1); have ck0 := (nc4.cell (p := ⟨w.heap.size, 0, none⟩) (by show w.heap.size < w4.heap.size; omega)).trans u0; have ck1 := (nc4.cell (p := ⟨w.heap.size, 1, none⟩) (by show w.heap.size < w4.heap.size; omega)).trans u1; have ck2 := (nc4.cell (p := ⟨w.heap.size, 2, none⟩) (by show w.heap.size < w4.heap.size; omega)).trans u2; have ck3 := (nc4.cell (p := ⟨w.heap.size, 3, none⟩) (by show w.heap.size < w4.heap.size; omega)).trans u3; have ck4 := (nc4.cell (p := ⟨w.heap.size, 4, none⟩) (by show w.heap.size < w4.heap.size; omega)).trans u4; have ck5 := (nc4.cell (p := ⟨w.heap.size, 5, none⟩) (by show w.heap.size < w4.heap.size; omega)).trans u5; have ck6 := (nc4.cell (p := ⟨w.heap.size, 6, none⟩) (by show w.heap.size < w4.heap.size; omega)).trans u6)
      | (go_at_call 90; refine (releaseCopy_any x a b c d f _ M _ (HNX.out.stepAt (by go_grown)) hM.1 hM.2).mono ?_; rintro e wb ⟨na, ncap, fsN, rfl, gN, hbb⟩; have nab : Below wa.heap.size wa wb := Below.step (by go_grown) hbb; have nb4 : Below w4.heap.size w4 wb := na4.trans (nab.mono na4.size); have zab := nab.size; have zb4 := na4.size; obtain ⟨F, hNF, hFn, hF0⟩ := gN.foot; have HF := Lib.hid (show ∀ b ∈ F, wa.heap.size ≤ b from fun b k => by have := hF0 b k; (try simp at this); omega); obtain ⟨cs, hown2, he2, hnd2, hin2⟩ := GA.out.below nab; obtain ⟨_, _, _, _, hin1⟩ := id GA.out; have hlt2 := World.ownsRow.lt hown2; have hlt1 := GA.out.lt; have HE := Lib.hid he2; have HN2 := Lib.hid hnd2; have HI := Lib.hid hin1; have HNF := Lib.hid hNF; have HFn := Lib.hid hFn; have HO2 := Lib.hid (hown2.alloc (.cells #[.int .i64 x, .int .i64 a, .int .i64 b, .int .i64 c, .int .i64 d, .bool f, .slice na M.length ncap] 54)); clear hnd2 he2 hin1 hin2 hNF hFn hF0 gN hbb; have bk0 := (nb4.cell (p := ⟨w.heap.size, 0, none⟩) (by show w.heap.size < w4.heap.size; omega)).trans u0; have bk1 := (nb4.cell (p := ⟨w.heap.size, 1, none⟩) (by show w.heap.size < w4.heap.size; omega)).trans u1; have bk2 := (nb4.cell (p := ⟨w.heap.size, 2, none⟩) (by show w.heap.size < w4.heap.size; omega)).trans u2; have bk3 := (nb4.cell (p := ⟨w.heap.size, 3, none⟩) (by show w.heap.size < w4.heap.size; omega)).trans u3; have bk4 := (nb4.cell (p := ⟨w.heap.size, 4, none⟩) (by show w.heap.size < w4.heap.size; omega)).trans u4; have bk5 := (nb4.cell (p := ⟨w.heap.size, 5, none⟩) (by show w.heap.size < w4.heap.size; omega)).trans u5; have bk6 := (nb4.cell (p := ⟨w.heap.size, 6, none⟩) (by show w.heap.size < w4.heap.size; omega)).trans u6))
      all_goals
        go_wp2_with fail
        go_meet
        case rel => exact ⟨by rw [← HL1.out]; exact put_one hownc HE.out HN2.out HI.out (fun k e => (hlt1 k e).2) HNF.out HFn.out HF.out nab.size hgrowc hatc zb4, nc4⟩
    · have HT1 := Lib.hid (show RlAt w4 w4.heap.size (.slice (some ⟨sb, so, none⟩) k caps) T from HT.out)
      go_region_held3 (fun V => V.cell? ⟨w.heap.size, 0, none⟩ = some (.int .i64 x) ∧ V.cell? ⟨w.heap.size, 1, none⟩ = some (.int .i64 a) ∧ V.cell? ⟨w.heap.size, 2, none⟩ = some (.int .i64 b) ∧ V.cell? ⟨w.heap.size, 3, none⟩ = some (.int .i64 c) ∧ V.cell? ⟨w.heap.size, 4, none⟩ = some (.int .i64 d) ∧ V.cell? ⟨w.heap.size, 5, none⟩ = some (.bool f) ∧ V.cell? ⟨w.heap.size, 6, none⟩ = some (.slice ad M.length cap)) (go_keep)
        (first
      | (go_at_call 89; refine (shelfCopy_any _ T _ (HT1.out.stepAt (by go_grown)) (by omega) hTq).mono ?_; rintro e wa ⟨va, fsa, rfl, ga, hba⟩; have na4 : Below w4.heap.size w4 wa := Below.step (by go_grown) hba; have gb := ga.mono (B' := w4.heap.size) (by first | exact Nat.le_refl _ | (simp; done) | (simp; omega)); obtain ⟨aa, ca, hva, hxa⟩ := id gb.at; subst hva; clear hxa ga; have GA := Lib.hid gb; clear gb; have ak0 := (na4.cell (p := ⟨w.heap.size, 0, none⟩) (by show w.heap.size < w4.heap.size; omega)).trans u0; have ak1 := (na4.cell (p := ⟨w.heap.size, 1, none⟩) (by show w.heap.size < w4.heap.size; omega)).trans u1; have ak2 := (na4.cell (p := ⟨w.heap.size, 2, none⟩) (by show w.heap.size < w4.heap.size; omega)).trans u2; have ak3 := (na4.cell (p := ⟨w.heap.size, 3, none⟩) (by show w.heap.size < w4.heap.size; omega)).trans u3; have ak4 := (na4.cell (p := ⟨w.heap.size, 4, none⟩) (by show w.heap.size < w4.heap.size; omega)).trans u4; have ak5 := (na4.cell (p := ⟨w.heap.size, 5, none⟩) (by show w.heap.size < w4.heap.size; omega)).trans u5; have ak6 := (na4.cell (p := ⟨w.heap.size, 6, none⟩) (by show w.heap.size < w4.heap.size; omega)).trans u6)
      | (refine step_append_rows _ rfl (.tmp 22) (.tmp 25) 31 rfl w4.heap.size 54 i0 (.agg #[.int .i64 0, .int .i64 0, .int .i64 0, .int .i64 0, .int .i64 0, .bool false, .slice none 0 0]) 7 72 Try.underlying31 hi hz0 hz1 hz2 rfl (by decide) (.slice aa T.length ca) T.length cs (by rfl) HO2.out _ 1 1 [.int .i64 x, .int .i64 a, .int .i64 b, .int .i64 c, .int .i64 d, .bool f, .slice na M.length ncap] (by rfl) rfl (fun e => by cases e) (fun ad e j u hu => by cases e; exact rel_new rfl j u hu) rel_one (by unfold maxLen; omega) (by omega) (by first | omega | (simp; done) | (simp; omega)) ?_; intro ac cc wc hownc hgrowc hatc; have nc4 : Below w4.heap.size w4 wc := Below.grown (show Below w4.heap.size w4 (wb.alloc (.cells #[.int .i64 x, .int .i64 a, .int .i64 b, .int .i64 c, .int .i64 d, .bool f, .slice na M.length ncap] 54)) from nb4.alloc (by omega) _) hgrowc (by first | (simp; done) | (simp; omega)) (fun k' e => (hlt2 k' e).1); have ck0 := (nc4.cell (p := ⟨w.heap.size, 0, none⟩) (by show w.heap.size < w4.heap.size; omega)).trans u0; have ck1 := (nc4.cell (p := ⟨w.heap.size, 1, none⟩) (by show w.heap.size < w4.heap.size; omega)).trans u1; have ck2 := (nc4.cell (p := ⟨w.heap.size, 2, none⟩) (by show w.heap.size < w4.heap.size; omega)).trans u2; have ck3 := (nc4.cell (p := ⟨w.heap.size, 3, none⟩) (by show w.heap.size < w4.heap.size; omega)).trans u3; have ck4 := (nc4.cell (p := ⟨w.heap.size, 4, none⟩) (by show w.heap.size < w4.heap.size; omega)).trans u4; have ck5 := (nc4.cell (p := ⟨w.heap.size, 5, none⟩) (by show w.heap.size < w4.heap.size; omega)).trans u5; have ck6 := (nc4.cell (p := ⟨w.heap.size, 6, none⟩) (by show w.heap.size < w4.heap.size; omega)).trans u6)
      | (go_at_call 90; refine (releaseCopy_any x a b c d f _ M _ (HNX.out.stepAt (by go_grown)) hM.1 hM.2).mono ?_; rintro e wb ⟨na, ncap, fsN, rfl, gN, hbb⟩; have nab : Below wa.heap.size wa wb := Below.step (by go_grown) hbb; have nb4 : Below w4.heap.size w4 wb := na4.trans (nab.mono na4.size); have zab := nab.size; have zb4 := na4.size; obtain ⟨F, hNF, hFn, hF0⟩ := gN.foot; have HF := Lib.hid (show ∀ b ∈ F, wa.heap.size ≤ b from fun b k => by have := hF0 b k; (try simp at this); omega); obtain ⟨cs, hown2, he2, hnd2, hin2⟩ := GA.out.below nab; obtain ⟨_, _, _, _, hin1⟩ := id GA.out; have hlt2 := World.ownsRow.lt hown2; have hlt1 := GA.out.lt; have HE := Lib.hid he2; have HN2 := Lib.hid hnd2; have HI := Lib.hid hin1; have HNF := Lib.hid hNF; have HFn := Lib.hid hFn; have HO2 := Lib.hid (hown2.alloc (.cells #[.int .i64 x, .int .i64 a, .int .i64 b, .int .i64 c, .int .i64 d, .bool f, .slice na M.length ncap] 54)); clear hnd2 he2 hin1 hin2 hNF hFn hF0 gN hbb; have bk0 := (nb4.cell (p := ⟨w.heap.size, 0, none⟩) (by show w.heap.size < w4.heap.size; omega)).trans u0; have bk1 := (nb4.cell (p := ⟨w.heap.size, 1, none⟩) (by show w.heap.size < w4.heap.size; omega)).trans u1; have bk2 := (nb4.cell (p := ⟨w.heap.size, 2, none⟩) (by show w.heap.size < w4.heap.size; omega)).trans u2; have bk3 := (nb4.cell (p := ⟨w.heap.size, 3, none⟩) (by show w.heap.size < w4.heap.size; omega)).trans u3; have bk4 := (nb4.cell (p := ⟨w.heap.size, 4, none⟩) (by show w.heap.size < w4.heap.size; omega)).trans u4; have bk5 := (nb4.cell (p := ⟨w.heap.size, 5, none⟩) (by show w.heap.size < w4.heap.size; omega)).trans u5; have bk6 := (nb4.cell (p := ⟨w.heap.size, 6, none⟩) (by show w.heap.size < w4.heap.size; omega)).trans u6))
      all_goals
        go_wp2_with fail
        go_meet
        case rel => exact ⟨by rw [← HL1.out]; exact put_one hownc HE.out HN2.out HI.out (fun k e => (hlt1 k e).2) HNF.out HFn.out HF.out nab.size hgrowc hatc zb4, nc4⟩
  case rest =>
    rename World => w5
    rename Value => p5
    obtain ⟨⟨fs5, hr5⟩, hb⟩ := hcut
    have n5 := n4.trans (hb.mono n4.size)
    clear hb u0 u1 u2 u3 u4 u5 u6
    obtain ⟨la, lc, hv5, hx5⟩ := id hr5.at
    subst hv5
    clear hx5
    have R5 := Lib.hid (hr5.mono n4.size)
    clear hr5
    have z5 := n5.size
    rcases hform with ⟨rfl, rfl, rfl⟩ | ⟨sb, so, rfl⟩
    · obtain rfl : k = 0 := by simpa using hk
      have hD0 : D = [] := by rw [← HD.out]; rfl
      subst hD0
      go_wp2_with fail
      refine (shelfCopy_any _ ([] : List Rel) _ (show RlAt w5 w5.heap.size (.slice none 0 0) [] from ⟨none, 0, rfl, .inl rfl⟩) (by omega) hDq).mono ?_
      rintro e w6 ⟨v6, fs6, rfl, g6, hb6⟩
      have n56 : Below w5.heap.size w5 w6 := Below.step (by go_grown) hb6
      have n6 := n5.trans (n56.mono n5.size)
      have z56 := n56.size
      obtain ⟨ao, co, cs2, rfl, hown6, hl6, hno6, hne6, h16, he6, hnd6, hin6⟩ := RGrow_row (g6.mono (B' := w5.heap.size) (by first | exact Nat.le_refl _ | (simp; done) | (simp; omega)))
      have hlt1 := R5.out.lt
      obtain ⟨_, _, _, _, hin5⟩ := id R5.out
      obtain ⟨cs, hown5, he5, hnd5, _⟩ := R5.out.below n56
      have hlt5 := World.ownsRow.lt hown5
      have HA := Lib.hid he5
      have HB5 := Lib.hid hnd5
      have HC5 := Lib.hid hin5
      have HA6 := Lib.hid he6
      have HB6 := Lib.hid hnd6
      have HC6 := Lib.hid hin6
      have HL := Lib.hid (show L1.length = T.length + 1 by rw [← HL1.out]; simp)
      have hLm : L1.length ≤ 31 := by rw [HL.out]; omega
      clear he5 hnd5 hin5 he6 hnd6 hin6 g6 hb6
      go_wp2_with (at_builtin; refine wpList_append_rows _ rfl (.tmp 27) (.tmp 31) 31 rfl w.heap.size 54 i0 (.agg #[.int .i64 0, .int .i64 0, .int .i64 0, .int .i64 0, .int .i64 0, .bool false, .slice none 0 0]) 7 72 Try.underlying31 hi hz0 hz1 hz2 rfl (by decide) _ _ cs rfl hown5 ao ([] : List Rel).length co cs2 (by rfl) hl6 hno6 hne6 h16 (by unfold maxLen; omega) (by omega) (by omega) ?_)
      intro a7 c7 w7 hown7 hgrow7 hat7
      have n7 : Below w.heap.size w w7 := Below.grown n6 hgrow7 n6.size (fun k e => (hlt5 k e).1)
      obtain ⟨fs7, hr7⟩ := join_rows (w2 := w6) (Z := w5.heap.size) HA.out hown5.1 HB5.out HC5.out (fun k e => (hlt1 k e).2) HA6.out HB6.out HC6.out z5 z56 (by rw [HL.out]; omega) hown7 hgrow7 hat7
      have HR7 := Lib.hid hr7
      have HPP := Lib.hid (show putL (x, (a, b, c, d), f, M) ([] : List Rel) = L1 ++ ([] : List Rel) by rw [← HL1.out]; exact HXP.out)
      have HLP := Lib.hid (show (putL (x, (a, b, c, d), f, M) ([] : List Rel)).length = L1.length + ([] : List Rel).length by rw [HPP.out, List.length_append])
      clear hown7 hgrow7 hat7 hr7 hown5 hown6 hne6 h16 hl6 hno6
      have hPq : ∀ q ∈ putL (x, (a, b, c, d), f, M) ([] : List Rel), q.2.2.2.length ≤ 1048576 ∧ ∀ p ∈ q.2.2.2, p.2.length ≤ 1048576 := fun q h => by
        rw [HPP.out, ← HL1.out] at h
        simp only [List.mem_append, List.mem_singleton] at h
        rcases h with (h | h) | h
        · exact hTq q h
        · rw [h]; exact hM
        · exact hDq q h
      have hPl : (putL (x, (a, b, c, d), f, M) ([] : List Rel)).length ≤ 1048576 := by rw [HLP.out]; omega
      have HPO := Lib.hid (show putOk (x, (a, b, c, d), f, M) ([] : List Rel) = shOk (putL (x, (a, b, c, d), f, M) ([] : List Rel)) by unfold putOk; rw [HOK.out]; rfl)
      rw [← HLP.out, ← HPP.out] at HR7
      have HLP0 := Lib.hid (show ([] : List Rel).length = 0 → (putL (x, (a, b, c, d), f, M) ([] : List Rel)).length = L1.length by intro h; rw [HLP.out, h, Nat.add_zero])
      first | rw [← HLP.out] | rw [← HLP0.out rfl]
      have HRA := Lib.hid HR7.out.at
      obtain ⟨P, hPe⟩ : ∃ P, putL (x, (a, b, c, d), f, M) ([] : List Rel) = P := ⟨_, rfl⟩
      rw [hPe] at HR7 HRA HPO hPl hPq ⊢
      have HPE := Lib.hid hPe
      clear hPe HLP HPP HXP
      have KP : Hid (∀ V, RlAt V V.heap.size (.slice a7 P.length c7) P → Calls Try.prog 41 #[.slice a7 P.length c7] V fun e w' => e = .returned (.bool (shOk P)) ∧ Below V.heap.size V w') := Lib.hid fun V g => implShelfOk_any _ P V hPl hPq g
      rcases hp : shOk P
      · rw [hp] at KP
        have HP0 := Lib.hid hp
        clear hp
        go_wp2_with fail
        refine (KP.out _ HRA.out).mono ?_
        rintro e w8 ⟨rfl, hb8⟩
        have n8 := n7.trans (hb8.mono n7.size)
        clear hb8
        go_wp2_with fail
        exact bodyPost_ret (v := .tuple #[.slice none 0 0, .bool false]) (by simp [results, Try.results36, go_sem]) rfl
          ⟨_, [], by rw [HPO.out, HP0.out], by rw [if_neg (by rw [HPO.out, HP0.out]; decide)]; exact RGrow.nil _ _, n8⟩
      · rw [hp] at KP
        have HP0 := Lib.hid hp
        clear hp
        go_wp2_with fail
        refine (KP.out _ HRA.out).mono ?_
        rintro e w8 ⟨rfl, hb8⟩
        have n8 := n7.trans (hb8.mono n7.size)
        have HR8 := Lib.hid (HR7.out.below hb8)
        clear hb8
        go_wp2_with fail
        exact bodyPost_ret (v := .tuple #[.slice a7 P.length c7, .bool true]) (by simp [results, Try.results36, go_sem]) rfl
          ⟨_, fs7, by rw [HPO.out, HP0.out], by rw [if_pos (by rw [HPO.out, HP0.out]), HPE.out]; exact HR8.out, n8⟩
    · by_cases hkc : k < caps
      · have HDA := Lib.hid (show RlAt w5 w5.heap.size (.slice (some ⟨sb, so + k * 7, none⟩) D.length (caps - k)) D by
          have := RlAt_drop (cap' := caps - k) (H.out.stepAt n5) hk
          rw [HD.out] at this
          rwa [HDl.out])
        rw [HDl.out] at HDA
        go_wp2_with fail
        refine (shelfCopy_any _ D _ (HDA.out) (by omega) hDq).mono ?_
        rintro e w6 ⟨v6, fs6, rfl, g6, hb6⟩
        have n56 : Below w5.heap.size w5 w6 := Below.step (by go_grown) hb6
        have n6 := n5.trans (n56.mono n5.size)
        have z56 := n56.size
        obtain ⟨ao, co, cs2, rfl, hown6, hl6, hno6, hne6, h16, he6, hnd6, hin6⟩ := RGrow_row (g6.mono (B' := w5.heap.size) (by first | exact Nat.le_refl _ | (simp; done) | (simp; omega)))
        have hlt1 := R5.out.lt
        obtain ⟨_, _, _, _, hin5⟩ := id R5.out
        obtain ⟨cs, hown5, he5, hnd5, _⟩ := R5.out.below n56
        have hlt5 := World.ownsRow.lt hown5
        have HA := Lib.hid he5
        have HB5 := Lib.hid hnd5
        have HC5 := Lib.hid hin5
        have HA6 := Lib.hid he6
        have HB6 := Lib.hid hnd6
        have HC6 := Lib.hid hin6
        have HL := Lib.hid (show L1.length = T.length + 1 by rw [← HL1.out]; simp)
        have hLm : L1.length ≤ 31 := by rw [HL.out]; omega
        clear he5 hnd5 hin5 he6 hnd6 hin6 g6 hb6
        go_wp2_with (at_builtin; refine wpList_append_rows _ rfl (.tmp 27) (.tmp 31) 31 rfl w.heap.size 54 i0 (.agg #[.int .i64 0, .int .i64 0, .int .i64 0, .int .i64 0, .int .i64 0, .bool false, .slice none 0 0]) 7 72 Try.underlying31 hi hz0 hz1 hz2 rfl (by decide) _ _ cs rfl hown5 ao D.length co cs2 (by rfl) hl6 hno6 hne6 h16 (by unfold maxLen; omega) (by omega) (by omega) ?_)
        intro a7 c7 w7 hown7 hgrow7 hat7
        have n7 : Below w.heap.size w w7 := Below.grown n6 hgrow7 n6.size (fun k e => (hlt5 k e).1)
        obtain ⟨fs7, hr7⟩ := join_rows (w2 := w6) (Z := w5.heap.size) HA.out hown5.1 HB5.out HC5.out (fun k e => (hlt1 k e).2) HA6.out HB6.out HC6.out z5 z56 (by rw [HL.out]; omega) hown7 hgrow7 hat7
        have HR7 := Lib.hid hr7
        have HPP := Lib.hid (show putL (x, (a, b, c, d), f, M) S = L1 ++ D by rw [← HL1.out]; exact HXP.out)
        have HLP := Lib.hid (show (putL (x, (a, b, c, d), f, M) S).length = L1.length + D.length by rw [HPP.out, List.length_append])
        clear hown7 hgrow7 hat7 hr7 hown5 hown6 hne6 h16 hl6 hno6
        have hPq : ∀ q ∈ putL (x, (a, b, c, d), f, M) S, q.2.2.2.length ≤ 1048576 ∧ ∀ p ∈ q.2.2.2, p.2.length ≤ 1048576 := fun q h => by
          rw [HPP.out, ← HL1.out] at h
          simp only [List.mem_append, List.mem_singleton] at h
          rcases h with (h | h) | h
          · exact hTq q h
          · rw [h]; exact hM
          · exact hDq q h
        have hPl : (putL (x, (a, b, c, d), f, M) S).length ≤ 1048576 := by rw [HLP.out]; omega
        have HPO := Lib.hid (show putOk (x, (a, b, c, d), f, M) S = shOk (putL (x, (a, b, c, d), f, M) S) by unfold putOk; rw [HOK.out]; rfl)
        rw [← HLP.out, ← HPP.out] at HR7
        have HLP0 := Lib.hid (show D.length = 0 → (putL (x, (a, b, c, d), f, M) S).length = L1.length by intro h; rw [HLP.out, h, Nat.add_zero])
        first | rw [← HLP.out] | rw [← HLP0.out rfl]
        have HRA := Lib.hid HR7.out.at
        obtain ⟨P, hPe⟩ : ∃ P, putL (x, (a, b, c, d), f, M) S = P := ⟨_, rfl⟩
        rw [hPe] at HR7 HRA HPO hPl hPq ⊢
        have HPE := Lib.hid hPe
        clear hPe HLP HPP HXP
        have KP : Hid (∀ V, RlAt V V.heap.size (.slice a7 P.length c7) P → Calls Try.prog 41 #[.slice a7 P.length c7] V fun e w' => e = .returned (.bool (shOk P)) ∧ Below V.heap.size V w') := Lib.hid fun V g => implShelfOk_any _ P V hPl hPq g
        rcases hp : shOk P
        · rw [hp] at KP
          have HP0 := Lib.hid hp
          clear hp
          go_wp2_with fail
          refine (KP.out _ HRA.out).mono ?_
          rintro e w8 ⟨rfl, hb8⟩
          have n8 := n7.trans (hb8.mono n7.size)
          clear hb8
          go_wp2_with fail
          exact bodyPost_ret (v := .tuple #[.slice none 0 0, .bool false]) (by simp [results, Try.results36, go_sem]) rfl
            ⟨_, [], by rw [HPO.out, HP0.out], by rw [if_neg (by rw [HPO.out, HP0.out]; decide)]; exact RGrow.nil _ _, n8⟩
        · rw [hp] at KP
          have HP0 := Lib.hid hp
          clear hp
          go_wp2_with fail
          refine (KP.out _ HRA.out).mono ?_
          rintro e w8 ⟨rfl, hb8⟩
          have n8 := n7.trans (hb8.mono n7.size)
          have HR8 := Lib.hid (HR7.out.below hb8)
          clear hb8
          go_wp2_with fail
          exact bodyPost_ret (v := .tuple #[.slice a7 P.length c7, .bool true]) (by simp [results, Try.results36, go_sem]) rfl
            ⟨_, fs7, by rw [HPO.out, HP0.out], by rw [if_pos (by rw [HPO.out, HP0.out]), HPE.out]; exact HR8.out, n8⟩
      · obtain rfl : k = S.length := by omega
        obtain rfl : caps = S.length := by omega
        have hD0 : D = [] := by rw [← HD.out]; exact List.drop_length
        subst hD0
        clear HD HDl
        go_wp2_with fail
        refine (shelfCopy_any _ ([] : List Rel) _ (⟨some ⟨sb, so, none⟩, 0, by simp, .inl rfl⟩) (by omega) hDq).mono ?_
        rintro e w6 ⟨v6, fs6, rfl, g6, hb6⟩
        have n56 : Below w5.heap.size w5 w6 := Below.step (by go_grown) hb6
        have n6 := n5.trans (n56.mono n5.size)
        have z56 := n56.size
        obtain ⟨ao, co, cs2, rfl, hown6, hl6, hno6, hne6, h16, he6, hnd6, hin6⟩ := RGrow_row (g6.mono (B' := w5.heap.size) (by first | exact Nat.le_refl _ | (simp; done) | (simp; omega)))
        have hlt1 := R5.out.lt
        obtain ⟨_, _, _, _, hin5⟩ := id R5.out
        obtain ⟨cs, hown5, he5, hnd5, _⟩ := R5.out.below n56
        have hlt5 := World.ownsRow.lt hown5
        have HA := Lib.hid he5
        have HB5 := Lib.hid hnd5
        have HC5 := Lib.hid hin5
        have HA6 := Lib.hid he6
        have HB6 := Lib.hid hnd6
        have HC6 := Lib.hid hin6
        have HL := Lib.hid (show L1.length = T.length + 1 by rw [← HL1.out]; simp)
        have hLm : L1.length ≤ 31 := by rw [HL.out]; omega
        clear he5 hnd5 hin5 he6 hnd6 hin6 g6 hb6
        go_wp2_with (at_builtin; refine wpList_append_rows _ rfl (.tmp 27) (.tmp 31) 31 rfl w.heap.size 54 i0 (.agg #[.int .i64 0, .int .i64 0, .int .i64 0, .int .i64 0, .int .i64 0, .bool false, .slice none 0 0]) 7 72 Try.underlying31 hi hz0 hz1 hz2 rfl (by decide) _ _ cs rfl hown5 ao ([] : List Rel).length co cs2 (by rfl) hl6 hno6 hne6 h16 (by unfold maxLen; omega) (by omega) (by omega) ?_)
        intro a7 c7 w7 hown7 hgrow7 hat7
        have n7 : Below w.heap.size w w7 := Below.grown n6 hgrow7 n6.size (fun k e => (hlt5 k e).1)
        obtain ⟨fs7, hr7⟩ := join_rows (w2 := w6) (Z := w5.heap.size) HA.out hown5.1 HB5.out HC5.out (fun k e => (hlt1 k e).2) HA6.out HB6.out HC6.out z5 z56 (by rw [HL.out]; omega) hown7 hgrow7 hat7
        have HR7 := Lib.hid hr7
        have HPP := Lib.hid (show putL (x, (a, b, c, d), f, M) S = L1 ++ ([] : List Rel) by rw [← HL1.out]; exact HXP.out)
        have HLP := Lib.hid (show (putL (x, (a, b, c, d), f, M) S).length = L1.length + ([] : List Rel).length by rw [HPP.out, List.length_append])
        clear hown7 hgrow7 hat7 hr7 hown5 hown6 hne6 h16 hl6 hno6
        have hPq : ∀ q ∈ putL (x, (a, b, c, d), f, M) S, q.2.2.2.length ≤ 1048576 ∧ ∀ p ∈ q.2.2.2, p.2.length ≤ 1048576 := fun q h => by
          rw [HPP.out, ← HL1.out] at h
          simp only [List.mem_append, List.mem_singleton] at h
          rcases h with (h | h) | h
          · exact hTq q h
          · rw [h]; exact hM
          · exact hDq q h
        have hPl : (putL (x, (a, b, c, d), f, M) S).length ≤ 1048576 := by rw [HLP.out]; omega
        have HPO := Lib.hid (show putOk (x, (a, b, c, d), f, M) S = shOk (putL (x, (a, b, c, d), f, M) S) by unfold putOk; rw [HOK.out]; rfl)
        rw [← HLP.out, ← HPP.out] at HR7
        have HLP0 := Lib.hid (show ([] : List Rel).length = 0 → (putL (x, (a, b, c, d), f, M) S).length = L1.length by intro h; rw [HLP.out, h, Nat.add_zero])
        first | rw [← HLP.out] | rw [← HLP0.out rfl]
        have HRA := Lib.hid HR7.out.at
        obtain ⟨P, hPe⟩ : ∃ P, putL (x, (a, b, c, d), f, M) S = P := ⟨_, rfl⟩
        rw [hPe] at HR7 HRA HPO hPl hPq ⊢
        have HPE := Lib.hid hPe
        clear hPe HLP HPP HXP
        have KP : Hid (∀ V, RlAt V V.heap.size (.slice a7 P.length c7) P → Calls Try.prog 41 #[.slice a7 P.length c7] V fun e w' => e = .returned (.bool (shOk P)) ∧ Below V.heap.size V w') := Lib.hid fun V g => implShelfOk_any _ P V hPl hPq g
        rcases hp : shOk P
        · rw [hp] at KP
          have HP0 := Lib.hid hp
          clear hp
          go_wp2_with fail
          refine (KP.out _ HRA.out).mono ?_
          rintro e w8 ⟨rfl, hb8⟩
          have n8 := n7.trans (hb8.mono n7.size)
          clear hb8
          go_wp2_with fail
          exact bodyPost_ret (v := .tuple #[.slice none 0 0, .bool false]) (by simp [results, Try.results36, go_sem]) rfl
            ⟨_, [], by rw [HPO.out, HP0.out], by rw [if_neg (by rw [HPO.out, HP0.out]; decide)]; exact RGrow.nil _ _, n8⟩
        · rw [hp] at KP
          have HP0 := Lib.hid hp
          clear hp
          go_wp2_with fail
          refine (KP.out _ HRA.out).mono ?_
          rintro e w8 ⟨rfl, hb8⟩
          have n8 := n7.trans (hb8.mono n7.size)
          have HR8 := Lib.hid (HR7.out.below hb8)
          clear hb8
          go_wp2_with fail
          exact bodyPost_ret (v := .tuple #[.slice a7 P.length c7, .bool true]) (by simp [results, Try.results36, go_sem]) rfl
            ⟨_, fs7, by rw [HPO.out, HP0.out], by rw [if_pos (by rw [HPO.out, HP0.out]), HPE.out]; exact HR8.out, n8⟩
end Copy
end Go.Proofs.Ythbfhalciioehaa
