/- Groundwork over this seat's translation: Kcp, Kbr, Kbs in one text; the conditions stand at each part. -/
import Derived.Test.YtopplljilmjjgaaEgr
import Derived.Test.YtopplljilmjjgaaWpp
import Derived.Test.YtopplljilmjjgaaGw
import Derived.Test.YtopplljilmjjgaaBli
import Derived.Deep.RegionHeld3
import Derived.Test.YtopplljilmjjgaaGy
import Derived.Test.YtopplljilmjjgaaKok
import Derived.Test.YtopplljilmjjgaaBlk

/- The contract of the model's l11Entry, which copies an entry, over this seat's translation: its lines and texts lie in blocks of their own; nothing that was there before the call has changed. Condition: at most 1048576 lines and texts. -/
namespace Go.Proofs.Ytopplljilmjjgaa
open Go.RowKit Go.Sort

namespace Kcp
open En Drm Dtg Egr Wpp
theorem empty_row {W : World} {B g s : Nat} {T : TypeId} (h : W.heap[g]? = some (.cells #[] T (0, 0))) (hB : B ≤ g) : W.ownsRow B T s (.slice (some ⟨g, 0, none⟩) 0 0) 0 [] :=
  ⟨by simp, .inr ⟨g, 0, #[], rfl, hB, h, Nat.le_refl _, Nat.zero_le _, by simp, by simp⟩⟩
theorem he_one {w : World} {y : Obj} : (w.alloc y).drew.heap[w.heap.size]? = some y := heap_alloc_new w y
theorem he_two {w6 : World} {o y : Obj} : ((w6.alloc o).alloc y).drew.heap[w6.heap.size + 1]? = some y := by
  show ((w6.alloc o).alloc y).heap[w6.heap.size + 1]? = some y
  have := heap_alloc_new (w6.alloc o) y
  rwa [World.size_alloc] at this
theorem he_three {w6 : World} {o y : Obj} : ((w6.alloc y).alloc o).drew.heap[w6.heap.size]? = some y := by
  show ((w6.alloc y).alloc o).heap[w6.heap.size]? = some y
  exact (Below.heap_alloc _ _ _ (by simp)).trans (heap_alloc_new w6 y)
theorem sts_len (N : List ByteArray) : (N.map Value.string).length = N.length * 1 := by simp
theorem sts_one (N : List ByteArray) : ∀ u ∈ N.map Value.string, u.oneCell' = true := by
  intro u hu
  obtain ⟨x, _, rfl⟩ := List.mem_map.1 hu
  rfl
theorem sts_news {w : World} {B b o cap : Nat} {N : List ByteArray} (h : Obl.StAt w B (.slice (some ⟨b, o, none⟩) N.length cap) N) : ∀ j u, (N.map Value.string)[j]? = some u → w.cell? ((⟨b, o, none⟩ : Addr).add j) = some u := fun j u hu => by
  obtain ⟨a, c, e, hh⟩ := h
  simp only [Value.slice.injEq] at e
  obtain ⟨rfl, _, rfl⟩ := e
  rw [List.getElem?_map] at hu
  rcases hx : N[j]? with _ | x
  · rw [hx] at hu
    cases hu
  rw [hx] at hu
  simp at hu
  subst hu
  obtain ⟨hj, rfl⟩ := List.getElem?_eq_some_iff.1 hx
  rcases hh with rfl | ⟨b', o', e, _, hc⟩
  · simp at hj
  · injection e with e
    injection e with e1 e2
    subst e1; subst e2
    rw [Obt.plain_add']
    exact hc j hj
theorem cells_of4 {w : World} {g : Nat} {v0 v1 v2 v3 : Value} {T : TypeId} (h : w.heap[g]? = some (.cells #[v0, v1, v2, v3] T (0, 0))) :
    w.cell? ⟨g, 0, none⟩ = some v0 ∧ w.cell? ⟨g, 1, none⟩ = some v1 ∧ w.cell? ⟨g, 2, none⟩ = some v2 ∧ w.cell? ⟨g, 3, none⟩ = some v3 ∧ ∀ o, w.frozen? ⟨g, o, none⟩ = false := by
  refine ⟨?_, ?_, ?_, ?_, fun o => ?_⟩
  · rw [cell_of_row w g 0 _ _ (0, 0) h]; rfl
  · rw [cell_of_row w g 1 _ _ (0, 0) h]; rfl
  · rw [cell_of_row w g 2 _ _ (0, 0) h]; rfl
  · rw [cell_of_row w g 3 _ _ (0, 0) h]; rfl
  · simp [World.frozen?, h]
theorem sown_sb {w : World} {base : Nat} {v : Value} {N : List ByteArray} (h : SOwn w base v N) : Obl.StB N base w.heap.size v w := by
  obtain ⟨hl, ⟨rfl, hn⟩ | ⟨g, cap, cur, rfl, hb, hg, hnc, hcm, hcs, htk⟩⟩ := h
  · exact ⟨none, 0, by rw [hn], .inl (List.eq_nil_of_length_eq_zero hn)⟩
  · refine ⟨some ⟨g, 0, none⟩, cap, rfl, .inr ⟨g, cap, rfl, ⟨cur, hg, by simpa using hcs, hnc, fun i hi => ?_⟩, hb, (Array.getElem?_eq_some_iff.1 hg).1⟩⟩
    have h1 : (N.map Value.string)[i]? = some (.string N[i]) := by rw [List.getElem?_map, List.getElem?_eq_getElem hi]; rfl
    rw [← htk, List.getElem?_take, if_pos (by omega)] at h1
    simpa using h1
theorem app_none {P : Program} {t ty e : TypeId} {i : TypeInfo} (ht : P.underlying t = some (.slice e)) (hi : P.info? e = some i) {g c : Nat} {W : World} : (Builtin.append_ #[t, t] ty #[.slice (some ⟨g, 0, none⟩) 0 0, .slice none 0 c]).run P W = .ok (.slice (some ⟨g, 0, none⟩) 0 0) W := by
  simp [Builtin.append_, run_underlying ht, sizeOf, typeInfo, hi, Builtin.lenOf, Builtin.firstCells, storeCells]
set_option maxRecDepth 100000 in
theorem copyL {ops : Array Oper} {o : Oper} {a : Act} {K : Act → World → Prop} {Q : Exit → Act → World → Prop} {E : Prop} {W : World} {B g0 : Nat} {L : List Ln} {la : Option Addr} {c1 : Nat} (hgd : o.guard = none) (s x : Operand) (ho : o.op = .call { callee := .builtin .append, args := #[s, x], argTypes := #[31, 31] })
    (hs : a.eval s = .slice (some ⟨g0, 0, none⟩) 0 0) (hx : a.eval x = .slice la L.length c1) (hat : LnAt W W.heap.size (.slice la L.length c1) L) (hl : L.length ≤ 1048576) (he : W.heap[g0]? = some (.cells #[] 99 (0, 0))) (hB : B ≤ g0)
    (h : ∀ g cap w', LOwn w' B (.slice g L.length cap) L → W.grownBy w' (some g0) → W.heap[g0]? = some (.cells #[] 99 (0, 0)) → K (a.put o.dst (.slice g L.length cap)) w') :
    if Region.wanted o (yielded ops a.tmps) = true then Oper.wp Try.prog o a W K Q else E := by
  obtain ⟨il, hil, hlz0, hlz1, hlz2⟩ := info_parts Lnt.infoLine
  have hg0 := (Array.getElem?_eq_some_iff.1 he).1
  have hown : W.ownsRow B 99 4 (.slice (some ⟨g0, 0, none⟩) 0 0) 0 [] := empty_row he hB
  rcases la with _ | ad
  · have hL : L = [] := by
      obtain ⟨a', c', e, hh⟩ := hat
      simp only [Value.slice.injEq] at e
      obtain ⟨rfl, _, rfl⟩ := e
      rcases hh with hh | ⟨b, o, e, _⟩
      · exact hh
      · cases e
    subst hL
    have hw : Region.wanted o (yielded ops a.tmps) = true := by simp [Region.wanted, hgd]
    rw [if_pos hw]
    unfold Oper.wp execOp
    simp only [ho, resolve, invoke, builtin, Sem.run_bind, Sem.run_pure, Result.andThen_ok, List.map_toArray, List.map_cons, List.map_nil, hs, hx, List.length_nil, app_none Try.underlying31 hil]
    exact h (some ⟨g0, 0, none⟩) 0 W hown (World.grownBy.refl _ _) he
  · obtain ⟨lb, lo', rfl⟩ | hL : (∃ b o, ad = ⟨b, o, none⟩) ∨ L = [] := by
      obtain ⟨a', c', e, hh⟩ := hat
      simp only [Value.slice.injEq] at e
      obtain ⟨rfl, _, rfl⟩ := e
      rcases hh with hh | ⟨b, o, e, _⟩
      · exact .inr hh
      · exact .inl ⟨b, o, Option.some.inj e⟩
    · refine step_append_rows _ hgd s x 31 ho B 99 il (.agg #[.int .i64 0, .int .i64 0, .int .i64 0, .string ByteArray.empty]) 4 40 Try.underlying31 hil hlz0 hlz1 hlz2 rfl (by decide) (.slice (some ⟨g0, 0, none⟩) 0 0) 0 [] hs hown (some ⟨lb, lo', none⟩) L.length c1 (lcs L) hx (lcs_len L) (fun e => by cases e) (fun ad e => by injection e with e; subst e; exact lcs_news hat) (lcs_one L) (by unfold maxLen; omega) (by omega) (by omega) ?_
      intro g cp w7 hown7 hgrow7 _
      have e : 0 + L.length = L.length := by omega
      rw [e] at hown7 ⊢
      exact h g cp w7 hown7 hgrow7 he
    · subst hL
      refine step_append_rows _ hgd s x 31 ho B 99 il (.agg #[.int .i64 0, .int .i64 0, .int .i64 0, .string ByteArray.empty]) 4 40 Try.underlying31 hil hlz0 hlz1 hlz2 rfl (by decide) (.slice (some ⟨g0, 0, none⟩) 0 0) 0 [] hs hown (some ad) 0 c1 [] hx rfl (fun e => by cases e) (fun ad e j u hu => by simp at hu) (by simp) (by decide) (by decide) (by omega) ?_
      intro g cp w7 hown7 hgrow7 _
      exact h g cp w7 hown7 hgrow7 he
set_option maxRecDepth 100000 in
theorem copyT {ops : Array Oper} {o : Oper} {a : Act} {K : Act → World → Prop} {Q : Exit → Act → World → Prop} {E : Prop} {W : World} {B g0 : Nat} {L : List ByteArray} {la : Option Addr} {c1 : Nat} (hgd : o.guard = none) (s x : Operand) (ho : o.op = .call { callee := .builtin .append, args := #[s, x], argTypes := #[24, 24] })
    (hs : a.eval s = .slice (some ⟨g0, 0, none⟩) 0 0) (hx : a.eval x = .slice la L.length c1) (hat : Obl.StAt W W.heap.size (.slice la L.length c1) L) (hl : L.length ≤ 1048576) (he : W.heap[g0]? = some (.cells #[] 9 (0, 0))) (hB : B ≤ g0)
    (h : ∀ g cap w', SOwn w' B (.slice g L.length cap) L → W.grownBy w' (some g0) → W.heap[g0]? = some (.cells #[] 9 (0, 0)) → K (a.put o.dst (.slice g L.length cap)) w') :
    if Region.wanted o (yielded ops a.tmps) = true then Oper.wp Try.prog o a W K Q else E := by
  obtain ⟨il, hil, hlz0, hlz1, hlz2⟩ := info_parts Obt.infoString
  have hg0 := (Array.getElem?_eq_some_iff.1 he).1
  have hown : W.ownsRow B 9 1 (.slice (some ⟨g0, 0, none⟩) 0 0) 0 [] := empty_row he hB
  rcases la with _ | ad
  · have hL : L = [] := by
      obtain ⟨a', c', e, hh⟩ := hat
      simp only [Value.slice.injEq] at e
      obtain ⟨rfl, _, rfl⟩ := e
      rcases hh with hh | ⟨b, o, e, _⟩
      · exact hh
      · cases e
    subst hL
    have hw : Region.wanted o (yielded ops a.tmps) = true := by simp [Region.wanted, hgd]
    rw [if_pos hw]
    unfold Oper.wp execOp
    simp only [ho, resolve, invoke, builtin, Sem.run_bind, Sem.run_pure, Result.andThen_ok, List.map_toArray, List.map_cons, List.map_nil, hs, hx, List.length_nil, app_none Try.underlying24 hil]
    exact h (some ⟨g0, 0, none⟩) 0 W hown (World.grownBy.refl _ _) he
  · obtain ⟨lb, lo', rfl⟩ | hL : (∃ b o, ad = ⟨b, o, none⟩) ∨ L = [] := by
      obtain ⟨a', c', e, hh⟩ := hat
      simp only [Value.slice.injEq] at e
      obtain ⟨rfl, _, rfl⟩ := e
      rcases hh with hh | ⟨b, o, e, _⟩
      · exact .inr hh
      · exact .inl ⟨b, o, Option.some.inj e⟩
    · refine step_append_rows _ hgd s x 24 ho B 9 il (.string ByteArray.empty) 1 16 Try.underlying24 hil hlz0 hlz1 hlz2 rfl (by decide) (.slice (some ⟨g0, 0, none⟩) 0 0) 0 [] hs hown (some ⟨lb, lo', none⟩) L.length c1 (L.map Value.string) hx (sts_len L) (fun e => by cases e) (fun ad e => by injection e with e; subst e; exact sts_news hat) (sts_one L) (by unfold maxLen; omega) (by omega) (by omega) ?_
      intro g cp w7 hown7 hgrow7 _
      have e : 0 + L.length = L.length := by omega
      rw [e] at hown7 ⊢
      exact h g cp w7 hown7 hgrow7 he
    · subst hL
      refine step_append_rows _ hgd s x 24 ho B 9 il (.string ByteArray.empty) 1 16 Try.underlying24 hil hlz0 hlz1 hlz2 rfl (by decide) (.slice (some ⟨g0, 0, none⟩) 0 0) 0 [] hs hown (some ad) 0 c1 [] hx rfl (fun e => by cases e) (fun ad e j u hu => by simp at hu) (by simp) (by decide) (by decide) (by omega) ?_
      intro g cp w7 hown7 hgrow7 _
      exact h g cp w7 hown7 hgrow7 he
theorem lnb_grown {w8 W w7 : World} {B g0 : Nat} {v : Value} {L : List Ln} (h : LnB L B w8.heap.size v w8) (hb : Below w8.heap.size w8 W) (hg : W.grownBy w7 (some g0)) (he : W.heap[g0]? = some (.cells #[] 9 (0, 0))) : LnB L B w7.heap.size v w7 := by
  obtain ⟨a, c, rfl, h⟩ := h
  refine ⟨a, c, rfl, ?_⟩
  have hz := hb.size
  have hz7 := hg.size
  rcases h with h | ⟨b, n, rfl, hk, k1, k2⟩
  · exact .inl h
  · have hk' := hk.below hb
    refine .inr ⟨b, n, rfl, hk'.kept (hg.block b (by omega) fun e => ?_), k1, by omega⟩
    injection e with e
    subst e
    obtain ⟨⟨C, hC, _⟩, _⟩ := hk'
    rw [hC] at he
    simp at he
theorem stb_grown {w8 W w7 : World} {B g0 : Nat} {v : Value} {N : List ByteArray} (h : Obl.StB N B w8.heap.size v w8) (hb : Below w8.heap.size w8 W) (hg : W.grownBy w7 (some g0)) (he : W.heap[g0]? = some (.cells #[] 99 (0, 0))) : Obl.StB N B w7.heap.size v w7 := by
  obtain ⟨a, c, rfl, h⟩ := h
  refine ⟨a, c, rfl, ?_⟩
  have hz := hb.size
  have hz7 := hg.size
  rcases h with h | ⟨b, n, rfl, hk, k1, k2⟩
  · exact .inl h
  · have hk' := hk.below hb
    refine .inr ⟨b, n, rfl, hk'.kept (hg.block b (by omega) fun e => ?_), k1, by omega⟩
    injection e with e
    subst e
    obtain ⟨C, hC, _⟩ := hk'
    rw [hC] at he
    simp at he
theorem gone_below {W0 W w7 : World} {g0 : Nat} (hb : Below W0.heap.size W0 W) (hg : W.grownBy w7 (some g0)) (h0 : W0.heap.size ≤ g0) : Below W0.heap.size W0 w7 := hb.grown hg hb.size fun k hk => by injection hk with hk; omega
theorem pend {W w7 : World} {g0 k : Nat} {o : Obj} (hg : W.grownBy w7 (some g0)) (h : W.heap[k]? = some o) (hne : k ≠ g0) : w7.heap[k]? = some o := (hg.block k (Array.getElem?_eq_some_iff.1 h).1 (fun e => by injection e with e; exact hne e)).trans h
theorem four_kept {w : World} {g b : Nat} {u0 u1 u2 u3 : Value} (h : b ≠ g) : ((((w.setCell ⟨g, 0, none⟩ u0).setCell ⟨g, 1, none⟩ u1).setCell ⟨g, 2, none⟩ u2).setCell ⟨g, 3, none⟩ u3).heap[b]? = w.heap[b]? :=
  (Below.heap_setCell _ _ _ _ h).trans ((Below.heap_setCell _ _ _ _ h).trans ((Below.heap_setCell _ _ _ _ h).trans (Below.heap_setCell _ _ _ _ h)))
theorem four_size {w : World} {g : Nat} {u0 u1 u2 u3 : Value} : ((((w.setCell ⟨g, 0, none⟩ u0).setCell ⟨g, 1, none⟩ u1).setCell ⟨g, 2, none⟩ u2).setCell ⟨g, 3, none⟩ u3).heap.size = w.heap.size := by simp [World.setCell]

set_option maxRecDepth 100000 in
set_option maxHeartbeats 8000000 in
theorem l11Entry_any (m : Bool) (t : ByteArray) (v u : Value) (L : List Ln) (N : List ByteArray) (w : World) (hl : L.length ≤ 1048576) (hn : N.length ≤ 1048576) (h : LnAt w w.heap.size v L) (h' : Obl.StAt w w.heap.size u N) :
    Calls Try.prog 86 #[ent m t v u] w fun e w' => ∃ a c a' c', e = .returned (ent m t (.slice a L.length c) (.slice a' N.length c')) ∧ LnB L w.heap.size w'.heap.size (.slice a L.length c) w' ∧ Obl.StB N w.heap.size w'.heap.size (.slice a' N.length c') w' ∧ Below w.heap.size w w' := by
  obtain ⟨a, c, rfl, z1⟩ := id h
  obtain ⟨a', c', rfl, z2⟩ := id h'
  clear z1 z2
  have hB := ((Below.refl w.heap.size w).alloc (Nat.le_refl _) (.cells #[.slice a L.length c, .slice a' N.length c', .bool m, .string t] 83)).alloc (by simp) (.cells #[.slice none 0 0, .slice none 0 0, .bool false, .string ⟨#[]⟩] 83)
  have hz : (((w.alloc (.cells #[.slice a L.length c, .slice a' N.length c', .bool m, .string t] 83)).alloc (.cells #[.slice none 0 0, .slice none 0 0, .bool false, .string ⟨#[]⟩] 83))).heap.size = w.heap.size + 1 + 1 := by simp
  have hx : (((w.alloc (.cells #[.slice a L.length c, .slice a' N.length c', .bool m, .string t] 83)).alloc (.cells #[.slice none 0 0, .slice none 0 0, .bool false, .string ⟨#[]⟩] 83))).heap[w.heap.size]? = some (.cells #[.slice a L.length c, .slice a' N.length c', .bool m, .string t] 83) := (Below.heap_alloc _ _ _ (by simp)).trans (heap_alloc_new w _)
  have hy : (((w.alloc (.cells #[.slice a L.length c, .slice a' N.length c', .bool m, .string t] 83)).alloc (.cells #[.slice none 0 0, .slice none 0 0, .bool false, .string ⟨#[]⟩] 83))).heap[w.heap.size + 1]? = some (.cells #[.slice none 0 0, .slice none 0 0, .bool false, .string ⟨#[]⟩] 83) := by
    have := heap_alloc_new (w.alloc (.cells #[.slice a L.length c, .slice a' N.length c', .bool m, .string t] 83)) (.cells #[.slice none 0 0, .slice none 0 0, .bool false, .string ⟨#[]⟩] 83)
    rwa [World.size_alloc] at this
  go_enter Try.func86, Try.ntmps86
  obtain ⟨W, hW⟩ : ∃ W, ((w.alloc (.cells #[.slice a L.length c, .slice a' N.length c', .bool m, .string t] 83)).alloc (.cells #[.slice none 0 0, .slice none 0 0, .bool false, .string ⟨#[]⟩] 83)) = W := ⟨_, rfl⟩
  go_upto_region 1 with fail
  rw [hW] at hB hz hx hy
  clear hW
  have HC := Lib.hid fun (V : World) (g : Below W.heap.size W V) => And.intro (cells_of4 ((g.block _ (by omega)).trans hx)) (cells_of4 ((g.block _ (by omega)).trans hy))
  obtain ⟨⟨x0, x1, x2, x3, _⟩, y0, y1, y2, y3, yf⟩ := HC.out W (Below.refl _ _)
  have yf0 := yf 0
  have yf1 := yf 1
  have yf2 := yf 2
  have yf3 := yf 3
  have HBW := Lib.hid hB
  have HS := Lib.hid (h.stepAt hB)
  have HU := Lib.hid (h'.stepAt hB)
  have l1 : w.heap.size < W.heap.size := by omega
  have l2 : w.heap.size + 1 < W.heap.size := by omega
  have l3 : w.heap.size ≠ W.heap.size := by omega
  have l4 : w.heap.size + 1 ≠ W.heap.size := by omega
  have l5 : w.heap.size ≠ W.heap.size + 1 := by omega
  have l6 : w.heap.size + 1 ≠ W.heap.size + 1 := by omega
  have HZ := Lib.hid hz
  clear h h' hB hz hx hy yf
  go_region_held3 (fun V => V.cell? ⟨w.heap.size, 0, none⟩ = some (.slice a L.length c) ∧ V.cell? ⟨w.heap.size, 1, none⟩ = some (.slice a' N.length c') ∧ V.cell? ⟨w.heap.size, 2, none⟩ = some (.bool m) ∧ V.cell? ⟨w.heap.size, 3, none⟩ = some (.string t)) (go_keep)
    (first
      | (refine copyL (B := W.heap.size) rfl (.tmp 3) (.tmp 5) rfl (by rfl) (by rfl) (HS.out.stepAt (by go_grown)) hl (by first | exact he_one | exact he_two | exact he_three | fail) (by first | exact Nat.le_refl _ | omega) ?_; intro gl cl w7 hown7 hg7 he7; have b7 := gone_below (W0 := W) (by go_grown) hg7 (by first | exact Nat.le_refl _ | omega); obtain ⟨⟨q0, q1, q2, q3, _⟩, r0, r1, r2, r3, rf⟩ := HC.out w7 b7; have rf0 := rf 0; have rf1 := rf 1; have rf2 := rf 2; have rf3 := rf 3; have HLL := Lib.hid (Dtg.LOwn.lb hown7); first | (have HEt := Lib.hid (pend hg7 (show _ = some (.cells #[] 9 (0, 0)) from he_two) (by omega))) | (have HEt := Lib.hid (pend hg7 (show _ = some (.cells #[] 9 (0, 0)) from he_three) (by omega))) | skip; have z7 := b7.size; clear rf hown7 hg7 he7)
      | (refine copyT (B := W.heap.size) rfl (.tmp 7) (.tmp 9) rfl (by rfl) (by rfl) (HU.out.stepAt (by go_grown)) hn (by first | exact he_one | exact he_two | exact he_three | exact HEt.out) (by first | exact Nat.le_refl _ | omega) ?_; intro gt ct w8 hown7 hg7 he7; have b8 := gone_below (W0 := W) (by go_grown) hg7 (by first | exact Nat.le_refl _ | omega); obtain ⟨⟨q0, q1, q2, q3, _⟩, r0, r1, r2, r3, rf⟩ := HC.out w8 b8; have rf0 := rf 0; have rf1 := rf 1; have rf2 := rf 2; have rf3 := rf 3; have HTT := Lib.hid (sown_sb hown7); have HLL8 := Lib.hid (lnb_grown HLL.out (by go_grown) hg7 he7); have z8 := b8.size; clear rf hown7 hg7 he7)
      | fail)
  all_goals
    have hbe := HBW.out
    have hze := HBW.out.size
    have hfe : Below w.heap.size w ((((w8.setCell ⟨w.heap.size + 1, 0, none⟩ (.slice gl L.length cl)).setCell ⟨w.heap.size + 1, 1, none⟩ (.slice gt N.length ct)).setCell ⟨w.heap.size + 1, 2, none⟩ (.bool m)).setCell ⟨w.heap.size + 1, 3, none⟩ (.string t)) := ((((hbe.trans (b8.mono hze)).setCell (Nat.le_succ _) _).setCell (Nat.le_succ _) _).setCell (Nat.le_succ _) _).setCell (Nat.le_succ _) _
    have HFE := Lib.hid hfe
    have z9 := b8.size
    clear hbe hfe b7 b8
    go_wp2_with fail
    exact bodyPost_ret (v := ent m t (.slice gl L.length cl) (.slice gt N.length ct)) (by simp [results, Try.results86, go_sem, r0, r1, r2, r3]) rfl
      ⟨gl, cl, gt, ct, rfl, Tgn.lnb_wide (LnB.kept HLL8.out (fun b k1 k2 hl => four_kept (by omega))) (by omega) (by rw [four_size]; exact Nat.le_refl _), Enn.ob_wide (Obl.OB.kept HTT.out (fun b k1 k2 hl => four_kept (by omega))) (by omega) (by rw [four_size]; exact Nat.le_refl _), HFE.out⟩
theorem ent_news {w : World} {x y z u : Value} {t : TypeId} : ∀ j r, [x, y, z, u][j]? = some r → (w.alloc (.cells #[x, y, z, u] t)).cell? ((⟨w.heap.size, 0, none⟩ : Addr).add j) = some r := by
  intro j r hu
  have hadd : ∀ n : Nat, (⟨w.heap.size, 0, none⟩ : Addr).add n = ⟨w.heap.size, n, none⟩ := fun n => by unfold Addr.add; split <;> simp_all
  rw [hadd]
  match j, hu with
  | 0, hu => simp at hu; subst hu; go_simp
  | 1, hu => simp at hu; subst hu; go_simp
  | 2, hu => simp at hu; subst hu; go_simp
  | 3, hu => simp at hu; subst hu; go_simp
theorem ent_one {m : Bool} {t : ByteArray} {a a' : Option Addr} {n n' c c' : Nat} : ∀ u ∈ [Value.slice a n c, .slice a' n' c', .bool m, .string t], u.oneCell' = true := by
  intro u hu
  simp at hu
  rcases hu with rfl | rfl | rfl | rfl <;> rfl
theorem own_gone {w W w1 : World} {B : Nat} {t : TypeId} {s n : Nat} {v : Value} {cs : List Value} (h : W.ownsRow B t s v n cs) (hb : Below B w W) (hB : B ≤ W.heap.size) (hg : W.grownBy w1 v.ownBlock) : Below B w w1 := hb.grown hg hB fun _ hk => (own_of h hk).1
/-- What the loop of the copy keeps. -/
def CpRel (E : List Ent) (w : World) (v i : Value) (wr : World) : Prop := ∃ k : Nat, k ≤ E.length ∧ i = .int .i64 (k : Int) ∧ EGr wr w.heap.size (w.heap.size + 1) v (E.take k) ∧ Below w.heap.size w wr
set_option maxRecDepth 100000 in
set_option maxHeartbeats 4000000 in
theorem l11Copy_any (v : Value) (E : List Ent) (w : World) (hl : E.length ≤ 1048576) (hq : ∀ q ∈ E, q.2.2.1.length ≤ 1048576 ∧ q.2.2.2.length ≤ 1048576) (h : EnAt w w.heap.size v E) :
    Calls Try.prog 84 #[v] w fun e w' => ∃ v, e = .returned v ∧ EGr w' w.heap.size (w.heap.size + 1) v E ∧ Below w.heap.size w w' := by
  obtain ⟨ei, hi, hz0, hz1, hz2⟩ := info_parts Enn.infoEntry
  obtain ⟨a, cap, rfl, hcp, h⟩ := h
  clear hcp
  have HH := Lib.hid h
  have HQ := Lib.hid hq
  have HST := Lib.hid (show CpRel E w (.slice (some ⟨w.heap.size, 0, none⟩) 0 0) (.int .i64 0) (w.alloc (.cells #[] 83)) from ⟨0, Nat.zero_le _, rfl, egr_made w, (Below.refl _ _).alloc (Nat.le_refl _) _⟩)
  clear h hq
  go_enter Try.func84, Try.ntmps84
  go_wp2_with fail
  go_loopw [3, 4] (fun v i wr => CpRel E w v i wr) (fun _ i _ => E.length - (intOf i).toNat)
  case atStart => exact HST.out
  case round =>
    obtain ⟨k, hk, rfl, heg, hb⟩ := hrel
    obtain ⟨cs, ho, he⟩ := id heg
    obtain ⟨va, vc, hv⟩ := row_form ho
    have hlE : (E.take k).length = k := by simp; omega
    rw [hlE] at hv ho
    subst hv
    by_cases hlt : k < E.length
    · rcases HH.out with h | ⟨b, o, rfl, hB, hc⟩
      · subst h
        exact absurd hlt (by simp)
      obtain ⟨m, t, L, N, hxy⟩ : ∃ m t L N, E[k] = (m, t, L, N) := ⟨_, _, _, _, rfl⟩
      have c := (hc k hlt).below hb hB
      rw [hxy] at c
      obtain ⟨⟨e2, e3⟩, a1, c1, a2, c2, e0, e1, h1, h2⟩ := c
      simp only at e0 e1 e2 e3 h1 h2
      have hx : E[k]? = some (m, t, L, N) := by rw [List.getElem?_eq_getElem hlt, hxy]
      have hp := HQ.out _ (List.mem_of_getElem? hx)
      simp only at hp
      have HTK := Lib.hid (show E.take (k + 1) = E.take k ++ [(m, t, L, N)] by rw [List.take_add_one, hx]; rfl)
      clear hc hxy hx
      have i0 : (0 : Int) ≤ (k : Int) := by omega
      have i1 : (k : Int) < (E.length : Int) := by omega
      have hwz := hb.size
      have KE := Lib.hid (l11Entry_any m t (.slice a1 L.length c1) (.slice a2 N.length c2) L N wr hp.1 hp.2 (h1.mono hwz) (h2.mono hwz))
      have HO := Lib.hid ho
      have HEE := Lib.hid he
      have HB := Lib.hid hb
      have HLE := Lib.hid hlE
      clear h1 h2 hp ho he hb hlE heg
      go_wp2_with fail
      refine KE.out.mono ?_
      rintro e w2 ⟨a3, c3, a4, c4, rfl, hL2, hN2, hb2⟩
      have hz2' := hb2.size
      have HL2 := Lib.hid hL2
      have HN2 := Lib.hid hN2
      have HB2 := Lib.hid hb2
      have HO2 := Lib.hid (row_below HO.out hb2)
      clear hL2 hN2 hb2 KE
      go_wp2_with (at_builtin; refine wpList_append_own _ rfl _ _ 29 rfl w.heap.size 83 ei (.agg #[.slice none 0 0, .slice none 0 0, .bool false, .string ByteArray.empty]) 4 72 Try.underlying29 hi hz0 hz1 hz2 rfl (by decide) _ _ _ rfl (World.ownsRow.alloc HO2.out (.cells #[.slice a3 L.length c3, .slice a4 N.length c4, .bool m, .string t] 83)) ⟨w2.heap.size, 0, none⟩ 1 1 [.slice a3 L.length c3, .slice a4 N.length c4, .bool m, .string t] rfl rfl ent_news ent_one (by unfold maxLen; omega) (by omega) (by simp; omega) ?_)
      intro v' w5 hown' hgrow hnn
      have hbA := (Below.refl w2.heap.size w2).alloc (Nat.le_refl _) (.cells #[.slice a3 L.length c3, .slice a4 N.length c4, .bool m, .string t] 83)
      have hbW := HB2.out.trans (hbA.mono HB2.out.size)
      have HR := Lib.hid (show CpRel E w v' (.int .i64 ((k : Int) + 1)) w5 from ⟨k + 1, by omega, by go_num, by
        rw [HTK.out]
        exact EGr.push (S := E.take k) (by rw [HLE.out]; exact HO.out) HEE.out hbW (Tgn.lnb_wide (LnB.below HL2.out hbA) (Nat.le_refl _) hbA.size) (Enn.ob_wide (Obl.OB.below HN2.out hbA) (Nat.le_refl _) hbA.size) (by rw [HLE.out]; exact hown') hgrow,
        own_gone (World.ownsRow.alloc HO2.out _) (HB.out.trans (hbW.mono HB.out.size)) (Nat.le_trans HB.out.size hbW.size) hgrow⟩)
      obtain ⟨va', vc', hv'⟩ := row_form hown'
      subst hv'
      clear hown' hgrow hnn hbA hbW
      go_wp2_with fail
      go_roundw
      case rel => exact HR.out
      case measure => simp [intOf]; omega
    · obtain rfl : k = E.length := by omega
      rw [List.take_length] at heg
      have HG := Lib.hid heg
      clear heg ho he
      go_wp2_with fail
      go_ret
      exact ⟨_, rfl, HG.out, hb⟩
end Kcp
end Go.Proofs.Ytopplljilmjjgaa

/- The three rows that a build with what is kept grows (what targets came to, what is kept, which steps were run), over this seat's translation: each append leaves the other two as they were. No condition. -/
namespace Go.Proofs.Ytopplljilmjjgaa
open Go.RowKit Go.Sort
namespace Kb
open Md Egr Kcp Drm Dtg
theorem mown_below {w w' : World} {B : Nat} {v : Value} {D : List Mde} (h : MOwn w B v D) (hb : Below w.heap.size w w') : MOwn w' B v D := row_below h hb
theorem EGr.base {w : World} {B B1 B' : Nat} {v : Value} {S : List Ent} (h : EGr w B B1 v S) (h1 : B' ≤ B) (h2 : B' ≤ B1) : EGr w B' B' v S := by
  obtain ⟨cs, ⟨hl, hh⟩, m, hm, he⟩ := h
  refine ⟨cs, ⟨hl, ?_⟩, m, ⟨by omega, hm.2⟩, he⟩
  rcases hh with hh | ⟨g, cap, cur, hv, hb, hr⟩
  · exact .inl hh
  · exact .inr ⟨g, cap, cur, hv, by omega, hr⟩
/-- The three rows. -/
def Rows (w wr : World) (v7 v8 v9 : Value) (s : St) : Prop := MOwn wr w.heap.size v7 s.1 ∧ EGr wr w.heap.size w.heap.size v8 s.2.1 ∧ IOwn wr w.heap.size v9 s.2.2 ∧ Below w.heap.size w wr
theorem Rows.below {w wr w2 : World} {v7 v8 v9 : Value} {s : St} (h : Rows w wr v7 v8 v9 s) (hb : Below wr.heap.size wr w2) : Rows w w2 v7 v8 v9 s :=
  ⟨mown_below h.1 hb, Egr.EGr.below h.2.1 hb, row_below h.2.2.1 hb, h.2.2.2.trans (hb.mono h.2.2.2.size)⟩
theorem Rows.out {w W w5 : World} {v7 v8 v9 v' : Value} {D : List Mde} {K : List Ent} {R : List Int} {m : Bool} {t : ByteArray} (h : Rows w W v7 v8 v9 (D, K, R)) (hown : w5.ownsRow w.heap.size 73 2 v' (D.length + 1) (mcs D ++ [.bool m, .string t])) (hg : W.grownBy w5 v7.ownBlock) : Rows w w5 v' v8 v9 (D ++ [(m, t)], K, R) :=
  ⟨mown_push hown, Egr.EGr.grown h.2.1 h.1 hg (by decide) (by decide) (by decide), grown_row h.1 hg h.2.2.1 (by decide), Kcp.own_gone h.1 h.2.2.2 h.2.2.2.size hg⟩
theorem Rows.ran {w W w5 : World} {v7 v8 v9 v' : Value} {D : List Mde} {K : List Ent} {R : List Int} {x : Int} (h : Rows w W v7 v8 v9 (D, K, R)) (hown : w5.ownsRow w.heap.size 3 1 v' (R.length + 1) (R.map (Value.int .i64) ++ [.int .i64 x])) (hg : W.grownBy w5 v9.ownBlock) : Rows w w5 v7 v8 v' (D, K, R ++ [x]) :=
  ⟨grown_row h.2.2.1 hg h.1 (by decide), Egr.EGr.grown h.2.1 h.2.2.1 hg (by decide) (by decide) (by decide), by
    show w5.ownsRow w.heap.size 3 1 v' (R ++ [x]).length ((R ++ [x]).map (Value.int .i64))
    rw [List.length_append, List.map_append]
    exact hown, Kcp.own_gone h.2.2.1 h.2.2.2 h.2.2.2.size hg⟩
theorem Rows.kept {w wr W w5 : World} {v7 v8 v9 v' : Value} {D : List Mde} {K : List Ent} {R : List Int} {cs : List Value} {m : Bool} {t : ByteArray} {L : List Ln} {N : List ByteArray} {a a' : Option Addr} {c c' : Nat} (h : Rows w wr v7 v8 v9 (D, K, R)) (ho : wr.ownsRow w.heap.size 83 4 v8 K.length cs) (he : EEi wr w.heap.size cs K) (hW : Below wr.heap.size wr W)
    (hL : LnB L wr.heap.size W.heap.size (.slice a L.length c) W) (hN : Obl.StB N wr.heap.size W.heap.size (.slice a' N.length c') W) (hown : w5.ownsRow w.heap.size 83 4 v' (K.length + 1) (cs ++ [.slice a L.length c, .slice a' N.length c', .bool m, .string t])) (hg : W.grownBy w5 v8.ownBlock) : Rows w w5 v7 v' v9 (D, K ++ [(m, t, L, N)], R) := by
  have h2 := h.below hW
  have hoW := row_below ho hW
  exact ⟨grown_row hoW hg h2.1 (by decide), EGr.push ho he hW hL hN hown hg, grown_row hoW hg h2.2.2.1 (by decide), Kcp.own_gone hoW h2.2.2.2 h2.2.2.2.size hg⟩
/-- What the loop keeps. -/
def KRel (S : List Tgt) (E : List Ent) (w : World) (v7 v8 v9 i : Value) (wr : World) : Prop :=
  ∃ (k : Nat) (s : St), k ≤ S.length ∧ i = .int .i64 (k : Int) ∧ keptB S E = kFrom k (S.drop k) s ∧ Inv k s ∧ Rows w wr v7 v8 v9 s
def KPost (s : St) (w : World) (e : Ending) (w' : World) : Prop :=
  ∃ v7 v8 v9, e = .returned (.tuple #[v7, v8, v9]) ∧ MdB s.1 w.heap.size w'.heap.size v7 w' ∧ En.EnB s.2.1 w.heap.size w'.heap.size v8 w' ∧ IB s.2.2 w.heap.size w'.heap.size v9 w' ∧ Below w.heap.size w w'
theorem Rows.post {w wr : World} {v7 v8 v9 : Value} {s : St} (h : Rows w wr v7 v8 v9 s) : MdB s.1 w.heap.size wr.heap.size v7 wr ∧ En.EnB s.2.1 w.heap.size wr.heap.size v8 wr ∧ IB s.2.2 w.heap.size wr.heap.size v9 wr ∧ Below w.heap.size w wr := ⟨h.1.mb, EGr.tb h.2.1 (Nat.le_refl _), IOwn.ib h.2.2.1, h.2.2.2⟩
end Kb
end Go.Proofs.Ytopplljilmjjgaa

/- The contract of the model's KeptBuild, over this seat's translation: it answers what keptB tells, in three rows of its own; nothing that was there before the call has changed. Condition: at most 1048576 targets, entries, lines, texts and bytes of each. -/
namespace Go.Proofs.Ytopplljilmjjgaa
open Go.RowKit Go.Sort
namespace Kb
open Tg Bl Bm Wl Md Kf Egr Kcp Drm Dtg En
theorem kb_cells {w : World} {g : Nat} {v0 v1 : Value} {T : TypeId} (h : w.heap[g]? = some (.cells #[v0, v1] T (0, 0))) : w.cell? ⟨g, 0, none⟩ = some v0 ∧ w.cell? ⟨g, 1, none⟩ = some v1 := by
  refine ⟨?_, ?_⟩
  · rw [cell_of_row w g 0 _ _ (0, 0) h]; rfl
  · rw [cell_of_row w g 1 _ _ (0, 0) h]; rfl
set_option maxRecDepth 100000 in
set_option maxHeartbeats 16000000 in
theorem specKeptBuild_any (v u : Value) (S : List Tgt) (E : List Ent) (w : World) (hl : S.length ≤ 1048576) (hq : ∀ q ∈ S, Par q) (hle : E.length ≤ 1048576) (hqe : ∀ q ∈ E, Pen q) (h : TgAt w w.heap.size v S) (h' : EnAt w w.heap.size u E) :
    Calls Try.prog 29 #[v, u] w (KPost (keptB S E) w) := by
  obtain ⟨mi, mhi, mz0, mz1, mz2⟩ := info_parts infoMade
  obtain ⟨ii, ihi, iz0, iz1, iz2⟩ := info_parts infoInt
  obtain ⟨ei, ehi, ez0, ez1, ez2⟩ := info_parts Enn.infoEntry
  obtain ⟨a, cap, rfl, hh⟩ := id h
  obtain ⟨ua, uc, rfl, hue⟩ := id h'
  clear hue
  have KW := Lib.hid fun V (g : Below w.heap.size w V) => specWorldOk_any (.slice a S.length cap) S V hl hq (h.stepAt g)
  have KO := Lib.hid fun V (g : Below w.heap.size w V) => specKeptOk_any (.slice ua E.length uc) E V hle hqe (h'.stepAt g)
  have KC := Lib.hid fun V (g : Below w.heap.size w V) => l11Copy_any (.slice ua E.length uc) E V hle (fun q hq => ⟨(hqe q hq).2.1, (hqe q hq).2.2.2.1⟩) (h'.stepAt g)
  have HH := Lib.hid hh
  have HQ := Lib.hid hq
  have HQE := Lib.hid hqe
  clear h h' hh hq hqe
  rcases hw : wOk S
  · have HE := Lib.hid (show keptB S E = ([], [], []) by unfold keptB; rw [hw]; rfl)
    rw [hw] at KW
    clear hw
    go_enter Try.func29, Try.ntmps29
    go_wp2_with fail
    refine (KW.out _ (Below.refl _ _)).mono ?_
    rintro e w1 ⟨rfl, hb⟩
    have HB := Lib.hid (show Below w.heap.size w (((w1.alloc (.cells #[] 73)).alloc (.cells #[] 83)).alloc (.cells #[] 3)) from ((hb.alloc hb.size _).alloc (Nat.le_trans hb.size (by simp)) _).alloc (Nat.le_trans hb.size (by simp; omega)) _)
    clear hb
    go_wp2_with fail
    refine bodyPost_ret (v := .tuple #[.slice (some ⟨w1.heap.size, 0, none⟩) 0 0, .slice (some ⟨w1.heap.size + 1, 0, none⟩) 0 0, .slice (some ⟨w1.heap.size + 1 + 1, 0, none⟩) 0 0]) (by simp [results, Try.results29, go_sem]) rfl ?_
    rw [HE.out]
    exact ⟨_, _, _, rfl, mdb_nil _ _ _ _ _, ⟨_, _, rfl, Nat.le_refl _, .inl rfl⟩, ⟨_, _, rfl, .inl rfl⟩, HB.out⟩
  rw [hw] at KW
  rcases hk : koL E
  · have HE := Lib.hid (show keptB S E = ([], [], []) by unfold keptB; rw [if_neg (by rw [hk]; simp)])
    rw [hk] at KO
    clear hw hk
    go_enter Try.func29, Try.ntmps29
    go_wp2_with fail
    refine (KW.out _ (Below.refl _ _)).mono ?_
    rintro e w1 ⟨rfl, hb⟩
    have HB1 := Lib.hid hb
    clear hb
    go_wp2_with fail
    refine (KO.out _ HB1.out).mono ?_
    rintro e w2 ⟨rfl, hb2⟩
    have hb := HB1.out.trans (hb2.mono HB1.out.size)
    have HB := Lib.hid (show Below w.heap.size w (((w2.alloc (.cells #[] 73)).alloc (.cells #[] 83)).alloc (.cells #[] 3)) from ((hb.alloc hb.size _).alloc (Nat.le_trans hb.size (by simp)) _).alloc (Nat.le_trans hb.size (by simp; omega)) _)
    clear hb hb2
    go_wp2_with fail
    refine bodyPost_ret (v := .tuple #[.slice (some ⟨w2.heap.size, 0, none⟩) 0 0, .slice (some ⟨w2.heap.size + 1, 0, none⟩) 0 0, .slice (some ⟨w2.heap.size + 1 + 1, 0, none⟩) 0 0]) (by simp [results, Try.results29, go_sem]) rfl ?_
    rw [HE.out]
    exact ⟨_, _, _, rfl, mdb_nil _ _ _ _ _, ⟨_, _, rfl, Nat.le_refl _, .inl rfl⟩, ⟨_, _, rfl, .inl rfl⟩, HB.out⟩
  rw [hk] at KO
  have HKB := Lib.hid (show keptB S E = kFrom 0 S ([], E, []) by unfold keptB; rw [if_pos ⟨hw, hk⟩])
  have HINV := Lib.hid (inv_start hk HQE.out)
  have HW := Lib.hid hw
  have hl12 := wOk_len hw
  clear hw hk
  go_enter Try.func29, Try.ntmps29
  go_wp2_with fail
  refine (KW.out _ (Below.refl _ _)).mono ?_
  rintro e w1 ⟨rfl, hb⟩
  have HB1 := Lib.hid hb
  clear hb
  go_wp2_with fail
  refine (KO.out _ HB1.out).mono ?_
  rintro e w2 ⟨rfl, hb2⟩
  have hb := HB1.out.trans (hb2.mono HB1.out.size)
  have HB2 := Lib.hid hb
  have z2 := hb.size
  have HM := Lib.hid (show MOwn (w2.alloc (.cells #[] 73)) w.heap.size (.slice (some ⟨w2.heap.size, 0, none⟩) 0 0) [] from row_made hb.size)
  have HB3 := Lib.hid (hb.alloc hb.size (.cells #[] 73))
  clear hb hb2
  go_wp2_with fail
  refine (KC.out _ HB3.out).mono ?_
  rintro e w4 ⟨v8, rfl, heg, hb4⟩
  have HR0 := Lib.hid (show KRel S E w (.slice (some ⟨w2.heap.size, 0, none⟩) 0 0) v8 (.slice (some ⟨w4.heap.size, 0, none⟩) 0 0) (.int .i64 0) (w4.alloc (.cells #[] 3)) from by
    have b4 := HB3.out.trans (hb4.mono HB3.out.size)
    have ba := (Below.refl w4.heap.size w4).alloc (Nat.le_refl _) (.cells #[] 3)
    have zb := HB3.out.size
    exact ⟨0, ([], E, []), Nat.zero_le _, rfl, HKB.out, HINV.out, mown_below (mown_below HM.out hb4) ba, EGr.base (Egr.EGr.below heg ba) zb (by omega), row_made b4.size, b4.trans (ba.mono b4.size)⟩)
  clear heg hb4
  go_wp2_with fail
  go_loopw [7, 8, 9, 10] (fun v7 v8 v9 i wr => KRel S E w v7 v8 v9 i wr) (fun _ _ _ i _ => S.length - (intOf i).toNat)
  case atStart => exact HR0.out
  case round =>
    obtain ⟨k, ⟨D, K, R⟩, hk, rfl, hkb, hinv, hrows⟩ := hrel
    obtain ⟨va, vc, hv⟩ := row_form hrows.1
    have hDl : D.length = k := hinv.d
    rw [hDl] at hv
    subst hv
    have hm0 := hrows.1
    have o7 : wr.ownsRow w.heap.size 73 2 (.slice va k vc) k (mcs D) := by
      have : wr.ownsRow w.heap.size 73 2 (.slice va k vc) D.length (mcs D) := hm0
      rwa [hDl] at this
    obtain ⟨cs, ho8, he8⟩ := hrows.2.1
    obtain ⟨ka, kc, rfl⟩ := row_form ho8
    obtain ⟨ra, rc, rfl⟩ := row_form hrows.2.2.1
    have HROW := Lib.hid hrows
    have HO7 := Lib.hid o7
    have HINV1 := Lib.hid hinv
    have HKBF := Lib.hid hkb
    have HDL := Lib.hid hDl
    have zb := hrows.2.2.2.size
    have hkl : K.length ≤ 60 := hinv.kl
    have hrl : R.length ≤ k := hinv.rl
    have hbw := hrows.2.2.2
    have HMB := Lib.hid (MOwn.mb hm0)
    clear hkb hinv hrows o7 hm0 hDl ho8 he8
    by_cases hlt : k < S.length
    · have j0 : (0 : Int) ≤ (k : Int) := by omega
      have j1 : (k : Int) < (S.length : Int) := by omega
      rcases HH.out with hx | ⟨b, o, rfl, hB, hc⟩
      · subst hx
        exact absurd hlt (by simp)
      obtain ⟨m, t, L, N, hxy⟩ : ∃ m t L N, S[k] = (m, t, L, N) := ⟨_, _, _, _, rfl⟩
      have cc := hc k hlt
      rw [hxy] at cc
      obtain ⟨⟨d0, d1⟩, a1, c1, a2, c2, d2, d3, hs0, hi0⟩ := cc
      simp only at d0 d1 d2 d3 hs0 hi0
      have e0 := (hbw.cell (p := ⟨b, o + k * 4, none⟩) hB).trans d0
      have e1 := (hbw.cell (p := ⟨b, o + k * 4 + 1, none⟩) hB).trans d1
      have e2 := (hbw.cell (p := ⟨b, o + k * 4 + 2, none⟩) hB).trans d2
      have e3 := (hbw.cell (p := ⟨b, o + k * 4 + 3, none⟩) hB).trans d3
      have hs := hs0.below hbw
      have hi' := hi0.below hbw
      have CW := Lib.hid fun V (g : Below w.heap.size w V) => (g.cell (p := ⟨b, o + k * 4 + 2, none⟩) hB).trans d2
      have HS0 := Lib.hid hs0
      clear d0 d1 d2 d3 hs0 hi0
      have HX := Lib.hid (show S[k]? = some (m, t, L, N) by rw [List.getElem?_eq_getElem hlt, hxy])
      have hp := HQ.out _ (List.mem_of_getElem? HX.out)
      have hin := ins_in HW.out HX.out
      have HTOK := Lib.hid ((wOk_iff.1 HW.out).2 k _ HX.out)
      clear hc hxy
      have HS := Lib.hid (hs.mono zb)
      have HI := Lib.hid (hi'.mono zb)
      have HKN := Lib.hid (HKBF.out.trans (kFrom_at HX.out))
      have HIN2 := Lib.hid (inv_step HINV1.out HTOK.out hin.2 hp.2.2.1)
      have HP := Lib.hid hp
      have hN12 := hin.2
      have HIN := Lib.hid hin.1
      have hbl : b < wr.heap.size := by omega
      have HBW := Lib.hid hbw
      clear hs hi' hp hin hbw
      rcases m
      · have HON := Lib.hid (step_src (k := k) (t := t) (L := L) (N := N) (D := D) (K := K) (R := R))
        go_wp2_with (at_builtin; refine wpList_append_own _ rfl _ _ 42 rfl w.heap.size 73 mi (.agg #[.bool false, .string ByteArray.empty]) 2 24 Try.underlying42 mhi mz0 mz1 mz2 rfl (by decide) _ _ _ rfl (World.ownsRow.alloc HO7.out (.cells #[.bool true, .string t] 73)) ⟨wr.heap.size, 0, none⟩ 1 1 [.bool true, .string t] rfl rfl Md.two_news (Bm.two_one rfl rfl) (by unfold maxLen; omega) (by omega) (by simp; omega) ?_)
        intro v' w5 hown' hgrow hnn
        have HR := Lib.hid (show KRel S E w v' (.slice ka K.length kc) (.slice ra R.length rc) (.int .i64 ((k : Int) + 1)) w5 from ⟨k + 1, (D ++ [(true, t)], K, R), by omega, by go_num, by rw [← HON.out]; exact HKN.out, by rw [← HON.out]; exact HIN2.out, (HROW.out.below ((Below.refl _ _).alloc (Nat.le_refl _) _)).out (by rw [HDL.out]; exact hown') hgrow⟩)
        obtain ⟨va', vc', hv'⟩ := row_form hown'
        subst hv'
        clear hown' hgrow hnn
        go_wp2_with fail
        go_roundw
        case rel => exact HR.out
        case measure => simp [intOf]; omega
      have KI := Lib.hid (l10Ins_any true t (.slice va k vc) (.slice a2 N.length c2) (.slice a1 L.length c1) L.length a1 c1 rfl D N wr (by have := HDL.out; omega) (fun q hq => Nat.le_trans (HINV1.out.ds q hq) (by decide)) (by omega) (by have := HDL.out; rw [this]; exact HIN.out) (by have := HMB.out.at; exact this) HI.out)
      rcases hall : allMade D N
      · have HAll := Lib.hid hall
        have HON := Lib.hid (step_no (k := k) (t := t) (L := L) (N := N) (D := D) (K := K) (R := R) hall)
        clear hall
        go_wp2_with fail
        refine KI.out.mono ?_
        rintro e w3 ⟨⟨ta, tc, rfl, hta⟩, hb3⟩
        rw [HAll.out]
        have HROW3 := Lib.hid (HROW.out.below hb3)
        have HO3 := Lib.hid (row_below HO7.out hb3)
        have z3 := hb3.size
        clear hta hb3
        go_wp2_with (at_builtin; refine wpList_append_own _ rfl _ _ 42 rfl w.heap.size 73 mi (.agg #[.bool false, .string ByteArray.empty]) 2 24 Try.underlying42 mhi mz0 mz1 mz2 rfl (by decide) _ _ _ rfl (World.ownsRow.alloc HO3.out (.cells #[.bool false, .string ⟨#[]⟩] 73)) ⟨w3.heap.size, 0, none⟩ 1 1 [.bool false, .string ⟨#[]⟩] rfl rfl Md.two_news (Bm.two_one rfl rfl) (by unfold maxLen; omega) (by omega) (by simp; omega) ?_)
        intro v' w5 hown' hgrow hnn
        have HR := Lib.hid (show KRel S E w v' (.slice ka K.length kc) (.slice ra R.length rc) (.int .i64 ((k : Int) + 1)) w5 from ⟨k + 1, (D ++ [(false, ⟨#[]⟩)], K, R), by omega, by go_num, by rw [← HON.out]; exact HKN.out, by rw [← HON.out]; exact HIN2.out, (HROW3.out.below ((Below.refl _ _).alloc (Nat.le_refl _) _)).out (by rw [HDL.out]; exact hown') hgrow⟩)
        obtain ⟨va', vc', hv'⟩ := row_form hown'
        subst hv'
        clear hown' hgrow hnn
        go_wp2_with fail
        go_roundw
        case rel => exact HR.out
        case measure => simp [intOf]; omega
      have HAll := Lib.hid hall
      have C2 := Lib.hid fun V (g : Below wr.heap.size wr V) => (g.cell (p := ⟨b, o + k * 4 + 2, none⟩) hbl).trans e2
      clear hall
      go_wp2_with fail
      refine KI.out.mono ?_
      rintro e w3 ⟨⟨ta, tc, rfl, hta⟩, hb3⟩
      clear e0 e1 e3
      obtain ⟨hT, BX, hBX, hOX⟩ := hta HAll.out
      have HOX := Lib.hid hOX
      clear hOX
      rw [HAll.out, if_pos rfl]
      have HB3 := Lib.hid hb3
      have HROW3 := Lib.hid (HROW.out.below hb3)
      have HO3 := Lib.hid (row_below HO7.out hb3)
      have z3 := hb3.size
      have HT3 := Lib.hid hT
      have f2 := C2.out w3 hb3
      have HTL := Lib.hid (texts_len D N)
      obtain ⟨X, hX⟩ : ∃ X, textsOf D N = X := ⟨_, rfl⟩
      have HXS := Lib.hid (show ∀ q ∈ X, q.size ≤ 40 by rw [← hX]; exact textsOf_small HINV1.out.ds N)
      have HXE := Lib.hid hX
      rw [hX] at HT3 HTL HOX
      have KF := Lib.hid fun V (g : Below w3.heap.size w3 V) (g' : EnAt V V.heap.size (.slice ka K.length kc) K) => specFind_any (.slice ka K.length kc) (.slice a1 L.length c1) (.slice ta N.length tc) K L X V (by omega) (fun q hq => ⟨(HINV1.out.ks q hq).pen.2.1, (HINV1.out.ks q hq).pen.2.2.2.1⟩) HP.out.2.1 (by rw [HTL.out]; omega) g' (HS.out.stepAt (HB3.out.trans (g.mono z3))) (by have := HT3.out.stepAt g; exact this)
      have HEA := Lib.hid (show EnAt w3 w3.heap.size (.slice ka K.length kc) K from (EGr.tb HROW3.out.2.1 (Nat.le_refl _)).at)
      clear hta hb3 hT hX e2
      go_wp2_with fail
      refine (KF.out w3 (Below.refl _ _) HEA.out).mono ?_
      rintro e w4 ⟨rfl, hb4⟩
      have HROW4 := Lib.hid (HROW3.out.below hb4)
      have HO4 := Lib.hid (row_below HO3.out hb4)
      have HB4 := Lib.hid hb4
      have z4 := hb4.size
      have HEA4 := Lib.hid (HEA.out.stepAt hb4)
      have hfb := find_bound K L X
      have f4 := C2.out w4 (HB3.out.trans (hb4.mono z3))
      obtain ⟨z, hz⟩ : ∃ z, findL K L X = z := ⟨_, rfl⟩
      rw [hz] at hfb ⊢
      have HZ := Lib.hid hz
      clear hb4 hz f2 KF HEA
      by_cases hzp : 0 ≤ z
      · obtain ⟨j, rfl⟩ := Int.eq_ofNat_of_zero_le hzp
        have hj : j < K.length := by omega
        have j2 : (j : Int) < (K.length : Int) := by omega
        obtain ⟨mm, mt, mL, mN, hxy⟩ : ∃ m t L N, K[j] = (m, t, L, N) := ⟨_, _, _, _, rfl⟩
        have HMA := Lib.hid (show mAt K (j : Int) = (mm, mt) by unfold mAt; rw [Int.toNat_natCast, List.getElem?_eq_getElem hj, hxy])
        have HON := Lib.hid (step_hit (k := k) (t := t) (L := L) (N := N) (D := D) (K := K) (R := R) HAll.out (by rw [HXE.out, HZ.out]; exact hzp))
        rw [HXE.out, HZ.out, HMA.out] at HON
        obtain ⟨a9, c9, e9, _, hh9⟩ := HEA4.out
        simp only [Value.slice.injEq] at e9
        obtain ⟨rfl, _, rfl⟩ := e9
        rcases hh9 with hx | ⟨b9, o9, rfl, hB9, hc9⟩
        · rw [hx] at hj
          simp at hj
        have c9 := hc9 j hj
        rw [hxy] at c9
        obtain ⟨⟨g2, g3⟩, c9⟩ := c9
        simp only at g2 g3
        clear c9 hc9 hxy HIN
        go_wp2_with (at_builtin; refine wpList_append_own _ rfl _ _ 42 rfl w.heap.size 73 mi (.agg #[.bool false, .string ByteArray.empty]) 2 24 Try.underlying42 mhi mz0 mz1 mz2 rfl (by decide) _ _ _ rfl (World.ownsRow.alloc HO4.out (.cells #[.bool mm, .string mt] 73)) ⟨w4.heap.size, 0, none⟩ 1 1 [.bool mm, .string mt] rfl rfl Md.two_news (Bm.two_one rfl rfl) (by unfold maxLen; omega) (by omega) (by simp; omega) ?_)
        intro v' w5 hown' hgrow hnn
        have HR := Lib.hid (show KRel S E w v' (.slice (some ⟨b9, o9, none⟩) K.length kc) (.slice ra R.length rc) (.int .i64 ((k : Int) + 1)) w5 from ⟨k + 1, (D ++ [(mm, mt)], K, R), by omega, by go_num, by rw [← HON.out]; exact HKN.out, by rw [← HON.out]; exact HIN2.out, (HROW4.out.below ((Below.refl _ _).alloc (Nat.le_refl _) _)).out (by rw [HDL.out]; exact hown') hgrow⟩)
        obtain ⟨va', vc', hv'⟩ := row_form hown'
        subst hv'
        clear hown' hgrow hnn
        go_wp2_with fail
        go_roundw
        case rel => exact HR.out
        case measure => simp [intOf]; omega
      · obtain ⟨m1, m2, hmm⟩ : ∃ m1 m2, runMade L X = (m1, m2) := ⟨_, _, rfl⟩
        have HON := Lib.hid (step_run (k := k) (t := t) (L := L) (N := N) (D := D) (K := K) (R := R) HAll.out (by rw [HXE.out, HZ.out]; exact hzp))
        rw [HXE.out, hmm] at HON
        have KM := Lib.hid (l11Run_any (.slice a1 L.length c1) (.slice ta N.length tc) L X w4 HP.out.2.1 HP.out.2.2.1 (by rw [HTL.out]; omega) (fun q hq => Nat.le_trans (HXS.out q hq) (by decide)) (HS.out.stepAt (HB3.out.trans (HB4.out.mono z3))) (HT3.out.stepAt HB4.out))
        rw [hmm] at KM
        have HIL := Lib.hid (show L.length ≤ 1048576 from HP.out.2.1)
        have HXL := Lib.hid (show X.length ≤ 1048576 by rw [HTL.out]; omega)
        clear hmm
        go_wp2_with fail
        refine KM.out.mono ?_
        rintro e w5 ⟨rfl, hb5⟩
        have HB35 := Lib.hid (HB4.out.trans (hb5.mono z4))
        have HO5 := Lib.hid (row_below HO4.out hb5)
        have hba := (Below.refl w5.heap.size w5).alloc (Nat.le_refl _) (.cells #[.bool m1, .string m2] 73)
        have hbx := heap_alloc_new w5 (.cells #[.bool m1, .string m2] 73)
        have HROW6 := Lib.hid (HROW4.out.below (hb5.trans (hba.mono hb5.size)))
        have HO6 := Lib.hid (row_below HO5.out hba)
        have hlt7 := fun q (e : (Value.slice va k vc).ownBlock = some q) => (World.ownsRow.lt HO5.out q e).2
        have HLT7 := Lib.hid hlt7
        have z5 := hb5.size
        obtain ⟨V6, hV6⟩ : ∃ V, w5.alloc (.cells #[.bool m1, .string m2] 73) = V := ⟨_, rfl⟩
        rw [hV6] at hba hbx HROW6 HO6
        have HB36 := Lib.hid (HB35.out.trans (hba.mono HB35.out.size))
        have HBX6 := Lib.hid hbx
        have z6 := hba.size
        have zx6 : w5.heap.size < V6.heap.size := (Array.getElem?_eq_some_iff.1 hbx).1
        clear hb5 hba hbx hlt7 HB4 f4
        go_upto_region 18 with fail
        clear hV6
        have HOX6 := Lib.hid (show V6.ownsRow BX 9 1 (.slice ta N.length tc) X.length (X.map Value.string) from row_below HOX.out HB36.out)
        have HOR := Lib.hid (show V6.ownsRow w.heap.size 3 1 (.slice ra R.length rc) R.length (R.map (Value.int .i64)) from HROW6.out.2.2.1)
        go_wp2_with (at_builtin; refine wpList_append_own _ rfl _ _ 43 rfl w.heap.size 3 ii (.int .i64 0) 1 8 Try.underlying43 ihi iz0 iz1 iz2 rfl (by decide) _ _ _ rfl (World.ownsRow.alloc HOR.out (.cells #[.int .i64 (k : Int)] 3)) ⟨V6.heap.size, 0, none⟩ 1 1 [.int .i64 (k : Int)] rfl rfl (one_new V6 (k : Int)) (one_one _) (by unfold maxLen; omega) (by omega) (by simp; omega) ?_)
        intro vr w7 hown7 hgrow7 hnn7
        have hbi := (Below.refl V6.heap.size V6).alloc (Nat.le_refl _) (.cells #[.int .i64 (k : Int)] 3)
        have HROW7 := Lib.hid ((HROW6.out.below hbi).ran hown7 hgrow7)
        have HO7' := Lib.hid (grown_row (World.ownsRow.alloc HOR.out (.cells #[.int .i64 (k : Int)] 3)) hgrow7 (row_below HO6.out hbi) (by decide))
        have HOX7 := Lib.hid (grown_row (World.ownsRow.alloc HOR.out (.cells #[.int .i64 (k : Int)] 3)) hgrow7 (row_below HOX6.out hbi) (by decide))
        have hbx7 : w7.heap[w5.heap.size]? = some (.cells #[.bool m1, .string m2] 73) := by
          have h1 := (hbi.block w5.heap.size zx6).trans HBX6.out
          exact (grown_far (World.ownsRow.alloc HOR.out (.cells #[.int .i64 (k : Int)] 3)) hgrow7 w5.heap.size _ _ (by simp; omega) h1 (by decide)).trans h1
        have HBX7 := Lib.hid hbx7
        obtain ⟨bx0, bx1⟩ := kb_cells hbx7
        have B7 := Lib.hid (show Below w.heap.size w w7 from HROW7.out.2.2.2)
        have z7 : V6.heap.size ≤ w7.heap.size := by have := hgrow7.size; simp at this; omega
        obtain ⟨rb, rd, hvr⟩ := row_form hown7
        subst hvr
        clear hown7 hgrow7 hnn7 hbi hbx7 HROW6 HOR HBX6
        go_wp2_with (at_builtin; refine wpList_append_own _ rfl _ _ 42 rfl w.heap.size 73 mi (.agg #[.bool false, .string ByteArray.empty]) 2 24 Try.underlying42 mhi mz0 mz1 mz2 rfl (by decide) _ _ _ rfl (World.ownsRow.alloc HO7'.out (.cells #[.bool m1, .string m2] 73)) ⟨w7.heap.size, 0, none⟩ 1 1 [.bool m1, .string m2] rfl rfl Md.two_news (Bm.two_one rfl rfl) (by unfold maxLen; omega) (by omega) (by simp; omega) ?_)
        intro vo w8 hown8 hgrow8 hnn8
        have hbo := (Below.refl w7.heap.size w7).alloc (Nat.le_refl _) (.cells #[.bool m1, .string m2] 73)
        have HROW8 := Lib.hid ((HROW7.out.below hbo).out (by rw [HDL.out]; exact hown8) hgrow8)
        have hbx8 : w8.heap[w5.heap.size]? = some (.cells #[.bool m1, .string m2] 73) :=
          (hgrow8.block w5.heap.size (by simp; omega) (fun e => by have := HLT7.out _ e.symm; omega)).trans ((hbo.block w5.heap.size (by omega)).trans HBX7.out)
        have HBX8 := Lib.hid hbx8
        have HTA8 := Lib.hid (show Obl.StAt w8 w8.heap.size (.slice ta N.length tc) X from SOwn.at (B := BX) (grown_row (World.ownsRow.alloc HO7'.out (.cells #[.bool m1, .string m2] 73)) hgrow8 (row_below HOX7.out hbo) (by decide)))
        obtain ⟨by0, by1⟩ := kb_cells hbx8
        have z8 : w7.heap.size ≤ w8.heap.size := by have := hgrow8.size; simp at this; omega
        have hb8 : Below w.heap.size w w8 := HROW8.out.2.2.2
        have HB8 := Lib.hid hb8
        obtain ⟨oa, oc, hvo⟩ := row_form hown8
        subst hvo
        clear hown8 hgrow8 hnn8 hbo hbx8 bx0 bx1 HROW7 HO7' HBX7
        by_cases h60 : K.length < 60
        rotate_left
        · have h60' : ¬ (K.length : Int) < 60 := by omega
          have HR := Lib.hid (show KRel S E w (.slice oa (k + 1) oc) (.slice ka K.length kc) (.slice rb (R.length + 1) rd) (.int .i64 ((k : Int) + 1)) w8 from ⟨k + 1, (D ++ [(m1, m2)], K, R ++ [(k : Int)]), by omega, by go_num, by rw [if_neg h60] at HON; rw [← HON.out]; exact HKN.out, by rw [if_neg h60] at HON; rw [← HON.out]; exact HIN2.out, HROW8.out⟩)
          clear hb8 by0 by1
          go_wp2_with fail
          go_roundw
          case rel => exact HR.out
          case measure => simp [intOf]; omega
        · have h60' : (K.length : Int) < 60 := by omega
          obtain ⟨cs8, ho8, he8⟩ := HROW8.out.2.1
          have HO8 := Lib.hid (show w8.ownsRow w.heap.size 83 4 (.slice ka K.length kc) K.length cs8 from ho8)
          have HE8 := Lib.hid he8
          clear ho8 he8
          have f8 := CW.out w8 hb8
          have KE := Lib.hid fun V (g : Below w8.heap.size w8 V) => l11Entry_any m1 m2 (.slice a1 L.length c1) (.slice ta N.length tc) L X V HIL.out HXL.out (HS0.out.stepAt (hb8.trans (g.mono hb8.size))) (HTA8.out.stepAt g)
          have CX8 := Lib.hid fun V (g : Below w8.heap.size w8 V) => kb_cells ((g.block _ (Array.getElem?_eq_some_iff.1 HBX8.out).1).trans HBX8.out)
          have zx8 : w5.heap.size < w8.heap.size := (Array.getElem?_eq_some_iff.1 HBX8.out).1
          have n1 : b ≠ w5.heap.size := by omega
          have hkl2 : K.length + 1 ≤ maxLen := by unfold maxLen; omega
          have HON8 := Lib.hid (show kStep k (true, t, L, N) (D, K, R) = (D ++ [(m1, m2)], K ++ [(m1, m2, L, X)], R ++ [(k : Int)]) by rw [HON.out, if_pos h60])
          have zb8 := hb8.size
          clear hb8
          go_upto_region 21 with fail
          go_region_held3 (fun V => V.cell? ⟨b, o + k * 4 + 2, none⟩ = some (.slice a1 L.length c1) ∧ V.cell? ⟨w5.heap.size, 0, none⟩ = some (.bool m1) ∧ V.cell? ⟨w5.heap.size, 1, none⟩ = some (.string m2)) (go_keep)
            (first
              | (go_at_call 86; refine (KE.out _ (by go_grown)).mono ?_; rintro e w9 ⟨a5, c5, a6, c6, rfl, hL9, hN9, hb9⟩; have n9 : Below w8.heap.size w8 w9 := Below.step (by go_grown) hb9; have f9 := CW.out w9 (HB8.out.trans (n9.mono zb8)); obtain ⟨v0, v1⟩ := CX8.out w9 n9; have HL9 := Lib.hid hL9; have HN9 := Lib.hid hN9; have N9 := Lib.hid n9; have HO9 := Lib.hid (row_below HO8.out n9); have z9 := n9.size; clear hL9 hN9 hb9 n9)
              | (refine step_append_lies _ rfl (.tmp 102) (.tmp 112) 29 rfl w.heap.size 83 ei (.agg #[.slice none 0 0, .slice none 0 0, .bool false, .string ByteArray.empty]) 4 72 Try.underlying29 ehi ez0 ez1 ez2 rfl (by decide) (.slice ka K.length kc) K.length cs8 (by rfl) (by first | exact World.ownsRow.alloc HO9.out _ | exact (World.ownsRow.alloc HO9.out (.cells #[.slice a5 L.length c5, .slice a6 X.length c6, .bool m1, .string m2] 83) : _)) ⟨w9.heap.size, 0, none⟩ 1 1 [.slice a5 L.length c5, .slice a6 X.length c6, .bool m1, .string m2] (by rfl) (by rfl) (by first | exact ent_news | exact fun j r hu => ent_news j r hu) ent_one (by omega) hkl2 (by omega) (by simp; omega) _ rfl ?_; intro g cp w10 hown10 hgrow10 _ _; have hg10 : (w9.alloc (.cells #[.slice a5 L.length c5, .slice a6 X.length c6, .bool m1, .string m2] 83)).grownBy w10 (Value.slice ka K.length kc).ownBlock := (by first | exact hgrow10 | exact ⟨hgrow10.os, hgrow10.tape, hgrow10.output, hgrow10.size, hgrow10.block⟩); have hbA := (Below.refl w9.heap.size w9).alloc (Nat.le_refl _) (.cells #[.slice a5 L.length c5, .slice a6 X.length c6, .bool m1, .string m2] 83); have hr10 := HROW8.out.kept HO8.out HE8.out (N9.out.trans (hbA.mono N9.out.size)) (Tgn.lnb_wide (LnB.below (show LnB L w8.heap.size w9.heap.size (.slice a5 L.length c5) w9 from HL9.out) hbA) (Nat.le_refl _) hbA.size) (Enn.ob_wide (Obl.OB.below (show Obl.StB X w8.heap.size w9.heap.size (.slice a6 X.length c6) w9 from HN9.out) hbA) (Nat.le_refl _) hbA.size) hown10 hg10; have h1 := (hbA.block w5.heap.size (by omega)).trans ((N9.out.block w5.heap.size zx8).trans HBX8.out); obtain ⟨u0', u1'⟩ := kb_cells ((grown_far (World.ownsRow.alloc HO9.out (.cells #[.slice a5 L.length c5, .slice a6 X.length c6, .bool m1, .string m2] 83)) hg10 w5.heap.size _ _ (by simp; omega) h1 (by decide)).trans h1); have f10 := CW.out w10 hr10.2.2.2; have HR := Lib.hid (show KRel S E w (.slice oa (k + 1) oc) (.slice (some ⟨g, 0, none⟩) (K.length + 1) cp) (.slice rb (R.length + 1) rd) (.int .i64 ((k : Int) + 1)) w10 from ⟨k + 1, (D ++ [(m1, m2)], K ++ [(m1, m2, L, X)], R ++ [(k : Int)]), by omega, by go_num, by rw [← HON8.out]; exact HKN.out, by rw [← HON8.out]; exact HIN2.out, hr10⟩); clear h1 hr10 hbA hg10 hown10 hgrow10)
              | fail)
          all_goals
            go_wp2_with fail
            go_roundw
            case rel => exact HR.out
            case measure => simp [intOf]; omega
    · obtain rfl : k = S.length := by omega
      have HF := Lib.hid (show keptB S E = (D, K, R) by rw [HKBF.out, List.drop_length]; rfl)
      have HPO := Lib.hid HROW.out.post
      go_wp2_with fail
      refine bodyPost_ret (v := .tuple #[.slice va S.length vc, .slice ka K.length kc, .slice ra R.length rc]) (by simp [results, Try.results29, go_sem]) rfl ?_
      rw [HF.out]
      exact ⟨_, _, _, rfl, HPO.out⟩
end Kb
end Go.Proofs.Ytopplljilmjjgaa
