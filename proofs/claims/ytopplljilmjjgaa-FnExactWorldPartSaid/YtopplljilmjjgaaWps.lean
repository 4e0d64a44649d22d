/- The contract of the model's WorldPart, over this seat's translation: it answers what partL tells, in a row of its own; nothing that was there before the call has changed. Condition: at most 1048576 targets, lines, numbers and bytes of each. -/
import Derived.Test.YtopplljilmjjgaaWpq
import Derived.Test.YtopplljilmjjgaaWns
import Derived.Deep.RegionLaw
namespace Go.Proofs.Ytopplljilmjjgaa
open Go.RowKit Go.Sort

namespace Wp
open Tg Wl Pot Wn Wpg Wpp Drm Dtg
/-- A block that is a row of numbers, known whole. -/
def Pg (w : World) (g : Nat) (c : List Int) : Prop := w.heap[g]? = some (.cells (c.map (Value.int .i64)).toArray 3 (0, 0))
theorem Pg.lt {w : World} {g : Nat} {c : List Int} (h : Pg w g c) : g < w.heap.size := (Array.getElem?_eq_some_iff.1 h).1
theorem Pg.kept {w w' : World} {g : Nat} {c : List Int} (h : Pg w g c) (hb : w'.heap[g]? = w.heap[g]?) : Pg w' g c := hb.trans h
theorem Pg.cell {w : World} {g i : Nat} {c : List Int} (h : Pg w g c) (hi : i < c.length) : w.cell? ⟨g, i, none⟩ = some (.int .i64 (c.getD i 0)) := by
  rw [cell_of_row w g i _ _ (0, 0) h, List.getElem?_toArray, List.getElem?_map, List.getElem?_eq_getElem hi, List.getD_eq_getElem?_getD, List.getElem?_eq_getElem hi]
  rfl
theorem Pg.frozen {w : World} {g i : Nat} {c : List Int} (h : Pg w g c) : w.frozen? ⟨g, i, none⟩ = false := by
  unfold Pg at h
  simp [World.frozen?, h]
theorem Pg.set {w : World} {g i : Nat} {c : List Int} (h : Pg w g c) (b : Int) : Pg (w.setCell ⟨g, i, none⟩ (.int .i64 b)) g (c.set i b) := by
  unfold Pg at h ⊢
  have e : (c.map (Value.int .i64)).toArray.setIfInBounds i (.int .i64 b) = ((c.set i b).map (Value.int .i64)).toArray := by
    rw [List.map_set, List.setIfInBounds_toArray]
  rw [← e]
  simp [World.setCell, Array.getElem?_modify, h]
theorem made_zeros (n : Nat) (V : World) : Pg (V.alloc (.cells (madeCells #[.int .i64 0] (n * 1)) 3)) V.heap.size (List.replicate n 0) := by
  have h := heap_alloc_new V (.cells (madeCells #[.int .i64 0] (n * 1)) 3)
  have e : madeCells #[.int .i64 0] (n * 1) = ((List.replicate n (0 : Int)).map (Value.int .i64)).toArray := by
    apply Array.ext
    · simp [size_madeCells]
    · intro i h1 h2
      simp [madeCells, Nat.mod_one]
  rw [e] at h
  rw [e]
  exact h
/-- What is kept of blocks that are no rows of targets. -/
def Kp (w w' : World) : Prop := ∀ k, k < w.heap.size → (∀ C T, w.heap[k]? = some (.cells C T (0, 0)) → T ≠ 79) → w'.heap[k]? = w.heap[k]?
/-- What the outer loop keeps. -/
def WsRel (S : List Tgt) (R : List Int) (P : List Tgt) (w w2 : World) (v i : Value) (wr : World) : Prop :=
  ∃ (j : Nat) (c : List Int), j ≤ R.length ∧ i = .int .i64 (j : Int) ∧ TGr wr w.heap.size (w2.heap.size + 1) v (P.take j) ∧ Pg wr w2.heap.size c ∧ c.length = S.length ∧ (∀ q, q < j → ∀ z, R[q]? = some z → c.getD z.toNat 0 = (q : Int)) ∧ Below w.heap.size w wr ∧ Kp w2 wr

theorem gone_made {w6 w7 : World} {n cp : Nat} {T : TypeId} (hg : (w6.alloc (.cells #[] T)).grownBy w7 (Value.slice (some ⟨w6.heap.size, 0, none⟩) n cp).ownBlock) : Below w6.heap.size w6 w7 :=
  ((Below.refl w6.heap.size w6).alloc (Nat.le_refl _) (.cells #[] T)).grown hg (by simp) (fun k hk => by
    have hk' : some w6.heap.size = some k := hk
    injection hk' with hk'
    omega)
theorem cells_four (w : World) (x y u v : Value) : ∀ V, Below (w.alloc (.cells #[x, y, u, v] 79)).heap.size (w.alloc (.cells #[x, y, u, v] 79)) V →
    V.cell? ⟨w.heap.size, 0, none⟩ = some x ∧ V.cell? ⟨w.heap.size, 1, none⟩ = some y ∧ V.cell? ⟨w.heap.size, 2, none⟩ = some u ∧ V.cell? ⟨w.heap.size, 3, none⟩ = some v := fun V q => by
  have hn := fun i r (hu : [x, y, u, v][i]? = some r) => (show (w.alloc (.cells #[x, y, u, v] 79)).cell? ⟨w.heap.size, i, none⟩ = some r from by
    have := four_news (w := w) (t := 79) i r hu
    rwa [show (⟨w.heap.size, 0, none⟩ : Addr).add i = ⟨w.heap.size, i, none⟩ from by unfold Addr.add; split <;> simp_all] at this)
  have hz : w.heap.size < (w.alloc (.cells #[x, y, u, v] 79)).heap.size := by simp
  exact ⟨(q.cell (p := ⟨w.heap.size, 0, none⟩) hz).trans (hn 0 _ rfl), (q.cell (p := ⟨w.heap.size, 1, none⟩) hz).trans (hn 1 _ rfl), (q.cell (p := ⟨w.heap.size, 2, none⟩) hz).trans (hn 2 _ rfl), (q.cell (p := ⟨w.heap.size, 3, none⟩) hz).trans (hn 3 _ rfl)⟩
theorem stored {w w2 wr : World} {B n : Nat} {va : Value} {cs : List Value} {P : List Tgt} {c : List Int} (ho : wr.ownsRow B 79 4 va n cs) (he : TEi wr (w2.heap.size + 1) cs P) (hp : Pg wr w2.heap.size c) (hb : Below w.heap.size w wr) (hk : Kp w2 wr) (hz : w.heap.size < w2.heap.size) (z : Nat) (j : Int) (o : Obj) :
    ((wr.setCell ⟨w2.heap.size, z, none⟩ (.int .i64 j)).alloc o).ownsRow B 79 4 va n cs ∧ TEi ((wr.setCell ⟨w2.heap.size, z, none⟩ (.int .i64 j)).alloc o) (w2.heap.size + 1) cs P ∧ Pg ((wr.setCell ⟨w2.heap.size, z, none⟩ (.int .i64 j)).alloc o) w2.heap.size (c.set z j) ∧ Below w.heap.size w ((wr.setCell ⟨w2.heap.size, z, none⟩ (.int .i64 j)).alloc o) ∧ Kp w2 ((wr.setCell ⟨w2.heap.size, z, none⟩ (.int .i64 j)).alloc o) ∧ Below w.heap.size wr ((wr.setCell ⟨w2.heap.size, z, none⟩ (.int .i64 j)).alloc o) ∧ ((wr.setCell ⟨w2.heap.size, z, none⟩ (.int .i64 j)).alloc o).heap.size = wr.heap.size + 1 := by
  have hs : (wr.setCell ⟨w2.heap.size, z, none⟩ (.int .i64 j)).heap.size = wr.heap.size := by simp [World.setCell]
  have far : ∀ k, k < wr.heap.size → k ≠ w2.heap.size → ((wr.setCell ⟨w2.heap.size, z, none⟩ (.int .i64 j)).alloc o).heap[k]? = wr.heap[k]? := fun k h1 h2 => (Below.heap_alloc _ _ _ (by rw [hs]; exact h1)).trans (Below.heap_setCell _ _ _ _ h2)
  have bw : Below w.heap.size wr ((wr.setCell ⟨w2.heap.size, z, none⟩ (.int .i64 j)).alloc o) := ((Below.refl w.heap.size wr).setCell (p := ⟨w2.heap.size, z, none⟩) (Nat.le_of_lt hz) _).alloc (by rw [hs]; exact hb.size) _
  have hgp := hp.lt
  refine ⟨row_keep ho fun k e => ?_, he.keep bw.size fun k k1 k2 _ => far k k2 (by omega), (hp.set j).kept (Below.heap_alloc _ _ _ (by rw [hs]; exact hgp)), hb.trans (bw.mono (Nat.le_refl _)), fun k h1 h2 => (far k (by omega) (by omega)).trans (hk k h1 h2), bw, by simp [World.setCell]⟩
  · refine far k ((World.ownsRow.lt ho) k e).2 fun e2 => ?_
    subst e2
    rcases ho.2 with ⟨rfl, _⟩ | ⟨g', cap, cur, rfl, _, hg, _⟩
    · cases e
    · have hk' : some g' = some w2.heap.size := e
      injection hk' with hk'
      subst hk'
      unfold Pg at hp
      rw [hp] at hg
      simp at hg

theorem copy_step {ops : Array Oper} {o : Oper} {a : Act} {K : Act → World → Prop} {Q : Exit → Act → World → Prop} {E : Prop} {w6 : World} {L : List Ln} {lb lo' c1 : Nat} (hgd : o.guard = none) (s x : Operand) (ho : o.op = .call { callee := .builtin .append, args := #[s, x], argTypes := #[31, 31] })
    (hs : a.eval s = .slice (some ⟨w6.heap.size, 0, none⟩) 0 0) (hx : a.eval x = .slice (some ⟨lb, lo', none⟩) L.length c1) (hat : LnAt w6 w6.heap.size (.slice (some ⟨lb, lo', none⟩) L.length c1) L) (hl : L.length ≤ 1048576) (hlen : 0 < L.length)
    (h : ∀ g cap w', LOwn w' w6.heap.size (.slice (some ⟨g, 0, none⟩) L.length cap) L → Below w6.heap.size w6 w' → K (a.put o.dst (.slice (some ⟨g, 0, none⟩) L.length cap)) w') :
    if Region.wanted o (yielded ops a.tmps) = true then Oper.wp Try.prog o a (w6.alloc (.cells #[] 99)) K Q else E := by
  obtain ⟨il, hil, hlz0, hlz1, hlz2⟩ := info_parts Lnt.infoLine
  refine step_append_lies _ hgd s x 31 ho w6.heap.size 99 il (.agg #[.int .i64 0, .int .i64 0, .int .i64 0, .string ByteArray.empty]) 4 40 Try.underlying31 hil hlz0 hlz1 hlz2 rfl (by decide) (.slice (some ⟨w6.heap.size, 0, none⟩) 0 0) 0 [] hs (row_made (Nat.le_refl _)) ⟨lb, lo', none⟩ L.length c1 (lcs L) hx (lcs_len L) (lcs_news (hat.below ((Below.refl _ _).alloc (Nat.le_refl _) _))) (lcs_one L) hlen (by unfold maxLen; omega) (by omega) (by simp) _ rfl ?_
  intro g cp w7 hown7 hgrow7 _ _
  have e : 0 + L.length = L.length := by omega
  rw [e] at hown7 ⊢
  exact h g cp w7 hown7 (gone_made hgrow7)

abbrev Ty0 : Obj := .cells #[.bool false, .string ByteArray.empty, .slice none 0 0, .slice none 0 0] 79
theorem copy_any {ops : Array Oper} {o : Oper} {a : Act} {K : Act → World → Prop} {Q : Exit → Act → World → Prop} {E : Prop} {w6 W : World} {L : List Ln} {lb lo' c1 g0 : Nat} (hgd : o.guard = none) (s x : Operand) (ho : o.op = .call { callee := .builtin .append, args := #[s, x], argTypes := #[31, 31] })
    (hs : a.eval s = .slice (some ⟨g0, 0, none⟩) 0 0) (hx : a.eval x = .slice (some ⟨lb, lo', none⟩) L.length c1) (hat : LnAt w6 w6.heap.size (.slice (some ⟨lb, lo', none⟩) L.length c1) L) (hl : L.length ≤ 1048576) (hlen : 0 < L.length)
    (hW : Below w6.heap.size w6 W) (hown : W.ownsRow w6.heap.size 99 4 (.slice (some ⟨g0, 0, none⟩) 0 0) 0 [])
    (h : ∀ g cap w', LOwn w' w6.heap.size (.slice (some ⟨g, 0, none⟩) L.length cap) L → Below w6.heap.size w6 w' → (∀ k, k < W.heap.size → k ≠ g0 → w'.heap[k]? = W.heap[k]?) → W.heap.size ≤ w'.heap.size → K (a.put o.dst (.slice (some ⟨g, 0, none⟩) L.length cap)) w') :
    if Region.wanted o (yielded ops a.tmps) = true then Oper.wp Try.prog o a W K Q else E := by
  obtain ⟨il, hil, hlz0, hlz1, hlz2⟩ := info_parts Lnt.infoLine
  have hg0 := ((World.ownsRow.lt hown) g0 rfl)
  refine step_append_lies _ hgd s x 31 ho w6.heap.size 99 il (.agg #[.int .i64 0, .int .i64 0, .int .i64 0, .string ByteArray.empty]) 4 40 Try.underlying31 hil hlz0 hlz1 hlz2 rfl (by decide) (.slice (some ⟨g0, 0, none⟩) 0 0) 0 [] hs hown ⟨lb, lo', none⟩ L.length c1 (lcs L) hx (lcs_len L) (lcs_news (hat.below hW)) (lcs_one L) hlen (by unfold maxLen; omega) (by omega) hW.size _ rfl ?_
  intro g cp w7 hown7 hgrow7 _ _
  have e : 0 + L.length = L.length := by omega
  rw [e] at hown7 ⊢
  refine h g cp w7 hown7 (hW.grown hgrow7 hW.size (fun k hk => ?_)) (fun k h1 h2 => hgrow7.block k h1 (fun e => ?_)) hgrow7.size
  · have hk' : some g0 = some k := hk
    injection hk' with hk'
    omega
  · have hk' : some k = some g0 := e
    injection hk' with hk'
    exact h2 hk'
theorem own_second {w6 : World} {o : Obj} : ((w6.alloc (.cells #[] 99)).alloc o).ownsRow w6.heap.size 99 4 (.slice (some ⟨w6.heap.size, 0, none⟩) 0 0) 0 [] := World.ownsRow.alloc (row_made (Nat.le_refl _)) o
theorem own_third {w6 : World} {o : Obj} : ((w6.alloc o).alloc (.cells #[] 99)).ownsRow w6.heap.size 99 4 (.slice (some ⟨w6.heap.size + 1, 0, none⟩) 0 0) 0 [] := by
  have := row_made (w := w6.alloc o) (B := w6.heap.size) (t := 99) (s := 4) (by simp)
  simpa using this
theorem own_drew {W : World} {B st n : Nat} {t : TypeId} {v : Value} {cs : List Value} (h : W.ownsRow B t st v n cs) : W.drew.ownsRow B t st v n cs := h
/-- The block of a target whose numbers are not yet known. -/
def YB (w : World) (g : Nat) (m : Bool) (t : ByteArray) (v u : Value) : Prop := w.heap[g]? = some (.cells #[.bool m, .string t, v, u] 79 (0, 0))
theorem yb_new (w : World) (m : Bool) (t : ByteArray) (v u : Value) : YB (w.alloc (.cells #[.bool m, .string t, v, u] 79)) w.heap.size m t v u := heap_alloc_new w _
theorem yb_set {w : World} {g : Nat} {x0 x1 x2 x3 : Value} (m : Bool) (t : ByteArray) (v u : Value) (h : w.heap[g]? = some (.cells #[x0, x1, x2, x3] 79 (0, 0))) :
    YB ((((w.setCell ⟨g, 0, none⟩ (.bool m)).setCell ⟨g, 1, none⟩ (.string t)).setCell ⟨g, 2, none⟩ v).setCell ⟨g, 3, none⟩ u) g m t v u := by
  unfold YB
  simp [World.setCell, Array.getElem?_modify, h]
theorem ty_second {w6 : World} {o y : Obj} : ((w6.alloc o).alloc y).drew.heap[w6.heap.size + 1]? = some y := by
  show ((w6.alloc o).alloc y).heap[w6.heap.size + 1]? = some y
  have := heap_alloc_new (w6.alloc o) y
  rwa [World.size_alloc] at this
theorem ty_third {w6 : World} {o y : Obj} : ((w6.alloc y).alloc o).drew.heap[w6.heap.size]? = some y := by
  show ((w6.alloc y).alloc o).heap[w6.heap.size]? = some y
  exact (Below.heap_alloc _ _ _ (by simp)).trans (heap_alloc_new w6 y)
theorem yb_a {w6 : World} {o : Obj} {m : Bool} {t : ByteArray} {v u : Value} : YB ((w6.alloc o).alloc (.cells #[.bool m, .string t, v, u] 79)) (w6.heap.size + 1) m t v u := by
  have := yb_new (w6.alloc o) m t v u
  simpa using this
theorem yb_b {w6 : World} {o : Obj} {m : Bool} {t : ByteArray} {v u : Value} : YB ((w6.alloc (.cells #[.bool m, .string t, v, u] 79)).alloc o) w6.heap.size m t v u := (Below.heap_alloc _ _ _ (by simp)).trans (yb_new w6 m t v u)
theorem yb_drew {w : World} {g : Nat} {m : Bool} {t : ByteArray} {v u : Value} (h : YB w g m t v u) : YB w.drew g m t v u := h
theorem yb_in {w : World} {o : Obj} {g : Nat} {m : Bool} {t : ByteArray} {v u : Value} (h : YB (w.alloc o) g m t v u) : YB (w.drew.alloc o) g m t v u := h
theorem lnb_four {w : World} {lo hi g : Nat} {v x0 x1 x2 x3 : Value} {L : List Ln} (u0 u1 u2 u3 : Value) (h : LnB L lo hi v w) (hy : w.heap[g]? = some (.cells #[x0, x1, x2, x3] 79 (0, 0))) :
    LnB L lo hi v ((((w.setCell ⟨g, 0, none⟩ u0).setCell ⟨g, 1, none⟩ u1).setCell ⟨g, 2, none⟩ u2).setCell ⟨g, 3, none⟩ u3) := by
  obtain ⟨a, cap, rfl, h⟩ := h
  refine ⟨a, cap, rfl, ?_⟩
  rcases h with h | ⟨b, n, rfl, hk, k1, k2⟩
  · exact .inl h
  · have hne : b ≠ g := fun e => by
      subst e
      obtain ⟨⟨C, hC, _⟩, _⟩ := hk
      rw [hC] at hy
      simp at hy
    exact .inr ⟨b, n, rfl, hk.kept ((Below.heap_setCell _ _ _ _ hne).trans ((Below.heap_setCell _ _ _ _ hne).trans ((Below.heap_setCell _ _ _ _ hne).trans (Below.heap_setCell _ _ _ _ hne)))), k1, k2⟩
theorem lnb_more {w w' : World} {lo : Nat} {v : Value} {L : List Ln} (h : LnB L lo w.heap.size v w) (hb : Below w.heap.size w w') : LnB L lo w'.heap.size v w' := Tgn.lnb_wide (LnB.below h hb) (Nat.le_refl _) hb.size
theorem four_size {w : World} {g : Nat} {u0 u1 u2 u3 : Value} : ((((w.setCell ⟨g, 0, none⟩ u0).setCell ⟨g, 1, none⟩ u1).setCell ⟨g, 2, none⟩ u2).setCell ⟨g, 3, none⟩ u3).heap.size = w.heap.size := by simp [World.setCell]
theorem num_any {ops : Array Oper} {o : Oper} {a : Act} {K : Act → World → Prop} {Q : Exit → Act → World → Prop} {E : Prop} {W : World} {B q gx : Nat} {ia : Option Addr} {ic : Nat} {M : List Int} {x : Int} (hgd : o.guard = none) (s xo : Operand) (ho : o.op = .call { callee := .builtin .append, args := #[s, xo], argTypes := #[43, 43] })
    (hs : a.eval s = .slice ia q ic) (hx : a.eval xo = .slice (some ⟨gx, 0, none⟩) 1 1) (hcell : W.cell? ⟨gx, 0, none⟩ = some (.int .i64 x)) (hown : IOwn W B (.slice ia q ic) M) (hM : M.length = q) (hq : q ≤ 1048576) (hB : B ≤ W.heap.size)
    (h : ∀ g cap w', IOwn w' B (.slice (some ⟨g, 0, none⟩) (q + 1) cap) (M ++ [x]) → W.grownBy w' (Value.slice ia q ic).ownBlock → K (a.put o.dst (.slice (some ⟨g, 0, none⟩) (q + 1) cap)) w') :
    if Region.wanted o (yielded ops a.tmps) = true then Oper.wp Try.prog o a W K Q else E := by
  obtain ⟨ii, hii, hiz0, hiz1, hiz2⟩ := info_parts infoInt
  have hown' : W.ownsRow B 3 1 (.slice ia q ic) q (M.map (Value.int .i64)) := by
    have : W.ownsRow B 3 1 (.slice ia q ic) M.length (M.map (Value.int .i64)) := hown
    rwa [hM] at this
  refine step_append_lies _ hgd s xo 43 ho B 3 ii (.int .i64 0) 1 8 Try.underlying43 hii hiz0 hiz1 hiz2 rfl (by decide) (.slice ia q ic) q (M.map (Value.int .i64)) hs hown' ⟨gx, 0, none⟩ 1 1 [.int .i64 x] hx rfl (fun j u hu => ?_) (one_one _) (by omega) (by unfold maxLen; omega) (by omega) hB _ rfl ?_
  · have hadd : ∀ n : Nat, (⟨gx, 0, none⟩ : Addr).add n = ⟨gx, n, none⟩ := fun n => by unfold Addr.add; split <;> simp_all
    rw [hadd]
    match j, hu with
    | 0, hu => simp at hu; subst hu; exact hcell
  · intro g cp w7 hown7 hgrow7 _ _
    refine h g cp w7 ?_ hgrow7
    show w7.ownsRow B 3 1 _ (M ++ [x]).length ((M ++ [x]).map (Value.int .i64))
    rw [List.length_append, hM, List.map_append]
    exact hown7
theorem yb_cells {w : World} {g : Nat} {m : Bool} {t : ByteArray} {v u : Value} (h : YB w g m t v u) : w.cell? ⟨g, 0, none⟩ = some (.bool m) ∧ w.cell? ⟨g, 1, none⟩ = some (.string t) ∧ w.cell? ⟨g, 2, none⟩ = some v ∧ w.cell? ⟨g, 3, none⟩ = some u ∧ w.frozen? ⟨g, 3, none⟩ = false := by
  unfold YB at h
  refine ⟨?_, ?_, ?_, ?_, by simp [World.frozen?, h]⟩
  · rw [cell_of_row w g 0 _ _ (0, 0) h]; rfl
  · rw [cell_of_row w g 1 _ _ (0, 0) h]; rfl
  · rw [cell_of_row w g 2 _ _ (0, 0) h]; rfl
  · rw [cell_of_row w g 3 _ _ (0, 0) h]; rfl
theorem yb_put {w : World} {g : Nat} {m : Bool} {t : ByteArray} {v u : Value} (h : YB w g m t v u) (u' : Value) : YB (w.setCell ⟨g, 3, none⟩ u') g m t v u' := by
  unfold YB at h ⊢
  simp [World.setCell, Array.getElem?_modify, h]
/-- What the inner loop keeps. -/
def InR (R N : List Int) (L : List Ln) (w6 : World) (nc gy : Nat) (m : Bool) (t : ByteArray) (la : Option Addr) (lc : Nat) (i : Value) (wz : World) : Prop :=
  ∃ (q : Nat) (ia : Option Addr) (ic : Nat), q ≤ N.length ∧ i = .int .i64 (q : Int) ∧ YB wz gy m t (.slice la L.length lc) (.slice ia q ic) ∧ IOwn wz nc (.slice ia q ic) ((N.take q).map (ix R)) ∧ LnB L w6.heap.size nc (.slice la L.length lc) wz ∧ Below w6.heap.size w6 wz ∧ nc ≤ wz.heap.size
theorem own_of {w : World} {B t s n k : Nat} {v : Value} {cs : List Value} (h : w.ownsRow B t s v n cs) (hk : v.ownBlock = some k) : B ≤ k ∧ ∃ C, w.heap[k]? = some (.cells C t (0, 0)) := by
  refine ⟨(World.ownsRow.lt h k hk).1, ?_⟩
  rcases h.2 with ⟨rfl, _⟩ | ⟨g, cap, cur, rfl, _, hg2, _⟩
  · cases hk
  · have hk' : some g = some k := hk
    injection hk' with hk'
    subst hk'
    exact ⟨cur, hg2⟩
theorem in_push {R N : List Int} {L : List Ln} {w6 wz W w7 : World} {nc gy q g cp : Nat} {m : Bool} {t : ByteArray} {la ia : Option Addr} {lc ic : Nat} {n : Int} (h6 : w6.heap.size ≤ gy) (hgy : gy < nc) (hn : N[q]? = some n) (hy : YB wz gy m t (.slice la L.length lc) (.slice ia q ic)) (ho : IOwn wz nc (.slice ia q ic) ((N.take q).map (ix R))) (hL : LnB L w6.heap.size nc (.slice la L.length lc) wz) (hb : Below w6.heap.size w6 wz) (hz : nc ≤ wz.heap.size)
    (hW : Below wz.heap.size wz W) (hown : IOwn w7 nc (.slice (some ⟨g, 0, none⟩) (q + 1) cp) ((N.take q).map (ix R) ++ [ix R n])) (hg : W.grownBy w7 (Value.slice ia q ic).ownBlock) :
    (w7.cell? ⟨gy, 3, none⟩ = some (.slice ia q ic) ∧ w7.frozen? ⟨gy, 3, none⟩ = false) ∧ Below w6.heap.size w6 w7 ∧ InR R N L w6 nc gy m t la lc (.int .i64 ((q : Int) + 1)) (w7.setCell ⟨gy, 3, none⟩ (.slice (some ⟨g, 0, none⟩) (q + 1) cp)) := by
  have hlt : q < N.length := (List.getElem?_eq_some_iff.1 hn).1
  have own : ∀ k, (Value.slice ia q ic).ownBlock = some k → nc ≤ k := fun k hk => (own_of ho hk).1
  have hzW := hW.size
  have far : ∀ k, k < nc → w7.heap[k]? = wz.heap[k]? := fun k hk => (hg.block k (by omega) (fun e => by have := own k e.symm; omega)).trans (hW.block k (by omega))
  have hy7 : YB w7 gy m t (.slice la L.length lc) (.slice ia q ic) := (far gy hgy).trans hy
  have c7 := yb_cells hy7
  have hsz : (w7.setCell ⟨gy, 3, none⟩ (.slice (some ⟨g, 0, none⟩) (q + 1) cp)).heap.size = w7.heap.size := by simp [World.setCell]
  have hz7 := hg.size
  have hb6 := hb.size
  have b7 : Below w6.heap.size w6 w7 := (hb.trans (hW.mono hb6)).grown hg (by omega) (fun k hk => by have := own k hk; omega)
  refine ⟨⟨c7.2.2.2.1, c7.2.2.2.2⟩, b7, q + 1, some ⟨g, 0, none⟩, cp, by omega, by go_num, yb_put hy7 _, ?_, ?_, ?_, by omega⟩
  · rw [List.take_add_one, hn, List.map_append]
    refine row_keep hown fun k e => Below.heap_setCell _ _ _ _ ?_
    have := (own_of hown e).1
    show k ≠ gy
    omega
  · obtain ⟨a, cap, e, hh⟩ := hL
    refine ⟨a, cap, e, ?_⟩
    rcases hh with hh | ⟨b, n', rfl, hk, k1, k2⟩
    · exact .inl hh
    · have hne : b ≠ gy := fun e => by
        subst e
        obtain ⟨⟨C, hC, _⟩, _⟩ := hk
        unfold YB at hy
        rw [hC] at hy
        simp at hy
      exact .inr ⟨b, n', rfl, hk.kept ((Below.heap_setCell _ _ _ _ hne).trans (far b k2)), k1, k2⟩
  · exact b7.setCell (by show _ ≤ gy; exact h6) _
/-- The outer loop's next round. -/
theorem out_push {S : List Tgt} {R : List Int} {P : List Tgt} {w w2 w6 wz W w5 : World} {j z : Nat} {c : List Int} {va v' : Value} {cs : List Value} {m : Bool} {t : ByteArray} {L : List Ln} {N' : List Int} {la ia : Option Addr} {lc ic nc : Nat} (hasc : Asc R) (hpos : ∀ x ∈ R, 0 ≤ x) (hzj : R[j]? = some (z : Int)) (hPj : P[j]? = some (m, t, L, N')) (hzS : z < S.length) (hcl : c.length = S.length)
    (hpl : ∀ q, q < j → ∀ z, R[q]? = some z → c.getD z.toNat 0 = (q : Int)) (hlP : (P.take j).length = j) (ho : w6.ownsRow w.heap.size 79 4 va j cs) (he : TEi w6 (w2.heap.size + 1) cs (P.take j)) (hp6 : Pg w6 w2.heap.size (c.set z (j : Int))) (hb6 : Below w.heap.size w w6) (hk6 : Kp w2 w6) (hw2 : w.heap.size < w2.heap.size)
    (hz : Below w6.heap.size w6 wz) (hzn : w6.heap.size ≤ nc ∧ nc ≤ wz.heap.size) (hL : LnB L w6.heap.size nc (.slice la L.length lc) wz) (hN : IB N' nc wz.heap.size (.slice ia N'.length ic) wz) (hW : Below wz.heap.size wz W)
    (hown : w5.ownsRow w.heap.size 79 4 v' (j + 1) (cs ++ [.bool m, .string t, .slice la L.length lc, .slice ia N'.length ic])) (hg : W.grownBy w5 va.ownBlock) :
    WsRel S R P w w2 v' (.int .i64 ((j : Int) + 1)) w5 := by
  have hW6 : Below w6.heap.size w6 W := hz.trans (hW.mono hz.size)
  have hzW := hW.size
  have hoW := row_below ho hW6
  have far : ∀ k, k < W.heap.size → (∀ C T, W.heap[k]? = some (.cells C T (0, 0)) → T ≠ 79) → w5.heap[k]? = W.heap[k]? := fun k k1 k2 => hg.block k k1 (fun e => by
    obtain ⟨_, C, hC⟩ := own_of hoW e.symm
    exact k2 C _ hC rfl)
  have hg6 := hp6.lt
  have hs6 := hb6.size
  have h6W := hW6.size
  have hjR : j < R.length := (List.getElem?_eq_some_iff.1 hzj).1
  have hjP : j < P.length := (List.getElem?_eq_some_iff.1 hPj).1
  refine ⟨j + 1, c.set z (j : Int), by omega, by go_num, ?_, ?_, by simpa using hcl, fun q hq x hx => ?_, ?_, fun k k1 k2 => ?_⟩
  · have h9 := TGr.push (S := P.take j) (W := W) (w5 := w5) (B := w.heap.size) (B1 := w2.heap.size + 1) (p := nc) (by rw [hlP]; exact ho) he hW6 ⟨by omega, by omega⟩ (LnB.below hL hW) (Tgn.ib_wide (IB.below hN hW) (Nat.le_refl _) hzW) (by rw [hlP]; exact hown) hg
    rw [List.take_add_one, hPj]
    exact h9
  · refine hp6.kept ((far _ (by omega) fun C T hT hne => ?_).trans (hW6.block _ hg6))
    have := hW6.block _ hg6
    unfold Pg at hp6
    rw [this, hp6, hne] at hT
    simp at hT
  · by_cases e : q = j
    · subst e
      rw [hzj] at hx
      obtain rfl := Option.some.inj hx
      rw [Int.toNat_natCast, List.getD_eq_getElem?_getD, List.getElem?_set_self (by omega)]
      rfl
    · have hx0 := hpos x (List.mem_of_getElem? hx)
      have hne : x.toNat ≠ z := fun e2 => by
        obtain rfl : x = (z : Int) := by omega
        exact e (asc_same hasc hx hzj)
      rw [List.getD_eq_getElem?_getD, List.getElem?_set_ne (fun e => hne e.symm), ← List.getD_eq_getElem?_getD]
      exact hpl q (by omega) x hx
  · exact (hb6.trans (hW6.mono hs6)).grown hg (by omega) (fun k hk => (own_of hoW hk).1)
  · have e1 := hk6 k k1 k2
    have e2 : W.heap[k]? = w2.heap[k]? := (hW6.block k (by omega)).trans e1
    exact (far k (by omega) fun C T hT => k2 C T (e2.symm.trans hT)).trans e2
theorem below_two {w6 : World} (o o' : Obj) : Below w6.heap.size w6 ((w6.alloc o).alloc o') := ((Below.refl _ _).alloc (Nat.le_refl _) o).alloc (by simp) o'
theorem cells_of {w : World} {g : Nat} {v0 v1 v2 v3 : Value} {T : TypeId} (h : w.heap[g]? = some (.cells #[v0, v1, v2, v3] T (0, 0))) :
    w.cell? ⟨g, 0, none⟩ = some v0 ∧ w.cell? ⟨g, 1, none⟩ = some v1 ∧ w.cell? ⟨g, 2, none⟩ = some v2 ∧ w.cell? ⟨g, 3, none⟩ = some v3 ∧ ∀ o, w.frozen? ⟨g, o, none⟩ = false := by
  refine ⟨?_, ?_, ?_, ?_, fun o => ?_⟩
  · rw [cell_of_row w g 0 _ _ (0, 0) h]; rfl
  · rw [cell_of_row w g 1 _ _ (0, 0) h]; rfl
  · rw [cell_of_row w g 2 _ _ (0, 0) h]; rfl
  · rw [cell_of_row w g 3 _ _ (0, 0) h]; rfl
  · simp [World.frozen?, h]

set_option maxRecDepth 100000 in
set_option maxHeartbeats 8000000 in
theorem specPart_any (v : Value) (S : List Tgt) (k : Int) (w : World) (hl : S.length ≤ 1048576) (hq : ∀ q ∈ S, Par q) (h : TgAt w w.heap.size v S) :
    Calls Try.prog 48 #[v, .int .i64 k] w fun e w' => ∃ v, e = .returned v ∧ TgB (partL S k) w.heap.size w'.heap.size v w' ∧ Below w.heap.size w w' := by
  obtain ⟨i0, hi, hz0, hz1, hz2⟩ := info_parts Tgn.infoTarget
  obtain ⟨ii, hii, hiz0, hiz1, hiz2⟩ := info_parts infoInt
  obtain ⟨il, hil, hlz0, hlz1, hlz2⟩ := info_parts Lnt.infoLine
  have b0 : Below w.heap.size w (w.alloc (.cells #[] 79)) := (Below.refl _ _).alloc (Nat.le_refl _) _
  have KN := Lib.hid (specNeeds_any v S k (w.alloc (.cells #[] 79)) hl hq (h.stepAt b0))
  have HG0 := Lib.hid (tgr_made w)
  have HB0 := Lib.hid b0
  obtain ⟨a, cap, rfl, hh⟩ := id h
  have HH := Lib.hid hh
  have HQ := Lib.hid hq
  have HMEM := Lib.hid fun (x : Int) => (needs_mem (S := S) (k := k) (x := x)).1
  have HLEN := needsL_len S k
  have HPL := part_len S k
  have HPA := Lib.hid fun (j : Nat) (p : Tgt) (h : (partL S k)[j]? = some p) => part_at h
  have HASC := Lib.hid (needs_asc S k)
  have HPOS := Lib.hid (show ∀ x ∈ needsL S k, 0 ≤ x from fun x hx => by
    obtain ⟨_, m, rfl, _⟩ := needs_mem.1 hx
    omega)
  clear h hh hq b0
  go_enter Try.func48, Try.ntmps48
  go_wp2_with fail
  refine KN.out.mono ?_
  rintro e w2 ⟨v2, rfl, hi2, hb2⟩
  obtain ⟨R, hR⟩ : ∃ R, needsL S k = R := ⟨_, rfl⟩
  obtain ⟨P, hP⟩ : ∃ P, partL S k = P := ⟨_, rfl⟩
  have HE := Lib.hid hP
  rw [hP] at HPL HPA
  rw [hR] at hi2 HMEM HLEN HPL HPA HASC HPOS
  clear hR KN hP
  obtain ⟨ra, rc, rfl, hx2⟩ := id hi2
  have HI2 := Lib.hid hi2
  have z1 := hb2.size
  have hmk := make_ints S.length hl w2
  have hg0 := made_zeros S.length w2
  rw [Nat.mul_one] at hmk hg0
  have HST := Lib.hid (show WsRel S R P w w2 (.slice (some ⟨w.heap.size, 0, none⟩) 0 0) (.int .i64 0) (w2.alloc (.cells (madeCells #[.int .i64 0] S.length) 3)) from by
    have b3 : Below w2.heap.size w2 (w2.alloc (.cells (madeCells #[.int .i64 0] S.length) 3)) := (Below.refl _ _).alloc (Nat.le_refl _) _
    have b2 := HB0.out.trans (hb2.mono HB0.out.size)
    refine ⟨0, List.replicate S.length 0, Nat.zero_le _, rfl, ?_, hg0, by simp, fun q hq => absurd hq (by omega), b2.trans (b3.mono b2.size), fun k hk _ => b3.block k hk⟩
    obtain ⟨cs, ho, _⟩ := (HG0.out.below hb2).below b3
    exact ⟨cs, ho, fun _ => w2.heap.size + 1, ⟨Nat.le_refl _, by simp, fun _ => Nat.le_refl _⟩, fun i hi => absurd hi (by simp)⟩)
  have z2 : w.heap.size < w2.heap.size := by simp at z1; omega
  clear hi2 hx2 hb2 hg0 z1
  go_wp2_with fail
  go_loopw [5, 8] (fun v i wr => WsRel S R P w w2 v i wr) (fun _ i _ => R.length - (intOf i).toNat)
  case atStart => exact HST.out
  case round =>
    obtain ⟨j, c, hj, rfl, htg, hpg, hcl, hpl, hb, hkp⟩ := hrel
    obtain ⟨cs, ho, he⟩ := id htg
    obtain ⟨va, vc, hv⟩ := row_form ho
    have hlP : (P.take j).length = j := by simp; omega
    rw [hlP] at hv ho
    subst hv
    by_cases hlt : j < R.length
    · have j0 : (0 : Int) ≤ (j : Int) := by omega
      have j1 : (j : Int) < (R.length : Int) := by omega
      have hjP : j < P.length := by omega
      obtain ⟨zz, ⟨m, t, L, N⟩, hz, hx, hz0', htk, hp, hin⟩ := HPA.out j P[j] (List.getElem?_eq_getElem hjP)
      obtain ⟨z, rfl⟩ := Int.eq_ofNat_of_zero_le hz0'
      rw [Int.toNat_natCast] at hx htk
      simp only at hp hin
      obtain ⟨hzS, hxS⟩ := List.getElem?_eq_some_iff.1 hx
      obtain ⟨b, o, hra, hB, hR0⟩ : ∃ b o, ra = some ⟨b, o, none⟩ ∧ b < w2.heap.size ∧ wr.cell? ⟨b, o + j, none⟩ = some (.int .i64 (z : Int)) := by
        obtain ⟨a', c', e, hh⟩ := HI2.out
        simp only [Value.slice.injEq] at e
        obtain ⟨rfl, _, rfl⟩ := e
        rcases hh with hh | ⟨g, n, rfl, hk, _, h2⟩
        · rw [hh] at hlt
          simp at hlt
        · have hk2 := hk.kept (hkp g hk.lt fun C T hT hne => by
            obtain ⟨C', hC', _⟩ := hk
            rw [hC', hne] at hT
            simp at hT)
          obtain ⟨C, hC, _, _, hCc⟩ := hk2
          refine ⟨g, 0, rfl, h2, ?_⟩
          rw [Nat.zero_add, cell_of_row wr g j C _ (0, 0) hC, hCc j hlt]
          rw [List.getElem?_eq_getElem hlt] at hz
          rw [Option.some.inj hz]
      subst hra
      rcases HH.out with hy | ⟨b', o', rfl, hB', hc'⟩
      · subst hy
        exact absurd hzS (by simp)
      have cc := (hc' z hzS).below hb hB'
      rw [hxS] at cc
      obtain ⟨⟨e0, e1⟩, a1, c1, a2, c2, e2, e3, hs, hi'⟩ := cc
      simp only at e0 e1 e2 e3 hs hi'
      have HPQ := Lib.hid (HQ.out _ (List.mem_of_getElem? hx))
      have HS := Lib.hid hs
      have HI := Lib.hid hi'
      have zI0 : (0 : Int) ≤ (z : Int) := by omega
      have zI1 : (z : Int) < (S.length : Int) := by omega
      have HO := Lib.hid ho
      have HTE := Lib.hid he
      have HB := Lib.hid hb
      have HKP := Lib.hid hkp
      have HLP := Lib.hid hlP
      have HPG := Lib.hid hpg
      have HPLq := Lib.hid hpl
      have HCL := Lib.hid hcl
      have HP1 := Lib.hid (And.intro hp (And.intro hz hin))
      have HTK := Lib.hid (tOk_ins htk)
      have p0 := hpg.cell (show z < c.length by omega)
      have p1 := hpg.frozen (i := z)
      have hgpl := hpg.lt
      have hbl : b < wr.heap.size := by omega
      have hbn : b ≠ wr.heap.size := by omega
      have hgn : w2.heap.size ≠ wr.heap.size := by omega
      clear hs hi' ho he hb hkp hlP hpg hpl hcl hp hz hin htk htg hx hc'
      have HC := Lib.hid (cells_four (wr.setCell ⟨w2.heap.size, z, none⟩ (.int .i64 (j : Int))) (.bool m) (.string t) (.slice a1 L.length c1) (.slice a2 N.length c2))
      have HS6 := Lib.hid (stored (c := c) HO.out HTE.out HPG.out HB.out HKP.out z2 z (j : Int) (.cells #[.bool m, .string t, .slice a1 L.length c1, .slice a2 N.length c2] 79))
      obtain ⟨w6, hw6⟩ : ∃ w6, (wr.setCell ⟨w2.heap.size, z, none⟩ (.int .i64 (j : Int))).alloc (.cells #[.bool m, .string t, .slice a1 L.length c1, .slice a2 N.length c2] 79) = w6 := ⟨_, rfl⟩
      go_upto_region 9 with fail
      rw [hw6] at HC HS6
      obtain ⟨ho6, he6, hpg6, hb6, hkp6, hwb6, hz6⟩ := HS6.out
      have hsz : (wr.setCell ⟨w2.heap.size, z, none⟩ (.int .i64 (j : Int))).heap.size = wr.heap.size := by simp [World.setCell]
      rw [hsz] at HC
      have HO6 := Lib.hid ho6
      have HTE6 := Lib.hid he6
      have HPG6 := Lib.hid hpg6
      have HB6 := Lib.hid hb6
      have HKP6 := Lib.hid hkp6
      have HS' := Lib.hid ((HS.out.below hwb6).mono hb6.size)
      have HI' := Lib.hid (HI.out.below hwb6)
      obtain ⟨d0, d1, d2, d3⟩ := HC.out w6 (Below.refl _ _)
      clear HS6 ho6 he6 hpg6 hb6 hkp6 hwb6 hsz e0 e1 e2 e3 hR0 p0 p1 HO HTE HPG HB HKP HS HI hw6
      have HL9 := Lib.hid (show L.length ≤ 1048576 from HPQ.out.2.1)
      have HZ6 := Lib.hid hz6
      have l6 : wr.heap.size < w6.heap.size := by omega
      have n6 : wr.heap.size ≠ w6.heap.size := by omega
      have n6' : w6.heap.size ≠ wr.heap.size := by omega
      have n7 : wr.heap.size ≠ w6.heap.size + 1 := by omega
      have n7' : w6.heap.size + 1 ≠ wr.heap.size := by omega
      clear hz6
      go_cut [10] from 19 to 71 (fun p wx => ∃ gy la lc, p = .pointer (some ⟨gy, 0, none⟩) ∧ w6.heap.size ≤ gy ∧ YB wx gy m t (.slice la L.length lc) (.slice none 0 0) ∧ LnB L w6.heap.size wx.heap.size (.slice la L.length lc) wx ∧ Below w6.heap.size w6 wx)
      case first =>
        rcases Nat.eq_zero_or_pos L.length with hlen | hlen
        · obtain rfl : L = [] := List.eq_nil_of_length_eq_zero hlen
          clear hlen
          rcases a1 with _ | a1
          · go_region_held3 (fun V => V.cell? ⟨wr.heap.size, 0, none⟩ = some (.bool m) ∧ V.cell? ⟨wr.heap.size, 1, none⟩ = some (.string t) ∧ V.cell? ⟨wr.heap.size, 2, none⟩ = some (.slice none 0 c1)) (go_keep) (fail)
            all_goals
              go_wp2_with fail
              go_meet
              case rel => exact ⟨_, _, _, rfl, by omega, by first | exact yb_a | exact yb_drew yb_a | exact yb_in yb_a | exact yb_b | exact yb_drew yb_b | exact yb_in yb_b, ⟨_, _, rfl, .inl rfl⟩, by go_grown⟩
          · go_region_held3 (fun V => V.cell? ⟨wr.heap.size, 0, none⟩ = some (.bool m) ∧ V.cell? ⟨wr.heap.size, 1, none⟩ = some (.string t) ∧ V.cell? ⟨wr.heap.size, 2, none⟩ = some (.slice (some a1) 0 c1)) (go_keep) (fail)
            all_goals
              go_wp2_with fail
              go_meet
              case rel => exact ⟨_, _, _, rfl, by omega, by first | exact yb_a | exact yb_drew yb_a | exact yb_in yb_a | exact yb_b | exact yb_drew yb_b | exact yb_in yb_b, ⟨_, _, rfl, .inl rfl⟩, by go_grown⟩
        · obtain ⟨lb, lo', rfl, hlB⟩ : ∃ b o, a1 = some ⟨b, o, none⟩ ∧ b < w6.heap.size := by
            obtain ⟨a', c', e, hh⟩ := HS'.out
            simp only [Value.slice.injEq] at e
            obtain ⟨rfl, _, rfl⟩ := e
            rcases hh with hh | ⟨b, o, e, hB, _⟩
            · rw [hh] at hlen
              simp at hlen
            · exact ⟨b, o, e, hB⟩
          have hlL := HL9.out
          go_region_held3 (fun V => V.cell? ⟨wr.heap.size, 0, none⟩ = some (.bool m) ∧ V.cell? ⟨wr.heap.size, 1, none⟩ = some (.string t) ∧ V.cell? ⟨wr.heap.size, 2, none⟩ = some (.slice (some ⟨lb, lo', none⟩) L.length c1)) (go_keep)
            (first
              | (refine copy_any rfl (.tmp 43) (.tmp 45) rfl (by rfl) (by rfl) HS'.out hlL hlen (by go_grown) (own_drew (row_made (Nat.le_refl _))) ?_; intro g cp w7 hown7 hb7 hk7 hz7; obtain ⟨q0, q1, q2, _⟩ := HC.out w7 hb7; have HL7 := Lib.hid (Dtg.LOwn.lb hown7); have HB7 := Lib.hid hb7; have z7 := hb7.size; clear hown7 hb7 hk7)
              | (refine copy_any rfl (.tmp 43) (.tmp 45) rfl (by rfl) (by rfl) HS'.out hlL hlen (by go_grown) (own_drew (own_second (w6 := w6))) ?_; intro g cp w7 hown7 hb7 hk7 hz7; obtain ⟨q0, q1, q2, _⟩ := HC.out w7 hb7; have HL7 := Lib.hid (Dtg.LOwn.lb hown7); have HB7 := Lib.hid hb7; have z7 := hb7.size; have hy7 : w7.heap[w6.heap.size + 1]? = some (.cells #[.bool false, .string ByteArray.empty, .slice none 0 0, .slice none 0 0] 79 (0, 0)) := (hk7 (w6.heap.size + 1) (by simp) (by omega)).trans ty_second; obtain ⟨v0, v1, v2, v3, fz⟩ := cells_of hy7; have fz0 := fz 0; have fz1 := fz 1; have fz2 := fz 2; have fz3 := fz 3; have HY7 := Lib.hid hy7; have zy : w6.heap.size + 1 < w7.heap.size := (by simp at hz7; omega); clear fz hy7; clear hown7 hb7 hk7)
              | (refine copy_any rfl (.tmp 43) (.tmp 45) rfl (by rfl) (by rfl) HS'.out hlL hlen (by go_grown) (own_drew (own_third (w6 := w6))) ?_; intro g cp w7 hown7 hb7 hk7 hz7; obtain ⟨q0, q1, q2, _⟩ := HC.out w7 hb7; have HL7 := Lib.hid (Dtg.LOwn.lb hown7); have HB7 := Lib.hid hb7; have z7 := hb7.size; have hy7 : w7.heap[w6.heap.size]? = some (.cells #[.bool false, .string ByteArray.empty, .slice none 0 0, .slice none 0 0] 79 (0, 0)) := (hk7 w6.heap.size (by simp; omega) (by omega)).trans ty_third; obtain ⟨v0, v1, v2, v3, fz⟩ := cells_of hy7; have fz0 := fz 0; have fz1 := fz 1; have fz2 := fz 2; have fz3 := fz 3; have HY7 := Lib.hid hy7; have zy : w6.heap.size < w7.heap.size := (by simp at hz7; omega); clear fz hy7; clear hown7 hb7 hk7)
              | fail)
          all_goals
            go_wp2_with fail
            go_meet
            case rel =>
              first
                | exact ⟨_, _, _, rfl, z7, yb_new _ _ _ _ _, lnb_more HL7.out ((Below.refl _ _).alloc (Nat.le_refl _) _), HB7.out.alloc z7 _⟩
                | exact ⟨_, _, _, rfl, by omega, yb_set _ _ _ _ HY7.out, by rw [four_size]; exact lnb_four _ _ _ _ HL7.out HY7.out, (((HB7.out.setCell (by first | exact Nat.le_refl _ | exact Nat.le_succ _) _).setCell (by first | exact Nat.le_refl _ | exact Nat.le_succ _) _).setCell (by first | exact Nat.le_refl _ | exact Nat.le_succ _) _).setCell (by first | exact Nat.le_refl _ | exact Nat.le_succ _) _⟩
      case rest =>
        obtain ⟨gy, la, lc, rfl, hgy, hyb, hlb, hbc⟩ := hcut
        have hgyl : gy < wc.heap.size := (Array.getElem?_eq_some_iff.1 hyb).1
        have HIR := Lib.hid (show InR R N L w6 wc.heap.size gy m t la lc (.int .i64 0) wc from ⟨0, none, 0, Nat.zero_le _, rfl, hyb, World.ownsRow_nil _ _ _ _, hlb, hbc, Nat.le_refl _⟩)
        have HZC := Lib.hid hbc.size
        clear hyb hlb hbc d0 d1 d2 d3
        generalize hxb : wr.heap.size = xb at *
        clear hxb
        generalize hnc : wc.heap.size = nc at *
        clear hnc
        go_wp2_with fail
        go_loopw [11] (fun i wz => InR R N L w6 nc gy m t la lc i wz) (fun i _ => N.length - (intOf i).toNat)
        case atStart => exact HIR.out
        case round =>
          obtain ⟨q, ia, ic, hq, rfl, hyb, hio, hlb, hb, hzz⟩ := hrel
          obtain ⟨_, _, _, d3⟩ := HC.out wr hb
          have hlI : ((N.take q).map (ix R)).length = q := by simp; omega
          obtain ⟨y0, y1, y2, y3, yf⟩ := yb_cells hyb
          have HYB := Lib.hid hyb
          have HIO := Lib.hid hio
          have HLB := Lib.hid hlb
          have HBQ := Lib.hid hb
          have HZZ := Lib.hid hzz
          have q0 : (0 : Int) ≤ (q : Int) := by omega
          by_cases hlt2 : q < N.length
          · have q1 : (q : Int) < (N.length : Int) := by omega
            obtain ⟨nb, no, rfl, hnb, hnc2⟩ : ∃ b o, a2 = some ⟨b, o, none⟩ ∧ b < w6.heap.size ∧ ∀ i (h : i < N.length), w6.cell? ⟨b, o + i, none⟩ = some (.int .i64 N[i]) := by
              obtain ⟨a', c', e, hh⟩ := HI'.out
              simp only [Value.slice.injEq] at e
              obtain ⟨rfl, _, rfl⟩ := e
              rcases hh with hh | ⟨b, o, e, hB, hc⟩
              · rw [hh] at hlt2
                simp at hlt2
              · have := HB6.out.size
                exact ⟨b, o, e, by omega, hc⟩
            obtain ⟨n, hn⟩ : ∃ n, N[q] = n := ⟨_, rfl⟩
            have HNQ := Lib.hid (show N[q]? = some n by rw [List.getElem?_eq_getElem hlt2, hn])
            have e6 := hnc2 q hlt2
            rw [hn] at e6
            have e1 := (hb.cell (p := ⟨nb, no + q, none⟩) hnb).trans e6
            obtain ⟨hnR, hn0, hnz⟩ := HP1.out.2.2 n (List.mem_of_getElem? HNQ.out)
            obtain ⟨nn, rfl⟩ := Int.eq_ofNat_of_zero_le hn0
            have hnS : nn < S.length := by omega
            have p6 : w6.cell? ⟨w2.heap.size, nn, none⟩ = some (.int .i64 (ix R (nn : Int))) := by
              have hlq := asc_lt HASC.out (ix_at hnR) HP1.out.2.1 hnz
              have h1 := HPLq.out _ hlq _ (ix_at hnR)
              rw [Int.toNat_natCast] at h1
              have h2 := HPG6.out.cell (i := nn) (by have := HCL.out; simp; omega)
              rw [List.getD_eq_getElem?_getD, List.getElem?_set_ne (by omega), ← List.getD_eq_getElem?_getD, h1] at h2
              exact h2
            have p1 := (hb.cell (p := ⟨w2.heap.size, nn, none⟩) HPG6.out.lt).trans p6
            have CL := Lib.hid (fun (V : World) (g : Below w6.heap.size w6 V) => And.intro (HC.out V g).2.2.2 (And.intro ((g.cell (p := ⟨nb, no + q, none⟩) hnb).trans e6) ((g.cell (p := ⟨w2.heap.size, nn, none⟩) HPG6.out.lt).trans p6)))
            clear e6 p6
            have n0 : (0 : Int) ≤ (nn : Int) := by omega
            have n1 : (nn : Int) < (S.length : Int) := by omega
            have KP := Lib.hid fun (W w7 : World) (g cp : Nat) (h1 : Below wr.heap.size wr W) h2 h3 => in_push (W := W) (w7 := w7) (g := g) (cp := cp) hgy hgyl HNQ.out HYB.out HIO.out HLB.out HBQ.out HZZ.out h1 h2 h3
            have hq7 : q ≤ 1048576 := by have : N.length ≤ 1048576 := HPQ.out.2.2.2; omega
            have g1 : gy < wr.heap.size := by omega
            have g2 : gy ≠ wr.heap.size := by omega
            have g3 : wr.heap.size ≠ gy := by omega
            have g4 : nb < wr.heap.size := by have := hb.size; omega
            have g5 : nb ≠ wr.heap.size := by omega
            have g6 : xb < wr.heap.size := by have := hb.size; omega
            have g7 : xb ≠ wr.heap.size := by omega
            have g8 : w2.heap.size < wr.heap.size := by have := hb.size; omega
            have g9 : w2.heap.size ≠ wr.heap.size := by omega
            clear hyb hio hlb hb hnc2 hn hnR hn0 y0 y1 y2
            go_upto_region 13 with fail
            go_region_law
              (first
                | (refine num_any (W := _) (x := ix R (nn : Int)) (gx := wr.heap.size) (B := nc) (M := (N.take q).map (ix R)) rfl (.tmp 56) (.tmp 65) rfl (by rfl) (by rfl) (by go_simp) (by first | exact World.ownsRow.alloc HIO.out _ | exact own_drew (World.ownsRow.alloc HIO.out _)) hlI hq7 (by have := HZZ.out; simp; omega) ?_; intro g cp w7 hown7 hg7; have hkp := KP.out _ w7 g cp (by go_grown) hown7 hg7; obtain ⟨⟨z3, zf⟩, b7, hin⟩ := hkp; obtain ⟨z0, z1, z2⟩ := CL.out w7 b7; have HR := Lib.hid hin; clear hin hown7 hg7 b7)
                | fail)
            all_goals
              go_wp2_with fail
              go_roundw
              case rel => exact HR.out
              case measure => simp [intOf]; omega
          · obtain rfl : q = N.length := by omega
            rw [List.take_length] at hio hlI
            have HFI := Lib.hid (show IB (N.map (ix R)) nc wr.heap.size (.slice ia (N.map (ix R)).length ic) wr by rw [List.length_map]; exact hio.ib)
            have HLN := Lib.hid (show (N.map (ix R)).length = N.length by simp)
            have HO9 := Lib.hid (row_below HO6.out (hb.mono (Nat.le_refl _)))
            have HPP := Lib.hid (show P[j]? = some (m, t, L, N.map (ix R)) by rw [List.getElem?_eq_getElem hjP, HP1.out.1])
            have hzb := HBQ.out.size
            have hb6z := HB6.out.size
            clear hyb hio hlb hb HYB HIO hlI
            go_wp2_with (at_builtin; refine wpList_append_own _ rfl _ _ 46 rfl w.heap.size 79 i0 (.agg #[.bool false, .string ByteArray.empty, .slice none 0 0, .slice none 0 0]) 4 72 Try.underlying46 hi hz0 hz1 hz2 rfl (by decide) _ _ _ rfl (World.ownsRow.alloc HO9.out (.cells #[.bool m, .string t, .slice la L.length lc, .slice ia N.length ic] 79)) ⟨wr.heap.size, 0, none⟩ 1 1 [.bool m, .string t, .slice la L.length lc, .slice ia N.length ic] rfl rfl four_news (four_one rfl rfl rfl rfl) (by unfold maxLen; omega) (by omega) (by simp; omega) ?_)
            intro v' w5 hown' hgrow hnn
            have HR := Lib.hid (out_push (S := S) (R := R) (P := P) (m := m) (t := t) (L := L) (N' := N.map (ix R)) (la := la) (ia := ia) (lc := lc) (ic := ic) HASC.out HPOS.out HP1.out.2.1 HPP.out hzS HCL.out HPLq.out HLP.out HO6.out HTE6.out HPG6.out HB6.out HKP6.out z2 HBQ.out ⟨HZC.out, HZZ.out⟩ HLB.out HFI.out ((Below.refl wr.heap.size wr).alloc (Nat.le_refl _) _) (by rw [HLN.out]; exact hown') hgrow)
            obtain ⟨va', vc', hv'⟩ := row_form hown'
            subst hv'
            clear hown' hgrow hnn
            go_wp2_with fail
            go_roundw
            case rel => exact HR.out
            case measure => simp [intOf]; omega
    · obtain rfl : j = R.length := by omega
      have HF := Lib.hid (show TgB P w.heap.size wr.heap.size (.slice va R.length vc) wr from by
        have h9 := htg.tb (by omega)
        rwa [List.take_of_length_le (by omega)] at h9)
      have HB := Lib.hid hb
      clear htg ho he hb hkp hpg hpl
      go_wp2_with fail
      go_ret
      exact ⟨_, rfl, by rw [HE.out]; exact HF.out, HB.out⟩
end Wp
end Go.Proofs.Ytopplljilmjjgaa
