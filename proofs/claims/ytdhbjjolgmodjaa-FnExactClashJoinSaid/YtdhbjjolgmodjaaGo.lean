/- Groundwork over this seat's translation: Town, Dclash in one text; the conditions stand at each part. -/
import Derived.Test.YtdhbjjolgmodjaaGf
import Derived.Test.YtdhbjjolgmodjaaTm
import Derived.Test.YtdhbjjolgmodjaaDneeds
import Derived.Deep.CutRange

/- Rows of terms that a call grows by append, over this seat's translation: their spans lie elsewhere. No condition. -/
namespace Go.Proofs.Ytdhbjjolgmodjaa
open Go.RowKit Go.Sort

namespace Tmo
theorem infoTerm : (Try.prog.info? 83).map (fun i => (i.zero, i.size, i.bytes)) = some (some (.agg #[.int .i64 0, .slice none 0 0, .bool false]), 3, 40) := by kernel_rfl
/-- A row of terms that a call grows; their spans lie elsewhere. -/
def TOwn (w : World) (B lo : Nat) (v : Value) (M : List Tm) : Prop :=
  ∃ cs : List Value, w.ownsRow B 83 3 v M.length cs ∧ ∀ i (h : i < M.length), cs[i * 3]? = some (.int .i64 M[i].1) ∧ cs[i * 3 + 2]? = some (.bool M[i].2.2) ∧ ∃ a cap, cs[i * 3 + 1]? = some (.slice a M[i].2.1.length cap) ∧ SpX w lo v.ownBlock (.slice a M[i].2.1.length cap) M[i].2.1
theorem TOwn.lt {w : World} {B lo : Nat} {v : Value} {M : List Tm} (h : TOwn w B lo v M) : ∀ k, v.ownBlock = some k → B ≤ k ∧ k < w.heap.size := by
  obtain ⟨cs, h, _⟩ := h
  exact World.ownsRow.lt h
theorem TOwn.below {w w' : World} {B lo : Nat} {v : Value} {M : List Tm} (h : TOwn w B lo v M) (hb : Below w.heap.size w w') : TOwn w' B lo v M := by
  obtain ⟨cs, ⟨hl, h⟩, hc⟩ := h
  refine ⟨cs, ⟨hl, ?_⟩, fun i hi => ?_⟩
  · rcases h with hn | ⟨g, cap, cur, hv, hb', hg, rest⟩
    · exact .inl hn
    · exact .inr ⟨g, cap, cur, hv, hb', (hb.block g (Array.getElem?_eq_some_iff.1 hg).1).trans hg, rest⟩
  · obtain ⟨h1, h4, a, cap, h2, h3⟩ := hc i hi
    exact ⟨h1, h4, a, cap, h2, h3.below hb⟩
theorem TOwn.at {w : World} {B lo : Nat} {v : Value} {M : List Tm} (h : TOwn w B lo v M) : TmAt w w.heap.size v M := by
  obtain ⟨cs, ⟨hl, h⟩, hc⟩ := h
  rcases h with ⟨rfl, hn⟩ | ⟨g, cap, cur, rfl, hb, hg, hnc, hcm, hcs, htk⟩
  · obtain rfl : M = [] := List.eq_nil_of_length_eq_zero hn
    exact ⟨none, 0, rfl, .inl rfl⟩
  · refine ⟨_, cap, rfl, .inr ⟨g, 0, rfl, (Array.getElem?_eq_some_iff.1 hg).1, fun i hi => ?_⟩⟩
    obtain ⟨h1, h4, a, c, h2, h3⟩ := hc i hi
    rw [← htk, List.getElem?_take, if_pos (by omega)] at h1 h2 h4
    rw [Nat.zero_add]
    exact ⟨(cell_of_row w g _ cur _ (0, 0) hg).trans (by simpa using h1), a, c, (cell_of_row w g _ cur _ (0, 0) hg).trans (by simpa using h2), h3.at, (cell_of_row w g _ cur _ (0, 0) hg).trans (by simpa using h4)⟩
theorem TOwn.nil (w : World) (B lo : Nat) : TOwn w B lo (.slice none 0 0) [] := ⟨[], World.ownsRow_nil _ _ _ _, fun i hi => absurd hi (by simp)⟩
theorem TOwn.made {w V : World} {B lo : Nat} (hV : V.heap = (w.alloc (.cells #[] 83)).heap) (hB : B ≤ w.heap.size) : TOwn V B lo (.slice (some ⟨w.heap.size, 0, none⟩) 0 0) [] := by
  refine ⟨[], ⟨rfl, .inr ⟨w.heap.size, 0, #[], rfl, hB, by rw [hV]; exact heap_alloc_new w _, Nat.le_refl _, by unfold maxLen; omega, rfl, rfl⟩⟩, fun i hi => absurd hi (by simp)⟩

theorem TOwn.drawn {w w' : World} {B lo R : Nat} {v : Value} {M : List Tm} (h : TOwn w B lo v M) (hg : w.grownBy w' (some R)) (hR : R < B) (hl : R < lo) : TOwn w' B lo v M := by
  obtain ⟨cs, ho, hc⟩ := h
  refine ⟨cs, World.ownsRow.kept ho hg (.inr fun e => by have := (World.ownsRow.lt ho) R e; omega), fun i hi => ?_⟩
  obtain ⟨h1, h4, a, cap, h2, h3⟩ := hc i hi
  exact ⟨h1, h4, a, cap, h2, h3.drawn hg hl⟩

/-- What stands behind an append. -/
theorem TOwn.grow {W w' : World} {B lo g cap : Nat} {v : Value} {M P : List Tm} {cs news : List Value} (ho : W.ownsRow B 83 3 v M.length cs)
    (hc : ∀ i (h : i < M.length), cs[i * 3]? = some (.int .i64 M[i].1) ∧ cs[i * 3 + 2]? = some (.bool M[i].2.2) ∧ ∃ a cap, cs[i * 3 + 1]? = some (.slice a M[i].2.1.length cap) ∧ SpX W lo v.ownBlock (.slice a M[i].2.1.length cap) M[i].2.1)
    (hn : ∀ i (h : i < P.length), news[i * 3]? = some (.int .i64 P[i].1) ∧ news[i * 3 + 2]? = some (.bool P[i].2.2) ∧ ∃ a cap, news[i * 3 + 1]? = some (.slice a P[i].2.1.length cap) ∧ SpX W lo v.ownBlock (.slice a P[i].2.1.length cap) P[i].2.1)
    (hown : w'.ownsRow B 83 3 (.slice (some ⟨g, 0, none⟩) (M.length + P.length) cap) (M.length + P.length) (cs ++ news)) (hgrow : W.grownBy w' v.ownBlock) (hat : v.ownBlock = some g ∨ g = W.heap.size) :
    TOwn w' B lo (.slice (some ⟨g, 0, none⟩) (M.length + P.length) cap) (M ++ P) := by
  have hcl : cs.length = M.length * 3 := ho.1
  have mv : ∀ {u : Value} {L : List (Int × Int)}, SpX W lo v.ownBlock u L → SpX w' lo (some g) u L := fun {u L} hx => by
    rcases hat with e | e
    · rw [e] at hx hgrow
      exact hx.grown hgrow
    · rw [e]
      exact hx.moved hgrow
  refine ⟨cs ++ news, by rw [List.length_append]; exact hown, fun i hi => ?_⟩
  by_cases e : i < M.length
  · obtain ⟨h1, h4, a, c, h2, h3⟩ := hc i e
    rw [List.getElem_append_left e]
    exact ⟨(List.getElem?_append_left (by omega)).trans h1, (List.getElem?_append_left (by omega)).trans h4, a, c, (List.getElem?_append_left (by omega)).trans h2, mv h3⟩
  · have hi' : i - M.length < P.length := by simp at hi; omega
    obtain ⟨h1, h4, a, c, h2, h3⟩ := hn (i - M.length) hi'
    rw [List.getElem_append_right (by omega)]
    refine ⟨(List.getElem?_append_right (by omega)).trans ?_, (List.getElem?_append_right (by omega)).trans ?_, a, c, (List.getElem?_append_right (by omega)).trans ?_, mv h3⟩
    · rw [show i * 3 - cs.length = (i - M.length) * 3 by omega]; exact h1
    · rw [show i * 3 + 2 - cs.length = (i - M.length) * 3 + 2 by omega]; exact h4
    · rw [show i * 3 + 1 - cs.length = (i - M.length) * 3 + 1 by omega]; exact h2

/-- The cells of a row of terms, for an append of all of it. -/
def rowCellsT (w : World) (b o n : Nat) : List Value := (List.range n).map fun j => (w.cell? ⟨b, o + j, none⟩).getD undef
theorem rowCellsT_at {w : World} {b o n j : Nat} (h : j < n) : (rowCellsT w b o n)[j]? = some ((w.cell? ⟨b, o + j, none⟩).getD undef) := by simp [rowCellsT, h]

end Tmo
end Go.Proofs.Ytdhbjjolgmodjaa

/- Contracts of the model's draws of terms and clashes, over this seat's translation: whatever is drawn, at most six terms lie in a row of their own, the spans of each elsewhere; nothing that was there has changed but the reader. Condition: the reader was not asked too often; the code is readable. -/
namespace Go.Proofs.Ytdhbjjolgmodjaa
open Go.RowKit Go.Sort

namespace Tmo
set_option maxRecDepth 100000 in
theorem term_new {w V : World} {x : Int} {u : Value} {f : Bool} (hV : V.heap = (w.alloc (.cells #[.int .i64 x, u, .bool f] 83)).heap) : ∀ j z, [Value.int .i64 x, u, .bool f][j]? = some z → V.cell? ((⟨w.heap.size, 0, none⟩ : Addr).add j) = some z := by
  have hb : V.heap[w.heap.size]? = some (.cells #[.int .i64 x, u, .bool f] 83 (0, 0)) := by rw [hV]; exact heap_alloc_new w _
  intro j z hz
  have hadd : (⟨w.heap.size, 0, none⟩ : Addr).add j = ⟨w.heap.size, j, none⟩ := by unfold Addr.add; split <;> simp_all
  rw [hadd, cell_of_row V _ j _ _ (0, 0) hb]
  match j, hz with
  | 0, hz => exact hz
  | 1, hz => exact hz
  | 2, hz => exact hz
set_option maxRecDepth 100000 in
theorem term_one {x : Int} {a : Option Addr} {n cap : Nat} {f : Bool} : ∀ u ∈ [Value.int .i64 x, .slice a n cap, .bool f], u.oneCell' = true := by
  intro u hu
  simp at hu
  rcases hu with rfl | rfl | rfl <;> rfl

/-- The state of the draw of terms. -/
structure TB (w : World) (R p c n : Nat) (M : List Tm) (v : Value) (wr : World) : Prop where
  own : TOwn wr w.heap.size w.heap.size v M
  len : ∀ q ∈ M, q.2.1.length ≤ 41
  many : M.length ≤ n
  rd : ∃ q, p ≤ q ∧ q ≤ p + c ∧ RdAt wr R q
  gr : w.grownBy wr (some R)
variable {w wr w2 : World} {R p c c' n q : Nat} {M : List Tm} {v : Value}
set_option maxRecDepth 100000 in
theorem TB.more (h : TB w R p c n M v wr) (hc : c ≤ c') : TB w R p c' n M v wr := ⟨h.own, h.len, h.many, by obtain ⟨q, h1, h2, h3⟩ := h.rd; exact ⟨q, h1, by omega, h3⟩, h.gr⟩
set_option maxRecDepth 100000 in
theorem TB.draw (h : TB w R p c n M v wr) (hR : R < w.heap.size) (hq1 : p ≤ q) (hq2 : q ≤ p + c) (hd : Drawn wr R q c' w2) : TB w R p (c + c') n M v w2 := by
  obtain ⟨q', h1, h2, h3, h4⟩ := hd
  exact ⟨h.own.drawn h4 hR hR, h.len, h.many, ⟨q', by omega, by omega, h3⟩, grown_trans h.gr h4⟩

set_option maxRecDepth 100000 in
theorem TB.below (h : TB w R p c n M v wr) (hR : R < w.heap.size) (hb : Below wr.heap.size wr w2) : TB w R p c n M v w2 := by
  have hz := h.gr.size
  obtain ⟨q, h1, h2, h3⟩ := h.rd
  exact ⟨h.own.below hb, h.len, h.many, ⟨q, h1, h2, rdAt_below h3 hb (by omega)⟩, grown_below h.gr (hb.mono hz)⟩
set_option maxRecDepth 100000 in
/-- The three bad terms of the model's table. -/
theorem tab_term {W : World} {lo g k : Nat} {x : Option Nat} (h : k < 3) (hs : SpX W lo x (.slice (some ⟨g, 0, none⟩) 1 1) [(4, 3)]) :
    ∃ (y : Int) (a : Option Addr) (c : Nat) (L : List (Int × Int)) (f : Bool), (#[.int .i64 0, .slice none 0 0, .bool false, .int .i64 8, .slice none 0 0, .bool false, .int .i64 7, .slice (some ⟨g, 0, none⟩) 1 1, .bool false] : Array Value)[k * 3]? = some (.int .i64 y) ∧ (#[.int .i64 0, .slice none 0 0, .bool false, .int .i64 8, .slice none 0 0, .bool false, .int .i64 7, .slice (some ⟨g, 0, none⟩) 1 1, .bool false] : Array Value)[k * 3 + 1]? = some (.slice a L.length c) ∧ (#[.int .i64 0, .slice none 0 0, .bool false, .int .i64 8, .slice none 0 0, .bool false, .int .i64 7, .slice (some ⟨g, 0, none⟩) 1 1, .bool false] : Array Value)[k * 3 + 2]? = some (.bool f) ∧ SpX W lo x (.slice a L.length c) L ∧ L.length ≤ 41 := by
  have : k = 0 ∨ k = 1 ∨ k = 2 := by omega
  rcases this with rfl | rfl | rfl
  · exact ⟨_, none, 0, [], _, rfl, rfl, rfl, ⟨_, _, rfl, .inl rfl⟩, by simp⟩
  · exact ⟨_, none, 0, [], _, rfl, rfl, rfl, ⟨_, _, rfl, .inl rfl⟩, by simp⟩
  · exact ⟨_, some ⟨g, 0, none⟩, 1, [(4, 3)], _, rfl, rfl, rfl, hs, by simp⟩
theorem sres_drawn {L : Sps} {base R : Nat} {v : Value} {w w' : World} (h : SRes L base v w) (hg : w.grownBy w' (some R)) (hR : R < base) : SRes L base v w' :=
  h.kept fun g hb hl => hg.block g hl (fun e => by injection e with e; omega)
def TermDraw (x : Int) (R p : Nat) (w : World) (e : Ending) (w' : World) : Prop :=
  ∃ L u f, e = .returned (term x u f) ∧ SRes L w.heap.size u w' ∧ L.length ≤ 3 ∧ Drawn w R p 21 w'
set_option maxRecDepth 100000 in
set_option maxHeartbeats 2000000 in
theorem l20Term_any (R p : Nat) (x : Int) (w : World) (h : RdAt w R p) (hp : p ≤ 700000000) :
    Calls Try.prog 100 #[.pointer (some ⟨R, 0, none⟩), .int .i64 x] w (TermDraw x R p w) := by
  have hR := rdAt_lt h
  have h1 := rdAt_alloc h (.cells #[.int .i64 0, .slice none 0 0, .bool false] 83)
  have g1 := grown_start w (.cells #[.int .i64 0, .slice none 0 0, .bool false] 83) R
  have e1 : (w.alloc (.cells #[.int .i64 0, .slice none 0 0, .bool false] 83)).heap[w.heap.size]? = some (.cells #[.int .i64 0, .slice none 0 0, .bool false] 83 (0, 0)) := heap_alloc_new w _
  have z1 : w.heap.size < (w.alloc (.cells #[.int .i64 0, .slice none 0 0, .bool false] 83)).heap.size := by simp
  go_enter Try.func100, Try.ntmps100
  go_wp2_with fail
  refine (l20Near_any R p _ h1 (by omega)).mono ?_
  rintro e w2 ⟨L, u, rfl, hs, hL, q, hq0, hq1, hr2, hg2⟩
  have e2 := (hg2.block w.heap.size z1 (fun e => by injection e with e; omega)).trans e1
  have g2 := grown_trans g1 hg2
  obtain ⟨ua, uc, rfl, hx⟩ := id hs
  have HS2 := Lib.hid hs
  have z2 := hg2.size
  clear hx hs hg2 h1 g1 e1
  go_wp2_with fail
  refine (pick_any R q 2 _ hr2 (by omega)).mono ?_
  rintro e w3 ⟨k, rfl, k0, k1, y1, hr3, hg3⟩
  have e3 := (hg3.block w.heap.size (by omega) (fun e => by injection e with e; omega)).trans e2
  have g3 := grown_trans g2 hg3
  have HS3 := Lib.hid (sres_drawn HS2.out hg3 (by omega))
  have c0 : w3.cell? ⟨w.heap.size, 0, none⟩ = some (.int .i64 0) := cell_of_row w3 _ 0 _ _ (0, 0) e3
  have c1 : w3.cell? ⟨w.heap.size, 1, none⟩ = some (.slice none 0 0) := cell_of_row w3 _ 1 _ _ (0, 0) e3
  have c2 : w3.cell? ⟨w.heap.size, 2, none⟩ = some (.bool false) := cell_of_row w3 _ 2 _ _ (0, 0) e3
  have f0 : w3.frozen? ⟨w.heap.size, 0, none⟩ = false := by simp [World.frozen?, e3]
  have f1 : w3.frozen? ⟨w.heap.size, 1, none⟩ = false := by simp [World.frozen?, e3]
  have f2 : w3.frozen? ⟨w.heap.size, 2, none⟩ = false := by simp [World.frozen?, e3]
  have fin : ∀ b : Bool, TermDraw x R p w (.returned (term x (.slice ua L.length uc) b)) (((w3.setCell ⟨w.heap.size, 0, none⟩ (.int .i64 x)).setCell ⟨w.heap.size, 1, none⟩ (.slice ua L.length uc)).setCell ⟨w.heap.size, 2, none⟩ (.bool b)) := fun b =>
    ⟨L, _, b, rfl, (((HS3.out.setOther' z1).setOther' z1).setOther' z1).mono (by omega), hL, q + 1, by omega, by omega, rdAt_set (rdAt_set (rdAt_set hr3 (by omega)) (by omega)) (by omega), grown_set (grown_set (grown_set g3 (Nat.le_refl _)) (Nat.le_refl _)) (Nat.le_refl _)⟩
  have HF := Lib.hid fin
  clear hr2 hr3 hg3 g2 g3 e2 e3 y1 k1 fin
  rcases hk : (k == 0)
  all_goals
    go_wp2_with fail
    exact bodyPost_ret (v := term x (.slice ua L.length uc) _) (by simp [results, Try.results100, go_sem, c0, c1, c2]) rfl (HF.out _)
def ClashDraw (R p : Nat) (w : World) (e : Ending) (w' : World) : Prop :=
  ∃ M v, e = .returned v ∧ TOwn w' w.heap.size w.heap.size v M ∧ M.length ≤ 6 ∧ (∀ q ∈ M, q.2.1.length ≤ 41) ∧ Drawn w R p 150 w'
set_option maxRecDepth 100000 in
/-- One term more, just made behind a draw. -/
theorem TB.push {x : Int} {f : Bool} {L : List (Int × Int)} {na : Option Addr} {ncap g cap : Nat} {W w3 : World} {cs : List Value} (h : TB w R p c n M v wr) (hW : W = wr.alloc (.cells #[.int .i64 x, .slice na L.length ncap, .bool f] 83))
    (ho : wr.ownsRow w.heap.size 83 3 v M.length cs)
    (hc : ∀ i (h : i < M.length), cs[i * 3]? = some (.int .i64 M[i].1) ∧ cs[i * 3 + 2]? = some (.bool M[i].2.2) ∧ ∃ a cap, cs[i * 3 + 1]? = some (.slice a M[i].2.1.length cap) ∧ SpX wr w.heap.size v.ownBlock (.slice a M[i].2.1.length cap) M[i].2.1)
    (hs : SpX wr w.heap.size v.ownBlock (.slice na L.length ncap) L) (hL : L.length ≤ 41) (hR : R < w.heap.size)
    (hown : w3.ownsRow w.heap.size 83 3 (.slice (some ⟨g, 0, none⟩) (M.length + 1) cap) (M.length + 1) (cs ++ [.int .i64 x, .slice na L.length ncap, .bool f])) (hgrow : W.grownBy w3 v.ownBlock) (hat : v.ownBlock = some g ∨ g = W.heap.size) :
    TB w R p c (n + 1) (M ++ [(x, L, f)]) (.slice (some ⟨g, 0, none⟩) (M.length + 1) cap) w3 := by
  have hb : Below wr.heap.size wr W := by rw [hW]; exact (Below.refl _ _).alloc (Nat.le_refl _) _
  have hoW : W.ownsRow w.heap.size 83 3 v M.length cs := by
    refine ⟨ho.1, ?_⟩
    rcases ho.2 with hn | ⟨g', cap', cur, hv, hb', hg, rest⟩
    · exact .inl hn
    · exact .inr ⟨g', cap', cur, hv, hb', (hb.block g' (Array.getElem?_eq_some_iff.1 hg).1).trans hg, rest⟩
  have hlt := World.ownsRow.lt ho
  have hz := h.gr.size
  obtain ⟨q, q1, q2, q3⟩ := h.rd
  refine ⟨TOwn.grow (P := [(x, L, f)]) hoW (fun i hi => by obtain ⟨h1, h4, a, cp, h2, h3⟩ := hc i hi; exact ⟨h1, h4, a, cp, h2, h3.below hb⟩) (fun i hi => ?_) hown hgrow hat, fun q hq => ?_, by have := h.many; simp; omega, ⟨q, q1, q2, rdAt_kept (rdAt_below q3 hb (by omega)) fun k hk => ?_⟩, ?_⟩
  · obtain rfl : i = 0 := by simpa using hi
    exact ⟨rfl, rfl, na, ncap, rfl, hs.below hb⟩
  · rcases List.mem_append.1 hq with hq | hq
    · exact h.len q hq
    · simp at hq
      rw [hq]
      exact hL
  · exact hgrow.block k (by have := hb.size; omega) (fun e => by have := hlt k e.symm; omega)
  · have g2 := grown_below h.gr (hb.mono hz)
    exact ⟨hgrow.os.trans g2.os, hgrow.tape.trans g2.tape, hgrow.output.trans g2.output, Nat.le_trans g2.size hgrow.size, fun i hi hne => (hgrow.block i (Nat.lt_of_lt_of_le hi g2.size) (fun e => by have := hlt i e.symm; omega)).trans (g2.block i hi hne)⟩

set_option maxRecDepth 100000 in
set_option maxHeartbeats 8000000 in
theorem l20Clash_any (R p : Nat) (k0 : Int) (w : World) (h : RdAt w R p) (hp : p ≤ 100000000) (hn0 : -1000000 ≤ k0) (hn1 : k0 ≤ 1000000) :
    Calls Try.prog 58 #[.pointer (some ⟨R, 0, none⟩), .int .i64 k0] w (ClashDraw R p w) := by
  have hR := rdAt_lt h
  have h1 := rdAt_alloc h (.cells #[] 83)
  obtain ⟨i0, hi, hz0, hz1, hz2⟩ := info_parts infoTerm
  obtain ⟨w1, hw1⟩ : ∃ V : World, V = w.alloc (.cells #[] 83) := ⟨_, rfl⟩
  have S1 := Lib.hid (show TB w R p 0 0 [] (.slice (some ⟨w.heap.size, 0, none⟩) 0 0) w1 from
    ⟨TOwn.made (by rw [hw1]) (Nat.le_refl _), by simp, Nat.le_refl _, ⟨p, Nat.le_refl _, Nat.le_refl _, by rw [hw1]; exact h1⟩, by rw [hw1]; exact grown_start w _ R⟩)
  clear h1
  go_enter Try.func58, Try.ntmps58
  go_upto_region 2 with fail
  rw [← hw1]
  clear hw1
  go_wp2_with fail
  go_loopw [5, 6] (fun s5 s6 wr => ∃ (k : Nat) (M : List Tm), k ≤ 5 ∧ s6 = .int .i64 (k : Int) ∧ TB w R p (22 * k) k M s5 wr) (fun _ s6 _ => 5 - (intOf s6).toNat)
  case atStart => exact ⟨0, [], Nat.zero_le _, rfl, S1.out⟩
  case round =>
    obtain ⟨k, M, hk, rfl, hS⟩ := hrel
    obtain ⟨va, vc, hv, hx⟩ := id hS.own.at
    clear hx
    subst hv
    have S2 := Lib.hid hS
    obtain ⟨q, hq1, hq2, hr⟩ := hS.rd
    have hml := hS.many
    have hsz := hS.gr.size
    clear hS
    by_cases hlt : k < 5
    · go_wp2_with fail
      refine (pick_any R q 2 _ hr (by omega)).mono ?_
      rintro e w3 ⟨k', rfl, q0, q1, y1, hr3, hg3⟩
      have S3 := Lib.hid (S2.out.draw hR hq1 hq2 (drawn_one hr3 hg3))
      clear q1 y1 hg3 S2
      by_cases e0 : k' = 0
      · subst e0
        have hr4 := Lib.hid hr3
        go_wp2_with fail
        refine (l20Term_any R (q + 1) (k : Int) _ hr3 (by omega)).mono ?_
        rintro e w4 ⟨L, u, f, rfl, hsr, hL, hd⟩
        have S4 := Lib.hid (S3.out.draw hR (q := q + 1) (by omega) (by omega) hd)
        have z3 := S3.out.gr.size
        have z4 := S4.out.gr.size
        have hlt3 := S3.out.own.lt
        have hsx := SpX.res (x := Value.ownBlock (.slice va M.length vc)) hsr (fun b hb => (hlt3 b hb).2)
        obtain ⟨ua, uc, rfl, hx⟩ := id hsr
        have HS := Lib.hid (hsx.down (lo' := w.heap.size) z3)
        obtain ⟨cs, hown4, hc4⟩ := S4.out.own
        have HC := Lib.hid hc4
        clear hx hsr hd hsx hc4 hr3
        go_wp2_with (at_builtin; refine wpList_append_lies _ rfl _ _ 24 rfl w.heap.size 83 i0 (.agg #[.int .i64 0, .slice none 0 0, .bool false]) 3 40 Try.underlying24 hi hz0 hz1 hz2 rfl (by decide) _ _ cs rfl (hown4.alloc (.cells #[.int .i64 (k : Int), .slice ua L.length uc, .bool f] 83)) ⟨w4.heap.size, 0, none⟩ 1 1 [.int .i64 (k : Int), .slice ua L.length uc, .bool f] rfl rfl (term_new rfl) term_one (by omega) (by unfold maxLen; omega) (by omega) (by simp; omega) _ rfl ?_)
        intro g cap w5 hown5 hgrow hat hlt5
        have HP := Lib.hid (TB.push S4.out rfl hown4 HC.out HS.out (by omega) hR hown5 hgrow (by simpa using hat))
        clear hown5 hgrow hat hown4
        go_wp2_with fail
        go_roundw
        case rel => exact ⟨k + 1, _, by omega, by go_num, HP.out.more (by omega)⟩
        case measure => simp [intOf]; omega
      · have hz0 : (k' == 0) = false := by rw [beq_eq_false_iff_ne]; exact e0
        go_wp2_with fail
        go_roundw
        case rel => exact ⟨k + 1, M, by omega, by go_num, ⟨S3.out.own, S3.out.len, by omega, (S3.out.more (by omega : 22 * k + 1 ≤ 22 * (k + 1))).rd, S3.out.gr⟩⟩
        case measure => simp [intOf]; omega
    · obtain rfl : k = 5 := by omega
      go_wp2_with fail
      refine (odd_any R q k0 _ hr (by omega) hn0 hn1).mono ?_
      rintro e w3 ⟨o, rfl, hx, hd⟩
      have S3 := Lib.hid (S2.out.draw hR hq1 hq2 hd)
      clear hx hd S2 hr
      cases o
      · go_wp2_with fail
        go_ret
        exact ⟨M, _, rfl, S3.out.own, by omega, S3.out.len, by obtain ⟨q', h1, h2, h3⟩ := S3.out.rd; exact ⟨q', h1, by omega, h3, S3.out.gr⟩⟩
      · obtain ⟨q3, q30, q31, hr3⟩ := S3.out.rd
        have z3 := S3.out.gr.size
        obtain ⟨w4, hw4⟩ : ∃ V : World, V = (w3.alloc (.cells #[.int .i64 4, .int .i64 3] 139)).alloc (.cells #[.int .i64 0, .slice none 0 0, .bool false, .int .i64 8, .slice none 0 0, .bool false, .int .i64 7, .slice (some ⟨w3.heap.size, 0, none⟩) 1 1, .bool false] 83) := ⟨_, rfl⟩
        have n4 : Below w3.heap.size w3 w4 := by rw [hw4]; exact ((Below.refl _ _).alloc (Nat.le_refl _) _).alloc (by simp) _
        have z4 : w3.heap.size + 2 ≤ w4.heap.size := by rw [hw4]; simp
        have kb : SpBlk w4 w3.heap.size 1 [(4, 3)] := by
          rw [hw4]
          exact (one_span w3 4 3).kept (Below.heap_alloc _ _ _ (by simp))
        have tb : w4.heap[w3.heap.size + 1]? = some (.cells #[.int .i64 0, .slice none 0 0, .bool false, .int .i64 8, .slice none 0 0, .bool false, .int .i64 7, .slice (some ⟨w3.heap.size, 0, none⟩) 1 1, .bool false] 83 (0, 0)) := by
          rw [hw4]
          have := heap_alloc_new (w3.alloc (.cells #[.int .i64 4, .int .i64 3] 139)) (.cells #[.int .i64 0, .slice none 0 0, .bool false, .int .i64 8, .slice none 0 0, .bool false, .int .i64 7, .slice (some ⟨w3.heap.size, 0, none⟩) 1 1, .bool false] 83)
          simpa using this
        have hr4 := rdAt_below hr3 n4 (by omega)
        have S4 := Lib.hid (S3.out.below hR n4)
        have hlt3 := S3.out.own.lt
        clear n4 S3 hr3
        go_wp2_with fail
        rw [← hw4]
        clear hw4
        refine (pick_any R q3 3 _ hr4 (by omega)).mono ?_
        rintro e w5 ⟨k', rfl, q0, q1, y1, hr5, hg5⟩
        have hk4 : k' < 3 := q1 (by omega)
        obtain ⟨kn, rfl⟩ := Int.eq_ofNat_of_zero_le q0
        have hkn : kn < 3 := by omega
        have S5 := Lib.hid (S4.out.draw hR (q := q3) (by omega) (by omega) (drawn_one hr5 hg5))
        have tb5 := (hg5.block (w3.heap.size + 1) (by omega) (fun e => by injection e with e; omega)).trans tb
        have kb5 := kb.kept (hg5.block w3.heap.size (by omega) (fun e => by injection e with e; omega))
        have hsp : SpX w5 w.heap.size (Value.ownBlock (.slice va M.length vc)) (.slice (some ⟨w3.heap.size, 0, none⟩) 1 1) [(4, 3)] :=
          (SpX.res (B := w3.heap.size) ⟨some ⟨w3.heap.size, 0, none⟩, 1, rfl, .inr ⟨w3.heap.size, 1, rfl, kb5, Nat.le_refl _⟩⟩ (fun b hb => (hlt3 b hb).2)).down z3
        obtain ⟨y, ta, tc, L, f, t0, t1, t2, hs, hL⟩ := tab_term hkn hsp
        have d0 := (cell_of_row w5 (w3.heap.size + 1) (kn * 3) _ _ (0, 0) tb5).trans t0
        have d1 := (cell_of_row w5 (w3.heap.size + 1) (kn * 3 + 1) _ _ (0, 0) tb5).trans t1
        have d2 := (cell_of_row w5 (w3.heap.size + 1) (kn * 3 + 2) _ _ (0, 0) tb5).trans t2
        obtain ⟨cs, hown5, hc5⟩ := S5.out.own
        have HC := Lib.hid hc5
        have HS := Lib.hid hs
        have hml5 := S5.out.many
        have hz5 := S5.out.gr.size
        clear hc5 hs hsp t0 t1 t2 tb5 kb5 tb kb hr5 hg5 hr4 q1 y1 q0
        have kI0 : (0 : Int) ≤ (kn : Int) := by omega
        have kI1 : (kn : Int) < 3 := by omega
        go_wp2_with (at_builtin; refine wpList_append_lies _ rfl _ _ 24 rfl w.heap.size 83 i0 (.agg #[.int .i64 0, .slice none 0 0, .bool false]) 3 40 Try.underlying24 hi hz0 hz1 hz2 rfl (by decide) _ _ cs rfl (hown5.alloc (.cells #[.int .i64 y, .slice ta L.length tc, .bool f] 83)) ⟨w5.heap.size, 0, none⟩ 1 1 [.int .i64 y, .slice ta L.length tc, .bool f] rfl rfl (term_new rfl) term_one (by omega) (by unfold maxLen; omega) (by omega) (by simp; omega) _ rfl ?_)
        intro g cap w6 hown6 hgrow hat hlt6
        have HP := Lib.hid (TB.push S5.out rfl hown5 HC.out HS.out hL hR hown6 hgrow (by simpa using hat))
        clear hown6 hgrow hat hown5
        go_wp2_with fail
        go_ret
        exact ⟨_, _, rfl, HP.out.own, by have := HP.out.many; omega, HP.out.len, by obtain ⟨q', h1, h2, h3⟩ := HP.out.rd; exact ⟨q', h1, by omega, h3, HP.out.gr⟩⟩
def AnyClash (w : World) (e : Ending) (w' : World) : Prop := ∃ M v, e = .returned v ∧ TOwn w' w.heap.size w.heap.size v M ∧ M.length ≤ 6 ∧ (∀ q ∈ M, q.2.1.length ≤ 41) ∧ Below w.heap.size w w'
set_option maxRecDepth 100000 in
theorem TOwn.mono {w : World} {B B' lo lo' : Nat} {v : Value} {M : List Tm} (h : TOwn w B lo v M) (hB : B' ≤ B) (hl : lo' ≤ lo) : TOwn w B' lo' v M := by
  obtain ⟨cs, ⟨h0, h⟩, hc⟩ := h
  refine ⟨cs, ⟨h0, ?_⟩, fun i hi => ?_⟩
  · rcases h with hn | ⟨g, cap, cur, hv, hb, hg, rest⟩
    · exact .inl hn
    · exact .inr ⟨g, cap, cur, hv, by omega, hg, rest⟩
  · obtain ⟨h1, h4, a, cap, h2, h3⟩ := hc i hi
    exact ⟨h1, h4, a, cap, h2, h3.down hl⟩
end Tmo
end Go.Proofs.Ytdhbjjolgmodjaa
