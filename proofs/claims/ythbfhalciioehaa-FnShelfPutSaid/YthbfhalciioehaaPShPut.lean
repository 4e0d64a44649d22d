/- At every code the law FnShelfPut returns true: the program and the model put the same release on the drawn shelf; where it can be put, it is found at its place, and without it the shelf is as it was. No condition. -/
import Derived.BigFrame
import Derived.Deep.RegionHeld3
import Derived.Test.YthbfhalciioehaaDput
import Derived.Test.YthbfhalciioehaaShs
import Derived.Test.YthbfhalciioehaaPof
import Derived.Test.YthbfhalciioehaaPuti
import Derived.Test.YthbfhalciioehaaPuts
import Derived.Test.YthbfhalciioehaaApp2
import Derived.Test.YthbfhalciioehaaGe
namespace Go.Proofs.Ythbfhalciioehaa
open Go.ChangeShapes Go.WideShapes Go.ChangeAt Go.RowKit Go.Joins Go.Sort

namespace Psp
open Foot Dsh Dkn Copy Gof Pof Shal
section
variable {P : Program} (w : World)
/-- An append in a region that draws its order, of a row that may be empty, where its guard stands. -/
theorem step_append_want {ops : Array Oper} {o : Oper} {a : Act} {K : Act → World → Prop} {Q : Exit → Act → World → Prop} {E : Prop} (hw : Region.wanted o (yielded ops a.tmps) = true) (s x : Operand) (t : TypeId)
    (ho : o.op = .call { callee := .builtin .append, args := #[s, x], argTypes := #[t, t] })
    (base : Nat) (e : TypeId) (i : TypeInfo) (z : Value) (size bytes : Nat) (ht : P.underlying t = some (.slice e)) (hi : P.info? e = some i) (hz : i.zero = some z)
    (hsize : i.size = size) (hby : i.bytes = bytes) (hzs : z.cells.size = size) (hsz : 0 < size)
    (v : Value) (n : Nat) (xs : List Value) (hs : a.eval s = v) (hown : w.ownsRow base e size v n xs)
    (ad : Addr) (m c : Nat) (news : List Value) (hx : a.eval x = .slice (some ad) m c) (hl : news.length = m * size) (hnews : ∀ j u, news[j]? = some u → w.cell? (ad.add j) = some u) (h1 : ∀ u ∈ news, u.oneCell' = true)
    (h63 : n + m ≤ maxLen) (hbytes : (n + m) * bytes ≤ 140737488355328) (hbase : base ≤ w.heap.size)
    (h : ∀ a' c' w', w'.ownsRow base e size (.slice a' (n + m) c') (n + m) (xs ++ news) → w.grownBy w' v.ownBlock → ((Value.slice a' (n + m) c').ownBlock = v.ownBlock ∨ (Value.slice a' (n + m) c').ownBlock = some w.heap.size) → K (a.put o.dst (.slice a' (n + m) c')) w') :
    if Region.wanted o (yielded ops a.tmps) = true then Oper.wp P o a w K Q else E := by
  rw [if_pos hw]
  obtain ⟨a', c', w', hr, h2, h3, h4⟩ := run_append_rows (P := P) w t o.type base e i z size bytes ht hi hz hsize hby hzs hsz v n xs hown (some ad) m c news hl (fun e => by cases e) (fun _ e => by cases e; exact hnews) h1 h63 hbytes hbase
  unfold Oper.wp execOp
  simp only [ho, resolve, invoke, builtin, Sem.run_bind, Sem.run_pure, Result.andThen_ok, List.map_toArray, List.map_cons, List.map_nil, hs, hx, hr]
  exact h a' c' w' h2 h3 h4
end
/-- The cells of a row of releases that may be empty. -/
theorem rows_of {w : World} {B b o n cap : Nat} {T : List Rel} (h : RlAt w B (.slice (some ⟨b, o, none⟩) n cap) T) :
    ∃ news : List Value, n = T.length ∧ news.length = n * 7 ∧ ShEl w B news T ∧ (∀ j u, news[j]? = some u → w.cell? ((⟨b, o, none⟩ : Addr).add j) = some u) ∧ ∀ u ∈ news, u.oneCell' = true := by
  obtain ⟨a', cap', he, hc⟩ := h
  simp only [Value.slice.injEq] at he
  obtain ⟨rfl, rfl, rfl⟩ := he
  rcases hc with rfl | ⟨b', o', he, hB, hc⟩
  · exact ⟨[], rfl, rfl, ShEl.nil _ _ _, fun j u hu => by simp at hu, fun u hu => by simp at hu⟩
  · injection he with he
    simp only [Addr.mk.injEq] at he
    obtain ⟨rfl, rfl, _⟩ := he
    obtain ⟨r1, r2, r3⟩ := rel_rows hc
    exact ⟨_, rfl, r1, r2, r3, r2.cells r1⟩
theorem RSh.of {w : World} {B n : Nat} {v : Value} {S : List Rel} {cs : List Value} (h : w.ownsRow B 54 7 v n cs) (he : ShEl w B cs S) (hn : n = S.length) : RSh w B v S := by
  subst hn
  exact ⟨cs, h, he⟩
/-- The row that was built of one box. -/
theorem one_row {V : World} {g : Nat} {x a b c d : Int} {f : Bool} {na : Option Addr} {M : List Nd} {ncap : Nat} (h0 : V.cell? ⟨g, 0, none⟩ = some (.int .i64 x)) (h1 : V.cell? ⟨g, 1, none⟩ = some (.int .i64 a)) (h2 : V.cell? ⟨g, 2, none⟩ = some (.int .i64 b)) (h3 : V.cell? ⟨g, 3, none⟩ = some (.int .i64 c)) (h4 : V.cell? ⟨g, 4, none⟩ = some (.int .i64 d)) (h5 : V.cell? ⟨g, 5, none⟩ = some (.bool f)) (h6 : V.cell? ⟨g, 6, none⟩ = some (.slice na M.length ncap)) (hg : g < V.heap.size) (h : NdAt V V.heap.size (.slice na M.length ncap) M) :
    RlAt V V.heap.size (.slice (some ⟨g, 0, none⟩) 1 1) [(x, (a, b, c, d), f, M)] := by
  refine ⟨_, 1, rfl, .inr ⟨g, 0, rfl, hg, fun i hi => ?_⟩⟩
  obtain rfl : i = 0 := by simpa using hi
  exact ⟨⟨h0, h1, h2, h3, h4, h5⟩, na, ncap, h6, h⟩

set_option maxRecDepth 100000 in
set_option maxHeartbeats 8000000 in
theorem putP_short (a0 : Option Addr) (len cap : Nat) (w : World) (h : CodeIn w a0 len cap) (hlc : len ≤ 1048576) :
    Calls Try.prog 6 #[.slice a0 len cap] w fun e w' => e = .returned (.bool true) ∧ Below w.heap.size w w' := by
  obtain ⟨i0, hi, hz0, hz1, hz2⟩ := info_parts infoRelease
  go_enter Try.func6, Try.ntmps6
  go_wp2_with fail
  refine (Dpt.DrawShelfPut_any a0 len cap w h).mono ?_
  rintro e w1 ⟨S, sa, caps, x, a, b, c, d, f, M, na, ncap, rfl, hat1, hform, hcap, hx1, hl31, hsz, hM, hMq, b1⟩
  have hl' : S.length ≤ 1048576 := by omega
  have hq := hsz.big
  have hM' : M.length ≤ 1048576 ∧ ∀ p ∈ M, p.2.length ≤ 1048576 := ⟨by omega, fun p hp => by have := hMq p hp; omega⟩
  have H := Lib.hid hat1
  have HX := Lib.hid hx1
  obtain ⟨w2, hw2⟩ : ∃ V : World, V = w1.alloc (.cells #[.int .i64 x, .int .i64 a, .int .i64 b, .int .i64 c, .int .i64 d, .bool f, .slice na M.length ncap] 54) := ⟨_, rfl⟩
  have b2 : Below w1.heap.size w1 w2 := by rw [hw2]; exact (Below.refl _ _).alloc (Nat.le_refl _) _
  have z12 : w1.heap.size + 1 ≤ w2.heap.size := by rw [hw2]; simp
  have c0_2 : w2.cell? ⟨w1.heap.size, 0, none⟩ = some (.int .i64 x) := by rw [hw2]; go_simp
  have c1_2 : w2.cell? ⟨w1.heap.size, 1, none⟩ = some (.int .i64 a) := by rw [hw2]; go_simp
  have c2_2 : w2.cell? ⟨w1.heap.size, 2, none⟩ = some (.int .i64 b) := by rw [hw2]; go_simp
  have c3_2 : w2.cell? ⟨w1.heap.size, 3, none⟩ = some (.int .i64 c) := by rw [hw2]; go_simp
  have c4_2 : w2.cell? ⟨w1.heap.size, 4, none⟩ = some (.int .i64 d) := by rw [hw2]; go_simp
  have c5_2 : w2.cell? ⟨w1.heap.size, 5, none⟩ = some (.bool f) := by rw [hw2]; go_simp
  have c6_2 : w2.cell? ⟨w1.heap.size, 6, none⟩ = some (.slice na M.length ncap) := by rw [hw2]; go_simp
  clear hat1 hx1 h
  go_upto_region 4 with fail
  rw [← hw2]
  clear hw2
  obtain ⟨k, hk⟩ : ∃ k, befL (x, (a, b, c, d), f, M) S = k := ⟨_, rfl⟩
  rcases hput : putOk (x, (a, b, c, d), f, M) S
  · have KI : Hid (∀ V, RlAt V V.heap.size (.slice sa S.length caps) S → NdAt V V.heap.size (.slice na M.length ncap) M → Calls Try.prog 36 #[.slice sa S.length caps, rels x a b c d f (.slice na M.length ncap)] V fun e w' => ∃ v fs, e = .returned (.tuple #[v, .bool false]) ∧ RGrow w' V.heap.size v ([]) fs ∧ Below V.heap.size V w') := Lib.hid fun V g g' => (implShelfPut_any sa caps S x a b c d f na ncap M V g hform hcap hl' hq g' hM').mono fun e w' ⟨v, fs, he, hg, hb⟩ => ⟨v, fs, by rw [he, hput], by rw [hput] at hg; rwa [if_neg (by decide)] at hg, hb⟩
    have KS : Hid (∀ V, RlAt V V.heap.size (.slice sa S.length caps) S → NdAt V V.heap.size (.slice na M.length ncap) M → Calls Try.prog 37 #[.slice sa S.length caps, rels x a b c d f (.slice na M.length ncap)] V fun e w' => ∃ v fs, e = .returned (.tuple #[v, .bool false]) ∧ RGrow w' V.heap.size v ([]) fs ∧ Below V.heap.size V w') := Lib.hid fun V g g' => (specShelfPut_any sa caps S x a b c d f na ncap M V g hform hcap hl' hq g' hM').mono fun e w' ⟨v, fs, he, hg, hb⟩ => ⟨v, fs, by rw [he, hput], by rw [hput] at hg; rwa [if_neg (by decide)] at hg, hb⟩
    have KE : Hid (∀ V u u', RlAt V V.heap.size u [] → RlAt V V.heap.size u' [] → Calls Try.prog 38 #[u, u'] V fun e w' => e = .returned (.bool true) ∧ Below V.heap.size V w') := Lib.hid fun V u u' g g' => Shs.sameShelf_same u u' [] V (by simp) (by simp) g g'
    clear hput hq
    go_wp2_with fail
    refine (KI.out _ (H.out.stepAt b2) (HX.out.stepAt b2)).mono ?_
    rintro e w3 ⟨v3, fs3, rfl, hg3, hb⟩
    have n3 := b2.trans (hb.mono b2.size)
    have z13 : w1.heap.size < w3.heap.size := by have := hb.size; omega
    have c0_3 := (hb.cell (p := ⟨w1.heap.size, 0, none⟩) (by show w1.heap.size < w2.heap.size; omega)).trans c0_2
    have c1_3 := (hb.cell (p := ⟨w1.heap.size, 1, none⟩) (by show w1.heap.size < w2.heap.size; omega)).trans c1_2
    have c2_3 := (hb.cell (p := ⟨w1.heap.size, 2, none⟩) (by show w1.heap.size < w2.heap.size; omega)).trans c2_2
    have c3_3 := (hb.cell (p := ⟨w1.heap.size, 3, none⟩) (by show w1.heap.size < w2.heap.size; omega)).trans c3_2
    have c4_3 := (hb.cell (p := ⟨w1.heap.size, 4, none⟩) (by show w1.heap.size < w2.heap.size; omega)).trans c4_2
    have c5_3 := (hb.cell (p := ⟨w1.heap.size, 5, none⟩) (by show w1.heap.size < w2.heap.size; omega)).trans c5_2
    have c6_3 := (hb.cell (p := ⟨w1.heap.size, 6, none⟩) (by show w1.heap.size < w2.heap.size; omega)).trans c6_2
    obtain ⟨ga, gc, rfl, hform3, hcap3⟩ := hg3.form
    have G3 := Lib.hid hg3.at
    clear hg3 hform3 hcap3 hb c0_2 c1_2 c2_2 c3_2 c4_2 c5_2 c6_2 KI
    go_wp2_with fail
    refine (KS.out _ (H.out.stepAt n3) (HX.out.stepAt n3)).mono ?_
    rintro e w4 ⟨v4, fs4, rfl, hg4, hb⟩
    have n4 := n3.trans (hb.mono n3.size)
    have z14 : w1.heap.size < w4.heap.size := by have := hb.size; omega
    have c0_4 := (hb.cell (p := ⟨w1.heap.size, 0, none⟩) (by show w1.heap.size < w3.heap.size; omega)).trans c0_3
    have c1_4 := (hb.cell (p := ⟨w1.heap.size, 1, none⟩) (by show w1.heap.size < w3.heap.size; omega)).trans c1_3
    have c2_4 := (hb.cell (p := ⟨w1.heap.size, 2, none⟩) (by show w1.heap.size < w3.heap.size; omega)).trans c2_3
    have c3_4 := (hb.cell (p := ⟨w1.heap.size, 3, none⟩) (by show w1.heap.size < w3.heap.size; omega)).trans c3_3
    have c4_4 := (hb.cell (p := ⟨w1.heap.size, 4, none⟩) (by show w1.heap.size < w3.heap.size; omega)).trans c4_3
    have c5_4 := (hb.cell (p := ⟨w1.heap.size, 5, none⟩) (by show w1.heap.size < w3.heap.size; omega)).trans c5_3
    have c6_4 := (hb.cell (p := ⟨w1.heap.size, 6, none⟩) (by show w1.heap.size < w3.heap.size; omega)).trans c6_3
    obtain ⟨ta, tc, rfl, hform4, hcap4⟩ := hg4.form
    have G4 := Lib.hid (G3.out.stepAt hb)
    have T4 := Lib.hid hg4.at
    clear hg4 hform4 hcap4 hb c0_3 c1_3 c2_3 c3_3 c4_3 c5_3 c6_3 KS G3
    go_wp2_with fail
    refine (KE.out _ _ _ G4.out T4.out).mono ?_
    rintro e w5 ⟨rfl, hb⟩
    have n5 := n4.trans (hb.mono n4.size)
    have z15 : w1.heap.size < w5.heap.size := by have := hb.size; omega
    have c0_5 := (hb.cell (p := ⟨w1.heap.size, 0, none⟩) (by show w1.heap.size < w4.heap.size; omega)).trans c0_4
    have c1_5 := (hb.cell (p := ⟨w1.heap.size, 1, none⟩) (by show w1.heap.size < w4.heap.size; omega)).trans c1_4
    have c2_5 := (hb.cell (p := ⟨w1.heap.size, 2, none⟩) (by show w1.heap.size < w4.heap.size; omega)).trans c2_4
    have c3_5 := (hb.cell (p := ⟨w1.heap.size, 3, none⟩) (by show w1.heap.size < w4.heap.size; omega)).trans c3_4
    have c4_5 := (hb.cell (p := ⟨w1.heap.size, 4, none⟩) (by show w1.heap.size < w4.heap.size; omega)).trans c4_4
    have c5_5 := (hb.cell (p := ⟨w1.heap.size, 5, none⟩) (by show w1.heap.size < w4.heap.size; omega)).trans c5_4
    have c6_5 := (hb.cell (p := ⟨w1.heap.size, 6, none⟩) (by show w1.heap.size < w4.heap.size; omega)).trans c6_4
    have G5 := Lib.hid (G4.out.stepAt hb)
    clear hb c0_4 c1_4 c2_4 c3_4 c4_4 c5_4 c6_4 KE G4 T4
    go_wp2_with fail
    refine (alive_any _).mono ?_
    rintro e w6 ⟨rfl, hb⟩
    have n6 := n5.trans (hb.mono n5.size)
    clear hb
    go_wp2_with fail
    go_ret
    exact ⟨rfl, b1.trans (n6.mono b1.size)⟩
  · obtain ⟨hp1, hp2, hp3, hp4, hp5⟩ := put_law hput
    rw [hk] at hp2 hp3 hp4 hp5
    obtain ⟨G, hG⟩ : ∃ X, putL (x, (a, b, c, d), f, M) S = X := ⟨_, rfl⟩
    have KI : Hid (∀ V, RlAt V V.heap.size (.slice sa S.length caps) S → NdAt V V.heap.size (.slice na M.length ncap) M → Calls Try.prog 36 #[.slice sa S.length caps, rels x a b c d f (.slice na M.length ncap)] V fun e w' => ∃ v fs, e = .returned (.tuple #[v, .bool true]) ∧ RGrow w' V.heap.size v (G) fs ∧ Below V.heap.size V w') := Lib.hid fun V g g' => (implShelfPut_any sa caps S x a b c d f na ncap M V g hform hcap hl' hq g' hM').mono fun e w' ⟨v, fs, he, hg, hb⟩ => ⟨v, fs, by rw [he, hput], by rw [hput] at hg; rwa [if_pos rfl, hG] at hg, hb⟩
    have KS : Hid (∀ V, RlAt V V.heap.size (.slice sa S.length caps) S → NdAt V V.heap.size (.slice na M.length ncap) M → Calls Try.prog 37 #[.slice sa S.length caps, rels x a b c d f (.slice na M.length ncap)] V fun e w' => ∃ v fs, e = .returned (.tuple #[v, .bool true]) ∧ RGrow w' V.heap.size v (G) fs ∧ Below V.heap.size V w') := Lib.hid fun V g g' => (specShelfPut_any sa caps S x a b c d f na ncap M V g hform hcap hl' hq g' hM').mono fun e w' ⟨v, fs, he, hg, hb⟩ => ⟨v, fs, by rw [he, hput], by rw [hput] at hg; rwa [if_pos rfl, hG] at hg, hb⟩
    rw [hG] at hp1 hp2 hp3 hp4 hp5
    have hGl : G.length = S.length + 1 := by rw [← hG]; exact put_len _ _
    have hlG : G.length ≤ 1048576 := by omega
    have hqx : ∀ q ∈ [(x, (a, b, c, d), f, M)], q.2.2.2.length ≤ 1048576 ∧ ∀ p ∈ q.2.2.2, p.2.length ≤ 1048576 := fun q hq' => by rw [List.mem_singleton.1 hq']; exact hM'
    have hqG : ∀ q ∈ G, q.2.2.2.length ≤ 1048576 ∧ ∀ p ∈ q.2.2.2, p.2.length ≤ 1048576 := fun q hq' => by
      rw [← hG] at hq'
      unfold putL at hq'
      simp only [List.mem_append, List.mem_singleton] at hq'
      rcases hq' with (h | h) | h
      · exact hq q (List.mem_of_mem_take h)
      · rw [h]; exact hM'
      · exact hq q (List.mem_of_mem_drop h)
    have KE : Hid (∀ V u u', RlAt V V.heap.size u G → RlAt V V.heap.size u' G → Calls Try.prog 38 #[u, u'] V fun e w' => e = .returned (.bool true) ∧ Below V.heap.size V w') := Lib.hid fun V u u' g g' => Shs.sameShelf_same u u' G V hlG hqG g g'
    have K1 : Hid (∀ V u u', RlAt V V.heap.size u [(x, (a, b, c, d), f, M)] → RlAt V V.heap.size u' [(x, (a, b, c, d), f, M)] → Calls Try.prog 38 #[u, u'] V fun e w' => e = .returned (.bool true) ∧ Below V.heap.size V w') := Lib.hid fun V u u' g g' => Shs.sameShelf_same u u' _ V (by simp) hqx g g'
    have K2 : Hid (∀ V u u', RlAt V V.heap.size u S → RlAt V V.heap.size u' S → Calls Try.prog 38 #[u, u'] V fun e w' => e = .returned (.bool true) ∧ Below V.heap.size V w') := Lib.hid fun V u u' g g' => Shs.sameShelf_same u u' S V hl' hq g g'
    have KO : Hid (∀ V u, RlAt V V.heap.size u G → Calls Try.prog 41 #[u] V fun e w' => e = .returned (.bool true) ∧ Below V.heap.size V w') := Lib.hid fun V u g => by
      have := implShelfOk_any u G V hlG hqG g
      rwa [hp1] at this
    have KA : Hid (∀ V u, RlAt V V.heap.size u G → Calls Try.prog 40 #[u, .int .i64 x, ver a b c d] V fun e w' => e = .returned (.int .i64 (k : Int)) ∧ Below V.heap.size V w') := Lib.hid fun V u g => by
      have := implShelfAt_any u G x a b c d V hlG hqG g
      rwa [hp2] at this
    have HP4 := Lib.hid hp4
    have HGL := Lib.hid hGl
    have hSG : S.length ≤ G.length := by omega
    have HP5 := Lib.hid hp5
    have hk30 : k ≤ 31 := by omega
    have hG32 : G.length ≤ 32 := by omega
    clear hput hq hqx hqG hp1 hp2 hp4 hp5 hG hk hGl hSG
    go_wp2_with fail
    refine (KI.out _ (H.out.stepAt b2) (HX.out.stepAt b2)).mono ?_
    rintro e w3 ⟨v3, fs3, rfl, hg3, hb⟩
    have n3 := b2.trans (hb.mono b2.size)
    have z13 : w1.heap.size < w3.heap.size := by have := hb.size; omega
    have c0_3 := (hb.cell (p := ⟨w1.heap.size, 0, none⟩) (by show w1.heap.size < w2.heap.size; omega)).trans c0_2
    have c1_3 := (hb.cell (p := ⟨w1.heap.size, 1, none⟩) (by show w1.heap.size < w2.heap.size; omega)).trans c1_2
    have c2_3 := (hb.cell (p := ⟨w1.heap.size, 2, none⟩) (by show w1.heap.size < w2.heap.size; omega)).trans c2_2
    have c3_3 := (hb.cell (p := ⟨w1.heap.size, 3, none⟩) (by show w1.heap.size < w2.heap.size; omega)).trans c3_2
    have c4_3 := (hb.cell (p := ⟨w1.heap.size, 4, none⟩) (by show w1.heap.size < w2.heap.size; omega)).trans c4_2
    have c5_3 := (hb.cell (p := ⟨w1.heap.size, 5, none⟩) (by show w1.heap.size < w2.heap.size; omega)).trans c5_2
    have c6_3 := (hb.cell (p := ⟨w1.heap.size, 6, none⟩) (by show w1.heap.size < w2.heap.size; omega)).trans c6_2
    obtain ⟨ga, gc, rfl, hform3, hcap3⟩ := hg3.form
    have G3 := Lib.hid hg3.at
    have HF3 := Lib.hid hform3
    clear hform3
    clear hg3 hb c0_2 c1_2 c2_2 c3_2 c4_2 c5_2 c6_2 KI
    go_wp2_with fail
    refine (KS.out _ (H.out.stepAt n3) (HX.out.stepAt n3)).mono ?_
    rintro e w4 ⟨v4, fs4, rfl, hg4, hb⟩
    have n4 := n3.trans (hb.mono n3.size)
    have z14 : w1.heap.size < w4.heap.size := by have := hb.size; omega
    have c0_4 := (hb.cell (p := ⟨w1.heap.size, 0, none⟩) (by show w1.heap.size < w3.heap.size; omega)).trans c0_3
    have c1_4 := (hb.cell (p := ⟨w1.heap.size, 1, none⟩) (by show w1.heap.size < w3.heap.size; omega)).trans c1_3
    have c2_4 := (hb.cell (p := ⟨w1.heap.size, 2, none⟩) (by show w1.heap.size < w3.heap.size; omega)).trans c2_3
    have c3_4 := (hb.cell (p := ⟨w1.heap.size, 3, none⟩) (by show w1.heap.size < w3.heap.size; omega)).trans c3_3
    have c4_4 := (hb.cell (p := ⟨w1.heap.size, 4, none⟩) (by show w1.heap.size < w3.heap.size; omega)).trans c4_3
    have c5_4 := (hb.cell (p := ⟨w1.heap.size, 5, none⟩) (by show w1.heap.size < w3.heap.size; omega)).trans c5_3
    have c6_4 := (hb.cell (p := ⟨w1.heap.size, 6, none⟩) (by show w1.heap.size < w3.heap.size; omega)).trans c6_3
    obtain ⟨ta, tc, rfl, hform4, hcap4⟩ := hg4.form
    have G4 := Lib.hid (G3.out.stepAt hb)
    have T4 := Lib.hid hg4.at
    clear hg4 hform4 hcap4 hb c0_3 c1_3 c2_3 c3_3 c4_3 c5_3 c6_3 KS G3
    go_wp2_with fail
    refine (KE.out _ _ _ G4.out T4.out).mono ?_
    rintro e w5 ⟨rfl, hb⟩
    have n5 := n4.trans (hb.mono n4.size)
    have z15 : w1.heap.size < w5.heap.size := by have := hb.size; omega
    have c0_5 := (hb.cell (p := ⟨w1.heap.size, 0, none⟩) (by show w1.heap.size < w4.heap.size; omega)).trans c0_4
    have c1_5 := (hb.cell (p := ⟨w1.heap.size, 1, none⟩) (by show w1.heap.size < w4.heap.size; omega)).trans c1_4
    have c2_5 := (hb.cell (p := ⟨w1.heap.size, 2, none⟩) (by show w1.heap.size < w4.heap.size; omega)).trans c2_4
    have c3_5 := (hb.cell (p := ⟨w1.heap.size, 3, none⟩) (by show w1.heap.size < w4.heap.size; omega)).trans c3_4
    have c4_5 := (hb.cell (p := ⟨w1.heap.size, 4, none⟩) (by show w1.heap.size < w4.heap.size; omega)).trans c4_4
    have c5_5 := (hb.cell (p := ⟨w1.heap.size, 5, none⟩) (by show w1.heap.size < w4.heap.size; omega)).trans c5_4
    have c6_5 := (hb.cell (p := ⟨w1.heap.size, 6, none⟩) (by show w1.heap.size < w4.heap.size; omega)).trans c6_4
    have G5 := Lib.hid (G4.out.stepAt hb)
    clear hb c0_4 c1_4 c2_4 c3_4 c4_4 c5_4 c6_4 KE G4 T4
    go_wp2_with fail
    refine (KA.out _ _ G5.out).mono ?_
    rintro e w6 ⟨rfl, hb⟩
    have n6 := n5.trans (hb.mono n5.size)
    have z16 : w1.heap.size < w6.heap.size := by have := hb.size; omega
    have c0_6 := (hb.cell (p := ⟨w1.heap.size, 0, none⟩) (by show w1.heap.size < w5.heap.size; omega)).trans c0_5
    have c1_6 := (hb.cell (p := ⟨w1.heap.size, 1, none⟩) (by show w1.heap.size < w5.heap.size; omega)).trans c1_5
    have c2_6 := (hb.cell (p := ⟨w1.heap.size, 2, none⟩) (by show w1.heap.size < w5.heap.size; omega)).trans c2_5
    have c3_6 := (hb.cell (p := ⟨w1.heap.size, 3, none⟩) (by show w1.heap.size < w5.heap.size; omega)).trans c3_5
    have c4_6 := (hb.cell (p := ⟨w1.heap.size, 4, none⟩) (by show w1.heap.size < w5.heap.size; omega)).trans c4_5
    have c5_6 := (hb.cell (p := ⟨w1.heap.size, 5, none⟩) (by show w1.heap.size < w5.heap.size; omega)).trans c5_5
    have c6_6 := (hb.cell (p := ⟨w1.heap.size, 6, none⟩) (by show w1.heap.size < w5.heap.size; omega)).trans c6_5
    have G6 := Lib.hid (G5.out.stepAt hb)
    clear hb c0_5 c1_5 c2_5 c3_5 c4_5 c5_5 c6_5 KA G5
    obtain ⟨gb, go, rfl⟩ : ∃ b o, ga = some ⟨b, o, none⟩ := by
      rcases HF3.out with ⟨_, _, h0⟩ | h
      · rw [h0] at hp3; simp at hp3
      · exact h
    clear HF3
    obtain ⟨j, hjk⟩ : ∃ j, j = k + 1 := ⟨_, rfl⟩
    have H1 := Lib.hid (show ∀ V, Below w6.heap.size w6 V → ∀ cp, RlAt V V.heap.size (.slice (some ⟨gb, go + k * 7, none⟩) (j - k) cp) [(x, (a, b, c, d), f, M)] from fun V hV cp => by
      have h1 := RlAt_drop (cap' := cp) (G6.out.stepAt hV) (k := k) (by omega)
      have h2 : G.length - k = (G.drop k).length := by simp
      rw [h2] at h1
      have h3 := RlAt_take (cap' := cp) h1 (k := 1) (by simp; omega)
      rw [HP4.out] at h3
      rwa [show j - k = 1 by omega])
    have H2 := Lib.hid (show ∀ V, Below w6.heap.size w6 V → RlAt V w6.heap.size (.slice (some ⟨gb, go, none⟩) k gc) (G.take k) from fun V hV => RlAt_take (G6.out.below hV) (by omega))
    have HJ := Lib.hid hjk
    have k0 : (0 : Int) ≤ (k : Int) := by omega
    have k1 : (k : Int) ≤ (j : Int) := by omega
    have k2 : (j : Int) ≤ (G.length : Int) := by omega
    have k3 : (j : Int) ≤ (gc : Int) := by omega
    have k4 : (k : Int) ≤ (gc : Int) := by omega
    have k5 : (0 : Int) ≤ (j : Int) := by omega
    have k6 : (G.length : Int) ≤ (gc : Int) := by omega
    have k7 : ¬ gc = k := by omega
    have kw : IntKind.i64.wrap ((k : Int) + 1) = (j : Int) := (IntWalk.i64_in _ (by omega)).trans (by omega)
    have kg : (decide ((0 : Int) ≤ (k : Int))) = true := decide_eq_true k0
    have HSL := Lib.hid (show 0 + k + (G.length - j) = S.length by have := HGL.out; omega)
    have kj : k ≤ j ∧ j ≤ 32 := by omega
    clear hjk hp3
    by_cases he : j = gc
    · have H3 := Lib.hid (show ∀ V, Below w6.heap.size w6 V → RlAt V w6.heap.size (.slice (some ⟨gb, go, none⟩) (G.length - j) 0) (G.drop j) from fun V _ => by
        have hd : G.drop j = [] := List.drop_eq_nil_of_le (by omega)
        rw [hd, show G.length - j = 0 by omega]
        exact ⟨_, _, rfl, .inl rfl⟩)
      subst he
      clear hcap3
      go_wp2_with fail
      go_region_held3 (fun V => V.cell? ⟨w1.heap.size, 0, none⟩ = some (.int .i64 x) ∧ V.cell? ⟨w1.heap.size, 1, none⟩ = some (.int .i64 a) ∧ V.cell? ⟨w1.heap.size, 2, none⟩ = some (.int .i64 b) ∧ V.cell? ⟨w1.heap.size, 3, none⟩ = some (.int .i64 c) ∧ V.cell? ⟨w1.heap.size, 4, none⟩ = some (.int .i64 d) ∧ V.cell? ⟨w1.heap.size, 5, none⟩ = some (.bool f) ∧ V.cell? ⟨w1.heap.size, 6, none⟩ = some (.slice na M.length ncap)) (go_keep)
        (first
          | (go_at_call 41; refine (KO.out _ _ (G6.out.stepAt (by go_grown))).mono ?_; rintro e x1 ⟨rfl, h1⟩; have m1 : Below w6.heap.size w6 x1 := Below.step (by go_grown) h1; have ms1 : w6.heap.size ≤ x1.heap.size := m1.size; have r0x1 : x1.cell? ⟨w1.heap.size, 0, none⟩ = some (.int .i64 x) := (m1.cell (p := ⟨w1.heap.size, 0, none⟩) (by show w1.heap.size < w6.heap.size; omega)).trans c0_6; have r1x1 : x1.cell? ⟨w1.heap.size, 1, none⟩ = some (.int .i64 a) := (m1.cell (p := ⟨w1.heap.size, 1, none⟩) (by show w1.heap.size < w6.heap.size; omega)).trans c1_6; have r2x1 : x1.cell? ⟨w1.heap.size, 2, none⟩ = some (.int .i64 b) := (m1.cell (p := ⟨w1.heap.size, 2, none⟩) (by show w1.heap.size < w6.heap.size; omega)).trans c2_6; have r3x1 : x1.cell? ⟨w1.heap.size, 3, none⟩ = some (.int .i64 c) := (m1.cell (p := ⟨w1.heap.size, 3, none⟩) (by show w1.heap.size < w6.heap.size; omega)).trans c3_6; have r4x1 : x1.cell? ⟨w1.heap.size, 4, none⟩ = some (.int .i64 d) := (m1.cell (p := ⟨w1.heap.size, 4, none⟩) (by show w1.heap.size < w6.heap.size; omega)).trans c4_6; have r5x1 : x1.cell? ⟨w1.heap.size, 5, none⟩ = some (.bool f) := (m1.cell (p := ⟨w1.heap.size, 5, none⟩) (by show w1.heap.size < w6.heap.size; omega)).trans c5_6; have r6x1 : x1.cell? ⟨w1.heap.size, 6, none⟩ = some (.slice na M.length ncap) := (m1.cell (p := ⟨w1.heap.size, 6, none⟩) (by show w1.heap.size < w6.heap.size; omega)).trans c6_6)
          | (go_at_call 38; (with_reducible refine Calls.mono (K1.out _ _ _ ?_ ?_) ?_); exact H1.out _ (by go_grown <;> exact ms1) _; exact one_row (by go_simp) (by go_simp) (by go_simp) (by go_simp) (by go_simp) (by go_simp) (by go_simp) (by simp) (HX.out.stepAt (n6.trans (Below.mono (by go_grown <;> exact ms1) n6.size))); rintro e x2 ⟨rfl, h2⟩; have m2 : Below w6.heap.size w6 x2 := m1.trans ((Below.step (by go_grown) h2).mono m1.size); have r0x2 : x2.cell? ⟨w1.heap.size, 0, none⟩ = some (.int .i64 x) := (m2.cell (p := ⟨w1.heap.size, 0, none⟩) (by show w1.heap.size < w6.heap.size; omega)).trans c0_6; have r1x2 : x2.cell? ⟨w1.heap.size, 1, none⟩ = some (.int .i64 a) := (m2.cell (p := ⟨w1.heap.size, 1, none⟩) (by show w1.heap.size < w6.heap.size; omega)).trans c1_6; have r2x2 : x2.cell? ⟨w1.heap.size, 2, none⟩ = some (.int .i64 b) := (m2.cell (p := ⟨w1.heap.size, 2, none⟩) (by show w1.heap.size < w6.heap.size; omega)).trans c2_6; have r3x2 : x2.cell? ⟨w1.heap.size, 3, none⟩ = some (.int .i64 c) := (m2.cell (p := ⟨w1.heap.size, 3, none⟩) (by show w1.heap.size < w6.heap.size; omega)).trans c3_6; have r4x2 : x2.cell? ⟨w1.heap.size, 4, none⟩ = some (.int .i64 d) := (m2.cell (p := ⟨w1.heap.size, 4, none⟩) (by show w1.heap.size < w6.heap.size; omega)).trans c4_6; have r5x2 : x2.cell? ⟨w1.heap.size, 5, none⟩ = some (.bool f) := (m2.cell (p := ⟨w1.heap.size, 5, none⟩) (by show w1.heap.size < w6.heap.size; omega)).trans c5_6; have r6x2 : x2.cell? ⟨w1.heap.size, 6, none⟩ = some (.slice na M.length ncap) := (m2.cell (p := ⟨w1.heap.size, 6, none⟩) (by show w1.heap.size < w6.heap.size; omega)).trans c6_6; obtain ⟨news1, e1, l1, s1, nw1, o1⟩ := rows_of (H2.out (x2.alloc (.cells #[] 54)) (m2.alloc m2.size _)); have E1 := Lib.hid e1; clear e1; have S1 := Lib.hid s1; have NW1 := Lib.hid nw1; have O1 := Lib.hid o1; have L1 := Lib.hid l1; clear s1 nw1 o1 l1)
          | (refine step_append_want _ (by rfl) (.tmp 70) (.tmp 73) 31 rfl x2.heap.size 54 i0 (.agg #[.int .i64 0, .int .i64 0, .int .i64 0, .int .i64 0, .int .i64 0, .bool false, .slice none 0 0]) 7 72 Try.underlying31 hi hz0 hz1 hz2 rfl (by decide) _ 0 [] (by rfl) (RSh.made (w := x2) rfl (Nat.le_refl _)) ⟨gb, go, none⟩ k j news1 (by rfl) L1.out NW1.out O1.out (by unfold maxLen; omega) (by omega) (by first | exact Nat.le_refl _ | omega | (simp; done) | (simp; omega)) ?_; intro ac cc x3 own3 grow3 at3; have m3 : Below w6.heap.size w6 x3 := (m2.alloc m2.size _).grown grow3 (Nat.le_trans m2.size (by simp)) (fun kk e => by have e' : some x2.heap.size = some kk := e; injection e' with e'; have := m2.size; omega); have z23 : x2.heap.size ≤ x3.heap.size := Nat.le_trans (by simp) grow3.size; have nb3 : Below w6.heap.size (x2.alloc (.cells #[] 54)) x3 := (Below.refl _ _).grown grow3 (Nat.le_trans m2.size (by simp)) (fun kk e => by have e' : some x2.heap.size = some kk := e; injection e' with e'; have := m2.size; omega); obtain ⟨news2, e2, l2, s2, nw2, o2⟩ := rows_of (H3.out x3 m3); clear e2; have S2 := Lib.hid s2; have NW2 := Lib.hid nw2; have O2 := Lib.hid o2; have L2 := Lib.hid l2; have OWN3 := Lib.hid own3; clear s2 nw2 o2 l2 own3; have r0x3 : x3.cell? ⟨w1.heap.size, 0, none⟩ = some (.int .i64 x) := (m3.cell (p := ⟨w1.heap.size, 0, none⟩) (by show w1.heap.size < w6.heap.size; omega)).trans c0_6; have r1x3 : x3.cell? ⟨w1.heap.size, 1, none⟩ = some (.int .i64 a) := (m3.cell (p := ⟨w1.heap.size, 1, none⟩) (by show w1.heap.size < w6.heap.size; omega)).trans c1_6; have r2x3 : x3.cell? ⟨w1.heap.size, 2, none⟩ = some (.int .i64 b) := (m3.cell (p := ⟨w1.heap.size, 2, none⟩) (by show w1.heap.size < w6.heap.size; omega)).trans c2_6; have r3x3 : x3.cell? ⟨w1.heap.size, 3, none⟩ = some (.int .i64 c) := (m3.cell (p := ⟨w1.heap.size, 3, none⟩) (by show w1.heap.size < w6.heap.size; omega)).trans c3_6; have r4x3 : x3.cell? ⟨w1.heap.size, 4, none⟩ = some (.int .i64 d) := (m3.cell (p := ⟨w1.heap.size, 4, none⟩) (by show w1.heap.size < w6.heap.size; omega)).trans c4_6; have r5x3 : x3.cell? ⟨w1.heap.size, 5, none⟩ = some (.bool f) := (m3.cell (p := ⟨w1.heap.size, 5, none⟩) (by show w1.heap.size < w6.heap.size; omega)).trans c5_6; have r6x3 : x3.cell? ⟨w1.heap.size, 6, none⟩ = some (.slice na M.length ncap) := (m3.cell (p := ⟨w1.heap.size, 6, none⟩) (by show w1.heap.size < w6.heap.size; omega)).trans c6_6)
          | (refine step_append_want _ (by rfl) (.tmp 74) (.tmp 78) 31 rfl x2.heap.size 54 i0 (.agg #[.int .i64 0, .int .i64 0, .int .i64 0, .int .i64 0, .int .i64 0, .bool false, .slice none 0 0]) 7 72 Try.underlying31 hi hz0 hz1 hz2 rfl (by decide) _ (0 + k) ([] ++ news1) (by rfl) OWN3.out ⟨gb, go, none⟩ (G.length - j) 0 news2 (by rfl) L2.out NW2.out O2.out (by unfold maxLen; omega) (by omega) (by first | exact Nat.le_refl _ | omega | (simp; done) | (simp; omega)) ?_; intro ad cd x4 own4 grow4 at4; have m4 : Below w6.heap.size w6 x4 := m3.grown grow4 m3.size (fun kk e => Nat.le_trans m2.size ((World.ownsRow.lt OWN3.out) kk e).1); have nb4 : Below w6.heap.size x3 x4 := (Below.refl _ _).grown grow4 m3.size (fun kk e => Nat.le_trans m2.size ((World.ownsRow.lt OWN3.out) kk e).1); have OWN4 := Lib.hid own4; clear own4; have r0x4 : x4.cell? ⟨w1.heap.size, 0, none⟩ = some (.int .i64 x) := (m4.cell (p := ⟨w1.heap.size, 0, none⟩) (by show w1.heap.size < w6.heap.size; omega)).trans c0_6; have r1x4 : x4.cell? ⟨w1.heap.size, 1, none⟩ = some (.int .i64 a) := (m4.cell (p := ⟨w1.heap.size, 1, none⟩) (by show w1.heap.size < w6.heap.size; omega)).trans c1_6; have r2x4 : x4.cell? ⟨w1.heap.size, 2, none⟩ = some (.int .i64 b) := (m4.cell (p := ⟨w1.heap.size, 2, none⟩) (by show w1.heap.size < w6.heap.size; omega)).trans c2_6; have r3x4 : x4.cell? ⟨w1.heap.size, 3, none⟩ = some (.int .i64 c) := (m4.cell (p := ⟨w1.heap.size, 3, none⟩) (by show w1.heap.size < w6.heap.size; omega)).trans c3_6; have r4x4 : x4.cell? ⟨w1.heap.size, 4, none⟩ = some (.int .i64 d) := (m4.cell (p := ⟨w1.heap.size, 4, none⟩) (by show w1.heap.size < w6.heap.size; omega)).trans c4_6; have r5x4 : x4.cell? ⟨w1.heap.size, 5, none⟩ = some (.bool f) := (m4.cell (p := ⟨w1.heap.size, 5, none⟩) (by show w1.heap.size < w6.heap.size; omega)).trans c5_6; have r6x4 : x4.cell? ⟨w1.heap.size, 6, none⟩ = some (.slice na M.length ncap) := (m4.cell (p := ⟨w1.heap.size, 6, none⟩) (by show w1.heap.size < w6.heap.size; omega)).trans c6_6)
          | (go_at_call 38; (with_reducible refine Calls.mono (K2.out _ _ _ ?_ ?_) ?_); have ANS := (RSh.of (S := S) OWN4.out (by rw [← HP5.out, ← HJ.out]; exact (((S1.out.below nb3).append (by rw [← E1.out]; exact L1.out) S2.out).below nb4).mono m2.size) HSL.out).at (Nat.le_trans z23 grow4.size); rw [Nat.zero_add] at ANS; exact ANS; exact H.out.stepAt (n6.trans (m4.mono n6.size)); rintro e x5 ⟨rfl, h5⟩; have m5 := m4.trans (h5.mono m4.size); have r0x5 : x5.cell? ⟨w1.heap.size, 0, none⟩ = some (.int .i64 x) := (m5.cell (p := ⟨w1.heap.size, 0, none⟩) (by show w1.heap.size < w6.heap.size; omega)).trans c0_6; have r1x5 : x5.cell? ⟨w1.heap.size, 1, none⟩ = some (.int .i64 a) := (m5.cell (p := ⟨w1.heap.size, 1, none⟩) (by show w1.heap.size < w6.heap.size; omega)).trans c1_6; have r2x5 : x5.cell? ⟨w1.heap.size, 2, none⟩ = some (.int .i64 b) := (m5.cell (p := ⟨w1.heap.size, 2, none⟩) (by show w1.heap.size < w6.heap.size; omega)).trans c2_6; have r3x5 : x5.cell? ⟨w1.heap.size, 3, none⟩ = some (.int .i64 c) := (m5.cell (p := ⟨w1.heap.size, 3, none⟩) (by show w1.heap.size < w6.heap.size; omega)).trans c3_6; have r4x5 : x5.cell? ⟨w1.heap.size, 4, none⟩ = some (.int .i64 d) := (m5.cell (p := ⟨w1.heap.size, 4, none⟩) (by show w1.heap.size < w6.heap.size; omega)).trans c4_6; have r5x5 : x5.cell? ⟨w1.heap.size, 5, none⟩ = some (.bool f) := (m5.cell (p := ⟨w1.heap.size, 5, none⟩) (by show w1.heap.size < w6.heap.size; omega)).trans c5_6; have r6x5 : x5.cell? ⟨w1.heap.size, 6, none⟩ = some (.slice na M.length ncap) := (m5.cell (p := ⟨w1.heap.size, 6, none⟩) (by show w1.heap.size < w6.heap.size; omega)).trans c6_6)
          | fail)
      all_goals
        have n7 := n6.trans (m5.mono n6.size)
        go_wp2_with fail
        go_ret
        exact ⟨rfl, b1.trans (n7.mono b1.size)⟩
    · have H3 := Lib.hid (show ∀ V, Below w6.heap.size w6 V → RlAt V w6.heap.size (.slice (some ⟨gb, go + j * 7, none⟩) (G.length - j) (gc - j)) (G.drop j) from fun V hV => RlAt_drop (cap' := gc - j) (G6.out.below hV) (k := j) (by omega))
      have k9 : ¬ gc = j := fun e => he e.symm
      clear he hcap3
      go_wp2_with fail
      go_region_held3 (fun V => V.cell? ⟨w1.heap.size, 0, none⟩ = some (.int .i64 x) ∧ V.cell? ⟨w1.heap.size, 1, none⟩ = some (.int .i64 a) ∧ V.cell? ⟨w1.heap.size, 2, none⟩ = some (.int .i64 b) ∧ V.cell? ⟨w1.heap.size, 3, none⟩ = some (.int .i64 c) ∧ V.cell? ⟨w1.heap.size, 4, none⟩ = some (.int .i64 d) ∧ V.cell? ⟨w1.heap.size, 5, none⟩ = some (.bool f) ∧ V.cell? ⟨w1.heap.size, 6, none⟩ = some (.slice na M.length ncap)) (go_keep)
        (first
          | (go_at_call 41; refine (KO.out _ _ (G6.out.stepAt (by go_grown))).mono ?_; rintro e x1 ⟨rfl, h1⟩; have m1 : Below w6.heap.size w6 x1 := Below.step (by go_grown) h1; have ms1 : w6.heap.size ≤ x1.heap.size := m1.size; have r0x1 : x1.cell? ⟨w1.heap.size, 0, none⟩ = some (.int .i64 x) := (m1.cell (p := ⟨w1.heap.size, 0, none⟩) (by show w1.heap.size < w6.heap.size; omega)).trans c0_6; have r1x1 : x1.cell? ⟨w1.heap.size, 1, none⟩ = some (.int .i64 a) := (m1.cell (p := ⟨w1.heap.size, 1, none⟩) (by show w1.heap.size < w6.heap.size; omega)).trans c1_6; have r2x1 : x1.cell? ⟨w1.heap.size, 2, none⟩ = some (.int .i64 b) := (m1.cell (p := ⟨w1.heap.size, 2, none⟩) (by show w1.heap.size < w6.heap.size; omega)).trans c2_6; have r3x1 : x1.cell? ⟨w1.heap.size, 3, none⟩ = some (.int .i64 c) := (m1.cell (p := ⟨w1.heap.size, 3, none⟩) (by show w1.heap.size < w6.heap.size; omega)).trans c3_6; have r4x1 : x1.cell? ⟨w1.heap.size, 4, none⟩ = some (.int .i64 d) := (m1.cell (p := ⟨w1.heap.size, 4, none⟩) (by show w1.heap.size < w6.heap.size; omega)).trans c4_6; have r5x1 : x1.cell? ⟨w1.heap.size, 5, none⟩ = some (.bool f) := (m1.cell (p := ⟨w1.heap.size, 5, none⟩) (by show w1.heap.size < w6.heap.size; omega)).trans c5_6; have r6x1 : x1.cell? ⟨w1.heap.size, 6, none⟩ = some (.slice na M.length ncap) := (m1.cell (p := ⟨w1.heap.size, 6, none⟩) (by show w1.heap.size < w6.heap.size; omega)).trans c6_6)
          | (go_at_call 38; (with_reducible refine Calls.mono (K1.out _ _ _ ?_ ?_) ?_); exact H1.out _ (by go_grown <;> exact ms1) _; exact one_row (by go_simp) (by go_simp) (by go_simp) (by go_simp) (by go_simp) (by go_simp) (by go_simp) (by simp) (HX.out.stepAt (n6.trans (Below.mono (by go_grown <;> exact ms1) n6.size))); rintro e x2 ⟨rfl, h2⟩; have m2 : Below w6.heap.size w6 x2 := m1.trans ((Below.step (by go_grown) h2).mono m1.size); have r0x2 : x2.cell? ⟨w1.heap.size, 0, none⟩ = some (.int .i64 x) := (m2.cell (p := ⟨w1.heap.size, 0, none⟩) (by show w1.heap.size < w6.heap.size; omega)).trans c0_6; have r1x2 : x2.cell? ⟨w1.heap.size, 1, none⟩ = some (.int .i64 a) := (m2.cell (p := ⟨w1.heap.size, 1, none⟩) (by show w1.heap.size < w6.heap.size; omega)).trans c1_6; have r2x2 : x2.cell? ⟨w1.heap.size, 2, none⟩ = some (.int .i64 b) := (m2.cell (p := ⟨w1.heap.size, 2, none⟩) (by show w1.heap.size < w6.heap.size; omega)).trans c2_6; have r3x2 : x2.cell? ⟨w1.heap.size, 3, none⟩ = some (.int .i64 c) := (m2.cell (p := ⟨w1.heap.size, 3, none⟩) (by show w1.heap.size < w6.heap.size; omega)).trans c3_6; have r4x2 : x2.cell? ⟨w1.heap.size, 4, none⟩ = some (.int .i64 d) := (m2.cell (p := ⟨w1.heap.size, 4, none⟩) (by show w1.heap.size < w6.heap.size; omega)).trans c4_6; have r5x2 : x2.cell? ⟨w1.heap.size, 5, none⟩ = some (.bool f) := (m2.cell (p := ⟨w1.heap.size, 5, none⟩) (by show w1.heap.size < w6.heap.size; omega)).trans c5_6; have r6x2 : x2.cell? ⟨w1.heap.size, 6, none⟩ = some (.slice na M.length ncap) := (m2.cell (p := ⟨w1.heap.size, 6, none⟩) (by show w1.heap.size < w6.heap.size; omega)).trans c6_6; obtain ⟨news1, e1, l1, s1, nw1, o1⟩ := rows_of (H2.out (x2.alloc (.cells #[] 54)) (m2.alloc m2.size _)); have E1 := Lib.hid e1; clear e1; have S1 := Lib.hid s1; have NW1 := Lib.hid nw1; have O1 := Lib.hid o1; have L1 := Lib.hid l1; clear s1 nw1 o1 l1)
          | (refine step_append_want _ (by rfl) (.tmp 70) (.tmp 73) 31 rfl x2.heap.size 54 i0 (.agg #[.int .i64 0, .int .i64 0, .int .i64 0, .int .i64 0, .int .i64 0, .bool false, .slice none 0 0]) 7 72 Try.underlying31 hi hz0 hz1 hz2 rfl (by decide) _ 0 [] (by rfl) (RSh.made (w := x2) rfl (Nat.le_refl _)) ⟨gb, go, none⟩ k gc news1 (by rfl) L1.out NW1.out O1.out (by unfold maxLen; omega) (by omega) (by first | exact Nat.le_refl _ | omega | (simp; done) | (simp; omega)) ?_; intro ac cc x3 own3 grow3 at3; have m3 : Below w6.heap.size w6 x3 := (m2.alloc m2.size _).grown grow3 (Nat.le_trans m2.size (by simp)) (fun kk e => by have e' : some x2.heap.size = some kk := e; injection e' with e'; have := m2.size; omega); have z23 : x2.heap.size ≤ x3.heap.size := Nat.le_trans (by simp) grow3.size; have nb3 : Below w6.heap.size (x2.alloc (.cells #[] 54)) x3 := (Below.refl _ _).grown grow3 (Nat.le_trans m2.size (by simp)) (fun kk e => by have e' : some x2.heap.size = some kk := e; injection e' with e'; have := m2.size; omega); obtain ⟨news2, e2, l2, s2, nw2, o2⟩ := rows_of (H3.out x3 m3); clear e2; have S2 := Lib.hid s2; have NW2 := Lib.hid nw2; have O2 := Lib.hid o2; have L2 := Lib.hid l2; have OWN3 := Lib.hid own3; clear s2 nw2 o2 l2 own3; have r0x3 : x3.cell? ⟨w1.heap.size, 0, none⟩ = some (.int .i64 x) := (m3.cell (p := ⟨w1.heap.size, 0, none⟩) (by show w1.heap.size < w6.heap.size; omega)).trans c0_6; have r1x3 : x3.cell? ⟨w1.heap.size, 1, none⟩ = some (.int .i64 a) := (m3.cell (p := ⟨w1.heap.size, 1, none⟩) (by show w1.heap.size < w6.heap.size; omega)).trans c1_6; have r2x3 : x3.cell? ⟨w1.heap.size, 2, none⟩ = some (.int .i64 b) := (m3.cell (p := ⟨w1.heap.size, 2, none⟩) (by show w1.heap.size < w6.heap.size; omega)).trans c2_6; have r3x3 : x3.cell? ⟨w1.heap.size, 3, none⟩ = some (.int .i64 c) := (m3.cell (p := ⟨w1.heap.size, 3, none⟩) (by show w1.heap.size < w6.heap.size; omega)).trans c3_6; have r4x3 : x3.cell? ⟨w1.heap.size, 4, none⟩ = some (.int .i64 d) := (m3.cell (p := ⟨w1.heap.size, 4, none⟩) (by show w1.heap.size < w6.heap.size; omega)).trans c4_6; have r5x3 : x3.cell? ⟨w1.heap.size, 5, none⟩ = some (.bool f) := (m3.cell (p := ⟨w1.heap.size, 5, none⟩) (by show w1.heap.size < w6.heap.size; omega)).trans c5_6; have r6x3 : x3.cell? ⟨w1.heap.size, 6, none⟩ = some (.slice na M.length ncap) := (m3.cell (p := ⟨w1.heap.size, 6, none⟩) (by show w1.heap.size < w6.heap.size; omega)).trans c6_6)
          | (refine step_append_want _ (by rfl) (.tmp 74) (.tmp 78) 31 rfl x2.heap.size 54 i0 (.agg #[.int .i64 0, .int .i64 0, .int .i64 0, .int .i64 0, .int .i64 0, .bool false, .slice none 0 0]) 7 72 Try.underlying31 hi hz0 hz1 hz2 rfl (by decide) _ (0 + k) ([] ++ news1) (by rfl) OWN3.out ⟨gb, go + j * 7, none⟩ (G.length - j) (gc - j) news2 (by rfl) L2.out NW2.out O2.out (by unfold maxLen; omega) (by omega) (by first | exact Nat.le_refl _ | omega | (simp; done) | (simp; omega)) ?_; intro ad cd x4 own4 grow4 at4; have m4 : Below w6.heap.size w6 x4 := m3.grown grow4 m3.size (fun kk e => Nat.le_trans m2.size ((World.ownsRow.lt OWN3.out) kk e).1); have nb4 : Below w6.heap.size x3 x4 := (Below.refl _ _).grown grow4 m3.size (fun kk e => Nat.le_trans m2.size ((World.ownsRow.lt OWN3.out) kk e).1); have OWN4 := Lib.hid own4; clear own4; have r0x4 : x4.cell? ⟨w1.heap.size, 0, none⟩ = some (.int .i64 x) := (m4.cell (p := ⟨w1.heap.size, 0, none⟩) (by show w1.heap.size < w6.heap.size; omega)).trans c0_6; have r1x4 : x4.cell? ⟨w1.heap.size, 1, none⟩ = some (.int .i64 a) := (m4.cell (p := ⟨w1.heap.size, 1, none⟩) (by show w1.heap.size < w6.heap.size; omega)).trans c1_6; have r2x4 : x4.cell? ⟨w1.heap.size, 2, none⟩ = some (.int .i64 b) := (m4.cell (p := ⟨w1.heap.size, 2, none⟩) (by show w1.heap.size < w6.heap.size; omega)).trans c2_6; have r3x4 : x4.cell? ⟨w1.heap.size, 3, none⟩ = some (.int .i64 c) := (m4.cell (p := ⟨w1.heap.size, 3, none⟩) (by show w1.heap.size < w6.heap.size; omega)).trans c3_6; have r4x4 : x4.cell? ⟨w1.heap.size, 4, none⟩ = some (.int .i64 d) := (m4.cell (p := ⟨w1.heap.size, 4, none⟩) (by show w1.heap.size < w6.heap.size; omega)).trans c4_6; have r5x4 : x4.cell? ⟨w1.heap.size, 5, none⟩ = some (.bool f) := (m4.cell (p := ⟨w1.heap.size, 5, none⟩) (by show w1.heap.size < w6.heap.size; omega)).trans c5_6; have r6x4 : x4.cell? ⟨w1.heap.size, 6, none⟩ = some (.slice na M.length ncap) := (m4.cell (p := ⟨w1.heap.size, 6, none⟩) (by show w1.heap.size < w6.heap.size; omega)).trans c6_6)
          | (go_at_call 38; (with_reducible refine Calls.mono (K2.out _ _ _ ?_ ?_) ?_); have ANS := (RSh.of (S := S) OWN4.out (by rw [← HP5.out, ← HJ.out]; exact (((S1.out.below nb3).append (by rw [← E1.out]; exact L1.out) S2.out).below nb4).mono m2.size) HSL.out).at (Nat.le_trans z23 grow4.size); rw [Nat.zero_add] at ANS; exact ANS; exact H.out.stepAt (n6.trans (m4.mono n6.size)); rintro e x5 ⟨rfl, h5⟩; have m5 := m4.trans (h5.mono m4.size); have r0x5 : x5.cell? ⟨w1.heap.size, 0, none⟩ = some (.int .i64 x) := (m5.cell (p := ⟨w1.heap.size, 0, none⟩) (by show w1.heap.size < w6.heap.size; omega)).trans c0_6; have r1x5 : x5.cell? ⟨w1.heap.size, 1, none⟩ = some (.int .i64 a) := (m5.cell (p := ⟨w1.heap.size, 1, none⟩) (by show w1.heap.size < w6.heap.size; omega)).trans c1_6; have r2x5 : x5.cell? ⟨w1.heap.size, 2, none⟩ = some (.int .i64 b) := (m5.cell (p := ⟨w1.heap.size, 2, none⟩) (by show w1.heap.size < w6.heap.size; omega)).trans c2_6; have r3x5 : x5.cell? ⟨w1.heap.size, 3, none⟩ = some (.int .i64 c) := (m5.cell (p := ⟨w1.heap.size, 3, none⟩) (by show w1.heap.size < w6.heap.size; omega)).trans c3_6; have r4x5 : x5.cell? ⟨w1.heap.size, 4, none⟩ = some (.int .i64 d) := (m5.cell (p := ⟨w1.heap.size, 4, none⟩) (by show w1.heap.size < w6.heap.size; omega)).trans c4_6; have r5x5 : x5.cell? ⟨w1.heap.size, 5, none⟩ = some (.bool f) := (m5.cell (p := ⟨w1.heap.size, 5, none⟩) (by show w1.heap.size < w6.heap.size; omega)).trans c5_6; have r6x5 : x5.cell? ⟨w1.heap.size, 6, none⟩ = some (.slice na M.length ncap) := (m5.cell (p := ⟨w1.heap.size, 6, none⟩) (by show w1.heap.size < w6.heap.size; omega)).trans c6_6)
          | fail)
      all_goals
        have n7 := n6.trans (m5.mono n6.size)
        go_wp2_with fail
        go_ret
        exact ⟨rfl, b1.trans (n7.mono b1.size)⟩

set_option maxRecDepth 100000 in
set_option maxHeartbeats 1000000 in
theorem putP_long (a : Option Addr) (len cap : Nat) (w : World) (hl : 1048576 < len) :
    Calls Try.prog 6 #[.slice a len cap] w fun e w' => e = .returned (.bool true) ∧ Below w.heap.size w w' := by
  go_enter Try.func6, Try.ntmps6
  go_wp2
  go_ret
  exact ⟨rfl, Below.refl _ _⟩

theorem putP_walk (a : Option Addr) (len cap : Nat) (w : World) (h : CodeIn w a len cap) :
    Calls Try.prog 6 #[.slice a len cap] w fun e w' => e = .returned (.bool true) ∧ Below w.heap.size w w' := by
  by_cases hl : len ≤ 1048576
  · exact putP_short a len cap w h hl
  · exact putP_long a len cap w (by omega)
end Psp

set_option maxRecDepth 100000 in
theorem shelfPutP_holds : Rows.FnShelfPutSaid :=
  OpenClaim.holds_of_wide 6 Try.f6 rfl rfl rfl rfl rfl rfl rfl ⟨rfl, rfl, rfl, rfl, rfl⟩ rfl rfl rfl rfl rfl (by kernel_rfl) Try.func6 (by kernel_rfl)
    (of_decide_eq_true (by kernel_rfl)) (by unfold Func.isWrapper; rw [if_neg (by decide +kernel)]; exact ⟨rfl, rfl⟩)
    (fun os started H enc _ => law_lifted (s := Rows.fnShelfPutSpec) (tb := 4) own started laid (by kernel_rfl) Try.func6 rfl (by kernel_rfl) Try.underlying4 (by kernel_rfl)
      (fun ds h => by rw [Try.params6] at h; match ds, h with | [_], _ => rfl)
      (ChangeSpec.witness6 (enc := enc) (C := Try.checked) false ⟨#[], #[.slice none 0 0], []⟩ 8 (by kernel_rfl) (by kernel_rfl) (by kernel_rfl) (by kernel_rfl))
      (law_code Try.params6 Psp.putP_walk))
#print axioms shelfPutP_holds

end Go.Proofs.Ythbfhalciioehaa
