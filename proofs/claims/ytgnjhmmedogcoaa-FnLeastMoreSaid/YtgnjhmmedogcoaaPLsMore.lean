/- At every code the law FnLeastMore returns true: with one need more a choice of least versions is found just if one is for each of both; a name is picked just if it is for one of both, in a version that is not before those of both, and that of one of them. No condition. -/
import Derived.BigFrame
import Derived.Deep.RegionHeld3
import Derived.Test.YtgnjhmmedogcoaaDlm
import Derived.Test.YtgnjhmmedogcoaaGu
import Derived.Test.YtgnjhmmedogcoaaLsq
import Derived.Test.YtgnjhmmedogcoaaLsx
namespace Go.Proofs.Ytgnjhmmedogcoaa
open Go.ChangeShapes Go.WideShapes Go.ChangeAt Go.RowKit Go.Joins Go.Sort

namespace Plm
open Foot Copy Dsh Dfi Dnm Dls Dlm Nup Cpu Lst
theorem got_is (o : Option V4) : got o = .tuple #[ver (o.getD (0, 0, 0, 0)).1 (o.getD (0, 0, 0, 0)).2.1 (o.getD (0, 0, 0, 0)).2.2.1 (o.getD (0, 0, 0, 0)).2.2.2, .bool o.isSome] := by
  rcases o with _ | ⟨a, b, c, d⟩ <;> rfl

theorem both_true : ∀ a b : Bool, true = (a && b) → a = true ∧ b = true := by decide
structure Tri (u v x : V4) (p q r : Bool) : Prop where
  some : r = (p || q)
  left : p = true → vLess x.1 x.2.1 x.2.2.1 x.2.2.2 u.1 u.2.1 u.2.2.1 u.2.2.2 = false
  right : q = true → vLess x.1 x.2.1 x.2.2.1 x.2.2.2 v.1 v.2.1 v.2.2.1 v.2.2.2 = false
  one : r = true → x = u ∨ x = v
theorem not_less {a c : V4} (h : rkv a ≤ rkv c) : vLess c.1 c.2.1 c.2.2.1 c.2.2.2 a.1 a.2.1 a.2.2.1 a.2.2.2 = false := by
  unfold vLess
  rw [decide_eq_false (by unfold rkv at h; omega)]
  simp
theorem tri_of {S : List Rel} {N : List Nd} {n : Nd} (ha : lvB S N = true) (hb : lvB S [n] = true) (hc : lvB S (N ++ [n]) = true) (z : Int) :
    Tri ((pkOf (leL S N) z).getD (0, 0, 0, 0)) ((pkOf (leL S [n]) z).getD (0, 0, 0, 0)) ((pkOf (leL S (N ++ [n])) z).getD (0, 0, 0, 0)) (pkOf (leL S N) z).isSome (pkOf (leL S [n]) z).isSome (pkOf (leL S (N ++ [n])) z).isSome := by
  obtain ⟨h1, h2⟩ := more_pick ha hb hc z
  rcases hx : pkOf (leL S (N ++ [n])) z with _ | c
  · rw [hx] at h1
    have hp : (pkOf (leL S N) z).isSome = false := by
      rcases h : (pkOf (leL S N) z).isSome
      · rfl
      · rw [h] at h1; simp at h1
    have hq : (pkOf (leL S [n]) z).isSome = false := by
      rcases h : (pkOf (leL S [n]) z).isSome
      · rfl
      · rw [h] at h1; simp at h1
    exact ⟨h1, fun e => (by rw [hp] at e; cases e), fun e => (by rw [hq] at e; cases e), fun e => (by cases e)⟩
  · obtain ⟨h3, h4, h5⟩ := h2 c hx
    rw [hx] at h1
    refine ⟨h1, fun e => ?_, fun e => ?_, fun _ => ?_⟩
    · obtain ⟨a, h⟩ := Option.isSome_iff_exists.1 e
      rw [h]
      exact not_less (h3 a h)
    · obtain ⟨a, h⟩ := Option.isSome_iff_exists.1 e
      rw [h]
      exact not_less (h4 a h)
    · rcases h5 with h | h
      · left; rw [h]
      · right; rw [h]
set_option maxRecDepth 100000 in
set_option maxHeartbeats 16000000 in
theorem lsm_short (a : Option Addr) (len cap : Nat) (w : World) (h : CodeIn w a len cap) (hl : len ≤ 1048576) :
    Calls Try.prog 9 #[.slice a len cap] w fun e w' => e = .returned (.bool true) ∧ Below w.heap.size w w' := by
  obtain ⟨i0, hi, hz0, hz1, hz2⟩ := info_parts infoNeed
  go_enter Try.func9, Try.ntmps9
  go_wp2_with fail
  refine (DrawLeastMore_any a len cap w h).mono ?_
  rintro e w1 ⟨S, sa, caps, M, na, ncap, n, L, la, lc, rfl, hat1, hnd1, hnn, hsp1, hl31, hsz, hM9, hM41, hM3, hn4, hL3, b1⟩
  have hl' : S.length ≤ 1048576 := by omega
  have hq := hsz.big
  have hm' : M.length ≤ 1048576 := by omega
  have hmq : ∀ q ∈ M, q.2.length ≤ 1048576 := fun q hq => by have := hM41 q hq; omega
  have KL : Hid (∀ V u X, X.length ≤ 1048576 → (∀ q ∈ X, q.2.length ≤ 1048576) → RlAt V V.heap.size (.slice sa S.length caps) S → NdAt V V.heap.size u X → Calls Try.prog 24 #[.slice sa S.length caps, u] V (fun e w' => ∃ v, e = .returned (.tuple #[v, .bool (lvB S X)]) ∧ PB (leL S X) V.heap.size w'.heap.size v w' ∧ Below V.heap.size V w')) := Lib.hid fun V u X hX hXq g g' => implLeast_any _ u S X V hl' hq hX hXq g g'
  have KV : Hid (∀ V, Calls Try.prog 37 #[] V fun e w' => e = .returned (.bool true) ∧ Below V.heap.size V w') := Lib.hid fun V => alive_any V
  have HMORE := Lib.hid (fun (h5 : M.length ≠ 5) => lv_more (S := S) (N := M) (n := (n, L)) (show (0 : Int) ≤ n by omega) (fun q hq => by have := hM3 q hq; show q.1 < n; omega) h5)
  have HTRI := Lib.hid (fun ha hb hc z => tri_of (S := S) (N := M) (n := (n, L)) ha hb hc z)
  have KA : Hid (∀ V u, RlAt V V.heap.size (.slice sa S.length caps) S → NdAt V V.heap.size u M → Calls Try.prog 24 #[.slice sa S.length caps, u] V (fun e w' => ∃ v, e = .returned (.tuple #[v, .bool (lvB S M)]) ∧ PB (leL S M) V.heap.size w'.heap.size v w' ∧ Below V.heap.size V w')) := Lib.hid fun V u g g' => KL.out V u M hm' hmq g g'
  have KB : Hid (∀ V u, RlAt V V.heap.size (.slice sa S.length caps) S → NdAt V V.heap.size u [(n, L)] → Calls Try.prog 24 #[.slice sa S.length caps, u] V (fun e w' => ∃ v, e = .returned (.tuple #[v, .bool (lvB S [(n, L)])]) ∧ PB (leL S [(n, L)]) V.heap.size w'.heap.size v w' ∧ Below V.heap.size V w')) := Lib.hid fun V u g g' => KL.out V u [(n, L)] (by simp) (fun q hq => by simp only [List.mem_singleton] at hq; rw [hq]; show L.length ≤ _; omega) g g'
  have KC : Hid (∀ V u, RlAt V V.heap.size (.slice sa S.length caps) S → NdAt V V.heap.size u (M ++ [(n, L)]) → Calls Try.prog 24 #[.slice sa S.length caps, u] V (fun e w' => ∃ v, e = .returned (.tuple #[v, .bool (lvB S (M ++ [(n, L)]))]) ∧ PB (leL S (M ++ [(n, L)])) V.heap.size w'.heap.size v w' ∧ Below V.heap.size V w')) := Lib.hid fun V u g g' => KL.out V u (M ++ [(n, L)]) (by simp; omega) (fun q hq => by
    rcases List.mem_append.1 hq with hq | hq
    · exact hmq q hq
    · simp only [List.mem_singleton] at hq; rw [hq]; show L.length ≤ _; omega) g g'
  have H := Lib.hid hat1
  have HN := Lib.hid hnd1
  have HS := Lib.hid hsp1
  have HNN := Lib.hid hnn
  have hGA30 := leL_len S M
  have hGB30 := leL_len S [(n, L)]
  have hGC30 := leL_len S (M ++ [(n, L)])
  obtain ⟨GA, hGA⟩ : ∃ X, leL S M = X := ⟨_, rfl⟩
  obtain ⟨GB, hGB⟩ : ∃ X, leL S [(n, L)] = X := ⟨_, rfl⟩
  obtain ⟨GC, hGC⟩ : ∃ X, leL S (M ++ [(n, L)]) = X := ⟨_, rfl⟩
  obtain ⟨bA, hbA⟩ : ∃ X, lvB S M = X := ⟨_, rfl⟩
  obtain ⟨bB, hbB⟩ : ∃ X, lvB S [(n, L)] = X := ⟨_, rfl⟩
  obtain ⟨bC, hbC⟩ : ∃ X, lvB S (M ++ [(n, L)]) = X := ⟨_, rfl⟩
  rw [hGA, hbA] at KA
  rw [hGB, hbB] at KB
  rw [hGC, hbC] at KC
  rw [hbA, hbB, hbC] at HMORE
  rw [hGA, hGB, hGC, hbA, hbB, hbC] at HTRI
  rw [hGA] at hGA30
  rw [hGB] at hGB30
  rw [hGC] at hGC30
  clear hGA hGB hGC hbA hbB hbC KL hat1 hnd1 hsp1 hnn h hsz hM41 hM3 hmq hq hn4
  have KP : Hid (∀ V u G z, G.length ≤ 30 → PkAt V V.heap.size u G → Calls Try.prog 41 #[u, .int .i64 z] V fun e w' => e = .returned (got (pkOf G z)) ∧ Below V.heap.size V w') := Lib.hid fun V u G z hG g => implPickOf_any u G z V (by omega) g
  obtain ⟨w2, hw2⟩ : ∃ V : World, V = w1.alloc (.cells #[.int .i64 n, .slice la L.length lc] 59) := ⟨_, rfl⟩
  have n2 : Below w1.heap.size w1 w2 := by rw [hw2]; exact (Below.refl _ _).alloc (Nat.le_refl _) _
  have z12 : w1.heap.size < w2.heap.size := by rw [hw2]; simp
  have c0 : w2.cell? ⟨w1.heap.size, 0, none⟩ = some (.int .i64 n) := by rw [hw2]; go_simp
  have c1 : w2.cell? ⟨w1.heap.size, 1, none⟩ = some (.slice la L.length lc) := by rw [hw2]; go_simp
  go_upto_region 4 with fail
  rw [← hw2]
  clear hw2
  go_wp2_with fail
  refine (KA.out _ _ (H.out.stepAt n2) (HN.out.stepAt n2)).mono ?_
  rintro e w3 ⟨vA, rfl, pA, hb⟩
  have n3 := n2.trans (hb.mono n2.size)
  have z13 : w1.heap.size < w3.heap.size := by have := hb.size; omega
  have c0_3 := (hb.cell (p := ⟨w1.heap.size, 0, none⟩) (by show w1.heap.size < w2.heap.size; omega)).trans c0
  have c1_3 := (hb.cell (p := ⟨w1.heap.size, 1, none⟩) (by show w1.heap.size < w2.heap.size; omega)).trans c1
  obtain ⟨aa, ac, rfl, hx⟩ := id pA
  have A3 := Lib.hid pA.at
  clear hx pA hb c0 c1 n2 KA
  have n3a := n3.alloc n3.size (.cells #[.int .i64 n, .slice la L.length lc] 59)
  have m3a : Below w3.heap.size w3 (w3.alloc (.cells #[.int .i64 n, .slice la L.length lc] 59)) := (Below.refl _ _).alloc (Nat.le_refl _) _
  go_wp2_with fail
  refine (KB.out _ _ (H.out.stepAt n3a) (one_need (w := w3) rfl (SpAt.stepAt HS.out n3a))).mono ?_
  rintro e w4 ⟨vB, rfl, pB, hb⟩
  have m4 := m3a.trans (hb.mono m3a.size)
  have n4 := n3.trans (m4.mono n3.size)
  have z14 : w1.heap.size < w4.heap.size := by have := m4.size; omega
  have c0_4 := (m4.cell (p := ⟨w1.heap.size, 0, none⟩) (by show w1.heap.size < w3.heap.size; omega)).trans c0_3
  have c1_4 := (m4.cell (p := ⟨w1.heap.size, 1, none⟩) (by show w1.heap.size < w3.heap.size; omega)).trans c1_3
  obtain ⟨ba, bc, rfl, hx⟩ := id pB
  have A4 := Lib.hid (A3.out.stepAt m4)
  have B4 := Lib.hid pB.at
  clear hx pB hb c0_3 c1_3 n3 n3a m3a m4 A3 KB
  have H4 := Lib.hid (H.out.stepAt n4)
  have HN4 := HN.out.stepAt n4
  have HS4 := Lib.hid (SpAt.stepAt HS.out n4)
  have hob : ∀ (z c : Nat), (Value.slice (some ⟨z, 0, none⟩) 0 0).ownBlock = some c → c = z := fun z c e => by
    have e' : some z = some c := e
    injection e' with e'
    omega
  have HOB := Lib.hid hob
  clear hob
  obtain ⟨news, l1, l2, l3, l4, l5⟩ := need_cells (W := w4) (B := w4.heap.size) (x := none) HN4 (Nat.le_refl _) (fun c e => by cases e)
  have NL := Lib.hid (show ∀ V, Below w4.heap.size w4 V → ∀ ad, na = some ad → ∀ j u, news[j]? = some u → V.cell? (ad.add j) = some u from fun V g ad e j u hu => by
    have h1 := l3 ad e j u hu
    have h2 := World.block_lt_of_cell? w4 _ h1
    exact (g.cell h2).trans h1)
  have NO := Lib.hid l4
  have NE := Lib.hid (show ∀ V, Below w4.heap.size w4 V → ∀ x : Option Nat, (∀ c, x = some c → w4.heap.size ≤ c) → ∀ i (h : i < M.length), news[i * 2]? = some (.int .i64 M[i].1) ∧ ∃ a cap, news[i * 2 + 1]? = some (.slice a M[i].2.length cap) ∧ SpX V 0 x (.slice a M[i].2.length cap) M[i].2 from fun V g x hx i hi => by
    obtain ⟨h1, a, c, h2, h3⟩ := l5 i hi
    exact ⟨h1, a, c, h2, SpX.of (h3.at.below g) g.size hx⟩)
  have NN := Lib.hid (show na = none → M.length = 0 ∧ ncap = 0 from HNN.out)
  have NLn := Lib.hid l1
  clear l1 l2 l3 l4 l5 HN4 HNN
  have HCELL := Lib.hid (show ∀ V, Below w4.heap.size w4 V → V.cell? ⟨w1.heap.size, 0, none⟩ = some (.int .i64 n) ∧ V.cell? ⟨w1.heap.size, 1, none⟩ = some (.slice la L.length lc) from fun V g => ⟨(g.cell (p := ⟨w1.heap.size, 0, none⟩) (by show w1.heap.size < w4.heap.size; omega)).trans c0_4, (g.cell (p := ⟨w1.heap.size, 1, none⟩) (by show w1.heap.size < w4.heap.size; omega)).trans c1_4⟩)
  have OA := Lib.hid (show (w4.alloc (.cells #[] 59)).ownsRow w4.heap.size 59 2 (.slice (some ⟨w4.heap.size, 0, none⟩) 0 0) 0 [] from World.ownsRow_made w4 #[] 0 (Nat.le_refl _) (by unfold maxLen; omega) rfl)
  have OB := Lib.hid (OA.out.alloc (.cells #[.int .i64 n, .slice la L.length lc] 59))
  have OC := Lib.hid (show ((w4.alloc (.cells #[.int .i64 n, .slice la L.length lc] 59)).alloc (.cells #[] 59)).ownsRow w4.heap.size 59 2 (.slice (some ⟨w4.heap.size + 1, 0, none⟩) 0 0) 0 [] by
    have := World.ownsRow_made (base := w4.heap.size) (e := 59) (size := 2) (w4.alloc (.cells #[.int .i64 n, .slice la L.length lc] 59)) #[] 0 (by simp) (by unfold maxLen; omega) rfl
    rwa [show (w4.alloc (.cells #[.int .i64 n, .slice la L.length lc] 59)).heap.size = w4.heap.size + 1 by simp] at this)
  have LITB := Lib.hid (show ∀ (V x : World) (v : Option Nat), V.heap = ((w4.alloc (.cells #[] 59)).alloc (.cells #[.int .i64 n, .slice la L.length lc] 59)).heap → V.grownBy x v → v ≠ some (w4.heap.size + 1) → ∀ j u, [Value.int .i64 n, .slice la L.length lc][j]? = some u → x.cell? ((⟨w4.heap.size + 1, 0, none⟩ : Addr).add j) = some u from fun V x v hV hg hne j u hu => by
    have h1 := need_new (w := w4.alloc (.cells #[] 59)) (V := V) hV j u hu
    rw [show (w4.alloc (.cells #[] 59)).heap.size = w4.heap.size + 1 by simp] at h1
    have h2 := World.block_lt_of_cell? V _ h1
    have hadd : ((⟨w4.heap.size + 1, 0, none⟩ : Addr).add j).block = w4.heap.size + 1 := by unfold Addr.add; split <;> rfl
    rw [hadd] at h2
    exact (World.cell?_of_block (by rw [hadd]; exact hg.block _ h2 (fun e => hne e.symm))).trans h1)
  have LITC := Lib.hid (show ∀ (V x : World) (v : Option Nat), V.heap = ((w4.alloc (.cells #[.int .i64 n, .slice la L.length lc] 59)).alloc (.cells #[] 59)).heap → V.grownBy x v → v ≠ some w4.heap.size → ∀ j u, [Value.int .i64 n, .slice la L.length lc][j]? = some u → x.cell? ((⟨w4.heap.size, 0, none⟩ : Addr).add j) = some u from fun V x v hV hg hne j u hu => by
    have h1 := need_new (w := w4) (V := w4.alloc (.cells #[.int .i64 n, .slice la L.length lc] 59)) rfl j u hu
    have h2 := World.block_lt_of_cell? (w4.alloc (.cells #[.int .i64 n, .slice la L.length lc] 59)) _ h1
    have hadd : ((⟨w4.heap.size, 0, none⟩ : Addr).add j).block = w4.heap.size := by unfold Addr.add; split <;> rfl
    rw [hadd] at h2
    have h3 : V.heap[w4.heap.size]? = (w4.alloc (.cells #[.int .i64 n, .slice la L.length lc] 59)).heap[w4.heap.size]? := by rw [hV]; exact Below.heap_alloc _ _ _ h2
    have h4 : w4.heap.size < V.heap.size := by rw [hV]; simp; omega
    exact (World.cell?_of_block (by rw [hadd]; exact (hg.block _ h4 (fun e => hne e.symm)).trans h3)).trans h1)
  have ROW := Lib.hid (show ∀ (W x7 : World) (v : Value) (a7 : Option Addr) (c7 : Nat), Below w4.heap.size w4 W → W.ownsRow w4.heap.size 59 2 v M.length news → x7.ownsRow w4.heap.size 59 2 (.slice a7 (M.length + 1) c7) (M.length + 1) (news ++ [.int .i64 n, .slice la L.length lc]) → W.grownBy x7 v.ownBlock → ((Value.slice a7 (M.length + 1) c7).ownBlock = v.ownBlock ∨ (Value.slice a7 (M.length + 1) c7).ownBlock = some W.heap.size) → NdAt x7 x7.heap.size (.slice a7 (M.length + 1) c7) (M ++ [(n, L)]) from fun W x7 v a7 c7 hW ho hown hgrow hat => by
    have hlt := World.ownsRow.lt ho
    have := grow_any (M := M) (P := [(n, L)]) ho (NE.out W hW _ fun c e => (hlt c e).1) (fun i hi => by
      obtain rfl : i = 0 := by simpa using hi
      exact ⟨rfl, la, lc, rfl, SpX.of (HS4.out.below hW) hW.size (fun c e => (hlt c e).1)⟩) hown hgrow hat
    exact this.at)
  clear NE HS4 c0_4 c1_4
  have c0_4 := (HCELL.out _ (Below.refl _ _)).1
  have c1_4 := (HCELL.out _ (Below.refl _ _)).2
  go_wp2_with fail
  go_cut [10, 11] from 52 (fun t b wx => ∃ ca cc, t = .slice ca GC.length cc ∧ b = .bool bC ∧ PkAt wx wx.heap.size t GC ∧ Below w4.heap.size w4 wx)
  case first =>
    go_region_held3 (fun V => V.cell? ⟨w1.heap.size, 0, none⟩ = some (.int .i64 n) ∧ V.cell? ⟨w1.heap.size, 1, none⟩ = some (.slice la L.length lc)) (go_keep)
      (first
        | (refine step_append_rows _ rfl (.tmp 43) (.tmp 44) 31 rfl w4.heap.size 59 i0 (.agg #[.int .i64 0, .slice none 0 0]) 2 32 Try.underlying31 hi hz0 hz1 hz2 rfl (by decide) _ 0 [] (by rfl) (by first | exact OA.out | exact OB.out | exact OC.out) na M.length ncap news (by rfl) NLn.out NN.out (fun ad e j u hu => NL.out _ (by go_grown) ad e j u hu) NO.out (by unfold maxLen; omega) (by omega) (by first | exact Nat.le_refl _ | omega | (simp; done) | (simp; omega)) ?_; intro a6 c6 x6 own6 grow6 at6; have n6 : Below w4.heap.size w4 x6 := Below.grown (by go_grown) grow6 (by first | exact Nat.le_refl _ | omega | (simp; done) | (simp; omega)) (fun k' e => by have := HOB.out _ _ e; omega); obtain ⟨q0', q1'⟩ := HCELL.out _ n6; have O6 := Lib.hid own6; have G6 := Lib.hid grow6; clear own6 grow6 at6)
        | (refine step_append_rows _ rfl (.tmp 45) (.tmp 47) 31 rfl w4.heap.size 59 i0 (.agg #[.int .i64 0, .slice none 0 0]) 2 32 Try.underlying31 hi hz0 hz1 hz2 rfl (by decide) (.slice a6 (0 + M.length) c6) (0 + M.length) ([] ++ news) (by first | rfl | (rw [Nat.zero_add]; rfl) | (simp only [Nat.zero_add]; rfl) | simp [Act.eval]) (O6.out.alloc (.cells #[.int .i64 n, .slice la L.length lc] 59)) (some ⟨x6.heap.size, 0, none⟩) 1 1 [.int .i64 n, .slice la L.length lc] (by rfl) rfl (fun e => by cases e) (fun ad e j u hu => by cases e; exact need_new rfl j u hu) need_one (by unfold maxLen; omega) (by omega) (by first | exact n6.size | (simp; have := n6.size; omega)) ?_; intro a7 c7 x7 own7 grow7 at7; have n7 : Below w4.heap.size w4 x7 := Below.grown (n6.alloc n6.size (.cells #[.int .i64 n, .slice la L.length lc] 59)) grow7 (by first | exact n6.size | (simp; have := n6.size; omega)) (fun k' e => (World.ownsRow.lt O6.out k' e).1); have R7 := Lib.hid (ROW.out _ _ _ _ _ (n6.alloc n6.size (.cells #[.int .i64 n, .slice la L.length lc] 59)) (by simpa using (O6.out.alloc (.cells #[.int .i64 n, .slice la L.length lc] 59))) (by simpa using own7) grow7 (by simpa using at7)); obtain ⟨q0, q1⟩ := HCELL.out _ n7; have N7 := Lib.hid n7; clear own7 grow7 at7 O6 G6 n6 n7 q0' q1')
        | (refine step_append_rows _ rfl (.tmp 45) (.tmp 47) 31 rfl w4.heap.size 59 i0 (.agg #[.int .i64 0, .slice none 0 0]) 2 32 Try.underlying31 hi hz0 hz1 hz2 rfl (by decide) (.slice a6 (0 + M.length) c6) (0 + M.length) ([] ++ news) (by first | rfl | (rw [Nat.zero_add]; rfl) | (simp only [Nat.zero_add]; rfl) | simp [Act.eval] ) O6.out (some ⟨w4.heap.size + 1, 0, none⟩) 1 1 [.int .i64 n, .slice la L.length lc] (by rfl) rfl (fun e => by cases e) (fun ad e j u hu => by cases e; exact LITB.out _ _ _ (by rfl) G6.out (fun e => by have := HOB.out _ _ e; omega) j u hu) need_one (by unfold maxLen; omega) (by omega) (by first | exact n6.size | (simp; have := n6.size; omega)) ?_; intro a7 c7 x7 own7 grow7 at7; have n7 : Below w4.heap.size w4 x7 := Below.grown n6 grow7 (by first | exact n6.size | (simp; have := n6.size; omega)) (fun k' e => (World.ownsRow.lt O6.out k' e).1); have R7 := Lib.hid (ROW.out _ _ _ _ _ n6 (by simpa using O6.out) (by simpa using own7) grow7 (by simpa using at7)); obtain ⟨q0, q1⟩ := HCELL.out _ n7; have N7 := Lib.hid n7; clear own7 grow7 at7 O6 G6 n6 n7 q0' q1')
        | (refine step_append_rows _ rfl (.tmp 45) (.tmp 47) 31 rfl w4.heap.size 59 i0 (.agg #[.int .i64 0, .slice none 0 0]) 2 32 Try.underlying31 hi hz0 hz1 hz2 rfl (by decide) (.slice a6 (0 + M.length) c6) (0 + M.length) ([] ++ news) (by first | rfl | (rw [Nat.zero_add]; rfl) | (simp only [Nat.zero_add]; rfl) | simp [Act.eval] ) O6.out (some ⟨w4.heap.size, 0, none⟩) 1 1 [.int .i64 n, .slice la L.length lc] (by rfl) rfl (fun e => by cases e) (fun ad e j u hu => by cases e; exact LITC.out _ _ _ (by rfl) G6.out (fun e => by have := HOB.out _ _ e; omega) j u hu) need_one (by unfold maxLen; omega) (by omega) (by first | exact n6.size | (simp; have := n6.size; omega)) ?_; intro a7 c7 x7 own7 grow7 at7; have n7 : Below w4.heap.size w4 x7 := Below.grown n6 grow7 (by first | exact n6.size | (simp; have := n6.size; omega)) (fun k' e => (World.ownsRow.lt O6.out k' e).1); have R7 := Lib.hid (ROW.out _ _ _ _ _ n6 (by simpa using O6.out) (by simpa using own7) grow7 (by simpa using at7)); obtain ⟨q0, q1⟩ := HCELL.out _ n7; have N7 := Lib.hid n7; clear own7 grow7 at7 O6 G6 n6 n7 q0' q1')
        | (go_at_call 24; refine (KC.out _ _ (H4.out.stepAt N7.out) (by first | exact R7.out | simpa using R7.out)).mono ?_; rintro e x8 ⟨vC, rfl, pC, hb8⟩; obtain ⟨ca, cc, rfl, hx8⟩ := id pC; clear hx8; have C8 := Lib.hid pC.at; have n8 : Below w4.heap.size w4 x8 := N7.out.trans (hb8.mono N7.out.size); clear pC hb8; obtain ⟨s0, s1⟩ := HCELL.out _ n8)
        | fail)
    all_goals
      have N8 := Lib.hid n8
      go_wp2_with fail
      go_meet
      case rel => exact ⟨_, _, rfl, rfl, C8.out, N8.out⟩
  case rest =>
    rename World => w5
    obtain ⟨ca, cc, rfl, rfl, pC, m5⟩ := hcut
    have b5 : Below w1.heap.size w1 w5 := n4.trans (m5.mono n4.size)
    have A5 := Lib.hid (A4.out.stepAt m5)
    have B5 := Lib.hid (B4.out.stepAt m5)
    have C5 := Lib.hid pC
    clear pC m5 A4 B4 OA OB OC LITB LITC ROW NL NO NN HCELL KC NLn HOB c0_4 c1_4
    by_cases h5 : M.length = 5
    · have hz5 : ((M.length : Int) == 5) = true := by rw [h5]; rfl
      clear HMORE HTRI
      rw [h5]
      clear hz5
      go_wp2_with fail
      refine (KV.out _).mono ?_
      rintro e w6 ⟨rfl, hb⟩
      have b6 := b5.trans (hb.mono b5.size)
      go_wp2_with fail
      go_ret
      exact ⟨rfl, b1.trans (b6.mono b1.size)⟩
    have hz5 : ((M.length : Int) == 5) = false := by rw [beq_eq_false_iff_ne]; omega
    have hbC := HMORE.out h5
    have HM5 := Lib.hid h5
    clear HMORE h5
    by_cases hT : bC = true
    · rw [hT] at hbC
      obtain ⟨hbA, hbB⟩ := both_true _ _ hbC
      subst hT
      subst hbA
      subst hbB
      have HT3 := Lib.hid (HTRI.out rfl rfl rfl)
      clear hbC HTRI
      go_wp2_with fail
      go_loopw [12] (fun i wr => ∃ k : Nat, k ≤ 8 ∧ i = .int .i64 (k : Int) ∧ Below w5.heap.size w5 wr) (fun i _ => 8 - (intOf i).toNat)
      case atStart => exact ⟨0, Nat.zero_le _, rfl, Below.refl _ _⟩
      case round =>
        obtain ⟨k, hk, rfl, hb⟩ := hrel
        have br := b5.trans (hb.mono b5.size)
        by_cases hlt : k < 8
        · have hk7 : (k : Int) ≤ 7 := by omega
          have T := HT3.out (k : Int)
          have KU : Hid (∀ V u, PkAt V V.heap.size u GA → Calls Try.prog 41 #[u, .int .i64 (k : Int)] V fun e w' => e = .returned (.tuple #[ver ((pkOf GA (k : Int)).getD (0, 0, 0, 0)).1 ((pkOf GA (k : Int)).getD (0, 0, 0, 0)).2.1 ((pkOf GA (k : Int)).getD (0, 0, 0, 0)).2.2.1 ((pkOf GA (k : Int)).getD (0, 0, 0, 0)).2.2.2, .bool (pkOf GA (k : Int)).isSome]) ∧ Below V.heap.size V w') := Lib.hid fun V u g => by have := KP.out V u GA (k : Int) hGA30 g; rwa [got_is] at this
          have KY : Hid (∀ V u, PkAt V V.heap.size u GB → Calls Try.prog 41 #[u, .int .i64 (k : Int)] V fun e w' => e = .returned (.tuple #[ver ((pkOf GB (k : Int)).getD (0, 0, 0, 0)).1 ((pkOf GB (k : Int)).getD (0, 0, 0, 0)).2.1 ((pkOf GB (k : Int)).getD (0, 0, 0, 0)).2.2.1 ((pkOf GB (k : Int)).getD (0, 0, 0, 0)).2.2.2, .bool (pkOf GB (k : Int)).isSome]) ∧ Below V.heap.size V w') := Lib.hid fun V u g => by have := KP.out V u GB (k : Int) hGB30 g; rwa [got_is] at this
          have KX : Hid (∀ V u, PkAt V V.heap.size u GC → Calls Try.prog 41 #[u, .int .i64 (k : Int)] V fun e w' => e = .returned (.tuple #[ver ((pkOf GC (k : Int)).getD (0, 0, 0, 0)).1 ((pkOf GC (k : Int)).getD (0, 0, 0, 0)).2.1 ((pkOf GC (k : Int)).getD (0, 0, 0, 0)).2.2.1 ((pkOf GC (k : Int)).getD (0, 0, 0, 0)).2.2.2, .bool (pkOf GC (k : Int)).isSome]) ∧ Below V.heap.size V w') := Lib.hid fun V u g => by have := KP.out V u GC (k : Int) hGC30 g; rwa [got_is] at this
          obtain ⟨⟨ua, ub, uc, ud⟩, hu⟩ : ∃ u, (pkOf GA (k : Int)).getD (0, 0, 0, 0) = u := ⟨_, rfl⟩
          obtain ⟨⟨va, vb, vc, vd⟩, hv⟩ : ∃ u, (pkOf GB (k : Int)).getD (0, 0, 0, 0) = u := ⟨_, rfl⟩
          obtain ⟨⟨xa, xb, xc, xd⟩, hx⟩ : ∃ u, (pkOf GC (k : Int)).getD (0, 0, 0, 0) = u := ⟨_, rfl⟩
          obtain ⟨p, hp⟩ : ∃ p, (pkOf GA (k : Int)).isSome = p := ⟨_, rfl⟩
          obtain ⟨q, hq⟩ : ∃ p, (pkOf GB (k : Int)).isSome = p := ⟨_, rfl⟩
          obtain ⟨r, hr⟩ : ∃ p, (pkOf GC (k : Int)).isSome = p := ⟨_, rfl⟩
          rw [hu, hp] at KU
          rw [hv, hq] at KY
          rw [hx, hr] at KX
          rw [hu, hv, hx, hp, hq, hr] at T
          simp only at KU KY KX
          obtain ⟨tr, tl, tq, tw⟩ := T
          simp only at tl tq
          have TL := Lib.hid tl
          have TQ := Lib.hid tq
          have TO := Lib.hid tw
          have TR := Lib.hid tr
          have HB := Lib.hid hb
          have AR := Lib.hid (A5.out.stepAt hb)
          have BR := Lib.hid (B5.out.stepAt hb)
          have CR := Lib.hid (C5.out.stepAt hb)
          have hzr := hb.size
          clear hu hv hx hp hq hr tr tl tq tw hb
          go_wp2_with fail
          refine (KU.out _ _ (AR.out)).mono ?_
          rintro e x1 ⟨rfl, hcx1⟩
          have sx1 : wr.heap.size ≤ x1.heap.size := hcx1.size
          obtain ⟨q1, hwb⟩ : ∃ V : World, V = x1.alloc (.cells #[.int .i64 ua, .int .i64 ub, .int .i64 uc, .int .i64 ud] 61) := ⟨_, rfl⟩
          have hnq1 : Below x1.heap.size x1 q1 := by rw [hwb]; exact (Below.refl _ _).alloc (Nat.le_refl _) _
          have sq1 : x1.heap.size + 1 ≤ q1.heap.size := by rw [hwb]; simp
          have hxq1 : Below wr.heap.size wr q1 := hcx1.trans (hnq1.mono sx1)
          have yq1_0 : q1.cell? ⟨x1.heap.size, 0, none⟩ = some (.int .i64 ua) := by rw [hwb]; go_simp
          have yq1_1 : q1.cell? ⟨x1.heap.size, 1, none⟩ = some (.int .i64 ub) := by rw [hwb]; go_simp
          have yq1_2 : q1.cell? ⟨x1.heap.size, 2, none⟩ = some (.int .i64 uc) := by rw [hwb]; go_simp
          have yq1_3 : q1.cell? ⟨x1.heap.size, 3, none⟩ = some (.int .i64 ud) := by rw [hwb]; go_simp
          go_upto_region 15 with fail
          rw [← hwb]
          clear hwb
          go_wp2_with fail
          refine (KY.out _ _ (BR.out.stepAt hxq1)).mono ?_
          rintro e x2 ⟨rfl, hcx2⟩
          have sx2 : q1.heap.size ≤ x2.heap.size := hcx2.size
          obtain ⟨q2, hwb⟩ : ∃ V : World, V = x2.alloc (.cells #[.int .i64 va, .int .i64 vb, .int .i64 vc, .int .i64 vd] 61) := ⟨_, rfl⟩
          have hnq2 : Below x2.heap.size x2 q2 := by rw [hwb]; exact (Below.refl _ _).alloc (Nat.le_refl _) _
          have sq2 : x2.heap.size + 1 ≤ q2.heap.size := by rw [hwb]; simp
          have hxq2 : Below q1.heap.size q1 q2 := hcx2.trans (hnq2.mono sx2)
          have yq2_0 : q2.cell? ⟨x2.heap.size, 0, none⟩ = some (.int .i64 va) := by rw [hwb]; go_simp
          have yq2_1 : q2.cell? ⟨x2.heap.size, 1, none⟩ = some (.int .i64 vb) := by rw [hwb]; go_simp
          have yq2_2 : q2.cell? ⟨x2.heap.size, 2, none⟩ = some (.int .i64 vc) := by rw [hwb]; go_simp
          have yq2_3 : q2.cell? ⟨x2.heap.size, 3, none⟩ = some (.int .i64 vd) := by rw [hwb]; go_simp
          have yq2u_0 := (hxq2.cell (p := ⟨x1.heap.size, 0, none⟩) (by show x1.heap.size < q1.heap.size; omega)).trans yq1_0
          have yq2u_1 := (hxq2.cell (p := ⟨x1.heap.size, 1, none⟩) (by show x1.heap.size < q1.heap.size; omega)).trans yq1_1
          have yq2u_2 := (hxq2.cell (p := ⟨x1.heap.size, 2, none⟩) (by show x1.heap.size < q1.heap.size; omega)).trans yq1_2
          have yq2u_3 := (hxq2.cell (p := ⟨x1.heap.size, 3, none⟩) (by show x1.heap.size < q1.heap.size; omega)).trans yq1_3
          go_upto_region 16 with fail
          rw [← hwb]
          clear hwb
          have nq2 : Below wr.heap.size wr q2 := hxq1.trans (hxq2.mono hxq1.size)
          go_wp2_with fail
          refine (KX.out _ _ (CR.out.stepAt nq2)).mono ?_
          rintro e x3 ⟨rfl, hcx3⟩
          have sx3 : q2.heap.size ≤ x3.heap.size := hcx3.size
          obtain ⟨q3, hwb⟩ : ∃ V : World, V = x3.alloc (.cells #[.int .i64 xa, .int .i64 xb, .int .i64 xc, .int .i64 xd] 61) := ⟨_, rfl⟩
          have hnq3 : Below x3.heap.size x3 q3 := by rw [hwb]; exact (Below.refl _ _).alloc (Nat.le_refl _) _
          have sq3 : x3.heap.size + 1 ≤ q3.heap.size := by rw [hwb]; simp
          have hxq3 : Below q2.heap.size q2 q3 := hcx3.trans (hnq3.mono sx3)
          have yq3_0 : q3.cell? ⟨x3.heap.size, 0, none⟩ = some (.int .i64 xa) := by rw [hwb]; go_simp
          have yq3_1 : q3.cell? ⟨x3.heap.size, 1, none⟩ = some (.int .i64 xb) := by rw [hwb]; go_simp
          have yq3_2 : q3.cell? ⟨x3.heap.size, 2, none⟩ = some (.int .i64 xc) := by rw [hwb]; go_simp
          have yq3_3 : q3.cell? ⟨x3.heap.size, 3, none⟩ = some (.int .i64 xd) := by rw [hwb]; go_simp
          have yq3u_0 := (hxq3.cell (p := ⟨x1.heap.size, 0, none⟩) (by show x1.heap.size < q2.heap.size; omega)).trans yq2u_0
          have yq3u_1 := (hxq3.cell (p := ⟨x1.heap.size, 1, none⟩) (by show x1.heap.size < q2.heap.size; omega)).trans yq2u_1
          have yq3u_2 := (hxq3.cell (p := ⟨x1.heap.size, 2, none⟩) (by show x1.heap.size < q2.heap.size; omega)).trans yq2u_2
          have yq3u_3 := (hxq3.cell (p := ⟨x1.heap.size, 3, none⟩) (by show x1.heap.size < q2.heap.size; omega)).trans yq2u_3
          have yq3v_0 := (hxq3.cell (p := ⟨x2.heap.size, 0, none⟩) (by show x2.heap.size < q2.heap.size; omega)).trans yq2_0
          have yq3v_1 := (hxq3.cell (p := ⟨x2.heap.size, 1, none⟩) (by show x2.heap.size < q2.heap.size; omega)).trans yq2_1
          have yq3v_2 := (hxq3.cell (p := ⟨x2.heap.size, 2, none⟩) (by show x2.heap.size < q2.heap.size; omega)).trans yq2_2
          have yq3v_3 := (hxq3.cell (p := ⟨x2.heap.size, 3, none⟩) (by show x2.heap.size < q2.heap.size; omega)).trans yq2_3
          go_upto_region 17 with fail
          rw [← hwb]
          clear hwb
          have nq3 : Below wr.heap.size wr q3 := nq2.trans (hxq3.mono nq2.size)
          have HB3 := Lib.hid (HB.out.trans (nq3.mono hzr))
          have HBOX := Lib.hid (show ∀ V, Below q3.heap.size q3 V → V.cell? ⟨x1.heap.size, 0, none⟩ = some (.int .i64 ua) ∧ V.cell? ⟨x1.heap.size, 1, none⟩ = some (.int .i64 ub) ∧ V.cell? ⟨x1.heap.size, 2, none⟩ = some (.int .i64 uc) ∧ V.cell? ⟨x1.heap.size, 3, none⟩ = some (.int .i64 ud) ∧ V.cell? ⟨x2.heap.size, 0, none⟩ = some (.int .i64 va) ∧ V.cell? ⟨x2.heap.size, 1, none⟩ = some (.int .i64 vb) ∧ V.cell? ⟨x2.heap.size, 2, none⟩ = some (.int .i64 vc) ∧ V.cell? ⟨x2.heap.size, 3, none⟩ = some (.int .i64 vd) ∧ V.cell? ⟨x3.heap.size, 0, none⟩ = some (.int .i64 xa) ∧ V.cell? ⟨x3.heap.size, 1, none⟩ = some (.int .i64 xb) ∧ V.cell? ⟨x3.heap.size, 2, none⟩ = some (.int .i64 xc) ∧ V.cell? ⟨x3.heap.size, 3, none⟩ = some (.int .i64 xd) from fun V g => ⟨(g.cell (p := ⟨x1.heap.size, 0, none⟩) (by show x1.heap.size < q3.heap.size; omega)).trans yq3u_0, (g.cell (p := ⟨x1.heap.size, 1, none⟩) (by show x1.heap.size < q3.heap.size; omega)).trans yq3u_1, (g.cell (p := ⟨x1.heap.size, 2, none⟩) (by show x1.heap.size < q3.heap.size; omega)).trans yq3u_2, (g.cell (p := ⟨x1.heap.size, 3, none⟩) (by show x1.heap.size < q3.heap.size; omega)).trans yq3u_3, (g.cell (p := ⟨x2.heap.size, 0, none⟩) (by show x2.heap.size < q3.heap.size; omega)).trans yq3v_0, (g.cell (p := ⟨x2.heap.size, 1, none⟩) (by show x2.heap.size < q3.heap.size; omega)).trans yq3v_1, (g.cell (p := ⟨x2.heap.size, 2, none⟩) (by show x2.heap.size < q3.heap.size; omega)).trans yq3v_2, (g.cell (p := ⟨x2.heap.size, 3, none⟩) (by show x2.heap.size < q3.heap.size; omega)).trans yq3v_3, (g.cell (p := ⟨x3.heap.size, 0, none⟩) (by show x3.heap.size < q3.heap.size; omega)).trans yq3_0, (g.cell (p := ⟨x3.heap.size, 1, none⟩) (by show x3.heap.size < q3.heap.size; omega)).trans yq3_1, (g.cell (p := ⟨x3.heap.size, 2, none⟩) (by show x3.heap.size < q3.heap.size; omega)).trans yq3_2, (g.cell (p := ⟨x3.heap.size, 3, none⟩) (by show x3.heap.size < q3.heap.size; omega)).trans yq3_3⟩)
          clear yq3u_0 yq3u_1 yq3u_2 yq3u_3 yq3v_0 yq3v_1 yq3v_2 yq3v_3 yq3_0 yq3_1 yq3_2 yq3_3 yq2u_0 yq2u_1 yq2u_2 yq2u_3 yq2_0 yq2_1 yq2_2 yq2_3 yq1_0 yq1_1 yq1_2 yq1_3 hxq1 hxq2 hxq3 nq2 nq3 hnq1 hnq2 hnq3 hcx1 hcx2 hcx3 KU KY KX AR BR CR
          obtain ⟨u0, u1, u2, u3, v0, v1, v2, v3, c0, c1, c2, c3⟩ := HBOX.out _ (Below.refl _ _)
          rcases p
          · rcases q
            · obtain rfl : r = false := TR.out
              clear TR TL TQ TO
              go_wp2_with fail
              go_roundw
              case rel => exact ⟨k + 1, by omega, by go_num, HB3.out⟩
              case measure => simp [intOf]; omega
            · obtain rfl : r = true := TR.out
              clear TR
              have KZ : Hid (∀ V, Calls Try.prog 49 #[ver xa xb xc xd, ver va vb vc vd] V fun e w' => e = .returned (.bool false) ∧ Below V.heap.size V w') := Lib.hid fun V => by have := implLess_any xa xb xc xd va vb vc vd V; rwa [TQ.out rfl] at this
              have hone := TO.out rfl
              clear TL TQ TO
              by_cases hxu : xa = ua ∧ xb = ub ∧ xc = uc ∧ xd = ud
              · clear hone
                obtain ⟨rfl, rfl, rfl, rfl⟩ := hxu
                have hD := verN_alike xa xb xc xd
                go_wp2_with fail
                clear u0 u1 u2 u3 v0 v1 v2 v3 c0 c1 c2 c3
                refine (KZ.out _).mono ?_
                rintro e q5 ⟨rfl, hcc⟩
                have a5 := hcc
                clear hcc
                obtain ⟨u0, u1, u2, u3, v0, v1, v2, v3, c0, c1, c2, c3⟩ := HBOX.out _ a5
                go_wp2_with fail
                go_roundw
                case rel => exact ⟨k + 1, by omega, by go_num, HB3.out.trans (a5.mono HB3.out.size)⟩
                case measure => simp [intOf]; omega
              · have hD1 := verN_differ hxu
                have hxv : (xa, xb, xc, xd) = (va, vb, vc, vd) := by
                  rcases hone with h | h
                  · simp only [Prod.mk.injEq] at h; exact absurd h hxu
                  · exact h
                clear hone hxu
                simp only [Prod.mk.injEq] at hxv
                obtain ⟨rfl, rfl, rfl, rfl⟩ := hxv
                have hD := verN_alike xa xb xc xd
                go_wp2_with fail
                clear u0 u1 u2 u3 v0 v1 v2 v3 c0 c1 c2 c3
                refine (KZ.out _).mono ?_
                rintro e q5 ⟨rfl, hcc⟩
                have a5 := hcc
                clear hcc
                obtain ⟨u0, u1, u2, u3, v0, v1, v2, v3, c0, c1, c2, c3⟩ := HBOX.out _ a5
                go_wp2_with fail
                go_roundw
                case rel => exact ⟨k + 1, by omega, by go_num, HB3.out.trans (a5.mono HB3.out.size)⟩
                case measure => simp [intOf]; omega
          · rcases q
            · obtain rfl : r = true := TR.out
              clear TR
              have KW : Hid (∀ V, Calls Try.prog 49 #[ver xa xb xc xd, ver ua ub uc ud] V fun e w' => e = .returned (.bool false) ∧ Below V.heap.size V w') := Lib.hid fun V => by have := implLess_any xa xb xc xd ua ub uc ud V; rwa [TL.out rfl] at this
              have hone := TO.out rfl
              clear TL TQ TO
              by_cases hxu : xa = ua ∧ xb = ub ∧ xc = uc ∧ xd = ud
              · clear hone
                obtain ⟨rfl, rfl, rfl, rfl⟩ := hxu
                have hD := verN_alike xa xb xc xd
                go_wp2_with fail
                clear u0 u1 u2 u3 v0 v1 v2 v3 c0 c1 c2 c3
                refine (KW.out _).mono ?_
                rintro e q4 ⟨rfl, hcc⟩
                have a4 := hcc
                clear hcc
                obtain ⟨u0, u1, u2, u3, v0, v1, v2, v3, c0, c1, c2, c3⟩ := HBOX.out _ a4
                go_wp2_with fail
                go_roundw
                case rel => exact ⟨k + 1, by omega, by go_num, HB3.out.trans (a4.mono HB3.out.size)⟩
                case measure => simp [intOf]; omega
              · have hD1 := verN_differ hxu
                have hxv : (xa, xb, xc, xd) = (va, vb, vc, vd) := by
                  rcases hone with h | h
                  · simp only [Prod.mk.injEq] at h; exact absurd h hxu
                  · exact h
                clear hone hxu
                simp only [Prod.mk.injEq] at hxv
                obtain ⟨rfl, rfl, rfl, rfl⟩ := hxv
                have hD := verN_alike xa xb xc xd
                go_wp2_with fail
                clear u0 u1 u2 u3 v0 v1 v2 v3 c0 c1 c2 c3
                refine (KW.out _).mono ?_
                rintro e q4 ⟨rfl, hcc⟩
                have a4 := hcc
                clear hcc
                obtain ⟨u0, u1, u2, u3, v0, v1, v2, v3, c0, c1, c2, c3⟩ := HBOX.out _ a4
                go_wp2_with fail
                go_roundw
                case rel => exact ⟨k + 1, by omega, by go_num, HB3.out.trans (a4.mono HB3.out.size)⟩
                case measure => simp [intOf]; omega
            · obtain rfl : r = true := TR.out
              clear TR
              have KW : Hid (∀ V, Calls Try.prog 49 #[ver xa xb xc xd, ver ua ub uc ud] V fun e w' => e = .returned (.bool false) ∧ Below V.heap.size V w') := Lib.hid fun V => by have := implLess_any xa xb xc xd ua ub uc ud V; rwa [TL.out rfl] at this
              have KZ : Hid (∀ V, Calls Try.prog 49 #[ver xa xb xc xd, ver va vb vc vd] V fun e w' => e = .returned (.bool false) ∧ Below V.heap.size V w') := Lib.hid fun V => by have := implLess_any xa xb xc xd va vb vc vd V; rwa [TQ.out rfl] at this
              have hone := TO.out rfl
              clear TL TQ TO
              by_cases hxu : xa = ua ∧ xb = ub ∧ xc = uc ∧ xd = ud
              · clear hone
                obtain ⟨rfl, rfl, rfl, rfl⟩ := hxu
                have hD := verN_alike xa xb xc xd
                go_wp2_with fail
                clear u0 u1 u2 u3 v0 v1 v2 v3 c0 c1 c2 c3
                refine (KW.out _).mono ?_
                rintro e q4 ⟨rfl, hcc⟩
                have a4 := hcc
                clear hcc
                obtain ⟨u0, u1, u2, u3, v0, v1, v2, v3, c0, c1, c2, c3⟩ := HBOX.out _ a4
                go_wp2_with fail
                clear u0 u1 u2 u3 v0 v1 v2 v3 c0 c1 c2 c3
                refine (KZ.out _).mono ?_
                rintro e q5 ⟨rfl, hcc⟩
                have a5 := a4.trans (hcc.mono a4.size)
                clear hcc
                obtain ⟨u0, u1, u2, u3, v0, v1, v2, v3, c0, c1, c2, c3⟩ := HBOX.out _ a5
                go_wp2_with fail
                go_roundw
                case rel => exact ⟨k + 1, by omega, by go_num, HB3.out.trans (a5.mono HB3.out.size)⟩
                case measure => simp [intOf]; omega
              · have hD1 := verN_differ hxu
                have hxv : (xa, xb, xc, xd) = (va, vb, vc, vd) := by
                  rcases hone with h | h
                  · simp only [Prod.mk.injEq] at h; exact absurd h hxu
                  · exact h
                clear hone hxu
                simp only [Prod.mk.injEq] at hxv
                obtain ⟨rfl, rfl, rfl, rfl⟩ := hxv
                have hD := verN_alike xa xb xc xd
                go_wp2_with fail
                clear u0 u1 u2 u3 v0 v1 v2 v3 c0 c1 c2 c3
                refine (KW.out _).mono ?_
                rintro e q4 ⟨rfl, hcc⟩
                have a4 := hcc
                clear hcc
                obtain ⟨u0, u1, u2, u3, v0, v1, v2, v3, c0, c1, c2, c3⟩ := HBOX.out _ a4
                go_wp2_with fail
                clear u0 u1 u2 u3 v0 v1 v2 v3 c0 c1 c2 c3
                refine (KZ.out _).mono ?_
                rintro e q5 ⟨rfl, hcc⟩
                have a5 := a4.trans (hcc.mono a4.size)
                clear hcc
                obtain ⟨u0, u1, u2, u3, v0, v1, v2, v3, c0, c1, c2, c3⟩ := HBOX.out _ a5
                go_wp2_with fail
                go_roundw
                case rel => exact ⟨k + 1, by omega, by go_num, HB3.out.trans (a5.mono HB3.out.size)⟩
                case measure => simp [intOf]; omega
        · obtain rfl : k = 8 := by omega
          have hk7 : ¬ ((8 : Nat) : Int) ≤ 7 := by omega
          go_wp2_with fail
          refine (KV.out _).mono ?_
          rintro e w6 ⟨rfl, hb6⟩
          have b6 := br.trans (hb6.mono br.size)
          go_wp2_with fail
          go_ret
          exact ⟨rfl, b1.trans (b6.mono b1.size)⟩
    · obtain rfl : bC = false := by simpa using hT
      clear hT HTRI
      rcases bA <;> rcases bB
      all_goals first
        | (exfalso; exact absurd hbC (by decide))
        | skip
      all_goals
        clear hbC
        go_wp2_with fail
        go_loopw [12] (fun i wr => i = .int .i64 0 ∧ Below w5.heap.size w5 wr) (fun _ _ => 0)
        case atStart => exact ⟨rfl, Below.refl _ _⟩
        case round =>
          obtain ⟨rfl, hb0⟩ := hrel
          have br := b5.trans (hb0.mono b5.size)
          go_wp2_with fail
          refine (KV.out _).mono ?_
          rintro e w6 ⟨rfl, hb6⟩
          have b6 := br.trans (hb6.mono br.size)
          go_wp2_with fail
          go_ret
          exact ⟨rfl, b1.trans (b6.mono b1.size)⟩

set_option maxRecDepth 100000 in
set_option maxHeartbeats 1000000 in
theorem lsm_long (a : Option Addr) (len cap : Nat) (w : World) (hl : 1048576 < len) :
    Calls Try.prog 9 #[.slice a len cap] w fun e w' => e = .returned (.bool true) ∧ Below w.heap.size w w' := by
  go_enter Try.func9, Try.ntmps9
  go_wp2
  go_ret
  exact ⟨rfl, Below.refl _ _⟩

theorem lsm_walk (a : Option Addr) (len cap : Nat) (w : World) (h : CodeIn w a len cap) :
    Calls Try.prog 9 #[.slice a len cap] w fun e w' => e = .returned (.bool true) ∧ Below w.heap.size w w' := by
  by_cases hl : len ≤ 1048576
  · exact lsm_short a len cap w h hl
  · exact lsm_long a len cap w (by omega)
end Plm

set_option maxRecDepth 100000 in
theorem leastMoreP_holds : Rows.FnLeastMoreSaid :=
  OpenClaim.holds_of_wide 9 Try.f9 rfl rfl rfl rfl rfl rfl rfl ⟨rfl, rfl, rfl, rfl, rfl⟩ rfl rfl rfl rfl rfl (by kernel_rfl) Try.func9 (by kernel_rfl)
    (of_decide_eq_true (by kernel_rfl)) (by unfold Func.isWrapper; rw [if_neg (by decide +kernel)]; exact ⟨rfl, rfl⟩)
    (fun os started H enc _ => law_lifted (s := Rows.fnLeastMoreSpec) (tb := 4) own started laid (by kernel_rfl) Try.func9 rfl (by kernel_rfl) Try.underlying4 (by kernel_rfl)
      (fun ds h => by rw [Try.params9] at h; match ds, h with | [_], _ => rfl)
      (ChangeSpec.witness6 (enc := enc) (C := Try.checked) false ⟨#[], #[.slice none 0 0], []⟩ 8 (by kernel_rfl) (by kernel_rfl) (by kernel_rfl) (by kernel_rfl))
      (law_code Try.params9 Plm.lsm_walk))
#print axioms leastMoreP_holds

end Go.Proofs.Ytgnjhmmedogcoaa
