/- Contract of the program's needsUp, over this seat's translation: the row of needs that comes up beside needs, as the plain function upL tells it; nothing that was there before the call has changed. Condition: at most 30 releases, five needs of each and five needs; 1048576 spans of each. -/
import Derived.Deep.CutRange
import Derived.Test.YtigkfhgmnenplaaNpu
import Derived.Test.YtigkfhgmnenplaaApp2
import Derived.Test.YtigkfhgmnenplaaGh
namespace Go.Proofs.Ytigkfhgmnenplaa
open Go.RowKit Go.Sort

namespace Nup
open Foot Copy
theorem SpX.flag {w : World} {lo g i : Nat} {x : Option Nat} {v : Value} {L : Sps} {c : List Bool} {b : Bool} (h : SpX w lo x v L) (hf : Fl w g c) : SpX (w.setCell ⟨g, i, none⟩ (.bool b)) lo x v L := by
  obtain ⟨a, cap, rfl, h⟩ := h
  refine ⟨a, cap, rfl, ?_⟩
  rcases h with h | ⟨k, o, e, hB, hx, hc⟩
  · exact .inl h
  · by_cases hL : L = []
    · exact .inl hL
    · have hp : 0 < L.length := List.length_pos_iff.2 hL
      have hne : k ≠ g := fun e => by
        subst e
        have h0 := (hc 0 hp).1
        have hf' : w.heap[k]? = some (.cells (c.map Value.bool).toArray 4 (0, 0)) := hf
        rw [cell_of_row w k _ _ _ (0, 0) hf', List.getElem?_toArray, List.getElem?_map] at h0
        rcases hcc : c[o + 0 * 2]? with _ | y <;> rw [hcc] at h0 <;> simp at h0
      have k : ∀ p, (w.setCell ⟨g, i, none⟩ (.bool b)).cell? ⟨k, p, none⟩ = w.cell? ⟨k, p, none⟩ := fun p => World.cell?_of_block (a := ⟨k, p, none⟩) (Below.heap_setCell _ _ _ _ (by show k ≠ g; exact hne))
      exact .inr ⟨_, o, e, by simpa [World.setCell] using hB, hx, fun i hi => ⟨(k _).trans (hc i hi).1, (k _).trans (hc i hi).2⟩⟩
theorem own_ne {w : World} {B g : Nat} {v : Value} {n : Nat} {cs : List Value} {c : List Bool} (h : w.ownsRow B 72 2 v n cs) (hf : Fl w g c) : ∀ k, v.ownBlock = some k → k ≠ g := by
  intro k hk e
  subst e
  have hf' : w.heap[k]? = some (.cells (c.map Value.bool).toArray 4 (0, 0)) := hf
  rcases h.2 with ⟨rfl, _⟩ | ⟨g', cap, cur, rfl, hb, hg, _⟩
  · cases hk
  · have hk' : some g' = some k := hk
    injection hk' with hk'
    subst hk'
    rw [hf'] at hg
    simp at hg
theorem NOwn.flag {w : World} {B lo g i : Nat} {v : Value} {M : List Nd} {c : List Bool} {b : Bool} (h : NOwn w B lo v M) (hf : Fl w g c) : NOwn (w.setCell ⟨g, i, none⟩ (.bool b)) B lo v M := by
  obtain ⟨cs, ho, hc⟩ := h
  refine ⟨cs, own_kept ho fun k hk => Below.heap_setCell _ _ _ _ (by show k ≠ g; exact own_ne ho hf k hk), fun i hi => ?_⟩
  obtain ⟨h1, a, cap, h2, h3⟩ := hc i hi
  exact ⟨h1, a, cap, h2, SpX.flag h3 hf⟩
theorem NOwn.down {w : World} {B lo lo' : Nat} {v : Value} {M : List Nd} (h : NOwn w B lo v M) (hl : lo' ≤ lo) : NOwn w B lo' v M := by
  obtain ⟨cs, ho, hc⟩ := h
  refine ⟨cs, ho, fun i hi => ?_⟩
  obtain ⟨h1, a, cap, h2, h3⟩ := hc i hi
  exact ⟨h1, a, cap, h2, h3.down hl⟩
/-- A row of needs that lies elsewhere, as cells to be appended. -/
theorem need_cells {W : World} {B cap : Nat} {ao : Option Addr} {M : List Nd} {x : Option Nat} (h : NdAt W B (.slice ao M.length cap) M) (hB : B ≤ W.heap.size) (hx : ∀ c, x = some c → B ≤ c) :
    ∃ news : List Value, news.length = M.length * 2 ∧ (ao = none → M.length = 0) ∧ (∀ ad, ao = some ad → ∀ j u, news[j]? = some u → W.cell? (ad.add j) = some u) ∧ (∀ u ∈ news, u.oneCell' = true) ∧
      (∀ i (h : i < M.length), news[i * 2]? = some (.int .i64 M[i].1) ∧ ∃ a cap, news[i * 2 + 1]? = some (.slice a M[i].2.length cap) ∧ SpX W 0 x (.slice a M[i].2.length cap) M[i].2) := by
  obtain ⟨a', c', e, h⟩ := h
  simp only [Value.slice.injEq] at e
  obtain ⟨rfl, _, _⟩ := e
  rcases h with rfl | ⟨b, o, rfl, hb, hc⟩
  · exact ⟨[], rfl, fun _ => rfl, fun ad _ j u hu => by simp at hu, by simp, fun i hi => absurd hi (by simp)⟩
  have hlen : (rowCells W b o (M.length * 2)).length = M.length * 2 := by simp [rowCells]
  have each : ∀ j, j < M.length * 2 → ∃ u, W.cell? ⟨b, o + j, none⟩ = some u ∧ u.oneCell' = true := fun j hj => by
    have hi : j / 2 < M.length := by omega
    obtain ⟨c0, a, cap, c1, _⟩ := hc (j / 2) hi
    rcases Nat.mod_two_eq_zero_or_one j with hm | hm
    · exact ⟨_, by rw [show o + j = o + j / 2 * 2 by omega]; exact c0, rfl⟩
    · exact ⟨_, by rw [show o + j = o + j / 2 * 2 + 1 by omega]; exact c1, rfl⟩
  refine ⟨rowCells W b o (M.length * 2), hlen, (fun e => by cases e), fun ad e j u hu => ?_, fun u hu => ?_, fun i hi => ?_⟩
  · cases e
    have hj : j < M.length * 2 := by have := (List.getElem?_eq_some_iff.1 hu).1; omega
    have hadd : (⟨b, o, none⟩ : Addr).add j = ⟨b, o + j, none⟩ := by unfold Addr.add; split <;> simp_all
    obtain ⟨z, hz, _⟩ := each j hj
    rw [rowCells_at hj, hz] at hu
    rw [hadd, hz]
    exact hu
  · obtain ⟨j, hj, rfl⟩ := List.getElem_of_mem hu
    have hj' : j < M.length * 2 := by omega
    obtain ⟨z, hz, h1⟩ := each j hj'
    have := rowCells_at (w := W) (b := b) (o := o) hj'
    rw [List.getElem?_eq_getElem hj, hz] at this
    rw [Option.some.inj this]
    exact h1
  · obtain ⟨c0, a, cap, c1, hs⟩ := hc i hi
    refine ⟨?_, a, cap, ?_, SpX.of hs hB hx⟩
    · rw [rowCells_at (by omega), c0]; rfl
    · rw [rowCells_at (by omega), show o + (i * 2 + 1) = o + i * 2 + 1 by omega, c1]; rfl

/-- What the outer loop keeps. -/
def UpRel (S : List Rel) (N : List Nd) (w : World) (g : Nat) (v i : Value) (wr : World) : Prop :=
  ∃ (k : Nat) (st : St), i = .int .i64 (k : Int) ∧ k ≤ st.2.length ∧ Ok S N st ∧ upL S N = run S (200 - k) k st ∧ NOwn wr w.heap.size 0 v st.2 ∧ Fl wr g st.1 ∧ Below w.heap.size w wr
/-- What the inner loop keeps. -/
def UpIn (S : List Rel) (N : List Nd) (w : World) (g k : Nat) (n : Nd) (st : St) (v i : Value) (wr : World) : Prop :=
  ∃ (j : Nat) (s2 : St), i = .int .i64 (j : Int) ∧ j ≤ S.length ∧ k < s2.2.length ∧ Ok S N s2 ∧ pass n 0 S st = pass n j (S.drop j) s2 ∧ s2.2[k]? = some n ∧ NOwn wr w.heap.size 0 v s2.2 ∧ Fl wr g s2.1 ∧ Below w.heap.size w wr
theorem up_next {S : List Rel} {N : List Nd} {w wr : World} {g k : Nat} {n : Nd} {st s2 : St} {v : Value} (hk : k < 200) (hn : st.2[k]? = some n) (hu : upL S N = run S (200 - k) k st) (hp : pass n 0 S st = pass n S.length (S.drop S.length) s2)
    (hl : k < s2.2.length) (ho : Ok S N s2) (hN : NOwn wr w.heap.size 0 v s2.2) (hF : Fl wr g s2.1) (hb : Below w.heap.size w wr) : UpRel S N w g v (.int .i64 ((k : Int) + 1)) wr := by
  refine ⟨k + 1, s2, by go_num, by omega, ho, ?_, hN, hF, hb⟩
  rw [hu, show 200 - k = (200 - (k + 1)) + 1 by omega, run_step hn, hp, List.drop_length]
  rfl
theorem in_next {S : List Rel} {N : List Nd} {w wr : World} {g k j : Nat} {n : Nd} {x : Rel} {st s2 : St} {v : Value} (hj : j < S.length) (hx : S[j]? = some x) (hl : k < s2.2.length) (ho : Ok S N s2) (hp : pass n 0 S st = pass n j (S.drop j) s2) (hn : s2.2[k]? = some n)
    (hN : NOwn wr w.heap.size 0 v (hit n s2 j x).2) (hF : Fl wr g (hit n s2 j x).1) (hb : Below w.heap.size w wr) : UpIn S N w g k n st v (.int .i64 ((j : Int) + 1)) wr := by
  obtain ⟨h1, h2⟩ := hit_front (n := n) (j := j) (x := x) (st := s2) (i := k + 1) hl
  refine ⟨j + 1, hit n s2 j x, by go_num, by omega, h2, ho.hit n hx, by rw [hp, pass_step hx], ?_, hN, hF, hb⟩
  have e : (hit n s2 j x).2[k]? = ((hit n s2 j x).2.take (k + 1))[k]? := by rw [List.getElem?_take, if_pos (by omega)]
  rw [e, h1, List.getElem?_take, if_pos (by omega)]
  exact hn
theorem hit_no {n : Nd} {st : St} {j : Nat} {x : Rel} (h : st.1.getD j true = true ∨ fitB n.1 n.2 x = false) : hit n st j x = st := by
  unfold hit
  rw [if_neg]
  rw [Bool.and_eq_true]
  rintro ⟨h1, h2⟩
  rcases h with h | h
  · rw [h] at h1; cases h1
  · rw [h] at h2; cases h2
theorem hit_yes {n : Nd} {st : St} {j : Nat} {x : Rel} (h : st.1.getD j true = false) (h' : fitB n.1 n.2 x = true) : hit n st j x = (st.1.set j true, st.2 ++ x.2.2.2) := by
  unfold hit
  rw [if_pos]
  rw [h, h']
  rfl

set_option maxRecDepth 100000 in
set_option maxHeartbeats 8000000 in
theorem needsUp_any (v u : Value) (S : List Rel) (N : List Nd) (w : World) (hS : S.length ≤ 30) (hq : ∀ q ∈ S, q.2.2.2.length ≤ 5 ∧ ∀ p ∈ q.2.2.2, p.2.length ≤ 1048576) (hN : N.length ≤ 5) (hNq : ∀ q ∈ N, q.2.length ≤ 1048576) (h : RlAt w w.heap.size v S) (h' : NdAt w w.heap.size u N) :
    Calls Try.prog 83 #[v, u] w fun e w' => ∃ r, e = .returned r ∧ NdAt w' w'.heap.size r (upL S N) ∧ Below w.heap.size w w' := by
  obtain ⟨i0, hi, hz0, hz1, hz2⟩ := info_parts infoNeed
  have hmk := make_flags S.length (by omega)
  have hall : ∀ {st : St}, Ok S N st → ∀ q ∈ st.2, q.2.length ≤ 1048576 := fun ho q hm => by
    rcases ho.mem q hm with h | ⟨x, hx, h⟩
    · exact hNq q h
    · exact (hq x hx).2 q h
  obtain ⟨sa, caps, rfl, h0⟩ := id h
  obtain ⟨na, ncap, rfl, hx⟩ := id h'
  clear hx
  have HN := Lib.hid h'
  clear h h'
  go_enter Try.func83, Try.ntmps83
  go_wp2_with fail
  refine (needsCopy_any _ N _ (HN.out.stepAt (by go_grown)) (by omega) hNq).mono ?_
  rintro e w1 ⟨v1, fs, rfl, g1, hb1⟩
  have n1 : Below w.heap.size w w1 := Below.step (by go_grown) hb1
  obtain ⟨a1, c1, hv1, hx⟩ := id g1.own.at
  subst hv1
  clear hx
  have hst : UpRel S N w w1.heap.size (.slice a1 N.length c1) (.int .i64 0) (w1.alloc (.cells (madeCells #[.bool false] (S.length * 1)) 4)) :=
    ⟨0, start S N, rfl, Nat.zero_le _, Ok.start fun q h => (hq q h).1, rfl, NOwn.down (g1.own.below ((Below.refl _ _).alloc (Nat.le_refl _) _)) (Nat.zero_le _), made_flags _ _, n1.alloc n1.size _⟩
  rw [Nat.mul_one] at hst
  have HST := Lib.hid hst
  have z1 := n1.size
  clear g1 hb1 hst
  go_wp2_with fail
  clear hmk
  go_loopw [5, 7] (fun v i wr => UpRel S N w w1.heap.size v i wr) (fun _ i _ => 200 - (intOf i).toNat)
  case atStart => exact HST.out
  case round =>
    obtain ⟨k, st, rfl, hk, hok, hu, hown, hfl, hb⟩ := hrel
    have hle := hok.le hS hN
    obtain ⟨va, vc, rfl, hx⟩ := id hown.at
    clear hx
    by_cases hlt : k < st.2.length
    · obtain ⟨nm, L, hn⟩ : ∃ nm L, st.2[k] = (nm, L) := ⟨_, _, rfl⟩
      have hn' : st.2[k]? = some (nm, L) := by rw [List.getElem?_eq_getElem hlt, hn]
      have hL : L.length ≤ 1048576 := by have := hall hok _ (List.getElem_mem hlt); rwa [hn] at this
      have HU := Lib.hid hu
      have HN' := Lib.hid hn'
      have HI := Lib.hid (show UpIn S N w w1.heap.size k (nm, L) st (.slice va st.2.length vc) (.int .i64 0) wr from ⟨0, st, rfl, Nat.zero_le _, hlt, hok, rfl, hn', hown, hfl, hb⟩)
      clear hok hown hfl hb hu hn hn'
      go_wp2_with fail
      go_loopw [5, 23] (fun v i wx => UpIn S N w w1.heap.size k (nm, L) st v i wx) (fun _ i _ => S.length - (intOf i).toNat)
      case atStart => exact HI.out
      case round =>
        rename World => wx
        obtain ⟨j, s2, rfl, hj, hks, hok, hp, hn2, hown, hfl, hb⟩ := hrel
        have hle2 := hok.le hS hN
        obtain ⟨vb, vd, rfl, hat⟩ := id hown.at
        have HP := Lib.hid hp
        have HN2 := Lib.hid hn2
        have HOK := Lib.hid hok
        have HOW := Lib.hid hown
        have HFL := Lib.hid hfl
        have hbz := hb.size
        by_cases hjl : j < S.length
        · rcases h0 with h0 | ⟨b, o, rfl, hB, hc⟩
          · subst h0
            exact absurd hjl (by simp)
          obtain ⟨x, a, b', c, d, f, M, hxy⟩ : ∃ x a b c d f M, S[j] = (x, (a, b, c, d), f, M) := ⟨_, _, _, _, _, _, _, rfl⟩
          have m1 := (hc j hjl).below hb hB
          rw [hxy] at m1
          obtain ⟨⟨e0, e1, e2, e3, e4, e5⟩, ad, cap, e6, hs⟩ := m1
          simp only at e0 e1 e2 e3 e4 e5 e6 hs
          have HXY := Lib.hid (show S[j]? = some (x, (a, b', c, d), f, M) by rw [List.getElem?_eq_getElem hjl, hxy])
          have hM := hq _ (List.getElem_mem hjl)
          rw [hxy] at hM
          have HS := Lib.hid hs
          obtain ⟨gn, on, hvb, hgn, hcn⟩ : ∃ b o, vb = some ⟨b, o, none⟩ ∧ b < wx.heap.size ∧ ∀ i (h : i < s2.2.length), NdC wx wx.heap.size b (o + i * 2) s2.2[i] := by
            rcases hat with hat | hat
            · rw [hat] at hks; simp at hks
            · exact hat
          subst hvb
          have hkk : s2.2[k] = (nm, L) := by
            rw [List.getElem?_eq_getElem hks] at hn2
            exact Option.some.inj hn2
          obtain ⟨p0, la, lc, p1, hsp⟩ := hcn k hks
          rw [hkk] at p0 p1 hsp
          simp only at p0 p1 hsp
          have HSP := Lib.hid hsp
          have hjc : j < s2.1.length := by rw [hok.flags]; exact hjl
          have q0 := hfl.cell hjc
          have qf := hfl.frozen (i := j)
          have hgl := hfl.lt
          have bB : b < wx.heap.size := Nat.lt_of_lt_of_le hB hb.size
          clear hxy hs hcn hkk hsp hat hp hn2 hok hown hfl hjc
          have i0' : (0 : Int) ≤ (j : Int) := by omega
          have i1 : (j : Int) < (S.length : Int) := by omega
          have i2 : (0 : Int) ≤ (k : Int) := by omega
          have i3 : (k : Int) < (s2.2.length : Int) := by omega
          obtain ⟨w3, hw3⟩ : ∃ V : World, V = wx.alloc (.cells #[.int .i64 x, .int .i64 a, .int .i64 b', .int .i64 c, .int .i64 d, .bool f, .slice ad M.length cap] 37) := ⟨_, rfl⟩
          have b3 : Below wx.heap.size wx w3 := by rw [hw3]; exact (Below.refl _ _).alloc (Nat.le_refl _) _
          have z3 : wx.heap.size + 1 ≤ w3.heap.size := by rw [hw3]; simp
          have y0 : w3.cell? ⟨wx.heap.size, 0, none⟩ = some (.int .i64 x) := by rw [hw3]; go_simp
          have y1 : w3.cell? ⟨wx.heap.size, 1, none⟩ = some (.int .i64 a) := by rw [hw3]; go_simp
          have y2 : w3.cell? ⟨wx.heap.size, 2, none⟩ = some (.int .i64 b') := by rw [hw3]; go_simp
          have y3 : w3.cell? ⟨wx.heap.size, 3, none⟩ = some (.int .i64 c) := by rw [hw3]; go_simp
          have y4 : w3.cell? ⟨wx.heap.size, 4, none⟩ = some (.int .i64 d) := by rw [hw3]; go_simp
          have y5 : w3.cell? ⟨wx.heap.size, 5, none⟩ = some (.bool f) := by rw [hw3]; go_simp
          have y6 : w3.cell? ⟨wx.heap.size, 6, none⟩ = some (.slice ad M.length cap) := by rw [hw3]; go_simp
          go_upto_region 9 with fail
          rw [← hw3]
          clear hw3 e0 e1 e2 e3 e4 e5 e6
          have t0 := cell_regrown y0
          have t1 := cell_regrown y1
          have t2 := cell_regrown y2
          have t3 := cell_regrown y3
          have t4 := cell_regrown y4
          have t5 := cell_regrown y5
          have t6 := cell_regrown y6
          have u0 := cell_regrown ((b3.cell (p := ⟨gn, on + k * 2, none⟩) hgn).trans p0)
          have u1 := cell_regrown ((b3.cell (p := ⟨gn, on + k * 2 + 1, none⟩) hgn).trans p1)
          have u2 := cell_regrown ((b3.cell (p := ⟨w1.heap.size, j, none⟩) hgl).trans q0)
          have HSP3 := Lib.hid (HSP.out.stepAt b3)
          have KF : Hid (∀ V, SpAt V V.heap.size (.slice la L.length lc) L → Calls Try.prog 101 #[rels x a b' c d f (.slice ad M.length cap), need nm (.slice la L.length lc)] V fun e w' => e = .returned (.bool (fitB nm L (x, (a, b', c, d), f, M))) ∧ Below V.heap.size V w') := Lib.hid fun V g => releaseFits_any x a b' c d nm f _ _ M L V ⟨_, _, _, rfl⟩ hL g
          have HY := Lib.hid (show w3.cell? ⟨wx.heap.size, 6, none⟩ = some (.slice ad M.length cap) from y6)
          clear y0 y1 y2 y3 y4 y5 y6 p0 p1
          rcases hcj : s2.1.getD j true
          · rcases hfb : fitB nm L (x, (a, b', c, d), f, M)
            · have HH := Lib.hid (hit_no (n := (nm, L)) (st := s2) (j := j) (x := (x, (a, b', c, d), f, M)) (.inr hfb))
              rw [hcj] at u2 q0
              rw [hfb] at KF
              clear hcj hfb
              go_wp2_with fail
              refine wp_region_quiet_below (by kernel_rfl) (by kernel_rfl) ?_
              repeat (any_goals (first | go_big_quiet_step ((go_at_call 101; exact Calls.regrown_of (KF.out _ (HSP3.out.stepAt (below_regrown _ _ _))))) | quiet_step ((go_at_call 101; exact Calls.regrown_of (KF.out _ (HSP3.out.stepAt (below_regrown _ _ _)))))))
              refine wpQuiet_nil ?_
              intro W2 hw2
              have nn := quiet_end hw2
              clear hw2 t0 t1 t2 t3 t4 t5 t6 u0 u1 u2 q0
              have bx := b3.trans (nn.mono b3.size)
              have HR := Lib.hid (in_next (w := w) (N := N) hjl HXY.out hks HOK.out HP.out HN2.out (by rw [HH.out]; exact HOW.out.below bx) (by rw [HH.out]; exact HFL.out.below bx) (hb.trans (bx.mono hbz)))
              go_wp2_with fail
              go_roundw
              case rel => exact HR.out
              case measure => simp [intOf]; omega
            · have HH := Lib.hid (hit_yes (n := (nm, L)) (st := s2) (j := j) (x := (x, (a, b', c, d), f, M)) hcj hfb)
              rw [hcj] at u2 q0
              rw [hfb] at KF
              clear hcj hfb
              go_wp2_with fail
              refine wp_region_quiet_below (by kernel_rfl) (by kernel_rfl) ?_
              repeat (any_goals (first | go_big_quiet_step ((go_at_call 101; exact Calls.regrown_of (KF.out _ (HSP3.out.stepAt (below_regrown _ _ _))))) | quiet_step ((go_at_call 101; exact Calls.regrown_of (KF.out _ (HSP3.out.stepAt (below_regrown _ _ _)))))))
              refine wpQuiet_nil ?_
              intro W2 hw2
              have nn := quiet_end hw2
              clear hw2 t0 t1 t2 t3 t4 t5 t6 u0 u1 u2
              have bx := b3.trans (nn.mono b3.size)
              have zx := bx.size
              have zn := nn.size
              have f0 : W2.cell? ⟨w1.heap.size, j, none⟩ = some (.bool false) := (bx.cell (p := ⟨w1.heap.size, j, none⟩) hgl).trans q0
              have f1 : W2.frozen? ⟨w1.heap.size, j, none⟩ = false := (bx.frozen (p := ⟨w1.heap.size, j, none⟩) hgl).trans qf
              have f2 : W2.cell? ⟨wx.heap.size, 6, none⟩ = some (.slice ad M.length cap) := (nn.cell (p := ⟨wx.heap.size, 6, none⟩) (by show wx.heap.size < w3.heap.size; omega)).trans HY.out
              have ne1 : w1.heap.size ≠ wx.heap.size := by omega
              have ne2 : wx.heap.size ≠ w1.heap.size := by omega
              have hF2 := HFL.out.below bx
              have HF3 := Lib.hid (hF2.set (i := j) true)
              have hO3 := NOwn.flag (i := j) (b := true) (HOW.out.below bx) hF2
              have hb3 : Below w.heap.size w (W2.setCell ⟨w1.heap.size, j, none⟩ (.bool true)) := (hb.trans (bx.mono hbz)).setCell z1 _
              have HB3 := Lib.hid hb3
              obtain ⟨cs, hown3, hc3⟩ := hO3
              have hlt3 := World.ownsRow.lt hown3
              have hNS : NdAt (W2.setCell ⟨w1.heap.size, j, none⟩ (.bool true)) w.heap.size (.slice ad M.length cap) M := (HS.out.below (bx.mono hbz)).below ⟨rfl, rfl, rfl, by simp [World.setCell], fun i hi => Below.heap_setCell _ _ _ _ (by show i ≠ w1.heap.size; omega)⟩
              obtain ⟨news, l1, l2, l3, l4, l5⟩ := need_cells (x := (Value.slice (some ⟨gn, on, none⟩) s2.2.length vd).ownBlock) hNS hb3.size (fun c e => (hlt3 c e).1)
              have HC3 := Lib.hid hc3
              have HL5 := Lib.hid l5
              have HNE := Lib.hid (own_ne hown3 HF3.out)
              clear hc3 l5 hNS hF2 hb3 q0
              go_wp2_with (at_builtin; refine Ap2.wpList_append _ rfl (.tmp 44) (.tmp 46) 35 rfl w.heap.size 72 i0 (.agg #[.int .i64 0, .slice none 0 0]) 2 32 Try.underlying35 hi hz0 hz1 hz2 rfl (by decide) _ _ cs rfl hown3 ad M.length cap news (by rfl) l1 l2 l3 l4 (by unfold maxLen; omega) (by omega) (by have := HB3.out.size; first | exact this | omega) ?_)
              intro a7 c7 w7 hown7 hgrow7 hat7
              have n7 : Below w.heap.size w w7 := Below.grown HB3.out hgrow7 HB3.out.size (fun k e => (hlt3 k e).1)
              have hO7 := grow_any hown3 HC3.out HL5.out hown7 hgrow7 (by rw [show (W2.setCell ⟨w1.heap.size, j, none⟩ (.bool true)).heap.size = W2.heap.size by simp [World.setCell]]; exact hat7)
              have hF7 : Fl w7 w1.heap.size (s2.1.set j true) := HF3.out.kept (hgrow7.block _ HF3.out.lt (fun e => HNE.out _ e.symm rfl))
              have HR := Lib.hid (in_next (w := w) (N := N) hjl HXY.out hks HOK.out HP.out HN2.out (v := .slice a7 (s2.2.length + M.length) c7) (by rw [HH.out]; exact hO7) (by rw [HH.out]; exact hF7) n7)
              clear hown7 hgrow7 hat7 hown3 hO7 hF7
              go_wp2_with fail
              go_roundw
              case rel => exact HR.out
              case measure => simp [intOf]; omega
          · have HH := Lib.hid (hit_no (n := (nm, L)) (st := s2) (j := j) (x := (x, (a, b', c, d), f, M)) (.inl hcj))
            rw [hcj] at u2 q0
            clear hcj KF
            go_wp2_with fail
            refine wp_region_quiet_below (by kernel_rfl) (by kernel_rfl) ?_
            repeat (any_goals (first | go_big_quiet_step (fail) | quiet_step (fail)))
            refine wpQuiet_nil ?_
            intro W2 hw2
            have nn := quiet_end hw2
            clear hw2 t0 t1 t2 t3 t4 t5 t6 u0 u1 u2 q0
            have bx := b3.trans (nn.mono b3.size)
            have HR := Lib.hid (in_next (w := w) (N := N) hjl HXY.out hks HOK.out HP.out HN2.out (by rw [HH.out]; exact HOW.out.below bx) (by rw [HH.out]; exact HFL.out.below bx) (hb.trans (bx.mono hbz)))
            go_wp2_with fail
            go_roundw
            case rel => exact HR.out
            case measure => simp [intOf]; omega
        · obtain rfl : j = S.length := by omega
          have HR := Lib.hid (up_next (by omega) HN'.out HU.out HP.out hks HOK.out HOW.out HFL.out hb)
          clear hat hp hn2 hok hown hfl
          go_wp2_with fail
          go_roundw
          case rel => exact HR.out
          case measure => simp [intOf]; omega
    · obtain rfl : k = st.2.length := by omega
      have HE := Lib.hid (show upL S N = st.2 by rw [hu, run_end (Nat.le_refl _)])
      have HA := Lib.hid hown.at
      clear hok hown hfl hu
      go_wp2_with fail
      go_ret
      exact ⟨_, rfl, by rw [HE.out]; exact HA.out, hb⟩
end Nup
end Go.Proofs.Ytigkfhgmnenplaa
