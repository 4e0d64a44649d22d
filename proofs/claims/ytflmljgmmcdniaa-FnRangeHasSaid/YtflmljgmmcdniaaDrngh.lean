/- The contract of the draw of a range and a version, over this seat's translation: the range lies in memory of its own; nothing that was there has changed. Condition: the code is readable. -/
import Derived.Test.YtflmljgmmcdniaaDrngd
import Derived.Deep.CutRange
import Derived.Deep.RegionHeld3
import Derived.Test.YtflmljgmmcdniaaStp
namespace Go.Proofs.Ytflmljgmmcdniaa
open Go.ChangeShapes Go.WideShapes Go.ChangeAt Go.RowKit Go.Sort

def AnyRngV (w : World) (e : Ending) (w' : World) : Prop :=
  ∃ A u a b c d, e = .returned (.tuple #[.agg #[u], ver a b c d]) ∧ SRes A w.heap.size u w' ∧ A.length ≤ 41 ∧ Below w.heap.size w w'

/-- The state of the draw: the range lies in box X, the version in box V, the reader was asked some times, the results' cells are as at the beginning. -/
structure HB (w : World) (L : Sps) (u : Value) (X V N : Nat) (a b c d : Int) (W : World) : Prop where
  row : SB L (w.heap.size + 3) X u W
  xv : w.heap.size + 2 < X ∧ X < V ∧ V < W.heap.size
  xb : W.heap[X]? = some (.cells #[u] 28 (0, 0))
  vb : VerBlk W V a b c d
  r0 : W.heap[w.heap.size]? = some (.cells #[.slice none 0 0] 28 (0, 0))
  r1 : VerBlk W (w.heap.size + 1) 0 0 0 0
  rd : ∃ q, q ≤ N ∧ RdAt W (w.heap.size + 2) q
  be : Below w.heap.size w W

theorem HB.kept {w W W' : World} {L : Sps} {u : Value} {X V N N' : Nat} {a b c d : Int} (h : HB w L u X V N a b c d W) (hs : W.heap.size ≤ W'.heap.size) (hk : ∀ k, k < W.heap.size → k ≠ w.heap.size + 2 → W'.heap[k]? = W.heap[k]?)
    (hr : ∃ q, q ≤ N' ∧ RdAt W' (w.heap.size + 2) q) (hb : Below w.heap.size w W') : HB w L u X V N' a b c d W' :=
  have := h.xv
  ⟨h.row.kept fun g h1 h2 h3 => hk g h3 (by omega), ⟨h.xv.1, h.xv.2.1, by omega⟩, (hk X (by omega) (by omega)).trans h.xb, (hk V (by omega) (by omega)).trans h.vb, (hk _ (by omega) (by omega)).trans h.r0, (hk _ (by omega) (by omega)).trans h.r1, hr, hb⟩
theorem HB.below {w W W' : World} {L : Sps} {u : Value} {X V N : Nat} {a b c d : Int} (h : HB w L u X V N a b c d W) (hb : Below W.heap.size W W') : HB w L u X V N a b c d W' := by
  have := h.xv
  obtain ⟨q, hq, hr⟩ := h.rd
  exact h.kept hb.size (fun k hk _ => hb.block k hk) ⟨q, hq, rdAt_below hr hb (by omega)⟩ (h.be.trans (hb.mono h.be.size))
theorem HB.draw {w W W' : World} {L : Sps} {u : Value} {X V N N' : Nat} {a b c d : Int} {q c' : Nat} (h : HB w L u X V N a b c d W) (hd : Drawn W (w.heap.size + 2) q c' W') (hq : q + c' ≤ N') : HB w L u X V N' a b c d W' := by
  obtain ⟨q', h1, h2, h3, hg⟩ := hd
  exact h.kept hg.size (fun k hk hne => hg.block k hk (fun e => by injection e with e; omega)) ⟨q', by omega, h3⟩ (h.be.grown hg h.be.size (fun k hk => by injection hk with hk; omega))
theorem HB.set {w W : World} {L : Sps} {u : Value} {X V N : Nat} {a b c d a' b' c' d' : Int} (h : HB w L u X V N a b c d W) :
    HB w L u X V N a' b' c' d' ((((W.setCell ⟨V, 0, none⟩ (.int .i64 a')).setCell ⟨V, 1, none⟩ (.int .i64 b')).setCell ⟨V, 2, none⟩ (.int .i64 c')).setCell ⟨V, 3, none⟩ (.int .i64 d')) := by
  have hx := h.xv
  have far : ∀ k, k ≠ V → ((((W.setCell ⟨V, 0, none⟩ (.int .i64 a')).setCell ⟨V, 1, none⟩ (.int .i64 b')).setCell ⟨V, 2, none⟩ (.int .i64 c')).setCell ⟨V, 3, none⟩ (.int .i64 d')).heap[k]? = W.heap[k]? := fun k hk =>
    (Below.heap_setCell _ _ _ _ (by show k ≠ V; exact hk)).trans ((Below.heap_setCell _ _ _ _ (by show k ≠ V; exact hk)).trans ((Below.heap_setCell _ _ _ _ (by show k ≠ V; exact hk)).trans (Below.heap_setCell _ _ _ _ (by show k ≠ V; exact hk))))
  obtain ⟨q, hq, hr⟩ := h.rd
  exact ⟨h.row.kept fun g h1 h2 h3 => far g (by omega), ⟨hx.1, hx.2.1, by simpa [World.setCell] using hx.2.2⟩, (far X (by omega)).trans h.xb, h.vb.set4, (far _ (by omega)).trans h.r0, (far _ (by omega)).trans h.r1, ⟨q, hq, rdAt_kept hr fun k hk => far k (by omega)⟩,
    (((h.be.setCell (by show w.heap.size ≤ V; omega) _).setCell (by show w.heap.size ≤ V; omega) _).setCell (by show w.heap.size ≤ V; omega) _).setCell (by show w.heap.size ≤ V; omega) _⟩
theorem HB.facts {w W : World} {L : Sps} {u : Value} {X V N : Nat} {a b c d : Int} (h : HB w L u X V N a b c d W) :
    W.cell? ⟨X, 0, none⟩ = some u ∧ (W.cell? ⟨V, 0, none⟩ = some (.int .i64 a) ∧ W.cell? ⟨V, 1, none⟩ = some (.int .i64 b) ∧ W.cell? ⟨V, 2, none⟩ = some (.int .i64 c) ∧ W.cell? ⟨V, 3, none⟩ = some (.int .i64 d)) ∧
    (∀ o, W.frozen? ⟨V, o, none⟩ = false) ∧ W.cell? ⟨w.heap.size, 0, none⟩ = some (.slice none 0 0) ∧ (∀ o, W.frozen? ⟨w.heap.size, o, none⟩ = false) ∧
    (W.cell? ⟨w.heap.size + 1, 0, none⟩ = some (.int .i64 0) ∧ W.cell? ⟨w.heap.size + 1, 1, none⟩ = some (.int .i64 0) ∧ W.cell? ⟨w.heap.size + 1, 2, none⟩ = some (.int .i64 0) ∧ W.cell? ⟨w.heap.size + 1, 3, none⟩ = some (.int .i64 0)) ∧ (∀ o, W.frozen? ⟨w.heap.size + 1, o, none⟩ = false) := by
  have e := h.vb
  have e1 := h.r1
  unfold VerBlk at e e1
  refine ⟨(cell_of_row W X 0 _ _ (0, 0) h.xb).trans rfl, ⟨(cell_of_row W V 0 _ _ (0, 0) e).trans rfl, (cell_of_row W V 1 _ _ (0, 0) e).trans rfl, (cell_of_row W V 2 _ _ (0, 0) e).trans rfl, (cell_of_row W V 3 _ _ (0, 0) e).trans rfl⟩, fun o => by simp [World.frozen?, e], (cell_of_row W _ 0 _ _ (0, 0) h.r0).trans rfl, fun o => by simp [World.frozen?, h.r0],
    ⟨(cell_of_row W _ 0 _ _ (0, 0) e1).trans rfl, (cell_of_row W _ 1 _ _ (0, 0) e1).trans rfl, (cell_of_row W _ 2 _ _ (0, 0) e1).trans rfl, (cell_of_row W _ 3 _ _ (0, 0) e1).trans rfl⟩, fun o => by simp [World.frozen?, e1]⟩

theorem HB.more {w W : World} {L : Sps} {u : Value} {X V N N' : Nat} {a b c d : Int} (h : HB w L u X V N a b c d W) (hN : N ≤ N') : HB w L u X V N' a b c d W :=
  ⟨h.row, h.xv, h.xb, h.vb, h.r0, h.r1, by obtain ⟨q, h1, h2⟩ := h.rd; exact ⟨q, by omega, h2⟩, h.be⟩
theorem HB.far {w W : World} {L : Sps} {u : Value} {X V N g o : Nat} {a b c d : Int} {v : Value} (h : HB w L u X V N a b c d W) (hg : V < g) : HB w L u X V N a b c d (W.setCell ⟨g, o, none⟩ v) := by
  have hx := h.xv
  have far : ∀ k, k ≠ g → (W.setCell ⟨g, o, none⟩ v).heap[k]? = W.heap[k]? := fun k hk => Below.heap_setCell _ _ _ _ (by show k ≠ g; exact hk)
  obtain ⟨q, hq, hr⟩ := h.rd
  exact ⟨h.row.kept fun k h1 h2 h3 => far k (by omega), ⟨hx.1, hx.2.1, by simpa [World.setCell] using hx.2.2⟩, (far X (by omega)).trans h.xb, (far V (by omega)).trans h.vb, (far _ (by omega)).trans h.r0, (far _ (by omega)).trans h.r1, ⟨q, hq, rdAt_kept hr fun k hk => far k (by omega)⟩,
    h.be.setCell (by show w.heap.size ≤ g; omega) _⟩
theorem HB.span {w W : World} {L : Sps} {X V N g0 cu i : Nat} {a b c d : Int} (h : HB w L (.slice (some ⟨g0, 0, none⟩) L.length cu) X V N a b c d W) (hi : i < L.length) :
    W.cell? ⟨g0, i * 2, none⟩ = some (.int .i64 L[i].1) ∧ W.cell? ⟨g0, i * 2 + 1, none⟩ = some (.int .i64 L[i].2) ∧ g0 < W.heap.size := by
  obtain ⟨a', c', e, hc⟩ := h.row.at
  simp only [Value.slice.injEq] at e
  obtain ⟨e1, _, _⟩ := e
  rcases hc with rfl | ⟨b', o', e2, hB, hc⟩
  · simp at hi
  · rw [← e1] at e2
    simp only [Option.some.injEq, Addr.mk.injEq, and_true] at e2
    obtain ⟨rfl, rfl⟩ := e2
    have := hc i hi
    rw [Nat.zero_add] at this
    exact ⟨this.1, this.2, hB⟩

theorem SB.res {L : Sps} {lo hi base : Nat} {v : Value} {w : World} (h : SB L lo hi v w) (hb : base ≤ lo) : SRes L base v w := by
  obtain ⟨a, cap, rfl, h⟩ := h
  exact ⟨_, _, rfl, h.imp id fun ⟨g, n, e, hk, h1, _⟩ => ⟨g, n, e, hk, by omega⟩⟩
theorem four_at {p q r s : Int} {k : Nat} (h : k < 4) : ∃ z : Int, (#[Value.int .i64 p, .int .i64 q, .int .i64 r, .int .i64 s] : Array Value)[k]? = some (.int .i64 z) := by
  have : k = 0 ∨ k = 1 ∨ k = 2 ∨ k = 3 := by omega
  rcases this with rfl | rfl | rfl | rfl
  · exact ⟨_, rfl⟩
  · exact ⟨_, rfl⟩
  · exact ⟨_, rfl⟩
  · exact ⟨_, rfl⟩
theorem atR_form (r : Int) : ∃ a b c d o, atR r = .tuple #[ver a b c d, .bool o] := by
  unfold atR
  split
  · exact ⟨_, _, _, _, _, rfl⟩
  · exact ⟨_, _, _, _, _, rfl⟩

set_option maxRecDepth 100000 in
set_option maxHeartbeats 4000000 in
theorem DrawRangeHas_any (a : Option Addr) (len cap : Nat) (w : World) (h : CodeIn w a len cap) : Calls Try.prog 29 #[.slice a len cap] w (AnyRngV w) := by
  have b0 := (((Below.refl w.heap.size w).alloc (Nat.le_refl _) (.cells #[.slice none 0 0] 28)).alloc (by simp) (.cells #[.int .i64 0, .int .i64 0, .int .i64 0, .int .i64 0] 43))
  have h1 := codeIn_below h b0
  have v0 := VerBlk.new (w.alloc (.cells #[.slice none 0 0] 28)) 0 0 0 0
  have e0 : ((w.alloc (.cells #[.slice none 0 0] 28)).alloc (.cells #[.int .i64 0, .int .i64 0, .int .i64 0, .int .i64 0] 43)).heap[w.heap.size]? = some (.cells #[.slice none 0 0] 28 (0, 0)) :=
    (Below.heap_alloc _ _ _ (by simp)).trans (heap_alloc_new w _)
  go_enter Try.func29, Try.ntmps29
  go_wp2_with fail
  refine (open_any a len cap _ h1).mono ?_
  rintro e w1 ⟨rfl, hr1, hb1⟩
  have b1 := b0.trans (hb1.mono (by simp; omega))
  have s1 := rdAt_lt hr1
  simp only [World.size_alloc] at hr1 s1 v0
  have v1 : VerBlk w1 (w.heap.size + 1) 0 0 0 0 := (hb1.block _ (by simp)).trans v0
  have e1 := (hb1.block w.heap.size (by simp; omega)).trans e0
  clear h1 hb1 b0 h v0 e0
  go_wp2_with fail
  refine (l20Range_any _ 0 _ w1 hr1 (by omega) (by omega) (by omega)).mono ?_
  rintro e w2 ⟨L, u, rfl, ho, hl, hd⟩
  have b2 := drawn_below hd b1 (by omega)
  have hs := ho.res.sb
  obtain ⟨q, _, hq, hr2, hg⟩ := hd
  have v2 := v1.kept hg (by omega)
  have e2 := (hg.block w.heap.size (by omega) (fun e => by injection e with e; omega)).trans e1
  have s2 := hg.size
  obtain ⟨au, cu, rfl, hx⟩ := id ho.res
  clear hx hg ho hr1 b1 v1 e1
  obtain ⟨w3, hw3⟩ : ∃ Z : World, Z = w2.alloc (.cells #[.slice au L.length cu] 28) := ⟨_, rfl⟩
  have n3 : Below w2.heap.size w2 w3 := by rw [hw3]; exact (Below.refl _ _).alloc (Nat.le_refl _) _
  have x3 : w3.heap[w2.heap.size]? = some (.cells #[.slice au L.length cu] 28 (0, 0)) := by rw [hw3]; exact heap_alloc_new w2 _
  have s3 : w2.heap.size + 1 ≤ w3.heap.size := by rw [hw3]; simp
  have hr3 := rdAt_below hr2 n3 (by omega)
  have b3 := b2.trans (n3.mono b2.size)
  have v3 : VerBlk w3 (w.heap.size + 1) 0 0 0 0 := (n3.block _ (by omega)).trans v2
  have e3 := (n3.block w.heap.size (by omega)).trans e2
  have hs3 := hs.below n3
  clear n3 hr2 b2 v2 e2 hs
  go_upto_region 3 with fail
  rw [← hw3]
  clear hw3
  go_wp2_with fail
  refine (version_any _ q _ w3 hr3 (by omega) (by omega) (by omega)).mono ?_
  rintro e w4 ⟨x, y, z, t, rfl, hx, hd⟩
  clear hx
  have b4 := drawn_below hd b3 (by omega)
  obtain ⟨q4, _, hq4, hr4, hg⟩ := hd
  have v4 := v3.kept hg (by omega)
  have e4 := (hg.block w.heap.size (by omega) (fun e => by injection e with e; omega)).trans e3
  have x4 := (hg.block w2.heap.size (by omega) (fun e => by injection e with e; omega)).trans x3
  have s4 := hg.size
  have hs4 : SB L w1.heap.size w2.heap.size (.slice au L.length cu) w4 := hs3.kept fun g h1 _ h3 => hg.block g h3 (fun e => by injection e with e; omega)
  clear hg hr3 b3 v3 e3 x3 hs3
  obtain ⟨w5, hw5⟩ : ∃ Z : World, Z = w4.alloc (.cells #[.int .i64 x, .int .i64 y, .int .i64 z, .int .i64 t] 43) := ⟨_, rfl⟩
  have n5 : Below w4.heap.size w4 w5 := by rw [hw5]; exact (Below.refl _ _).alloc (Nat.le_refl _) _
  have HS := Lib.hid (show HB w L (.slice au L.length cu) w2.heap.size w4.heap.size 400 x y z t w5 from
    ⟨by obtain ⟨aa, cc, e, hh⟩ := hs4.below n5
        refine ⟨aa, cc, e, hh.imp id ?_⟩
        rintro ⟨g, n, e, hk, h1, h2⟩
        exact ⟨g, n, e, hk, by omega, h2⟩,
     ⟨by omega, by omega, by rw [hw5]; simp⟩, (n5.block _ (by omega)).trans x4, by rw [hw5]; exact VerBlk.new w4 x y z t, (n5.block _ (by omega)).trans e4, (n5.block _ (by omega)).trans v4, ⟨q4, by omega, rdAt_below hr4 n5 (by omega)⟩, b4.trans (n5.mono b4.size)⟩)
  have s5 : w4.heap.size + 1 ≤ w5.heap.size := by rw [hw5]; simp
  clear n5 hr4 b4 v4 e4 x4 hs4
  go_upto_region 4 with fail
  rw [← hw5]
  clear hw5
  obtain ⟨q5, hq5, hr5⟩ := HS.out.rd
  have hx5 := HS.out.xv
  go_cut [22] from 14 (fun s22 wx => ∃ bv : Bool, s22 = .bool bv ∧ (bv = true → 0 < L.length) ∧ HB w L (.slice au L.length cu) w2.heap.size w4.heap.size 450 x y z t wx)
  case first =>
    have cX := HS.out.facts.1
    by_cases hlen : 0 < L.length
    case neg =>
      have hlI : decide ((0 : Int) < (L.length : Int)) = false := decide_eq_false (by omega)
      have hlJ : decide (0 < L.length) = false := decide_eq_false hlen
      go_wp2_with fail
      go_meet
      case rel => exact ⟨false, rfl, by simp, HS.out.more (by omega)⟩
    case pos =>
      have hlI : (0 : Int) < (L.length : Int) := by omega
      go_wp2_with fail
      refine (pick_any _ q5 2 _ hr5 (by omega)).mono ?_
      rintro e w6 ⟨k, rfl, k0, k1, hx, hr6, hg6⟩
      have S6 := Lib.hid (HS.out.draw (N' := 450) (drawn_pick hr6 hg6) (by omega))
      clear hx k1 hg6 cX HS hr5 hr6
      go_wp2_with fail
      go_meet
      case rel => exact ⟨_, rfl, fun _ => hlen, S6.out⟩
  case rest =>
    rename World => w6
    obtain ⟨bv, rfl, hlen, hS⟩ := hcut
    have S6 := Lib.hid hS
    clear hS HS hr5
    cases bv
    · clear hlen
      obtain ⟨cX, ⟨v0, v1, v2, v3⟩, fV, r0, fR, ⟨q0, q1, q2, q3⟩, fQ⟩ := S6.out.facts
      have hxf := S6.out.xv
      have HRow := Lib.hid S6.out.row
      have HBe := S6.out.be
      have hsz := S6.out.be.size
      have n0 : w.heap.size ≠ w2.heap.size := by omega
      have n1 : w.heap.size + 1 ≠ w2.heap.size := by omega
      have n2 : w.heap.size ≠ w4.heap.size := by omega
      have n3 : w.heap.size + 1 ≠ w4.heap.size := by omega
      have n4 : w2.heap.size ≠ w.heap.size := by omega
      have n5 : w2.heap.size ≠ w.heap.size + 1 := by omega
      have n6 : w4.heap.size ≠ w.heap.size := by omega
      have n7 : w4.heap.size ≠ w.heap.size + 1 := by omega
      go_wp2_with fail
      go_region_held3 (fun V => V.cell? ⟨w2.heap.size, 0, none⟩ = some (.slice au L.length cu) ∧ V.cell? ⟨w4.heap.size, 0, none⟩ = some (.int .i64 x) ∧ V.cell? ⟨w4.heap.size, 1, none⟩ = some (.int .i64 y) ∧ V.cell? ⟨w4.heap.size, 2, none⟩ = some (.int .i64 z) ∧ V.cell? ⟨w4.heap.size, 3, none⟩ = some (.int .i64 t)) (go_keep) (fail)
      all_goals
        go_wp2_with fail
        refine bodyPost_ret (v := .tuple #[.agg #[.slice au L.length cu], ver x y z t]) (by simp [results, Try.results29, go_sem, r0, q0, q1, q2, q3]) rfl ⟨L, _, _, _, _, _, rfl, ?_, hl, ?_⟩
        · refine SB.res (HRow.out.kept fun g g1 _ _ => ?_) (by omega)
          repeat (first | (with_reducible rfl) | refine (Below.heap_setCell _ _ _ _ (by simp; omega)).trans ?_ | rfl)
        · go_grown
    · have hlen := hlen rfl
      obtain ⟨q6, hq6, hr6⟩ := S6.out.rd
      have cX6 := S6.out.facts.1
      have hlI : (0 : Int) < (L.length : Int) := by omega
      have hx6 := S6.out.xv
      obtain ⟨g0, hg0⟩ : ∃ g0, au = some ⟨g0, 0, none⟩ := by
        obtain ⟨a', c', e, hc⟩ := S6.out.row
        simp only [Value.slice.injEq] at e
        obtain ⟨rfl, _, _⟩ := e
        rcases hc with rfl | ⟨g, n, e, _⟩
        · simp at hlen
        · exact ⟨g, e⟩
      subst hg0
      go_upto_region 5 with fail
      go_cut [7] from 23 (fun s7 wx => ∃ g xs ys, s7 = .pointer (some ⟨g, 0, none⟩) ∧ wx.cell? ⟨g, 0, none⟩ = some (.int .i64 xs) ∧ wx.cell? ⟨g, 1, none⟩ = some (.int .i64 ys) ∧ w4.heap.size < g ∧ g < wx.heap.size ∧ HB w L (.slice (some ⟨g0, 0, none⟩) L.length cu) w2.heap.size w4.heap.size 460 x y z t wx)
      case first =>
        have dw0 : w6.heap.size ≠ w2.heap.size := by omega
        have dw1 : w2.heap.size ≠ w6.heap.size := by omega
        refine wp_region_noPanic ?_
        refine wp_region_held_drew (S := fun V => V.cell? ⟨w2.heap.size, 0, none⟩ = some (.slice (some ⟨g0, 0, none⟩) L.length cu)) (by kernel_rfl) ?_ (fun hHeld => ?_)
        · go_keep
        refine take0 (v := ?va1) (by kernel_rfl) (by kernel_rfl) (by kernel_rfl) (fun _ _ _ h => h) (by rfl) ?ya1 (by assumption) ?ra1
        case ya1 => (intro w hSw; (try (obtain ⟨hSw1, hSw2⟩ := hSw)); (try dsimp only at hSw); go_simp; (try with_reducible rfl))
        (try simp only [Act.put, List.setIfInBounds_toArray, List.set_cons_zero, List.set_cons_succ])
        refine take1 (v := ?va2) (by kernel_rfl) (by kernel_rfl) (by kernel_rfl) (fun _ _ _ h => h) (by rfl) ?ya2 (by assumption) ?ra2
        case ya2 => (intro w hSw; (try (obtain ⟨hSw1, hSw2⟩ := hSw)); (try dsimp only at hSw); go_simp; (try with_reducible rfl))
        (try simp only [Act.put, List.setIfInBounds_toArray, List.set_cons_zero, List.set_cons_succ])
        refine take2 (v := ?va3) (by kernel_rfl) (by kernel_rfl) (by kernel_rfl) (fun _ _ _ h => h) (by rfl) ?ya3 (by assumption) ?ra3
        case ya3 => (intro w hSw; (try (obtain ⟨hSw1, hSw2⟩ := hSw)); (try dsimp only at hSw); go_simp; (try with_reducible rfl))
        (try simp only [Act.put, List.setIfInBounds_toArray, List.set_cons_zero, List.set_cons_succ])
        refine take3 (v := ?va4) (by kernel_rfl) (by kernel_rfl) (by kernel_rfl) (fun _ _ _ h => h) (by rfl) ?ya4 (by assumption) ?ra4
        case ya4 => (intro w hSw; (try (obtain ⟨hSw1, hSw2⟩ := hSw)); (try dsimp only at hSw); go_simp; (try with_reducible rfl))
        (try simp only [Act.put, List.setIfInBounds_toArray, List.set_cons_zero, List.set_cons_succ])
        refine take4 (v := ?va5) (by kernel_rfl) (by kernel_rfl) (by kernel_rfl) (fun _ _ _ h => h) (by rfl) ?ya5 (by assumption) ?ra5
        case ya5 => (intro w hSw; (try (obtain ⟨hSw1, hSw2⟩ := hSw)); (try dsimp only at hSw); go_simp; (try with_reducible rfl))
        (try simp only [Act.put, List.setIfInBounds_toArray, List.set_cons_zero, List.set_cons_succ])
        refine take5 (v := ?va6) (by kernel_rfl) (by kernel_rfl) (by kernel_rfl) (fun _ _ _ h => h) (by rfl) ?ya6 (by assumption) ?ra6
        case ya6 => (intro w hSw; (try (obtain ⟨hSw1, hSw2⟩ := hSw)); (try dsimp only at hSw); go_simp; (try with_reducible rfl))
        (try simp only [Act.put, List.setIfInBounds_toArray, List.set_cons_zero, List.set_cons_succ])
        refine wpAnyH_ready (rs := [6, 9]) (by kernel_rfl) (by simp) ?_
        refine come6 (fun K hK => ?_) ?_
        · go_simp
          (go_at_call 63; refine (pick_any _ q6 _ _ (rdAt_below hr6 (show Below w6.heap.size w6 _ from by go_grown) (by omega)) (by omega)).mono ?_; rintro e wp ⟨kp, rfl, kp0, kp1, hx, hrp, hgp⟩; obtain ⟨kn, rfl⟩ := Int.eq_ofNat_of_zero_le kp0; have hkn : kn < L.length := (by have := kp1 (by omega); omega); have hknI : (kn : Int) < (L.length : Int) := (by omega); have Sp := Lib.hid (HB.draw (N' := 460) (HB.below S6.out (show Below w6.heap.size w6 _ from by go_grown)) (drawn_pick hrp hgp) (by omega)); have cXp := Sp.out.facts.1; obtain ⟨d0, d1, d2⟩ := Sp.out.span hkn; have sp := hgp.size; (try simp at sp); have xp := Sp.out.xv; clear hx kp1 hrp)
          go_wp2_with fail
          refine hK.out _ _ ?_ (fun hHeld => ?_)
          · go_keep
          clear hK K
          (try simp only [Act.put, List.setIfInBounds_toArray, List.set_cons_zero, List.set_cons_succ])
          refine take7 (v := ?va7) (by kernel_rfl) (by kernel_rfl) (by kernel_rfl) (fun _ _ _ h => h) (by rfl) ?ya7 (by assumption) ?ra7
          case ya7 => (intro w hSw; (try (obtain ⟨hSw1, hSw2⟩ := hSw)); (try dsimp only at hSw); go_simp; (try with_reducible rfl))
          (try simp only [Act.put, List.setIfInBounds_toArray, List.set_cons_zero, List.set_cons_succ])
          refine wpAnyH_ready (rs := [8, 9]) (by kernel_rfl) (by simp) ?_
          refine come8 (fun K hK => ?_) ?_
          · go_simp
            refine hK.out _ _ ?_ (fun hHeld => ?_)
            · go_keep
            clear hK K
            (try simp only [Act.put, List.setIfInBounds_toArray, List.set_cons_zero, List.set_cons_succ])
            refine wpAnyH_ready (rs := [9]) (by kernel_rfl) (by simp) ?_
            refine come9 (fun K hK => ?_) ?_
            · go_simp
              refine hK.out _ _ ?_ (fun hHeld => ?_)
              · go_keep
              clear hK K
              (try simp only [Act.put, List.setIfInBounds_toArray, List.set_cons_zero, List.set_cons_succ])
              refine wpAnyH_ready (rs := [10]) (by kernel_rfl) (by simp) ?_
              refine come10 (fun K hK => ?_) ?_
              · go_simp
                refine hK.out _ _ ?_ (fun hHeld => ?_)
                · go_keep
                clear hK K
                (try simp only [Act.put, List.setIfInBounds_toArray, List.set_cons_zero, List.set_cons_succ])
                refine wpAnyH_done (by kernel_rfl) ?_ _
                refine NoPanic.normal ?_
                go_wp2_with fail
                go_meet
                case rel =>
                  refine ⟨_, L[kn].1, L[kn].2, rfl, by go_simp, by go_simp, ?_, ?_, ?_⟩
                  · omega
                  · simp
                  · exact HB.below Sp.out (by go_grown)
              exact AllReadyH.nil
            exact AllReadyH.nil
          refine come9 (fun K hK => ?_) ?_
          · go_simp
            refine hK.out _ _ ?_ (fun hHeld => ?_)
            · go_keep
            clear hK K
            (try simp only [Act.put, List.setIfInBounds_toArray, List.set_cons_zero, List.set_cons_succ])
            refine wpAnyH_ready (rs := [8]) (by kernel_rfl) (by simp) ?_
            refine come8 (fun K hK => ?_) ?_
            · go_simp
              refine hK.out _ _ ?_ (fun hHeld => ?_)
              · go_keep
              clear hK K
              (try simp only [Act.put, List.setIfInBounds_toArray, List.set_cons_zero, List.set_cons_succ])
              refine wpAnyH_ready (rs := [10]) (by kernel_rfl) (by simp) ?_
              refine come10 (fun K hK => ?_) ?_
              · go_simp
                refine hK.out _ _ ?_ (fun hHeld => ?_)
                · go_keep
                clear hK K
                (try simp only [Act.put, List.setIfInBounds_toArray, List.set_cons_zero, List.set_cons_succ])
                refine wpAnyH_done (by kernel_rfl) ?_ _
                refine NoPanic.normal ?_
                go_wp2_with fail
                go_meet
                case rel =>
                  refine ⟨_, L[kn].1, L[kn].2, rfl, by go_simp, by go_simp, ?_, ?_, ?_⟩
                  · omega
                  · simp
                  · exact HB.below Sp.out (by go_grown)
              exact AllReadyH.nil
            exact AllReadyH.nil
          exact AllReadyH.nil
        refine come9 (fun K hK => ?_) ?_
        · go_simp
          refine hK.out _ _ ?_ (fun hHeld => ?_)
          · go_keep
          clear hK K
          (try simp only [Act.put, List.setIfInBounds_toArray, List.set_cons_zero, List.set_cons_succ])
          refine wpAnyH_ready (rs := [6]) (by kernel_rfl) (by simp) ?_
          refine come6 (fun K hK => ?_) ?_
          · go_simp
            (go_at_call 63; refine (pick_any _ q6 _ _ (rdAt_below hr6 (show Below w6.heap.size w6 _ from by go_grown) (by omega)) (by omega)).mono ?_; rintro e wp ⟨kp, rfl, kp0, kp1, hx, hrp, hgp⟩; obtain ⟨kn, rfl⟩ := Int.eq_ofNat_of_zero_le kp0; have hkn : kn < L.length := (by have := kp1 (by omega); omega); have hknI : (kn : Int) < (L.length : Int) := (by omega); have Sp := Lib.hid (HB.draw (N' := 460) (HB.below S6.out (show Below w6.heap.size w6 _ from by go_grown)) (drawn_pick hrp hgp) (by omega)); have cXp := Sp.out.facts.1; obtain ⟨d0, d1, d2⟩ := Sp.out.span hkn; have sp := hgp.size; (try simp at sp); have xp := Sp.out.xv; have e0 : wp.cell? ⟨w6.heap.size, 0, none⟩ = some (.int .i64 0) := (grown_cell (o := 0) hgp (b := w6.heap.size) (by simp) (by omega)).trans (by go_simp); have e1 : wp.cell? ⟨w6.heap.size, 1, none⟩ = some (.int .i64 0) := (grown_cell (o := 1) hgp (b := w6.heap.size) (by simp) (by omega)).trans (by go_simp); have e2 : wp.frozen? ⟨w6.heap.size, 0, none⟩ = false := (grown_frozen (o := 0) hgp (b := w6.heap.size) (by simp) (by omega)).trans (by go_simp); have e3 : wp.frozen? ⟨w6.heap.size, 1, none⟩ = false := (grown_frozen (o := 1) hgp (b := w6.heap.size) (by simp) (by omega)).trans (by go_simp); clear hx kp1 hrp)
            go_wp2_with fail
            refine hK.out _ _ ?_ (fun hHeld => ?_)
            · go_keep
            clear hK K
            (try simp only [Act.put, List.setIfInBounds_toArray, List.set_cons_zero, List.set_cons_succ])
            refine take7 (v := ?va8) (by kernel_rfl) (by kernel_rfl) (by kernel_rfl) (fun _ _ _ h => h) (by rfl) ?ya8 (by assumption) ?ra8
            case ya8 => (intro w hSw; (try (obtain ⟨hSw1, hSw2⟩ := hSw)); (try dsimp only at hSw); go_simp; (try with_reducible rfl))
            (try simp only [Act.put, List.setIfInBounds_toArray, List.set_cons_zero, List.set_cons_succ])
            refine wpAnyH_ready (rs := [8]) (by kernel_rfl) (by simp) ?_
            refine come8 (fun K hK => ?_) ?_
            · go_simp
              refine hK.out _ _ ?_ (fun hHeld => ?_)
              · go_keep
              clear hK K
              (try simp only [Act.put, List.setIfInBounds_toArray, List.set_cons_zero, List.set_cons_succ])
              refine wpAnyH_ready (rs := [10]) (by kernel_rfl) (by simp) ?_
              refine come10 (fun K hK => ?_) ?_
              · go_simp
                refine hK.out _ _ ?_ (fun hHeld => ?_)
                · go_keep
                clear hK K
                (try simp only [Act.put, List.setIfInBounds_toArray, List.set_cons_zero, List.set_cons_succ])
                refine wpAnyH_done (by kernel_rfl) ?_ _
                refine NoPanic.normal ?_
                go_wp2_with fail
                go_meet
                case rel =>
                  refine ⟨_, L[kn].1, L[kn].2, rfl, by go_simp, by go_simp, ?_, ?_, ?_⟩
                  · omega
                  · first | omega | (simp only [World.setCell, Array.size_modify]; omega) | (simp [World.setCell]; omega)
                  · exact HB.far (HB.far Sp.out (by omega)) (by omega)
              exact AllReadyH.nil
            exact AllReadyH.nil
          exact AllReadyH.nil
        exact AllReadyH.nil
      case rest =>
        rename World => w7
        obtain ⟨g7, xs, ys, rfl, c0, c1, hg7, hg8, hS⟩ := hcut
        have S7 := Lib.hid hS
        obtain ⟨q7, hq7, hr7⟩ := hS.rd
        have hx7 := hS.xv
        obtain ⟨lm, hlm⟩ : ∃ lm, IntKind.i64.wrap (xs - 1) = lm := ⟨_, rfl⟩
        obtain ⟨hp, hhp⟩ : ∃ hp, IntKind.i64.wrap (ys + 1) = hp := ⟨_, rfl⟩
        clear hS S6 cX6 hr6
        go_upto_region 6 with fail
        go_cut [32] from 33 (fun _ wx => ∃ x y z t, HB w L (.slice (some ⟨g0, 0, none⟩) L.length cu) w2.heap.size w4.heap.size 470 x y z t wx)
        case first =>
          have dg0 : g7 ≠ w4.heap.size := by omega
          have dg1 : w4.heap.size ≠ g7 := by omega
          refine wp_region_noPanic ?_
          refine wp_region_held_drew (S := fun V => V.cell? ⟨g7, 0, none⟩ = some (.int .i64 xs) ∧ V.cell? ⟨g7, 1, none⟩ = some (.int .i64 ys)) (by kernel_rfl) ?_ (fun hHeld => ?_)
          · exact ⟨by go_simp, by go_simp⟩
          refine take0 (v := ?vb1) (by kernel_rfl) (by kernel_rfl) (by kernel_rfl) (fun _ _ _ h => h) (by rfl) ?yb1 (by assumption) ?rb1
          case yb1 => (intro w hSw; (try (obtain ⟨hSw1, hSw2⟩ := hSw)); (try dsimp only at hSw); go_simp; (try with_reducible rfl))
          (try simp only [Act.put, List.setIfInBounds_toArray, List.set_cons_zero, List.set_cons_succ])
          refine take1 (v := ?vb2) (by kernel_rfl) (by kernel_rfl) (by kernel_rfl) (fun _ _ _ h => h) (by rfl) ?yb2 (by assumption) ?rb2
          case yb2 => (intro w hSw; (try (obtain ⟨hSw1, hSw2⟩ := hSw)); (try dsimp only at hSw); go_simp; (try with_reducible rfl))
          (try simp only [Act.put, List.setIfInBounds_toArray, List.set_cons_zero, List.set_cons_succ])
          refine take2 (v := ?vb3) (by kernel_rfl) (by kernel_rfl) (by kernel_rfl) (fun _ _ _ h => h) (by rfl) ?yb3 (by assumption) ?rb3
          case yb3 => (intro w hSw; (try (obtain ⟨hSw1, hSw2⟩ := hSw)); (try dsimp only at hSw); go_simp; (try with_reducible rfl))
          (try simp only [Act.put, List.setIfInBounds_toArray, List.set_cons_zero, List.set_cons_succ])
          refine take3 (v := ?vb4) (by kernel_rfl) (by kernel_rfl) (by kernel_rfl) (fun _ _ _ h => h) (by rfl) ?yb4 (by assumption) ?rb4
          case yb4 => (intro w hSw; (try (obtain ⟨hSw1, hSw2⟩ := hSw)); (try dsimp only at hSw); go_simp; (try with_reducible rfl))
          (try simp only [Act.put, List.setIfInBounds_toArray, List.set_cons_zero, List.set_cons_succ])
          refine take4 (v := ?vb5) (by kernel_rfl) (by kernel_rfl) (by kernel_rfl) (fun _ _ _ h => h) (by rfl) ?yb5 (by assumption) ?rb5
          case yb5 => (intro w hSw; (try (obtain ⟨hSw1, hSw2⟩ := hSw)); (try dsimp only at hSw); go_simp; (try with_reducible rfl))
          (try simp only [Act.put, List.setIfInBounds_toArray, List.set_cons_zero, List.set_cons_succ])
          refine take5 (v := ?vb6) (by kernel_rfl) (by kernel_rfl) (by kernel_rfl) (fun _ _ _ h => h) (by rfl) ?yb6 (by assumption) ?rb6
          case yb6 => (intro w hSw; (try (obtain ⟨hSw1, hSw2⟩ := hSw)); (try dsimp only at hSw); go_simp; (try with_reducible rfl))
          (try simp only [Act.put, List.setIfInBounds_toArray, List.set_cons_zero, List.set_cons_succ])
          refine take6 (v := ?vb7) (by kernel_rfl) (by kernel_rfl) (by kernel_rfl) (fun _ _ _ h => h) (by rfl) ?yb7 (by assumption) ?rb7
          case yb7 => (intro w hSw; (try (obtain ⟨hSw1, hSw2⟩ := hSw)); (try dsimp only at hSw); go_simp; (try with_reducible rfl))
          (try simp only [Act.put, List.setIfInBounds_toArray, List.set_cons_zero, List.set_cons_succ])
          refine take7 (v := ?vb8) (by kernel_rfl) (by kernel_rfl) (by kernel_rfl) (fun _ _ _ h => h) (by rfl) ?yb8 (by assumption) ?rb8
          case yb8 => (intro w hSw; (try (obtain ⟨hSw1, hSw2⟩ := hSw)); (try dsimp only at hSw); go_simp; (try with_reducible rfl))
          (try simp only [Act.put, List.setIfInBounds_toArray, List.set_cons_zero, List.set_cons_succ])
          refine take8 (v := ?vb9) (by kernel_rfl) (by kernel_rfl) (by kernel_rfl) (fun _ _ _ h => h) (by rfl) ?yb9 (by assumption) ?rb9
          case yb9 => (intro w hSw; (try (obtain ⟨hSw1, hSw2⟩ := hSw)); (try dsimp only at hSw); go_simp; (try with_reducible rfl))
          (try simp only [Act.put, List.setIfInBounds_toArray, List.set_cons_zero, List.set_cons_succ])
          refine take9 (v := ?vb10) (by kernel_rfl) (by kernel_rfl) (by kernel_rfl) (fun _ _ _ h => h) (by rfl) ?yb10 (by assumption) ?rb10
          case yb10 => (intro w hSw; (try (obtain ⟨hSw1, hSw2⟩ := hSw)); (try dsimp only at hSw); go_simp; (try with_reducible rfl))
          (try simp only [Act.put, List.setIfInBounds_toArray, List.set_cons_zero, List.set_cons_succ])
          refine take11 (v := ?vb11) (by kernel_rfl) (by kernel_rfl) (by kernel_rfl) (fun _ _ _ h => h) (by rfl) ?yb11 (by assumption) ?rb11
          case yb11 => (intro w hSw; (try (obtain ⟨hSw1, hSw2⟩ := hSw)); (try dsimp only at hSw); go_simp; (try with_reducible rfl))
          (try simp only [Act.put, List.setIfInBounds_toArray, List.set_cons_zero, List.set_cons_succ])
          refine wpAnyH_ready (rs := [10, 12]) (by kernel_rfl) (by simp) ?_
          refine come10 (fun K hK => ?_) ?_
          · go_simp
            refine hK.out _ _ ?_ (fun hHeld => ?_)
            · go_keep
            clear hK K
            (try simp only [Act.put, List.setIfInBounds_toArray, List.set_cons_zero, List.set_cons_succ])
            refine wpAnyH_ready (rs := [12]) (by kernel_rfl) (by simp) ?_
            refine come12 (fun K hK => ?_) ?_
            · go_simp
              (go_at_call 63; refine (pick_any _ q7 4 _ (rdAt_below hr7 (show Below w7.heap.size w7 _ from by go_grown) (by omega)) (by omega)).mono ?_; rintro e wp ⟨kp, rfl, kp0, kp1, hx, hrp, hgp⟩; obtain ⟨kn, rfl⟩ := Int.eq_ofNat_of_zero_le kp0; have hkn : kn < 4 := (by have := kp1 (by omega); omega); have hknI : (kn : Int) < 4 := (by omega); have Sp := Lib.hid (HB.draw (N' := 470) (HB.below S7.out (show Below w7.heap.size w7 _ from by go_grown)) (drawn_pick hrp hgp) (by omega)); obtain ⟨zz, htab⟩ := four_at (p := xs) (q := ys) (r := lm) (s := hp) hkn; obtain ⟨a1, b1, e1, d1, o1, hat⟩ := atR_form zz; have KA : Hid (∀ V, Calls Try.prog 64 #[.int .i64 zz] V fun e w' => e = .returned (.tuple #[ver a1 b1 e1 d1, .bool o1]) ∧ Below V.heap.size V w') := (Lib.hid fun V => by have := specAt_any zz V; rwa [hat] at this); have k0 : wp.cell? ⟨g7, 0, none⟩ = some (.int .i64 xs) := (grown_cell (o := 0) hgp (b := g7) (by simp; omega) (by omega)).trans (by go_simp); have k1 : wp.cell? ⟨g7, 1, none⟩ = some (.int .i64 ys) := (grown_cell (o := 1) hgp (b := g7) (by simp; omega) (by omega)).trans (by go_simp); have sp := hgp.size; (try simp at sp); have tb : wp.cell? ⟨w7.heap.size, kn, none⟩ = some (.int .i64 zz) := (grown_cell (o := kn) hgp (b := w7.heap.size) (by simp) (by omega)).trans ((cell_of_row _ _ kn _ _ (0, 0) (heap_alloc_new _ _)).trans htab); clear hx kp1 hat)
              go_wp2_with fail
              refine hK.out _ _ ?_ (fun hHeld => ?_)
              · go_keep
              clear hK K
              (try simp only [Act.put, List.setIfInBounds_toArray, List.set_cons_zero, List.set_cons_succ])
              refine take13 (v := ?vb12) (by kernel_rfl) (by kernel_rfl) (by kernel_rfl) (fun _ _ _ h => h) (by rfl) ?yb12 (by assumption) ?rb12
              case yb12 => (intro w hSw; (try (obtain ⟨hSw1, hSw2⟩ := hSw)); (try dsimp only at hSw); go_simp; (try with_reducible rfl))
              (try simp only [Act.put, List.setIfInBounds_toArray, List.set_cons_zero, List.set_cons_succ])
              refine wpAnyH_ready (rs := [14]) (by kernel_rfl) (by simp) ?_
              refine come14 (fun K hK => ?_) ?_
              · go_simp
                refine hK.out _ _ ?_ (fun hHeld => ?_)
                · go_keep
                clear hK K
                (try simp only [Act.put, List.setIfInBounds_toArray, List.set_cons_zero, List.set_cons_succ])
                refine wpAnyH_ready (rs := [15]) (by kernel_rfl) (by simp) ?_
                refine come15 (fun K hK => ?_) ?_
                · go_simp
                  (go_at_call 64; refine (KA.out _).mono ?_; rintro e wv ⟨rfl, hbv⟩; have Sv := Lib.hid (HB.below Sp.out (Below.step (by go_grown) hbv)); obtain ⟨cXv, ⟨x0, x1, x2, x3⟩, fVv, _⟩ := Sv.out.facts; have m0 : wv.cell? ⟨g7, 0, none⟩ = some (.int .i64 xs) := (hbv.cell (p := ⟨g7, 0, none⟩) (by simp; omega)).trans (by go_simp); have m1 : wv.cell? ⟨g7, 1, none⟩ = some (.int .i64 ys) := (hbv.cell (p := ⟨g7, 1, none⟩) (by simp; omega)).trans (by go_simp))
                  go_wp2_with fail
                  refine hK.out _ _ ?_ (fun hHeld => ?_)
                  · go_keep
                  clear hK K
                  (try simp only [Act.put, List.setIfInBounds_toArray, List.set_cons_zero, List.set_cons_succ])
                  refine take16 (v := ?vb13) (by kernel_rfl) (by kernel_rfl) (by kernel_rfl) (fun _ _ _ h => h) (by rfl) ?yb13 (by assumption) ?rb13
                  case yb13 => (intro w hSw; (try (obtain ⟨hSw1, hSw2⟩ := hSw)); (try dsimp only at hSw); go_simp; (try with_reducible rfl))
                  (try simp only [Act.put, List.setIfInBounds_toArray, List.set_cons_zero, List.set_cons_succ])
                  refine take17 (v := ?vb14) (by kernel_rfl) (by kernel_rfl) (by kernel_rfl) (fun _ _ _ h => h) (by rfl) ?yb14 (by assumption) ?rb14
                  case yb14 => (intro w hSw; (try (obtain ⟨hSw1, hSw2⟩ := hSw)); (try dsimp only at hSw); go_simp; (try with_reducible rfl))
                  (try simp only [Act.put, List.setIfInBounds_toArray, List.set_cons_zero, List.set_cons_succ])
                  refine take18 (v := ?vb15) (by kernel_rfl) (by kernel_rfl) (by kernel_rfl) (fun _ _ _ h => h) (by rfl) ?yb15 (by assumption) ?rb15
                  case yb15 => (intro w hSw; (try (obtain ⟨hSw1, hSw2⟩ := hSw)); (try dsimp only at hSw); go_simp; (try with_reducible rfl))
                  (try simp only [Act.put, List.setIfInBounds_toArray, List.set_cons_zero, List.set_cons_succ])
                  refine wpAnyH_ready (rs := [19]) (by kernel_rfl) (by simp) ?_
                  refine come19 (fun K hK => ?_) ?_
                  · go_simp
                    refine hK.out _ _ ?_ (fun hHeld => ?_)
                    · go_keep
                    clear hK K
                    (try simp only [Act.put, List.setIfInBounds_toArray, List.set_cons_zero, List.set_cons_succ])
                    refine wpAnyH_done (by kernel_rfl) ?_ _
                    refine NoPanic.normal ?_
                    go_wp2_with fail
                    go_meet
                    case rel => (with_reducible exact ⟨_, _, _, _, HB.set Sv.out⟩)
                  exact AllReadyH.nil
                exact AllReadyH.nil
              exact AllReadyH.nil
            exact AllReadyH.nil
          refine come12 (fun K hK => ?_) ?_
          · go_simp
            (go_at_call 63; refine (pick_any _ q7 4 _ (rdAt_below hr7 (show Below w7.heap.size w7 _ from by go_grown) (by omega)) (by omega)).mono ?_; rintro e wp ⟨kp, rfl, kp0, kp1, hx, hrp, hgp⟩; obtain ⟨kn, rfl⟩ := Int.eq_ofNat_of_zero_le kp0; have hkn : kn < 4 := (by have := kp1 (by omega); omega); have hknI : (kn : Int) < 4 := (by omega); have Sp := Lib.hid (HB.draw (N' := 470) (HB.below S7.out (show Below w7.heap.size w7 _ from by go_grown)) (drawn_pick hrp hgp) (by omega)); obtain ⟨zz, htab⟩ := four_at (p := xs) (q := ys) (r := lm) (s := hp) hkn; obtain ⟨a1, b1, e1, d1, o1, hat⟩ := atR_form zz; have KA : Hid (∀ V, Calls Try.prog 64 #[.int .i64 zz] V fun e w' => e = .returned (.tuple #[ver a1 b1 e1 d1, .bool o1]) ∧ Below V.heap.size V w') := (Lib.hid fun V => by have := specAt_any zz V; rwa [hat] at this); have k0 : wp.cell? ⟨g7, 0, none⟩ = some (.int .i64 xs) := (grown_cell (o := 0) hgp (b := g7) (by simp; omega) (by omega)).trans (by go_simp); have k1 : wp.cell? ⟨g7, 1, none⟩ = some (.int .i64 ys) := (grown_cell (o := 1) hgp (b := g7) (by simp; omega) (by omega)).trans (by go_simp); have sp := hgp.size; (try simp at sp); have tb : (wp.alloc (.cells #[.int .i64 xs, .int .i64 ys, .int .i64 lm, .int .i64 hp] 3)).cell? ⟨wp.heap.size, kn, none⟩ = some (.int .i64 zz) := (cell_of_row _ _ kn _ _ (0, 0) (heap_alloc_new _ _)).trans htab; clear hx kp1 hat)
            go_wp2_with fail
            refine hK.out _ _ ?_ (fun hHeld => ?_)
            · go_keep
            clear hK K
            (try simp only [Act.put, List.setIfInBounds_toArray, List.set_cons_zero, List.set_cons_succ])
            refine wpAnyH_ready (rs := [10]) (by kernel_rfl) (by simp) ?_
            refine come10 (fun K hK => ?_) ?_
            · go_simp
              refine hK.out _ _ ?_ (fun hHeld => ?_)
              · go_keep
              clear hK K
              (try simp only [Act.put, List.setIfInBounds_toArray, List.set_cons_zero, List.set_cons_succ])
              refine take13 (v := ?vb16) (by kernel_rfl) (by kernel_rfl) (by kernel_rfl) (fun _ _ _ h => h) (by rfl) ?yb16 (by assumption) ?rb16
              case yb16 => (intro w hSw; (try (obtain ⟨hSw1, hSw2⟩ := hSw)); (try dsimp only at hSw); go_simp; (try with_reducible rfl))
              (try simp only [Act.put, List.setIfInBounds_toArray, List.set_cons_zero, List.set_cons_succ])
              refine wpAnyH_ready (rs := [14]) (by kernel_rfl) (by simp) ?_
              refine come14 (fun K hK => ?_) ?_
              · go_simp
                refine hK.out _ _ ?_ (fun hHeld => ?_)
                · go_keep
                clear hK K
                (try simp only [Act.put, List.setIfInBounds_toArray, List.set_cons_zero, List.set_cons_succ])
                refine wpAnyH_ready (rs := [15]) (by kernel_rfl) (by simp) ?_
                refine come15 (fun K hK => ?_) ?_
                · go_simp
                  (go_at_call 64; refine (KA.out _).mono ?_; rintro e wv ⟨rfl, hbv⟩; have Sv := Lib.hid (HB.below Sp.out (Below.step (by go_grown) hbv)); obtain ⟨cXv, ⟨x0, x1, x2, x3⟩, fVv, _⟩ := Sv.out.facts; have m0 : wv.cell? ⟨g7, 0, none⟩ = some (.int .i64 xs) := (hbv.cell (p := ⟨g7, 0, none⟩) (by simp; omega)).trans (by go_simp); have m1 : wv.cell? ⟨g7, 1, none⟩ = some (.int .i64 ys) := (hbv.cell (p := ⟨g7, 1, none⟩) (by simp; omega)).trans (by go_simp))
                  go_wp2_with fail
                  refine hK.out _ _ ?_ (fun hHeld => ?_)
                  · go_keep
                  clear hK K
                  (try simp only [Act.put, List.setIfInBounds_toArray, List.set_cons_zero, List.set_cons_succ])
                  refine take16 (v := ?vb17) (by kernel_rfl) (by kernel_rfl) (by kernel_rfl) (fun _ _ _ h => h) (by rfl) ?yb17 (by assumption) ?rb17
                  case yb17 => (intro w hSw; (try (obtain ⟨hSw1, hSw2⟩ := hSw)); (try dsimp only at hSw); go_simp; (try with_reducible rfl))
                  (try simp only [Act.put, List.setIfInBounds_toArray, List.set_cons_zero, List.set_cons_succ])
                  refine take17 (v := ?vb18) (by kernel_rfl) (by kernel_rfl) (by kernel_rfl) (fun _ _ _ h => h) (by rfl) ?yb18 (by assumption) ?rb18
                  case yb18 => (intro w hSw; (try (obtain ⟨hSw1, hSw2⟩ := hSw)); (try dsimp only at hSw); go_simp; (try with_reducible rfl))
                  (try simp only [Act.put, List.setIfInBounds_toArray, List.set_cons_zero, List.set_cons_succ])
                  refine take18 (v := ?vb19) (by kernel_rfl) (by kernel_rfl) (by kernel_rfl) (fun _ _ _ h => h) (by rfl) ?yb19 (by assumption) ?rb19
                  case yb19 => (intro w hSw; (try (obtain ⟨hSw1, hSw2⟩ := hSw)); (try dsimp only at hSw); go_simp; (try with_reducible rfl))
                  (try simp only [Act.put, List.setIfInBounds_toArray, List.set_cons_zero, List.set_cons_succ])
                  refine wpAnyH_ready (rs := [19]) (by kernel_rfl) (by simp) ?_
                  refine come19 (fun K hK => ?_) ?_
                  · go_simp
                    refine hK.out _ _ ?_ (fun hHeld => ?_)
                    · go_keep
                    clear hK K
                    (try simp only [Act.put, List.setIfInBounds_toArray, List.set_cons_zero, List.set_cons_succ])
                    refine wpAnyH_done (by kernel_rfl) ?_ _
                    refine NoPanic.normal ?_
                    go_wp2_with fail
                    go_meet
                    case rel => (with_reducible exact ⟨_, _, _, _, HB.set Sv.out⟩)
                  exact AllReadyH.nil
                exact AllReadyH.nil
              exact AllReadyH.nil
            exact AllReadyH.nil
          exact AllReadyH.nil
        case rest =>
          rename World => w8
          obtain ⟨x, y, z, t, hS⟩ := hcut
          have S8 := Lib.hid hS
          clear hS S7 c0 c1 hr7 hlm hhp
          obtain ⟨cX, ⟨v0, v1, v2, v3⟩, fV, r0, fR, ⟨q0, q1, q2, q3⟩, fQ⟩ := S8.out.facts
          have hxf := S8.out.xv
          have HRow := Lib.hid S8.out.row
          have HBe := S8.out.be
          have hsz := S8.out.be.size
          have n0 : w.heap.size ≠ w2.heap.size := by omega
          have n1 : w.heap.size + 1 ≠ w2.heap.size := by omega
          have n2 : w.heap.size ≠ w4.heap.size := by omega
          have n3 : w.heap.size + 1 ≠ w4.heap.size := by omega
          have n4 : w2.heap.size ≠ w.heap.size := by omega
          have n5 : w2.heap.size ≠ w.heap.size + 1 := by omega
          have n6 : w4.heap.size ≠ w.heap.size := by omega
          have n7 : w4.heap.size ≠ w.heap.size + 1 := by omega
          go_wp2_with fail
          go_region_held3 (fun V => V.cell? ⟨w2.heap.size, 0, none⟩ = some (.slice (some ⟨g0, 0, none⟩) L.length cu) ∧ V.cell? ⟨w4.heap.size, 0, none⟩ = some (.int .i64 x) ∧ V.cell? ⟨w4.heap.size, 1, none⟩ = some (.int .i64 y) ∧ V.cell? ⟨w4.heap.size, 2, none⟩ = some (.int .i64 z) ∧ V.cell? ⟨w4.heap.size, 3, none⟩ = some (.int .i64 t)) (go_keep) (fail)
          all_goals
            go_wp2_with fail
            refine bodyPost_ret (v := .tuple #[.agg #[.slice (some ⟨g0, 0, none⟩) L.length cu], ver x y z t]) (by simp [results, Try.results29, go_sem, r0, q0, q1, q2, q3]) rfl ⟨L, _, _, _, _, _, rfl, ?_, hl, ?_⟩
            · refine SB.res (HRow.out.kept fun g g1 _ _ => ?_) (by omega)
              repeat (first | (with_reducible rfl) | refine (Below.heap_setCell _ _ _ _ (by simp; omega)).trans ?_ | rfl)
            · go_grown


end Go.Proofs.Ytflmljgmmcdniaa
