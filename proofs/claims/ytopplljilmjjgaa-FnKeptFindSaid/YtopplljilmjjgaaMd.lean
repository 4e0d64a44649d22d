/- Rows of what targets came to (a truth and a text) in memory, over this seat's translation, and the laws' functions that compare, mark and hold them: marking turns the row's own block alone. Condition: at most 1048576 of them. -/
import Derived.Test.YtopplljilmjjgaaMtx
import Derived.Test.YtopplljilmjjgaaDrm
namespace Go.Proofs.Ytopplljilmjjgaa
open Go.ChangeShapes Go.WideShapes Go.ChangeAt Go.RowKit Go.Sort Go.Joins Go.Deep

abbrev Mde := Bool × ByteArray
abbrev mde (m : Bool) (t : ByteArray) : Value := .agg #[.bool m, .string t]
namespace Md
open Drm Mtx
def MdC (w : World) (b o : Nat) (x : Mde) : Prop := w.cell? ⟨b, o, none⟩ = some (.bool x.1) ∧ w.cell? ⟨b, o + 1, none⟩ = some (.string x.2)
theorem MdC.below {w w' : World} {B b o : Nat} {x : Mde} (h : MdC w b o x) (hb : Below B w w') (hB : b < B) : MdC w' b o x :=
  ⟨(hb.cell (p := ⟨b, o, none⟩) hB).trans h.1, (hb.cell (p := ⟨b, o + 1, none⟩) hB).trans h.2⟩
def MdAt (w : World) (B : Nat) (v : Value) (D : List Mde) : Prop :=
  ∃ a cap, v = .slice a D.length cap ∧ (D = [] ∨ ∃ b o, a = some ⟨b, o, none⟩ ∧ b < B ∧ ∀ i (h : i < D.length), MdC w b (o + i * 2) D[i])
theorem MdAt.below {w w' : World} {B : Nat} {v : Value} {D : List Mde} (h : MdAt w B v D) (hb : Below B w w') : MdAt w' B v D := by
  obtain ⟨a, cap, rfl, h⟩ := h
  refine ⟨a, cap, rfl, ?_⟩
  rcases h with h | ⟨b, o, rfl, hB, hc⟩
  · exact .inl h
  · exact .inr ⟨b, o, rfl, hB, fun i hi => (hc i hi).below hb hB⟩
theorem MdAt.mono {w : World} {B B' : Nat} {v : Value} {D : List Mde} (h : MdAt w B v D) (hB : B ≤ B') : MdAt w B' v D := by
  obtain ⟨a, cap, rfl, h⟩ := h
  refine ⟨a, cap, rfl, ?_⟩
  rcases h with h | ⟨b, o, rfl, hb, hc⟩
  · exact .inl h
  · exact .inr ⟨b, o, rfl, by omega, hc⟩
theorem MdAt.stepAt {D : List Mde} {u : Value} {w V : World} (h : MdAt w w.heap.size u D) (hb : Below w.heap.size w V) : MdAt V V.heap.size u D := (h.below hb).mono hb.size

def MdBlk (w : World) (g n : Nat) (D : List Mde) : Prop :=
  ∃ C : Array Value, w.heap[g]? = some (.cells C 73 (0, 0)) ∧ C.size = n * 2 ∧ D.length ≤ n ∧ ∀ i (h : i < D.length), C[i * 2]? = some (.bool D[i].1) ∧ C[i * 2 + 1]? = some (.string D[i].2)
theorem MdBlk.lt {w : World} {g n : Nat} {D : List Mde} (h : MdBlk w g n D) : g < w.heap.size := by
  obtain ⟨C, h, _⟩ := h
  exact (Array.getElem?_eq_some_iff.1 h).1
theorem MdBlk.kept {w w' : World} {g n : Nat} {D : List Mde} (h : MdBlk w g n D) (hb : w'.heap[g]? = w.heap[g]?) : MdBlk w' g n D := by
  obtain ⟨C, h, r⟩ := h
  exact ⟨C, hb.trans h, r⟩
theorem MdBlk.below {w w' : World} {g n : Nat} {D : List Mde} (h : MdBlk w g n D) (hb : Below w.heap.size w w') : MdBlk w' g n D := h.kept (hb.block _ h.lt)
theorem MdBlk.len {w : World} {g n : Nat} {D : List Mde} (h : MdBlk w g n D) : D.length ≤ n := by obtain ⟨C, _, _, h, _⟩ := h; exact h
theorem MdBlk.place {w : World} {g n : Nat} {D : List Mde} (h : MdBlk w g n D) {k : Nat} (hk : k < n * 2) : (∃ x, w.cell? ⟨g, k, none⟩ = some x) ∧ w.frozen? ⟨g, k, none⟩ = false := by
  obtain ⟨C, h, hs, _, _⟩ := h
  refine ⟨⟨C[k]'(by omega), ?_⟩, ?_⟩
  · rw [cell_of_row w g _ C _ (0, 0) h]; exact Array.getElem?_eq_getElem _
  · simp [World.frozen?, h]
theorem MdBlk.at {w : World} {g n cap : Nat} {D : List Mde} (h : MdBlk w g n D) : MdAt w w.heap.size (.slice (some ⟨g, 0, none⟩) D.length cap) D := by
  have hg := h.lt
  obtain ⟨C, h, _, _, hc⟩ := h
  exact ⟨_, _, rfl, .inr ⟨g, 0, rfl, hg, fun i hi => by rw [Nat.zero_add]; exact ⟨(cell_of_row w g _ C _ (0, 0) h).trans (hc i hi).1, (cell_of_row w g _ C _ (0, 0) h).trans (hc i hi).2⟩⟩⟩
theorem MdBlk.setOk {w : World} {g n : Nat} {D : List Mde} (h : MdBlk w g n D) {i : Nat} (hi : i < D.length) (x : Bool) : MdBlk (w.setCell ⟨g, i * 2, none⟩ (.bool x)) g n (D.set i (x, D[i].2)) := by
  obtain ⟨C, h, hs, hl, hc⟩ := h
  refine ⟨C.setIfInBounds (i * 2) (.bool x), ?_, by simpa using hs, by simpa using hl, fun j hj => ?_⟩
  · simp [World.setCell, Array.getElem?_modify, h]
  · simp only [List.length_set] at hj
    obtain ⟨h1, h2⟩ := hc j hj
    by_cases e : j = i
    · subst e
      rw [List.getElem_set_self, Array.getElem?_setIfInBounds_self_of_lt (by omega), Array.getElem?_setIfInBounds_ne (by omega)]
      exact ⟨rfl, h2⟩
    · rw [List.getElem_set_ne (fun e' => e e'.symm), Array.getElem?_setIfInBounds_ne (by omega), Array.getElem?_setIfInBounds_ne (by omega)]
      exact ⟨h1, h2⟩
theorem MdBlk.setText {w : World} {g n : Nat} {D : List Mde} (h : MdBlk w g n D) {i : Nat} (hi : i < D.length) (t : ByteArray) : MdBlk (w.setCell ⟨g, i * 2 + 1, none⟩ (.string t)) g n (D.set i (D[i].1, t)) := by
  obtain ⟨C, h, hs, hl, hc⟩ := h
  refine ⟨C.setIfInBounds (i * 2 + 1) (.string t), ?_, by simpa using hs, by simpa using hl, fun j hj => ?_⟩
  · simp [World.setCell, Array.getElem?_modify, h]
  · simp only [List.length_set] at hj
    obtain ⟨h1, h2⟩ := hc j hj
    by_cases e : j = i
    · subst e
      rw [List.getElem_set_self, Array.getElem?_setIfInBounds_ne (by omega), Array.getElem?_setIfInBounds_self_of_lt (by omega)]
      exact ⟨h1, rfl⟩
    · rw [List.getElem_set_ne (fun e' => e e'.symm), Array.getElem?_setIfInBounds_ne (by omega), Array.getElem?_setIfInBounds_ne (by omega)]
      exact ⟨h1, h2⟩

/-- A row of one's own, between two block numbers. -/
def MdB (D : List Mde) (lo hi : Nat) (v : Value) (w : World) : Prop :=
  ∃ a cap, v = .slice a D.length cap ∧ (D = [] ∨ ∃ g n, a = some ⟨g, 0, none⟩ ∧ MdBlk w g n D ∧ lo ≤ g ∧ g < hi)
theorem MdB.at {D : List Mde} {lo hi : Nat} {v : Value} {w : World} (h : MdB D lo hi v w) : MdAt w w.heap.size v D := by
  obtain ⟨a, cap, rfl, h⟩ := h
  rcases h with rfl | ⟨g, n, rfl, hk, _, _⟩
  · exact ⟨_, _, rfl, .inl rfl⟩
  · exact hk.at
theorem MdB.kept {D : List Mde} {lo hi : Nat} {v : Value} {w w' : World} (h : MdB D lo hi v w) (hb : ∀ g, lo ≤ g → g < hi → g < w.heap.size → w'.heap[g]? = w.heap[g]?) : MdB D lo hi v w' := by
  obtain ⟨a, cap, rfl, h⟩ := h
  refine ⟨_, _, rfl, ?_⟩
  rcases h with h | ⟨g, n, rfl, hk, h1, h2⟩
  · exact .inl h
  · exact .inr ⟨g, n, rfl, hk.kept (hb g h1 h2 hk.lt), h1, h2⟩
theorem MdB.below {D : List Mde} {lo hi : Nat} {v : Value} {w w' : World} (h : MdB D lo hi v w) (hb : Below w.heap.size w w') : MdB D lo hi v w' := h.kept fun g _ _ hl => hb.block g hl
theorem MdB.out {D : List Mde} {lo hi lo' hi' : Nat} {v : Value} {w w' : World} (h : MdB D lo hi v w) (ho : Out lo' hi' w w') (hd : hi ≤ lo' ∨ hi' ≤ lo) : MdB D lo hi v w' :=
  h.kept fun g h1 h2 hl => ho.block g hl (by omega)
theorem MdB.wide {D : List Mde} {lo hi lo' hi' : Nat} {v : Value} {w : World} (h : MdB D lo hi v w) (h1 : lo' ≤ lo) (h2 : hi ≤ hi') : MdB D lo' hi' v w := by
  obtain ⟨a, cap, rfl, h⟩ := h
  refine ⟨_, _, rfl, ?_⟩
  rcases h with h | ⟨g, n, rfl, hk, k1, k2⟩
  · exact .inl h
  · exact .inr ⟨g, n, rfl, hk, by omega, by omega⟩
theorem MdB.shape {D : List Mde} {lo hi : Nat} {v : Value} {w : World} (h : MdB D lo hi v w) : ∃ a cap, v = .slice a D.length cap := by
  obtain ⟨a, cap, e, _⟩ := h
  exact ⟨a, cap, e⟩

/-- A row that a call grows. -/
def mcs : List Mde → List Value
  | [] => []
  | x :: t => .bool x.1 :: .string x.2 :: mcs t
theorem mcs_len : ∀ A : List Mde, (mcs A).length = A.length * 2
  | [] => rfl
  | x :: t => by simp [mcs, mcs_len t]; omega
theorem mcs_append : ∀ A B : List Mde, mcs (A ++ B) = mcs A ++ mcs B
  | [], _ => rfl
  | x :: t, B => by simp [mcs, mcs_append t B]
theorem mcs_at : ∀ (A : List Mde) (i : Nat) (h : i < A.length), (mcs A)[i * 2]? = some (.bool A[i].1) ∧ (mcs A)[i * 2 + 1]? = some (.string A[i].2)
  | x :: t, 0, _ => ⟨rfl, rfl⟩
  | x :: t, i + 1, h => by
    have := mcs_at t i (by simpa using h)
    simp only [List.getElem_cons_succ]
    rw [show (i + 1) * 2 = i * 2 + 2 by omega]
    exact this
def MOwn (w : World) (B : Nat) (v : Value) (D : List Mde) : Prop := w.ownsRow B 73 2 v D.length (mcs D)
theorem MOwn.mb {w : World} {base : Nat} {v : Value} {D : List Mde} (h : MOwn w base v D) : MdB D base w.heap.size v w := by
  obtain ⟨hl, ⟨rfl, hn⟩ | ⟨g, cap, cur, rfl, hb, hg, hnc, hcm, hcs, htk⟩⟩ := h
  · obtain rfl : D = [] := List.eq_nil_of_length_eq_zero hn
    exact ⟨none, 0, rfl, .inl rfl⟩
  · refine ⟨some ⟨g, 0, none⟩, cap, rfl, .inr ⟨g, cap, rfl, ⟨cur, hg, by simpa using hcs, hnc, fun i hi => ?_⟩, hb, (Array.getElem?_eq_some_iff.1 hg).1⟩⟩
    obtain ⟨h1, h2⟩ := mcs_at D i hi
    rw [← htk, List.getElem?_take, if_pos (by omega)] at h1 h2
    exact ⟨by simpa using h1, by simpa using h2⟩
theorem mown_push {w : World} {base : Nat} {v : Value} {D : List Mde} {m : Bool} {t : ByteArray} (h : w.ownsRow base 73 2 v (D.length + 1) (mcs D ++ [.bool m, .string t])) : MOwn w base v (D ++ [(m, t)]) := by
  show w.ownsRow base 73 2 v (D ++ [(m, t)]).length (mcs (D ++ [(m, t)]))
  rw [mcs_append, List.length_append]
  exact h
theorem infoMade : (Try.prog.info? 73).map (fun i => (i.zero, i.size, i.bytes)) = some (some (.agg #[.bool false, .string ByteArray.empty]), 2, 24) := by kernel_rfl
theorem two_news {w : World} {x y : Value} {t : TypeId} : ∀ j u, [x, y][j]? = some u → (w.alloc (.cells #[x, y] t)).cell? ((⟨w.heap.size, 0, none⟩ : Addr).add j) = some u := by
  intro j u hu
  have hadd : ∀ n : Nat, (⟨w.heap.size, 0, none⟩ : Addr).add n = ⟨w.heap.size, n, none⟩ := fun n => by unfold Addr.add; split <;> simp_all
  rw [hadd]
  match j, hu with
  | 0, hu => simp at hu; subst hu; go_simp
  | 1, hu => simp at hu; subst hu; go_simp

set_option maxRecDepth 100000 in
set_option maxHeartbeats 2000000 in
theorem eqMade_same (m : Bool) (t : ByteArray) (w : World) : Calls Try.prog 93 #[mde m t, mde m t] w fun e w' => e = .returned (.bool true) ∧ Below w.heap.size w w' := by
  have hE : (t.toList != t.toList) = false := by simp
  have h1 : (m != m) = false := by simp
  go_enter Try.func93, Try.ntmps93
  go_wp2_with fail
  go_ret
  exact ⟨rfl, ((Below.refl _ _).alloc (Nat.le_refl _) _).alloc (by simp) _⟩

set_option maxRecDepth 100000 in
set_option maxHeartbeats 4000000 in
theorem eqMadeS_same {v v' : Value} {D : List Mde} {w : World} (hl : D.length ≤ 1048576) (h : MdAt w w.heap.size v D) (h' : MdAt w w.heap.size v' D) :
    Calls Try.prog 32 #[v, v'] w fun e w' => e = .returned (.bool true) ∧ Below w.heap.size w w' := by
  obtain ⟨a, cap, rfl, hc⟩ := h
  obtain ⟨a', cap', rfl, hc'⟩ := h'
  have H := Lib.hid hc
  have H' := Lib.hid hc'
  clear hc hc'
  have hz : ((D.length : Int) != (D.length : Int)) = false := by simp
  go_enter Try.func32, Try.ntmps32
  go_wp2
  go_loopw [5] (fun i wr => ∃ k : Nat, k ≤ D.length ∧ i = .int .i64 (k : Int) ∧ Below w.heap.size w wr) (fun i _ => D.length - (intOf i).toNat)
  case atStart => exact ⟨0, Nat.zero_le _, rfl, Below.refl _ _⟩
  case round =>
    obtain ⟨k, hk, rfl, hb⟩ := hrel
    by_cases hlt : k < D.length
    · rcases H.out with h1 | ⟨b, o, rfl, hB, hc⟩
      · subst h1
        exact absurd hlt (by simp)
      rcases H'.out with h2 | ⟨b', o', rfl, hB', hc'⟩
      · subst h2
        exact absurd hlt (by simp)
      obtain ⟨m, t, hxy⟩ : ∃ m t, D[k] = (m, t) := ⟨_, _, rfl⟩
      have m1 := (hc k hlt).below hb hB
      have m2 := (hc' k hlt).below hb hB'
      rw [hxy] at m1 m2
      obtain ⟨k0, k1⟩ := m1
      obtain ⟨l0, l1⟩ := m2
      simp only at k0 k1 l0 l1
      clear hc hc' hxy
      have i0 : (0 : Int) ≤ (k : Int) := by omega
      have i1 : (k : Int) < (D.length : Int) := by omega
      have t0 := cell_regrown k0
      have u0 := cell_regrown l0
      have t1 := cell_regrown k1
      have u1 := cell_regrown l1
      have K := Lib.hid fun V => eqMade_same m t V
      go_wp2_with fail
      refine wp_region_quiet_below (by kernel_rfl) (by kernel_rfl) ?_
      repeat (any_goals (first | go_big_quiet_step ((go_at_call 93; exact Calls.regrown_of (K.out _))) | quiet_step ((go_at_call 93; exact Calls.regrown_of (K.out _)))))
      refine wpQuiet_nil ?_
      intro W2 hw
      have nn := quiet_end hw
      clear hw t0 t1 u0 u1
      have HP := Lib.hid (hb.trans (nn.mono hb.size))
      go_wp2_with fail
      go_roundw
      case rel => exact ⟨k + 1, by omega, by go_num, HP.out⟩
      case measure => simp [intOf]; omega
    · obtain rfl : k = D.length := by omega
      go_wp2_with fail
      go_ret
      exact ⟨rfl, hb⟩

/-- The marks of a row. -/
def mmk (k : Int) : Nat → List Mde
  | 0 => []
  | n + 1 => (k % 3 == 0, mkT (k + 1)) :: mmk (k + 1 + 1) n
theorem mmk_len : ∀ (n : Nat) (k : Int), (mmk k n).length = n
  | 0, _ => rfl
  | n + 1, k => by simp [mmk, mmk_len n]
theorem mmk_at : ∀ (n i : Nat) (k : Int), i < n → (mmk k n)[i]? = some ((k + 2 * i) % 3 == 0, mkT (k + 2 * i + 1))
  | n + 1, 0, k, _ => by simp [mmk]
  | n + 1, i + 1, k, h => by
    simp only [mmk, List.getElem?_cons_succ]
    rw [mmk_at n i (k + 1 + 1) (by omega)]
    rw [show k + 1 + 1 + 2 * (i : Int) = k + 2 * ((i + 1 : Nat) : Int) by omega]
/-- What the loop of markMadeS keeps. -/
def MmRel (k : Int) (m g n : Nat) (w : World) (s1 i : Value) (wr : World) : Prop :=
  ∃ (j : Nat) (M : List Mde), j ≤ m ∧ i = .int .i64 (j : Int) ∧ s1 = .int .i64 (k + 2 * j) ∧ M.length = m ∧ (∀ q, q < j → M[q]? = (mmk k m)[q]?) ∧ MdBlk wr g n M ∧ Out g (g + 1) w wr
set_option maxRecDepth 100000 in
set_option maxHeartbeats 2000000 in
theorem markMadeS_blk (g n cap : Nat) (D : List Mde) (k : Int) (w : World) (hl : D.length ≤ 1048576) (hk0 : 0 < k) (hk1 : k ≤ 1000000000) (h : MdBlk w g n D) :
    Calls Try.prog 37 #[.slice (some ⟨g, 0, none⟩) D.length cap, .int .i64 k] w fun e w' => e = .returned (.int .i64 (k + 2 * D.length)) ∧ MdBlk w' g n (mmk k D.length) ∧ Out g (g + 1) w w' := by
  have hln := h.len
  have HS := Lib.hid (show MmRel k D.length g n w (.int .i64 k) (.int .i64 0) w from ⟨0, D, Nat.zero_le _, rfl, by simp, rfl, fun q hq => absurd hq (by omega), h, out_refl _ _ _⟩)
  clear h
  generalize D.length = m at *
  go_enter Try.func37, Try.ntmps37
  go_wp2
  go_loopw [1, 5] (fun s1 i wr => MmRel k m g n w s1 i wr) (fun _ i _ => m - (intOf i).toNat)
  case atStart => exact HS.out
  case round =>
    obtain ⟨j, M, hj, rfl, rfl, hM, hpre, hblk, ho⟩ := hrel
    by_cases hlt : j < m
    · obtain ⟨⟨p0, hp0⟩, f0⟩ := hblk.place (show j * 2 < n * 2 by omega)
      obtain ⟨y, hy⟩ : ∃ y : Int, k + 2 * (j : Int) = y := ⟨_, rfl⟩
      have hy1 : y ≤ 1003000000 ∧ 0 < y := by omega
      have HY := Lib.hid hy
      have hjM : j < M.length := by omega
      obtain ⟨bb, hbb⟩ : ∃ bb : Bool, (y % 3 == 0) = bb := ⟨_, rfl⟩
      have HBB := Lib.hid hbb
      have HPRE := Lib.hid hpre
      have HB1 := Lib.hid (hblk.setOk hjM bb)
      have HO1 := Lib.hid (ho.set (o := j * 2) (v := .bool bb) (Nat.le_refl _) (by omega))
      rw [hy]
      clear hblk ho hy hpre
      go_wp2_with fail
      refine (markText_def (y + 1) _ (by omega) (by omega)).mono ?_
      rintro e w2 ⟨rfl, hb⟩
      have blk2 := HB1.out.below hb
      have ho2 := HO1.out.trans' (Out.ofBelow (lo := g) (hi := g + 1) hb)
      clear hb hp0 f0 HB1 HO1
      obtain ⟨⟨p1, hp1⟩, f1⟩ := blk2.place (show j * 2 + 1 < n * 2 by omega)
      have hj2 : j < (M.set j (bb, M[j].2)).length := by simpa using hjM
      have HB3 := Lib.hid (blk2.setText hj2 (mkT (y + 1)))
      have HO3 := Lib.hid (ho2.set (o := j * 2 + 1) (v := .string (mkT (y + 1))) (Nat.le_refl _) (by omega))
      have HP := Lib.hid (show ∀ q, q < j + 1 → ((M.set j (bb, M[j].2)).set j ((M.set j (bb, M[j].2))[j].1, mkT (y + 1)))[q]? = (mmk k m)[q]? from fun q hq => by
        by_cases e : q = j
        · subst e
          rw [List.getElem?_set_self (by simpa using hjM), List.getElem_set_self, mmk_at m q k hlt, HY.out, HBB.out]
        · rw [List.getElem?_set_ne (fun e' => e e'.symm), List.getElem?_set_ne (fun e' => e e'.symm)]
          exact HPRE.out q (by omega))
      generalize hM3 : (M.set j (bb, M[j].2)).set j ((M.set j (bb, M[j].2))[j].1, mkT (y + 1)) = M3 at *
      have hML3 : M3.length = m := by rw [← hM3]; simpa using hM
      clear blk2 ho2 hM3
      go_wp2_with fail
      go_roundw
      case rel => exact ⟨j + 1, M3, by omega, by go_num, by have := HY.out; congr 1; omega, hML3, HP.out, HB3.out, HO3.out⟩
      case measure => simp [intOf]; omega
    · obtain rfl : j = m := by omega
      have HO := Lib.hid ho
      have HB := Lib.hid (show MdBlk wr g n (mmk k j) by
        have e : M = mmk k j := List.ext_getElem? fun q => by
          by_cases hq : q < j
          · exact hpre q hq
          · rw [List.getElem?_eq_none (by omega), List.getElem?_eq_none (by rw [mmk_len]; omega)]
        rw [← e]; exact hblk)
      clear hblk ho hpre
      go_wp2_with fail
      go_ret
      exact ⟨rfl, HB.out, HO.out⟩
set_option maxRecDepth 100000 in
set_option maxHeartbeats 400000 in
theorem markMadeS_nil (a : Option Addr) (cap : Nat) (k : Int) (w : World) : Calls Try.prog 37 #[.slice a 0 cap, .int .i64 k] w fun e w' => e = .returned (.int .i64 k) ∧ w = w' := by
  go_enter Try.func37, Try.ntmps37
  go_wp2
  go_loop [1, 5] (fun s1 i => s1 = .int .i64 k ∧ i = .int .i64 0) (fun _ _ => 0)
  case atStart => exact ⟨rfl, rfl⟩
  case round =>
    obtain ⟨rfl, rfl⟩ := hrel
    go_wp2
    go_ret
    exact ⟨rfl, rfl⟩
theorem markMdB {D : List Mde} {lo hi : Nat} {u : Value} {w : World} (hl : D.length ≤ 1048576) (h : MdB D lo hi u w) (k : Int) (hk0 : 0 < k) (hk1 : k ≤ 1000000000) :
    Calls Try.prog 37 #[u, .int .i64 k] w fun e w' => e = .returned (.int .i64 (k + 2 * D.length)) ∧ MdB (mmk k D.length) lo hi u w' ∧ Out lo hi w w' := by
  obtain ⟨a, cap, rfl, h⟩ := h
  rcases h with rfl | ⟨g, n, rfl, hb, h1, h2⟩
  · refine (markMadeS_nil a cap k w).mono ?_
    rintro e w' ⟨rfl, rfl⟩
    exact ⟨by simp, ⟨a, cap, rfl, .inl rfl⟩, out_refl _ _ _⟩
  · refine (markMadeS_blk g n cap D k w hl hk0 hk1 hb).mono ?_
    rintro e w' ⟨rfl, hb', ho⟩
    exact ⟨rfl, ⟨some ⟨g, 0, none⟩, cap, by rw [mmk_len], .inr ⟨g, n, rfl, hb', h1, h2⟩⟩, Out.wide ho h1 h2⟩

set_option maxRecDepth 100000 in
set_option maxHeartbeats 2000000 in
theorem heldMadeS_any (a : Option Addr) (cap m : Nat) (k : Int) (w : World) (hl : m ≤ 1048576) (hk0 : 0 < k) (hk1 : k ≤ 1000000000) (h : MdAt w w.heap.size (.slice a m cap) (mmk k m)) :
    Calls Try.prog 39 #[.slice a m cap, .int .i64 k] w fun e w' => e = .returned (.int .i64 (k + 2 * m)) ∧ Below w.heap.size w w' := by
  obtain ⟨a1, cap1, e1, h1⟩ := h
  simp only [Value.slice.injEq] at e1
  obtain ⟨rfl, hnn, rfl⟩ := e1
  clear hnn
  have H := Lib.hid h1
  clear h1
  go_enter Try.func39, Try.ntmps39
  go_wp2
  go_loopw [1, 5] (fun s1 i wr => ∃ j : Nat, j ≤ m ∧ i = .int .i64 (j : Int) ∧ s1 = .int .i64 (k + 2 * j) ∧ Below w.heap.size w wr) (fun _ i _ => m - (intOf i).toNat)
  case atStart => exact ⟨0, Nat.zero_le _, rfl, by simp, Below.refl _ _⟩
  case round =>
    obtain ⟨j, hj, rfl, rfl, hb⟩ := hrel
    by_cases hlt : j < m
    · rcases H.out with h1 | ⟨b, o, rfl, hB, hc⟩
      · have := mmk_len m k
        rw [h1] at this
        simp at this
        omega
      have hjl : j < (mmk k m).length := by rw [mmk_len]; exact hlt
      have hm : (mmk k m)[j] = ((k + 2 * j) % 3 == 0, mkT (k + 2 * j + 1)) := by
        have := mmk_at m j k hlt
        rw [List.getElem?_eq_getElem hjl] at this
        exact Option.some.inj this
      obtain ⟨c0, c1⟩ := (hc j hjl).below hb hB
      rw [hm] at c0 c1
      simp only at c0 c1
      obtain ⟨y, hy⟩ : ∃ y : Int, k + 2 * (j : Int) = y := ⟨_, rfl⟩
      have hy1 : y ≤ 1003000000 ∧ 0 < y := by omega
      have HY := Lib.hid hy
      rw [hy] at c0 c1 ⊢
      obtain ⟨bb, hbb⟩ : ∃ bb : Bool, (y % 3 == 0) = bb := ⟨_, rfl⟩
      rw [hbb] at c0
      have hb2 : (bb != bb) = false := by simp
      have hE : ((mkT (y + 1)).toList != (mkT (y + 1)).toList) = false := by simp
      have KT := Lib.hid fun V => markText_def (y + 1) V (by omega) (by omega)
      generalize mkT (y + 1) = tt at *
      have HB := Lib.hid hb
      have c1' := cell_regrown c1
      have z := hb.size
      clear hc hm hy
      go_wp2_with fail
      refine wp_region_quiet_below (by kernel_rfl) (by kernel_rfl) ?_
      repeat (any_goals (first | go_big_quiet_step ((go_at_call 95; exact Calls.regrown_of (KT.out _))) | quiet_step ((go_at_call 95; exact Calls.regrown_of (KT.out _)))))
      refine wpQuiet_nil ?_
      intro W2 hw
      have nn := quiet_end hw
      have HB2 := Lib.hid (HB.out.trans (nn.mono HB.out.size))
      clear hw c1' nn
      go_wp2_with fail
      go_roundw
      case rel => exact ⟨j + 1, by omega, by go_num, by have := HY.out; congr 1; omega, HB2.out⟩
      case measure => simp [intOf]; omega
    · obtain rfl : j = m := by omega
      go_wp2_with fail
      go_ret
      exact ⟨rfl, hb⟩
theorem heldMdB {m : Nat} {lo hi : Nat} {u : Value} {w : World} (hl : m ≤ 1048576) (k : Int) (hk0 : 0 < k) (hk1 : k ≤ 1000000000) (h : MdB (mmk k m) lo hi u w) :
    Calls Try.prog 39 #[u, .int .i64 k] w fun e w' => e = .returned (.int .i64 (k + 2 * m)) ∧ Below w.heap.size w w' := by
  have hat := h.at
  obtain ⟨a, cap, rfl, _⟩ := h
  rw [mmk_len] at hat ⊢
  exact heldMadeS_any a cap m k w hl hk0 hk1 hat
end Md
end Go.Proofs.Ytopplljilmjjgaa
