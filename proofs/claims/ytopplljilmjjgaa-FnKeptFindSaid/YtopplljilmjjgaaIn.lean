/- Rows of whole numbers in memory, over this seat's translation, and the laws' functions that compare, mark and hold them: marking turns the row's own block alone. Condition: at most 1048576 numbers. -/
import Derived.Test.YtopplljilmjjgaaGb
import Derived.Deep.AppendLies
namespace Go.Proofs.Ytopplljilmjjgaa
open Go.RowKit Go.Sort

/-- A slice value that holds these numbers, in a block below B (or is empty). -/
def InAt (w : World) (B : Nat) (v : Value) (N : List Int) : Prop :=
  ∃ a cap, v = .slice a N.length cap ∧ (N = [] ∨ ∃ b o, a = some ⟨b, o, none⟩ ∧ b < B ∧ ∀ i (h : i < N.length), w.cell? ⟨b, o + i, none⟩ = some (.int .i64 N[i]))
theorem InAt.below {w w' : World} {B : Nat} {v : Value} {N : List Int} (h : InAt w B v N) (hb : Below B w w') : InAt w' B v N := by
  obtain ⟨a, cap, rfl, h⟩ := h
  refine ⟨a, cap, rfl, ?_⟩
  rcases h with h | ⟨b, o, rfl, hB, hc⟩
  · exact .inl h
  · exact .inr ⟨b, o, rfl, hB, fun i hi => (hb.cell (p := ⟨b, o + i, none⟩) hB).trans (hc i hi)⟩
theorem InAt.mono {w : World} {B B' : Nat} {v : Value} {N : List Int} (h : InAt w B v N) (hB : B ≤ B') : InAt w B' v N := by
  obtain ⟨a, cap, rfl, h⟩ := h
  refine ⟨a, cap, rfl, ?_⟩
  rcases h with h | ⟨b, o, rfl, hb, hc⟩
  · exact .inl h
  · exact .inr ⟨b, o, rfl, by omega, hc⟩

/-- A block that is a row of n numbers, the first of which are N. -/
def InBlk (w : World) (g n : Nat) (N : List Int) : Prop :=
  ∃ C : Array Value, w.heap[g]? = some (.cells C 3 (0, 0)) ∧ C.size = n ∧ N.length ≤ n ∧ ∀ i (h : i < N.length), C[i]? = some (.int .i64 N[i])
theorem InBlk.lt {w : World} {g n : Nat} {N : List Int} (h : InBlk w g n N) : g < w.heap.size := by
  obtain ⟨C, h, _⟩ := h
  exact (Array.getElem?_eq_some_iff.1 h).1
theorem InBlk.kept {w w' : World} {g n : Nat} {N : List Int} (h : InBlk w g n N) (hb : w'.heap[g]? = w.heap[g]?) : InBlk w' g n N := by
  obtain ⟨C, h, r⟩ := h
  exact ⟨C, hb.trans h, r⟩
theorem InBlk.place {w : World} {g n : Nat} {N : List Int} (h : InBlk w g n N) {k : Nat} (hk : k < n) : (∃ x, w.cell? ⟨g, k, none⟩ = some x) ∧ w.frozen? ⟨g, k, none⟩ = false := by
  obtain ⟨C, h, hs, _, _⟩ := h
  refine ⟨⟨C[k]'(by omega), ?_⟩, ?_⟩
  · rw [cell_of_row w g _ C _ (0, 0) h]; exact Array.getElem?_eq_getElem _
  · simp [World.frozen?, h]
theorem InBlk.set {w : World} {g n : Nat} {N : List Int} (h : InBlk w g n N) {i : Nat} (hi : i < N.length) (x : Int) : InBlk (w.setCell ⟨g, i, none⟩ (.int .i64 x)) g n (N.set i x) := by
  obtain ⟨C, h, hs, hl, hc⟩ := h
  refine ⟨C.setIfInBounds i (.int .i64 x), ?_, by simpa using hs, by simpa using hl, fun j hj => ?_⟩
  · simp [World.setCell, Array.getElem?_modify, h]
  · simp only [List.length_set] at hj
    have h1 := hc j hj
    by_cases e : j = i
    · subst e
      rw [List.getElem_set_self, Array.getElem?_setIfInBounds_self_of_lt (by omega)]
    · rw [List.getElem_set_ne (fun e' => e e'.symm), Array.getElem?_setIfInBounds_ne (by omega)]
      exact h1

/-- A row of numbers of one's own, between two block numbers. -/
def IB (N : List Int) (lo hi : Nat) (v : Value) (w : World) : Prop :=
  ∃ a cap, v = .slice a N.length cap ∧ (N = [] ∨ ∃ g n, a = some ⟨g, 0, none⟩ ∧ InBlk w g n N ∧ lo ≤ g ∧ g < hi)
theorem IB.at {N : List Int} {lo hi : Nat} {v : Value} {w : World} (h : IB N lo hi v w) : InAt w w.heap.size v N := by
  obtain ⟨a, cap, rfl, h⟩ := h
  rcases h with rfl | ⟨g, n, rfl, hk, _, _⟩
  · exact ⟨_, _, rfl, .inl rfl⟩
  · have hg := hk.lt
    obtain ⟨C, h, _, _, hc⟩ := hk
    exact ⟨_, _, rfl, .inr ⟨g, 0, rfl, hg, fun i hi => by rw [Nat.zero_add]; exact (cell_of_row w g _ C _ (0, 0) h).trans (hc i hi)⟩⟩
theorem IB.kept {N : List Int} {lo hi : Nat} {v : Value} {w w' : World} (h : IB N lo hi v w) (hb : ∀ g, lo ≤ g → g < hi → g < w.heap.size → w'.heap[g]? = w.heap[g]?) : IB N lo hi v w' := by
  obtain ⟨a, cap, rfl, h⟩ := h
  refine ⟨_, _, rfl, ?_⟩
  rcases h with h | ⟨g, n, rfl, hk, h1, h2⟩
  · exact .inl h
  · exact .inr ⟨g, n, rfl, hk.kept (hb g h1 h2 hk.lt), h1, h2⟩
theorem IB.below {N : List Int} {lo hi : Nat} {v : Value} {w w' : World} (h : IB N lo hi v w) (hb : Below w.heap.size w w') : IB N lo hi v w' := h.kept fun g _ _ hl => hb.block g hl
theorem IB.out {N : List Int} {lo hi lo' hi' : Nat} {v : Value} {w w' : World} (h : IB N lo hi v w) (ho : Out lo' hi' w w') (hd : hi ≤ lo' ∨ hi' ≤ lo) : IB N lo hi v w' :=
  h.kept fun g h1 h2 hl => ho.block g hl (by omega)

/-- A row that a call grows. -/
def ints (N : List Int) : List Value := N.map (.int .i64)
abbrev IOwn (w : World) (base : Nat) (v : Value) (N : List Int) : Prop := w.ownsRow base 3 1 v N.length (ints N)
theorem IOwn.ib {w : World} {base : Nat} {v : Value} {N : List Int} (h : IOwn w base v N) : IB N base w.heap.size v w := by
  obtain ⟨_, ⟨rfl, hn⟩ | ⟨g, cap, cur, rfl, hb, hg, hnc, hcm, hcs, htk⟩⟩ := h
  · obtain rfl : N = [] := List.eq_nil_of_length_eq_zero hn
    exact ⟨none, 0, rfl, .inl rfl⟩
  · refine ⟨some ⟨g, 0, none⟩, cap, rfl, .inr ⟨g, cap, rfl, ⟨cur, hg, by simpa using hcs, hnc, fun i hi => ?_⟩, hb, (Array.getElem?_eq_some_iff.1 hg).1⟩⟩
    have h1 : (ints N)[i]? = some (.int .i64 N[i]) := by simp [ints, List.getElem?_eq_getElem hi]
    rw [← htk, List.getElem?_take, if_pos (by omega)] at h1
    rw [← h1]; simp
theorem IOwn.push {w : World} {base : Nat} {v : Value} {N : List Int} {x : Int} (h : w.ownsRow base 3 1 v (N.length + 1) (ints N ++ [.int .i64 x])) : IOwn w base v (N ++ [x]) := by
  show w.ownsRow base 3 1 v (N ++ [x]).length (ints (N ++ [x]))
  simpa [ints] using h
theorem infoInt : (Try.prog.info? 3).map (fun i => (i.zero, i.size, i.bytes)) = some (some (.int .i64 0), 1, 8) := by kernel_rfl
theorem one_new (w : World) (x : Int) : ∀ j u, [Value.int .i64 x][j]? = some u → (w.alloc (.cells #[.int .i64 x] 3)).cell? ((⟨w.heap.size, 0, none⟩ : Addr).add j) = some u := by
  intro j u hu
  match j, hu with
  | 0, hu =>
    have hadd : (⟨w.heap.size, 0, none⟩ : Addr).add 0 = ⟨w.heap.size, 0, none⟩ := by simp [Addr.add]
    rw [hadd]
    simp at hu
    subst hu
    go_simp
theorem one_one (x : Int) : ∀ u ∈ [Value.int .i64 x], u.oneCell' = true := by
  intro u hu
  simp at hu
  rw [hu]
  rfl
theorem IOwn.gone {w wr w1 : World} {B : Nat} {v : Value} {N : List Int} {o : Obj} (h : IOwn wr B v N) (hb : Below B w wr) (hB : B ≤ wr.heap.size) (hg : (wr.alloc o).grownBy w1 v.ownBlock) : Below B w w1 :=
  (hb.alloc hB o).grown hg (by simp; omega) fun k hk => ((World.ownsRow.lt h) k hk).1

/-- What the loop of eqIntS keeps. -/
def IEqRel (L M : List Int) (w1 : World) (i : Value) (wr : World) : Prop := ∃ k : Nat, k ≤ L.length ∧ i = .int .i64 (k : Int) ∧ L.take k = M.take k ∧ Below w1.heap.size w1 wr

set_option maxRecDepth 100000 in
set_option maxHeartbeats 2000000 in
theorem eqIntS_any (v v' : Value) (L M : List Int) (w : World) (hl : L.length ≤ 1048576) (_hm : M.length ≤ 1048576) (h : InAt w w.heap.size v L) (h' : InAt w w.heap.size v' M) :
    Calls Try.prog 33 #[v, v'] w fun e w' => e = .returned (.bool (decide (L = M))) ∧ Below w.heap.size w w' := by
  obtain ⟨a, cap, rfl, hc⟩ := h
  obtain ⟨a', cap', rfl, hc'⟩ := h'
  have H := Lib.hid hc
  have H' := Lib.hid hc'
  clear hc hc'
  by_cases hLM : M.length = L.length
  · have HLM := Lib.hid hLM
    have hz : ((L.length : Int) != (L.length : Int)) = false := by simp
    rw [hLM]
    clear hLM
    go_enter Try.func33, Try.ntmps33
    go_wp2
    go_loopw [5] (fun i wr => IEqRel L M w i wr) (fun i _ => L.length - (intOf i).toNat)
    case atStart => exact ⟨0, Nat.zero_le _, rfl, rfl, Below.refl _ _⟩
    case round =>
      obtain ⟨k, hk, rfl, ht, hb⟩ := hrel
      have HT := Lib.hid ht
      clear ht
      by_cases hlt : k < L.length
      · rcases H.out with h1 | ⟨b, o, rfl, hB, hc⟩
        · subst h1
          exact absurd hlt (by simp)
        rcases H'.out with h2 | ⟨b', o', rfl, hB', hc'⟩
        · have := HLM.out
          subst h2
          simp at this
          omega
        have hlt' : k < M.length := by have := HLM.out; omega
        obtain ⟨x, hx⟩ : ∃ x, L[k] = x := ⟨_, rfl⟩
        obtain ⟨y, hy⟩ : ∃ x, M[k] = x := ⟨_, rfl⟩
        have c := hc k hlt
        have c' := hc' k hlt'
        rw [hx] at c
        rw [hy] at c'
        have k0 := (hb.cell (p := ⟨b, o + k, none⟩) hB).trans c
        have l0 := (hb.cell (p := ⟨b', o' + k, none⟩) hB').trans c'
        have HX := Lib.hid (show L[k]? = some x by rw [List.getElem?_eq_getElem hlt, hx])
        have HY := Lib.hid (show M[k]? = some y by rw [List.getElem?_eq_getElem hlt', hy])
        have HB := Lib.hid hb
        clear hc hc' c c' hx hy hb
        have i0 : (0 : Int) ≤ (k : Int) := by omega
        have i1 : (k : Int) < (L.length : Int) := by omega
        by_cases heq : x = y
        · have hE : (x != y) = false := by simp [heq]
          have HE := Lib.hid heq
          clear heq
          go_wp2_with fail
          go_quiet (fail)
          go_wp2_with fail
          go_roundw
          case rel =>
            refine ⟨k + 1, by omega, by go_num, ?_, HB.out.trans ⟨rfl, rfl, rfl, Nat.le_refl _, fun _ _ => rfl⟩⟩
            rw [List.take_add_one, List.take_add_one, HX.out, HY.out, HT.out, HE.out]
          case measure => simp [intOf]; omega
        · have hE : (x != y) = true := by rw [bne_iff_ne]; exact heq
          have HD := Lib.hid (decide_eq_false (p := L = M) (fun e => heq (by have h1 := HX.out; have h2 := HY.out; rw [e, h2] at h1; exact (Option.some.inj h1).symm)))
          clear heq
          go_wp2_with fail
          go_quiet (fail)
          go_wp2_with fail
          go_ret
          exact ⟨by rw [HD.out]; rfl, HB.out.trans ⟨rfl, rfl, rfl, Nat.le_refl _, fun _ _ => rfl⟩⟩
      · obtain rfl : k = L.length := by omega
        have hd : L = M := by
          have := HT.out
          rw [List.take_length] at this
          rw [this]
          have := HLM.out
          rw [← this, List.take_length]
        have HD := Lib.hid (decide_eq_true hd)
        clear hd
        go_wp2_with fail
        go_ret
        exact ⟨by rw [HD.out]; rfl, hb⟩
  · have hz : ((L.length : Int) != (M.length : Int)) = true := by rw [bne_iff_ne]; omega
    have HD := Lib.hid (decide_eq_false (p := L = M) (fun e => hLM (by rw [e])))
    clear hLM
    go_enter Try.func33, Try.ntmps33
    go_wp2
    go_ret
    exact ⟨by rw [HD.out]; rfl, Below.refl _ _⟩

/-- The marks of numbers, from a number on. -/
def imarks (k : Int) : Nat → List Int
  | 0 => []
  | n + 1 => imarks k n ++ [k + n]
theorem imarks_len (k : Int) : ∀ n, (imarks k n).length = n
  | 0 => rfl
  | n + 1 => by simp [imarks, imarks_len k n]
theorem imarks_at (k : Int) : ∀ (n i : Nat), i < n → (imarks k n)[i]? = some (k + i)
  | 0, _, h => absurd h (by omega)
  | n + 1, i, h => by
    unfold imarks
    by_cases e : i < n
    · rw [List.getElem?_append_left (by rw [imarks_len]; exact e), imarks_at k n i e]
    · obtain rfl : i = n := by omega
      rw [List.getElem?_append_right (by rw [imarks_len]; exact Nat.le_refl _), imarks_len]
      simp

def IMarkRel (k : Int) (m n g : Nat) (w : World) (s1 i : Value) (wr : World) : Prop :=
  ∃ (j : Nat) (M : List Int), j ≤ m ∧ i = .int .i64 (j : Int) ∧ s1 = .int .i64 (k + j) ∧ M.length = m ∧ M.take j = imarks k j ∧ InBlk wr g n M ∧ w.grownBy wr (some g)
theorem imark_push {k : Int} {m n g j : Nat} {w wr : World} {M : List Int} (hj : j < m) (hM : M.length = m) (ht : M.take j = imarks k j) (hblk : InBlk wr g n M) (hg : w.grownBy wr (some g)) :
    IMarkRel k m n g w (.int .i64 (k + j + 1)) (.int .i64 ((j : Int) + 1)) (wr.setCell ⟨g, j, none⟩ (.int .i64 (k + j))) := by
  refine ⟨j + 1, M.set j (k + j), by omega, by go_num, by go_num, by simpa using hM, ?_, hblk.set (by omega) _, ⟨hg.os, hg.tape, hg.output, by simpa [World.setCell] using hg.size, fun i hi hne => (Below.heap_setCell _ ⟨g, j, none⟩ _ i (fun e => hne (by rw [e]))).trans (hg.block i hi hne)⟩⟩
  rw [List.take_add_one, List.take_set_of_le (Nat.le_refl _), ht, List.getElem?_set_self (by omega)]
  rfl

set_option maxRecDepth 100000 in
set_option maxHeartbeats 1000000 in
theorem markIntS_blk (g n cap : Nat) (L : List Int) (k : Int) (w : World) (hl : L.length ≤ 1048576) (hk0 : 0 ≤ k) (hk1 : k ≤ 1000000000) (h : InBlk w g n L) :
    Calls Try.prog 38 #[.slice (some ⟨g, 0, none⟩) L.length cap, .int .i64 k] w fun e w' => e = .returned (.int .i64 (k + L.length)) ∧ InBlk w' g n (imarks k L.length) ∧ w.grownBy w' (some g) := by
  have hln : L.length ≤ n := by obtain ⟨_, _, _, h, _⟩ := h; exact h
  have HS := Lib.hid (show IMarkRel k L.length n g w (.int .i64 k) (.int .i64 0) w from ⟨0, L, Nat.zero_le _, rfl, by simp, rfl, rfl, h, ⟨rfl, rfl, rfl, Nat.le_refl _, fun _ _ _ => rfl⟩⟩)
  clear h
  generalize L.length = m at *
  go_enter Try.func38, Try.ntmps38
  go_wp2
  go_loopw [1, 5] (fun s1 i wr => IMarkRel k m n g w s1 i wr) (fun _ i _ => m - (intOf i).toNat)
  case atStart => exact HS.out
  case round =>
    obtain ⟨j, M, hj, rfl, rfl, hM, ht, hblk, hg⟩ := hrel
    by_cases hlt : j < m
    · obtain ⟨⟨p0, hp0⟩, f0⟩ := hblk.place (show j < n by omega)
      have HP := Lib.hid (imark_push hlt hM ht hblk hg)
      clear hblk hg ht hM
      go_wp2_with fail
      go_roundw
      case rel => exact HP.out
      case measure => simp [intOf]; omega
    · obtain rfl : j = m := by omega
      have HM := Lib.hid (show InBlk wr g n (imarks k j) by rwa [← ht, List.take_of_length_le (by omega)])
      clear hblk ht
      go_wp2_with fail
      go_ret
      exact ⟨rfl, HM.out, hg⟩
set_option maxRecDepth 100000 in
set_option maxHeartbeats 400000 in
theorem markIntS_nil (a : Option Addr) (cap : Nat) (k : Int) (w : World) : Calls Try.prog 38 #[.slice a 0 cap, .int .i64 k] w fun e w' => e = .returned (.int .i64 k) ∧ w = w' := by
  go_enter Try.func38, Try.ntmps38
  go_wp2
  go_loop [1, 5] (fun s1 i => s1 = .int .i64 k ∧ i = .int .i64 0) (fun _ _ => 0)
  case atStart => exact ⟨rfl, rfl⟩
  case round =>
    obtain ⟨rfl, rfl⟩ := hrel
    go_wp2
    go_ret
    exact ⟨rfl, rfl⟩
theorem markIB {N : List Int} {lo hi : Nat} {u : Value} {w : World} (hl : N.length ≤ 1048576) (h : IB N lo hi u w) (k : Int) (hk0 : 0 ≤ k) (hk1 : k ≤ 1000000000) :
    Calls Try.prog 38 #[u, .int .i64 k] w fun e w' => e = .returned (.int .i64 (k + N.length)) ∧ IB (imarks k N.length) lo hi u w' ∧ Out lo hi w w' := by
  obtain ⟨a, cap, rfl, h⟩ := h
  rcases h with rfl | ⟨g, n, rfl, hb, h1, h2⟩
  · refine (markIntS_nil a cap k w).mono ?_
    rintro e w' ⟨rfl, rfl⟩
    exact ⟨by simp, ⟨_, _, rfl, .inl rfl⟩, ⟨rfl, rfl, rfl, Nat.le_refl _, fun i _ _ => rfl⟩⟩
  · refine (markIntS_blk g n cap N k w hl hk0 hk1 hb).mono ?_
    rintro e w' ⟨rfl, hb', hg⟩
    refine ⟨rfl, ⟨some ⟨g, 0, none⟩, cap, by rw [imarks_len], .inr ⟨g, n, rfl, hb', h1, h2⟩⟩, ⟨hg.os, hg.tape, hg.output, hg.size, fun i hi hd => hg.block i hi (fun e => by injection e with e; omega)⟩⟩

set_option maxRecDepth 100000 in
set_option maxHeartbeats 1000000 in
theorem heldIntS_any (u : Value) (n : Nat) (k : Int) (w : World) (B : Nat) (hl : n ≤ 1048576) (hk0 : 0 ≤ k) (hk1 : k ≤ 1000000000) (h : InAt w B u (imarks k n)) :
    Calls Try.prog 41 #[u, .int .i64 k] w fun e w' => e = .returned (.int .i64 (k + n)) ∧ w = w' := by
  obtain ⟨a, cap, rfl, h1⟩ := h
  have hm := imarks_len k n
  have H := Lib.hid h1
  clear h1
  rw [hm]
  clear hm
  go_enter Try.func41, Try.ntmps41
  go_wp2
  go_loop [1, 5] (fun s1 i => ∃ j : Nat, j ≤ n ∧ i = .int .i64 (j : Int) ∧ s1 = .int .i64 (k + j)) (fun _ i => n - (intOf i).toNat)
  case atStart => exact ⟨0, Nat.zero_le _, rfl, by simp⟩
  case round =>
    obtain ⟨j, hj, rfl, rfl⟩ := hrel
    by_cases hlt : j < n
    · rcases H.out with h1 | ⟨b, o, rfl, hB, hc⟩
      · have := congrArg List.length h1
        rw [imarks_len] at this
        simp at this
        omega
      have c0 := hc j (by rw [imarks_len]; exact hlt)
      have hv : (imarks k n)[j]'(by rw [imarks_len]; exact hlt) = k + j := by
        have := imarks_at k n j hlt
        rw [List.getElem?_eq_getElem (by rw [imarks_len]; exact hlt)] at this
        exact Option.some.inj this
      rw [hv] at c0
      clear hc hv
      have hz : ((k + (j : Int)) != (k + (j : Int))) = false := by simp
      go_wp2_with fail
      go_round
      case rel => exact ⟨j + 1, by omega, by go_num, by go_num⟩
      case measure => simp [intOf]; omega
    · obtain rfl : j = n := by omega
      go_wp2_with fail
      go_ret
      exact ⟨rfl, rfl⟩
theorem heldIB {n : Nat} {lo hi : Nat} {u : Value} {w : World} (hn : n ≤ 1048576) (k : Int) (hk0 : 0 ≤ k) (hk1 : k ≤ 1000000000) (h : IB (imarks k n) lo hi u w) :
    Calls Try.prog 41 #[u, .int .i64 k] w fun e w' => e = .returned (.int .i64 (k + n)) ∧ Below w.heap.size w w' :=
  (heldIntS_any u n k w _ hn hk0 hk1 h.at).mono fun _ _ ⟨he, hw⟩ => ⟨he, hw ▸ Below.refl _ _⟩

end Go.Proofs.Ytopplljilmjjgaa
