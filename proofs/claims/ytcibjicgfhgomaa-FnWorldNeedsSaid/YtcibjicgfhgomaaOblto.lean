/- Contracts of the laws' functions that copy, measure, compare and mark rows of texts and of truths, over this seat's translation: a copy is a row of its own; marking turns the row's own block alone. Condition: at most 1048576 of them. -/
import Derived.Test.YtcibjicgfhgomaaObl
import Derived.Test.YtcibjicgfhgomaaIn
import Derived.SliceStrings
import Derived.Deep.Slices
import Derived.Deep.RegionWith
import Derived.Handy
import Derived.Laws.BytesString
namespace Go.Proofs.Ytcibjicgfhgomaa
open Go.ChangeShapes Go.WideShapes Go.ChangeAt Go.RowKit Go.Sort Go.Joins Go.Deep
open Obl

namespace Obt
def OToRel {α : Type} (mk : α → Value) (T : TypeId) (L : List α) (w : World) (g : Nat) (i : Value) (wr : World) : Prop :=
  ∃ k : Nat, k ≤ L.length ∧ i = .int .i64 (k : Int) ∧ OBlk mk T wr g L.length (L.take k) ∧ Below w.heap.size w wr
theorem oto_push {α : Type} {mk : α → Value} {T : TypeId} {L : List α} {w wr : World} {k : Nat} {x : α} (hxy : L[k]? = some x) (hk : k < L.length) (hblk : OBlk mk T wr w.heap.size L.length (L.take k)) (hb : Below w.heap.size w wr) :
    OToRel mk T L w w.heap.size (.int .i64 ((k : Int) + 1)) (wr.setCell ⟨w.heap.size, k, none⟩ (mk x)) := by
  have hl : (L.take k).length = k := by simp; omega
  have h := hblk.push (by omega) x
  rw [hl] at h
  refine ⟨k + 1, by omega, by go_num, ?_, hb.setCell (by simp) _⟩
  rw [List.take_add_one, hxy]
  exact h
def OMRel {α : Type} (mk : α → Value) (T : TypeId) (k : Int) (m g n : Nat) (w : World) (s1 i : Value) (wr : World) : Prop :=
  ∃ (j : Nat) (M : List α), j ≤ m ∧ i = .int .i64 (j : Int) ∧ s1 = .int .i64 (k + j) ∧ M.length = m ∧ OBlk mk T wr g n M ∧ Out g (g + 1) w wr
theorem om_push {α : Type} {mk : α → Value} {T : TypeId} {k : Int} {m g n j : Nat} {w wr : World} {M : List α} {x : α} (hj : j < m) (hM : M.length = m) (hblk : OBlk mk T wr g n M) (ho : Out g (g + 1) w wr) :
    OMRel mk T k m g n w (.int .i64 (k + j + 1)) (.int .i64 ((j : Int) + 1)) (wr.setCell ⟨g, j, none⟩ (mk x)) :=
  ⟨j + 1, M.set j x, by omega, by go_num, by go_num, by simpa using hM, hblk.set (by omega) x, ho.set (Nat.le_refl _) (by omega)⟩

theorem infoString : (Try.prog.info? 9).map (fun i => (i.zero, i.size, i.bytes)) = some (some (.string ByteArray.empty), 1, 16) := by kernel_rfl
theorem makeString (n : Nat) (hn : n ≤ 1048576) (V : World) :
    (Instr.makeSlice 54 (.int .i64 (n : Int)) (.int .i64 (n : Int))).run Try.prog V = .ok (.slice (some ⟨V.heap.size, 0, none⟩) n n) (V.alloc (.cells (madeCells #[.string ByteArray.empty] (n * 1)) 9)) := by
  obtain ⟨i0, hi, hz0, hz1, hz2⟩ := info_parts infoString
  have h := run_make (P := Try.prog) V 54 9 i0 _ Try.underlying54 hi hz0 .i64 .i64 (n : Int) (n : Int) (by omega) (Int.le_refl _) (by rw [hz2]; omega) (by omega)
  rw [hz1] at h
  simpa [Value.cells] using h
theorem madeString (n : Nat) (V : World) : OBlk Value.string 9 (V.alloc (.cells (madeCells #[.string ByteArray.empty] (n * 1)) 9)) V.heap.size n [] :=
  ⟨_, heap_alloc_new V _, by rw [size_madeCells]; omega, Nat.zero_le _, fun i hi => absurd hi (by simp)⟩

theorem infoBool : (Try.prog.info? 4).map (fun i => (i.zero, i.size, i.bytes)) = some (some (.bool false), 1, 1) := by kernel_rfl
theorem makeBool (n : Nat) (hn : n ≤ 1048576) (V : World) :
    (Instr.makeSlice 55 (.int .i64 (n : Int)) (.int .i64 (n : Int))).run Try.prog V = .ok (.slice (some ⟨V.heap.size, 0, none⟩) n n) (V.alloc (.cells (madeCells #[.bool false] (n * 1)) 4)) := by
  obtain ⟨i0, hi, hz0, hz1, hz2⟩ := info_parts infoBool
  have h := run_make (P := Try.prog) V 55 4 i0 _ Try.underlying55 hi hz0 .i64 .i64 (n : Int) (n : Int) (by omega) (Int.le_refl _) (by rw [hz2]; omega) (by omega)
  rw [hz1] at h
  simpa [Value.cells] using h
theorem madeBool (n : Nat) (V : World) : OBlk Value.bool 4 (V.alloc (.cells (madeCells #[.bool false] (n * 1)) 4)) V.heap.size n [] :=
  ⟨_, heap_alloc_new V _, by rw [size_madeCells]; omega, Nat.zero_le _, fun i hi => absurd hi (by simp)⟩

theorem mt_step {k : Int} {j : Nat} (h : k < (10 : Int) ^ (j + 1)) : k / 10 < (10 : Int) ^ j := by
  have : (10 : Int) ^ (j + 1) = 10 ^ j * 10 := Int.pow_succ 10 j
  omega
theorem one_byte_mt (V : World) (x : Int) : (convert 40 9 (.slice (some ⟨V.heap.size, 0, none⟩) 1 1)).run Try.prog (V.alloc (.cells #[.int .u8 x] 5)) =
    .ok (.string ⟨#[UInt8.ofNat x.toNat]⟩) (V.alloc (.cells #[.int .u8 x] 5)) := by
  rw [run_convert_bytes_string _ 40 9 5 _ 1 1 Try.underlying40 Try.underlying5 Try.underlying9]
  have hc : (V.alloc (.cells #[.int .u8 x] 5)).cell? ⟨V.heap.size, 0, none⟩ = some (.int .u8 x) := by go_simp
  have hl : (loadCells ⟨V.heap.size, 0, none⟩ 1).run Try.prog (V.alloc (.cells #[.int .u8 x] 5)) = .ok ([x].map (Value.int .u8)).toArray (V.alloc (.cells #[.int .u8 x] 5)) := by
    go_simp
  rw [run_bytesToString _ _ 1 1 [x] hl]
  rfl
/-- What the loop keeps: the number has at most j digits left, and what is written so far has few. -/
def MtRel (w : World) (s1 o : Value) (wr : World) : Prop := ∃ (k : Int) (j : Nat) (s : ByteArray), s1 = .int .i64 k ∧ o = .string s ∧ 0 ≤ k ∧ k < (10 : Int) ^ j ∧ k ≤ 4000000000 ∧ s.size + j = 12 ∧ Below w.heap.size w wr
theorem mt_push {w wr : World} {k : Int} {j : Nat} {s : ByteArray} {x : UInt8} {o : Obj} (h0 : 0 < k) (h1 : k < (10 : Int) ^ j) (h2 : k ≤ 4000000000) (hs : s.size + j = 12) (hb : Below w.heap.size w wr) :
    MtRel w (.int .i64 (k / 10)) (.string ((⟨#[x]⟩ : ByteArray) ++ s)) (wr.alloc o) := by
  rcases j with _ | j
  · simp at h1
    omega
  · exact ⟨k / 10, j, _, rfl, rfl, by omega, mt_step h1, by omega, by rw [ByteArray.size_append]; show 1 + s.size + j = 12; omega, hb.alloc hb.size _⟩

set_option maxRecDepth 100000 in
set_option maxHeartbeats 2000000 in
theorem markText_any (k : Int) (w : World) (h0 : 0 < k) (h1 : k ≤ 4000000000) :
    Calls Try.prog 58 #[.int .i64 k] w fun e w' => ∃ t, e = .returned (.string t) ∧ Below w.heap.size w w' := by
  have hv := one_byte_mt
  go_enter Try.func58, Try.ntmps58
  go_wp2_with fail
  go_loopw [0, 3] (fun s1 o wr => MtRel w s1 o wr) (fun s1 o _ => (intOf s1).toNat)
  case atStart => exact ⟨k, 12, _, rfl, rfl, by omega, by omega, h1, rfl, Below.refl _ _⟩
  case round =>
    obtain ⟨k, j, s, rfl, rfl, g0, g1, g2, hs, hb⟩ := hrel
    by_cases hlt : 0 < k
    · have ew : IntKind.u8.wrap (48 + k % 10) = 48 + k % 10 := IntWalk.u8_in _ (by omega)
      have ew1 : IntKind.u8.wrap (k % 10 + 48) = k % 10 + 48 := IntWalk.u8_in _ (by omega)
      have ew2 : IntKind.i64.wrap (48 + k % 10) = 48 + k % 10 := IntWalk.i64_in _ (by omega)
      have sz : ∀ x : UInt8, (⟨#[x]⟩ : ByteArray).size = 1 := fun _ => rfl
      have HP := Lib.hid (fun x o => mt_push (x := x) (o := o) hlt g1 g2 hs hb)
      have hs12 : s.size ≤ 12 := by omega
      clear hs g1 hb
      go_wp2_with fail
      go_roundw
      case rel => exact HP.out _ _
      case measure => simp [intOf]; omega
    · go_wp2_with fail
      go_ret
      exact ⟨⟨_, rfl⟩, hb⟩

/-- The bytes of texts together. -/
def stSz : List ByteArray → Nat
  | [] => 0
  | x :: t => x.size + stSz t
theorem stSz_snoc {L : List ByteArray} {k : Nat} {x : ByteArray} (h : L[k]? = some x) : stSz (L.take (k + 1)) = stSz (L.take k) + x.size := by
  rw [List.take_add_one, h]
  have app : ∀ A B : List ByteArray, stSz (A ++ B) = stSz A + stSz B := by
    intro A B
    induction A with
    | nil => simp [stSz]
    | cons a t ih => simp only [List.cons_append, stSz, ih]; omega
  rw [app]
  simp [stSz]
theorem stSz_le (L : List ByteArray) (k : Nat) : stSz (L.take k) ≤ stSz L := by
  induction L generalizing k with
  | nil => simp [stSz]
  | cons a t ih =>
    rcases k with _ | k
    · simp [stSz]
    · simp only [List.take_succ_cons, stSz]
      have := ih k
      omega
theorem stSz_mem {L : List ByteArray} {x : ByteArray} (h : x ∈ L) : x.size ≤ stSz L := by
  induction L with
  | nil => cases h
  | cons a t ih =>
    simp only [stSz]
    rcases List.mem_cons.1 h with rfl | h
    · omega
    · have := ih h
      omega
/-- What is left of a measure, or -1. -/
def oleft (left : Int) (n : Nat) : Int := if left < (n : Int) then -1 else left - (n : Int)

theorem string_cells : Try.prog.cellsOf 9 = 1 := by kernel_rfl
theorem bool_cells : Try.prog.cellsOf 4 = 1 := by kernel_rfl
theorem add0 (a : Addr) : a.add 0 = a := by simp [Addr.add]
theorem plain_add' {b o n : Nat} : (⟨b, o, none⟩ : Addr).add n = ⟨b, o + n, none⟩ := by unfold Addr.add; split <;> simp_all
theorem rowOf {α : Type} [Inhabited α] {len : Nat} {p : Nat → α → Prop} (h : ∀ i, i < len → ∃ q, p i q) : ∃ X : List α, X.length = len ∧ ∀ i (hi : i < X.length), p i X[i] := by
  obtain ⟨X, hX⟩ := choose_lt h
  refine ⟨(List.range len).map X, by simp, fun i hi => ?_⟩
  have hi' : i < len := by simpa using hi
  simpa using hX i hi'
theorem row_at {α : Type} {mk : α → Value} {w : World} {a : Addr} {X : List α} {cap : Nat} (hX : ∀ i (hi : i < X.length), w.cell? (a.add (i * 1)) = some (mk X[i])) : OAt mk w w.heap.size (.slice (some a) X.length cap) X := by
  by_cases hz : X.length = 0
  · exact ⟨_, _, rfl, .inl (List.length_eq_zero_iff.1 hz)⟩
  · have c0 := hX 0 (by omega)
    obtain ⟨b, o, spot⟩ := a
    rw [Nat.zero_mul, add0] at c0
    have hspot : spot = none := by simpa using World.cell?_spot c0
    subst hspot
    refine ⟨_, _, rfl, .inr ⟨b, o, rfl, ?_, fun i hi => ?_⟩⟩
    · have := World.block_lt_of_cell? w _ c0
      simpa using this
    · have e0 := hX i hi
      rw [plain_add', Nat.mul_one] at e0
      exact e0
set_option maxRecDepth 100000 in
theorem open_texts {H : Type} {enc : TypeId × Value → H} {w : World} {held : Bool} {b0 : Nat} {v : Value} {d : DataW H} {p : List MemPlace} (hv : Value.okWide Try.prog w .any b0 54 v)
    (h : DataW.Trod enc Try.prog w 0 (fun _ => true) held 54 v d p) : ∃ a cap L, v = .slice a L.length cap ∧ StAt w w.heap.size (.slice a L.length cap) L ∧ L.length ≤ maxLen ∧ ∀ q ∈ L, q.size ≤ maxLen := by
  obtain ⟨a0, len0, cap0, rfl⟩ := okWide_slice Try.underlying54 hv
  obtain ⟨fuel, hf⟩ := h
  rcases open_slice Try.underlying54 hf with ⟨hcs, _⟩ | ⟨a, len, cap, m, k, D, Pl, hcs, _, hl, hm, hmm, _, hel⟩
  · simp [Value.cells] at hcs
    obtain ⟨rfl, rfl, rfl⟩ := hcs
    exact ⟨none, 0, [], rfl, ⟨_, _, rfl, .inl rfl⟩, Nat.zero_le _, fun q hq => by cases hq⟩
  · simp [Value.cells] at hcs
    obtain ⟨rfl, rfl, rfl⟩ := hcs
    simp at hmm
    subst hmm
    rw [string_cells] at hel
    obtain ⟨X, hlen, hX⟩ := rowOf (α := ByteArray) (p := fun i q => w.cell? (a.add (i * 1)) = some (.string q) ∧ q.size ≤ maxLen) (fun i (hi : i < len0) => by
      obtain ⟨cs', h1, h2⟩ := hel i (by omega)
      obtain ⟨q, e, _, hs⟩ := DataW.trod_string Try.underlying9 h2
      subst e
      obtain ⟨_, _, h3⟩ := World.cells?_some h1
      have e0 := h3 0 (by omega)
      rw [add0] at e0
      exact ⟨q, e0, hs⟩)
    subst hlen
    refine ⟨some a, m, X, rfl, row_at fun i hi => (hX i hi).1, by omega, fun q hq => ?_⟩
    obtain ⟨i, hi, rfl⟩ := List.getElem_of_mem hq
    exact (hX i hi).2
set_option maxRecDepth 100000 in
theorem open_bools {H : Type} {enc : TypeId × Value → H} {w : World} {held : Bool} {b0 : Nat} {v : Value} {d : DataW H} {p : List MemPlace} (hv : Value.okWide Try.prog w .any b0 55 v)
    (h : DataW.Trod enc Try.prog w 0 (fun _ => true) held 55 v d p) : ∃ a cap L, v = .slice a L.length cap ∧ BoAt w w.heap.size (.slice a L.length cap) L ∧ L.length ≤ maxLen := by
  obtain ⟨a0, len0, cap0, rfl⟩ := okWide_slice Try.underlying55 hv
  obtain ⟨fuel, hf⟩ := h
  rcases open_slice Try.underlying55 hf with ⟨hcs, _⟩ | ⟨a, len, cap, m, k, D, Pl, hcs, _, hl, hm, hmm, _, hel⟩
  · simp [Value.cells] at hcs
    obtain ⟨rfl, rfl, rfl⟩ := hcs
    exact ⟨none, 0, [], rfl, ⟨_, _, rfl, .inl rfl⟩, Nat.zero_le _⟩
  · simp [Value.cells] at hcs
    obtain ⟨rfl, rfl, rfl⟩ := hcs
    simp at hmm
    subst hmm
    rw [bool_cells] at hel
    obtain ⟨X, hlen, hX⟩ := rowOf (α := Bool) (p := fun i q => w.cell? (a.add (i * 1)) = some (.bool q)) (fun i (hi : i < len0) => by
      obtain ⟨cs', h1, h2⟩ := hel i (by omega)
      obtain ⟨q, e, _⟩ := DataW.trod_bool Try.underlying4 h2
      subst e
      obtain ⟨_, _, h3⟩ := World.cells?_some h1
      have e0 := h3 0 (by omega)
      rw [add0] at e0
      exact ⟨q, e0⟩)
    subst hlen
    exact ⟨some a, m, X, rfl, row_at hX, by omega⟩
end Obt
end Go.Proofs.Ytcibjicgfhgomaa
