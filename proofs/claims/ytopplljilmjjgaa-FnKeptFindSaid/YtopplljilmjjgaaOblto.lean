/- Contracts of the laws' functions that copy, measure, compare and mark rows of texts and of truths, over this seat's translation: a copy is a row of its own; marking turns the row's own block alone. Condition: at most 1048576 of them. -/
import Derived.Test.YtopplljilmjjgaaObl
import Derived.Test.YtopplljilmjjgaaIn
import Derived.SliceStrings
import Derived.Deep.Slices
import Derived.Deep.RegionWith
import Derived.Handy
import Derived.Laws.BytesString
namespace Go.Proofs.Ytopplljilmjjgaa
open Go.ChangeShapes Go.WideShapes Go.ChangeAt Go.RowKit Go.Sort Go.Joins Go.Deep
open Obl

namespace Obt
def OToRel {α : Type} (mk : α → Value) (T : TypeId) (L : List α) (w : World) (g : Nat) (i : Value) (wr : World) : Prop :=
  ∃ k : Nat, k ≤ L.length ∧ i = .int .i64 (k : Int) ∧ OBlk mk T wr g L.length (L.take k) ∧ Below w.heap.size w wr
theorem oto_push {α : Type} {mk : α → Value} {T : TypeId} {L : List α} {w wr : World} {k : Nat} {x : α} (hxy : L[k]? = some x) (hk : k < L.length) (hblk : OBlk mk T wr w.heap.size L.length (L.take k)) (hb : Below w.heap.size w wr) :
    OToRel mk T L w w.heap.size (.int .i64 ((k : Int) + 1)) (wr.setCell ⟨w.heap.size, k, none⟩ (mk x)) := by
  have hl : (L.take k).length = k := by simp; omega
  have h := hblk.push (by omega) x
  rw [hl] at h
  refine ⟨k + 1, by omega, by go_num, ?_, hb.setCell (by simp) _⟩
  rw [List.take_add_one, hxy]
  exact h
def OMRel {α : Type} (mk : α → Value) (T : TypeId) (k : Int) (m g n : Nat) (w : World) (s1 i : Value) (wr : World) : Prop :=
  ∃ (j : Nat) (M : List α), j ≤ m ∧ i = .int .i64 (j : Int) ∧ s1 = .int .i64 (k + j) ∧ M.length = m ∧ OBlk mk T wr g n M ∧ Out g (g + 1) w wr
theorem om_push {α : Type} {mk : α → Value} {T : TypeId} {k : Int} {m g n j : Nat} {w wr : World} {M : List α} {x : α} (hj : j < m) (hM : M.length = m) (hblk : OBlk mk T wr g n M) (ho : Out g (g + 1) w wr) :
    OMRel mk T k m g n w (.int .i64 (k + j + 1)) (.int .i64 ((j : Int) + 1)) (wr.setCell ⟨g, j, none⟩ (mk x)) :=
  ⟨j + 1, M.set j x, by omega, by go_num, by go_num, by simpa using hM, hblk.set (by omega) x, ho.set (Nat.le_refl _) (by omega)⟩

theorem infoString : (Try.prog.info? 9).map (fun i => (i.zero, i.size, i.bytes)) = some (some (.string ByteArray.empty), 1, 16) := by kernel_rfl
theorem makeString (n : Nat) (hn : n ≤ 1048576) (V : World) :
    (Instr.makeSlice 24 (.int .i64 (n : Int)) (.int .i64 (n : Int))).run Try.prog V = .ok (.slice (some ⟨V.heap.size, 0, none⟩) n n) (V.alloc (.cells (madeCells #[.string ByteArray.empty] (n * 1)) 9)) := by
  obtain ⟨i0, hi, hz0, hz1, hz2⟩ := info_parts infoString
  have h := run_make (P := Try.prog) V 24 9 i0 _ Try.underlying24 hi hz0 .i64 .i64 (n : Int) (n : Int) (by omega) (Int.le_refl _) (by rw [hz2]; omega) (by omega)
  rw [hz1] at h
  simpa [Value.cells] using h
theorem madeString (n : Nat) (V : World) : OBlk Value.string 9 (V.alloc (.cells (madeCells #[.string ByteArray.empty] (n * 1)) 9)) V.heap.size n [] :=
  ⟨_, heap_alloc_new V _, by rw [size_madeCells]; omega, Nat.zero_le _, fun i hi => absurd hi (by simp)⟩

set_option maxRecDepth 100000 in
set_option maxHeartbeats 2000000 in
theorem toStringS_ob (v : Value) (L : List ByteArray) (w : World) (h : OAt Value.string w w.heap.size v L) (hl : L.length ≤ 1048576) :
    Calls Try.prog 21 #[v] w fun e w' => ∃ a c, e = .returned (.slice a L.length c) ∧ OB Value.string 9 L w.heap.size w'.heap.size (.slice a L.length c) w' ∧ Below w.heap.size w w' := by
  obtain ⟨a, cap, rfl, h⟩ := h
  have hmk := makeString L.length hl
  have hmd := Lib.hid (madeString L.length w)
  go_enter Try.func21, Try.ntmps21
  go_wp2
  clear hmk
  go_loopw [4] (fun i wr => OToRel Value.string 9 L w w.heap.size i wr) (fun i _ => L.length - (intOf i).toNat)
  case atStart => exact ⟨0, Nat.zero_le _, rfl, by rw [List.take_zero]; have := hmd.out; simpa using this, by first | exact (Below.refl _ _).alloc (Nat.le_refl _) _ | go_grown⟩
  case round =>
    obtain ⟨k, hk, rfl, hblk, hb⟩ := hrel
    by_cases hlt : k < L.length
    · rcases h with h | ⟨b, o, rfl, hB, hc⟩
      · subst h
        exact absurd hlt (by simp)
      obtain ⟨x, hxy⟩ : ∃ x, L[k] = x := ⟨_, rfl⟩
      have e0 := (hb.cell (p := ⟨b, o + k, none⟩) hB).trans (hc k hlt)
      rw [hxy] at e0
      have HXY := Lib.hid (show L[k]? = some x by rw [List.getElem?_eq_getElem hlt, hxy])
      clear hxy hc
      have hg := hblk.lt
      obtain ⟨⟨p0, hp0⟩, f0⟩ := hblk.place hlt
      have HP := Lib.hid (oto_push HXY.out hlt hblk hb)
      clear hb hblk
      have i0 : (0 : Int) ≤ (k : Int) := by omega
      have i1 : (k : Int) < (L.length : Int) := by omega
      go_wp2_with fail
      go_roundw
      case rel => exact HP.out
      case measure => simp [intOf]; omega
    · obtain rfl : k = L.length := by omega
      rw [List.take_length] at hblk
      go_wp2_with fail
      go_ret
      exact ⟨_, _, rfl, ⟨_, _, rfl, .inr ⟨_, _, rfl, hblk, Nat.le_refl _, hblk.lt⟩⟩, hb⟩

set_option maxRecDepth 100000 in
set_option maxHeartbeats 2000000 in
theorem eqStringS_same {v v' : Value} {L : List ByteArray} {w : World} (hl : L.length ≤ 1048576) (h : OAt Value.string w w.heap.size v L) (h' : OAt Value.string w w.heap.size v' L) :
    Calls Try.prog 25 #[v, v'] w fun e w' => e = .returned (.bool true) ∧ Below w.heap.size w w' := by
  obtain ⟨a, cap, rfl, hc⟩ := h
  obtain ⟨a', cap', rfl, hc'⟩ := h'
  have H := Lib.hid hc
  have H' := Lib.hid hc'
  clear hc hc'
  have hz : ((L.length : Int) != (L.length : Int)) = false := by simp
  go_enter Try.func25, Try.ntmps25
  go_wp2
  go_loopw [5] (fun i wr => ∃ k : Nat, k ≤ L.length ∧ i = .int .i64 (k : Int) ∧ Below w.heap.size w wr) (fun i _ => L.length - (intOf i).toNat)
  case atStart => exact ⟨0, Nat.zero_le _, rfl, Below.refl _ _⟩
  case round =>
    obtain ⟨k, hk, rfl, hb⟩ := hrel
    by_cases hlt : k < L.length
    · rcases H.out with h1 | ⟨b, o, rfl, hB, hc⟩
      · subst h1
        exact absurd hlt (by simp)
      rcases H'.out with h2 | ⟨b', o', rfl, hB', hc'⟩
      · subst h2
        exact absurd hlt (by simp)
      obtain ⟨x, hx⟩ : ∃ x, L[k] = x := ⟨_, rfl⟩
      have c := hc k hlt
      have c' := hc' k hlt
      rw [hx] at c c'
      have k0 := (hb.cell (p := ⟨b, o + k, none⟩) hB).trans c
      have l0 := (hb.cell (p := ⟨b', o' + k, none⟩) hB').trans c'
      have HB := Lib.hid hb
      clear hc hc' c c' hx hb
      have i0 : (0 : Int) ≤ (k : Int) := by omega
      have i1 : (k : Int) < (L.length : Int) := by omega
      have hE : (x.toList != x.toList) = false := by simp
      go_wp2_with fail
      go_quiet (fail)
      go_wp2_with fail
      go_roundw
      case rel => exact ⟨k + 1, by omega, by go_num, HB.out.trans ⟨rfl, rfl, rfl, Nat.le_refl _, fun _ _ => rfl⟩⟩
      case measure => simp [intOf]; omega
    · obtain rfl : k = L.length := by omega
      go_wp2_with fail
      go_ret
      exact ⟨rfl, hb⟩

theorem infoBool : (Try.prog.info? 4).map (fun i => (i.zero, i.size, i.bytes)) = some (some (.bool false), 1, 1) := by kernel_rfl
theorem makeBool (n : Nat) (hn : n ≤ 1048576) (V : World) :
    (Instr.makeSlice 121 (.int .i64 (n : Int)) (.int .i64 (n : Int))).run Try.prog V = .ok (.slice (some ⟨V.heap.size, 0, none⟩) n n) (V.alloc (.cells (madeCells #[.bool false] (n * 1)) 4)) := by
  obtain ⟨i0, hi, hz0, hz1, hz2⟩ := info_parts infoBool
  have h := run_make (P := Try.prog) V 121 4 i0 _ Try.underlying121 hi hz0 .i64 .i64 (n : Int) (n : Int) (by omega) (Int.le_refl _) (by rw [hz2]; omega) (by omega)
  rw [hz1] at h
  simpa [Value.cells] using h
theorem madeBool (n : Nat) (V : World) : OBlk Value.bool 4 (V.alloc (.cells (madeCells #[.bool false] (n * 1)) 4)) V.heap.size n [] :=
  ⟨_, heap_alloc_new V _, by rw [size_madeCells]; omega, Nat.zero_le _, fun i hi => absurd hi (by simp)⟩

theorem mt_step {k : Int} {j : Nat} (h : k < (10 : Int) ^ (j + 1)) : k / 10 < (10 : Int) ^ j := by
  have : (10 : Int) ^ (j + 1) = 10 ^ j * 10 := Int.pow_succ 10 j
  omega
theorem one_byte_mt (V : World) (x : Int) : (convert 66 9 (.slice (some ⟨V.heap.size, 0, none⟩) 1 1)).run Try.prog (V.alloc (.cells #[.int .u8 x] 5)) =
    .ok (.string ⟨#[UInt8.ofNat x.toNat]⟩) (V.alloc (.cells #[.int .u8 x] 5)) := by
  rw [run_convert_bytes_string _ 66 9 5 _ 1 1 Try.underlying66 Try.underlying5 Try.underlying9]
  have hc : (V.alloc (.cells #[.int .u8 x] 5)).cell? ⟨V.heap.size, 0, none⟩ = some (.int .u8 x) := by go_simp
  have hl : (loadCells ⟨V.heap.size, 0, none⟩ 1).run Try.prog (V.alloc (.cells #[.int .u8 x] 5)) = .ok ([x].map (Value.int .u8)).toArray (V.alloc (.cells #[.int .u8 x] 5)) := by
    go_simp
  rw [run_bytesToString _ _ 1 1 [x] hl]
  rfl
/-- What the loop keeps: the number has at most j digits left, and what is written so far has few. -/
def MtRel (w : World) (s1 o : Value) (wr : World) : Prop := ∃ (k : Int) (j : Nat) (s : ByteArray), s1 = .int .i64 k ∧ o = .string s ∧ 0 ≤ k ∧ k < (10 : Int) ^ j ∧ k ≤ 4000000000 ∧ s.size + j = 12 ∧ Below w.heap.size w wr
theorem mt_push {w wr : World} {k : Int} {j : Nat} {s : ByteArray} {x : UInt8} {o : Obj} (h0 : 0 < k) (h1 : k < (10 : Int) ^ j) (h2 : k ≤ 4000000000) (hs : s.size + j = 12) (hb : Below w.heap.size w wr) :
    MtRel w (.int .i64 (k / 10)) (.string ((⟨#[x]⟩ : ByteArray) ++ s)) (wr.alloc o) := by
  rcases j with _ | j
  · simp at h1
    omega
  · exact ⟨k / 10, j, _, rfl, rfl, by omega, mt_step h1, by omega, by rw [ByteArray.size_append]; show 1 + s.size + j = 12; omega, hb.alloc hb.size _⟩

set_option maxRecDepth 100000 in
set_option maxHeartbeats 2000000 in
theorem markText_any (k : Int) (w : World) (h0 : 0 < k) (h1 : k ≤ 4000000000) :
    Calls Try.prog 95 #[.int .i64 k] w fun e w' => ∃ t, e = .returned (.string t) ∧ Below w.heap.size w w' := by
  have hv := one_byte_mt
  go_enter Try.func95, Try.ntmps95
  go_wp2_with fail
  go_loopw [0, 3] (fun s1 o wr => MtRel w s1 o wr) (fun s1 o _ => (intOf s1).toNat)
  case atStart => exact ⟨k, 12, _, rfl, rfl, by omega, by omega, h1, rfl, Below.refl _ _⟩
  case round =>
    obtain ⟨k, j, s, rfl, rfl, g0, g1, g2, hs, hb⟩ := hrel
    by_cases hlt : 0 < k
    · have ew : IntKind.u8.wrap (48 + k % 10) = 48 + k % 10 := IntWalk.u8_in _ (by omega)
      have ew1 : IntKind.u8.wrap (k % 10 + 48) = k % 10 + 48 := IntWalk.u8_in _ (by omega)
      have ew2 : IntKind.i64.wrap (48 + k % 10) = 48 + k % 10 := IntWalk.i64_in _ (by omega)
      have sz : ∀ x : UInt8, (⟨#[x]⟩ : ByteArray).size = 1 := fun _ => rfl
      have HP := Lib.hid (fun x o => mt_push (x := x) (o := o) hlt g1 g2 hs hb)
      have hs12 : s.size ≤ 12 := by omega
      clear hs g1 hb
      go_wp2_with fail
      go_roundw
      case rel => exact HP.out _ _
      case measure => simp [intOf]; omega
    · go_wp2_with fail
      go_ret
      exact ⟨⟨_, rfl⟩, hb⟩

set_option maxRecDepth 100000 in
set_option maxHeartbeats 2000000 in
theorem markStringS_blk (g n cap : Nat) (L : List ByteArray) (k : Int) (w : World) (hl : L.length ≤ 1048576) (hk0 : 0 < k) (hk1 : k ≤ 1000000000) (h : OBlk Value.string 9 w g n L) :
    Calls Try.prog 97 #[.slice (some ⟨g, 0, none⟩) L.length cap, .int .i64 k] w fun e w' => e = .returned (.int .i64 (k + L.length)) ∧ Out g (g + 1) w w' := by
  have hln : L.length ≤ n := by obtain ⟨_, _, _, h, _⟩ := h; exact h
  have HS := Lib.hid (show OMRel Value.string 9 k L.length g n w (.int .i64 k) (.int .i64 0) w from ⟨0, L, Nat.zero_le _, rfl, by simp, rfl, h, out_refl _ _ _⟩)
  clear h
  generalize L.length = m at *
  go_enter Try.func97, Try.ntmps97
  go_wp2
  go_loopw [1, 5] (fun s1 i wr => OMRel Value.string 9 k m g n w s1 i wr) (fun _ i _ => m - (intOf i).toNat)
  case atStart => exact HS.out
  case round =>
    obtain ⟨j, M, hj, rfl, rfl, hM, hblk, ho⟩ := hrel
    by_cases hlt : j < m
    · have HBK := Lib.hid hblk
      have HO := Lib.hid ho
      clear hblk ho
      go_wp2_with fail
      refine (markText_any (k + j) wr (by omega) (by omega)).mono ?_
      rintro e w2 ⟨t, rfl, hb⟩
      have blk2 := HBK.out.below hb
      have ho2 := HO.out.trans' (Out.ofBelow (lo := g) (hi := g + 1) hb)
      obtain ⟨⟨p0, hp0⟩, f0⟩ := blk2.place (show j < n by omega)
      have HP := Lib.hid (om_push (mk := Value.string) (x := t) (k := k) hlt hM blk2 ho2)
      clear hb blk2 ho2
      go_wp2_with fail
      go_roundw
      case rel => exact HP.out
      case measure => simp [intOf]; omega
    · obtain rfl : j = m := by omega
      have HO := Lib.hid ho
      clear hblk ho
      go_wp2_with fail
      go_ret
      exact ⟨rfl, HO.out⟩
set_option maxRecDepth 100000 in
set_option maxHeartbeats 400000 in
theorem markStringS_nil (a : Option Addr) (cap : Nat) (k : Int) (w : World) : Calls Try.prog 97 #[.slice a 0 cap, .int .i64 k] w fun e w' => e = .returned (.int .i64 k) ∧ w = w' := by
  go_enter Try.func97, Try.ntmps97
  go_wp2
  go_loop [1, 5] (fun s1 i => s1 = .int .i64 k ∧ i = .int .i64 0) (fun _ _ => 0)
  case atStart => exact ⟨rfl, rfl⟩
  case round =>
    obtain ⟨rfl, rfl⟩ := hrel
    go_wp2
    go_ret
    exact ⟨rfl, rfl⟩
theorem markStringS_out {N : List ByteArray} {lo hi : Nat} {u : Value} {w : World} (hl : N.length ≤ 1048576) (h : OB Value.string 9 N lo hi u w) (k : Int) (hk0 : 0 < k) (hk1 : k ≤ 1000000000) :
    Calls Try.prog 97 #[u, .int .i64 k] w fun e w' => e = .returned (.int .i64 (k + N.length)) ∧ Out lo hi w w' := by
  obtain ⟨a, cap, rfl, h⟩ := h
  rcases h with rfl | ⟨g, n, rfl, hb, h1, h2⟩
  · refine (markStringS_nil a cap k w).mono ?_
    rintro e w' ⟨rfl, rfl⟩
    exact ⟨by simp, out_refl _ _ _⟩
  · refine (markStringS_blk g n cap N k w hl hk0 hk1 hb).mono ?_
    rintro e w' ⟨rfl, ho⟩
    exact ⟨rfl, Out.wide ho h1 h2⟩

/-- The bytes of texts together. -/
def stSz : List ByteArray → Nat
  | [] => 0
  | x :: t => x.size + stSz t
theorem stSz_snoc {L : List ByteArray} {k : Nat} {x : ByteArray} (h : L[k]? = some x) : stSz (L.take (k + 1)) = stSz (L.take k) + x.size := by
  rw [List.take_add_one, h]
  have app : ∀ A B : List ByteArray, stSz (A ++ B) = stSz A + stSz B := by
    intro A B
    induction A with
    | nil => simp [stSz]
    | cons a t ih => simp only [List.cons_append, stSz, ih]; omega
  rw [app]
  simp [stSz]
theorem stSz_le (L : List ByteArray) (k : Nat) : stSz (L.take k) ≤ stSz L := by
  induction L generalizing k with
  | nil => simp [stSz]
  | cons a t ih =>
    rcases k with _ | k
    · simp [stSz]
    · simp only [List.take_succ_cons, stSz]
      have := ih k
      omega
theorem stSz_mem {L : List ByteArray} {x : ByteArray} (h : x ∈ L) : x.size ≤ stSz L := by
  induction L with
  | nil => cases h
  | cons a t ih =>
    simp only [stSz]
    rcases List.mem_cons.1 h with rfl | h
    · omega
    · have := ih h
      omega
/-- What is left of a measure, or -1. -/
def oleft (left : Int) (n : Nat) : Int := if left < (n : Int) then -1 else left - (n : Int)

set_option maxRecDepth 100000 in
set_option maxHeartbeats 2000000 in
theorem szStringS_any (v : Value) (L : List ByteArray) (left : Int) (w : World) (h0 : 0 ≤ left) (h1 : left ≤ 1048576) (hl : L.length ≤ maxLen) (hq : ∀ q ∈ L, q.size ≤ maxLen) (h : StAt w w.heap.size v L) :
    Calls Try.prog 17 #[v, .int .i64 left] w fun e w' => e = .returned (.int .i64 (oleft left (L.length + stSz L))) ∧ Below w.heap.size w w' := by
  obtain ⟨a, cap, rfl, h⟩ := h
  unfold maxLen at hl
  have HH := Lib.hid h
  have HQ := Lib.hid hq
  clear h hq
  by_cases hs : left < (L.length : Int)
  · have HE := Lib.hid (show oleft left (L.length + stSz L) = -1 by unfold oleft; rw [if_pos (by omega)])
    go_enter Try.func17, Try.ntmps17
    go_wp2_with fail
    go_ret
    exact ⟨by rw [HE.out]; rfl, Below.refl _ _⟩
  · have hn : ¬ left - (L.length : Int) < 0 := by omega
    go_enter Try.func17, Try.ntmps17
    go_wp2_with fail
    go_loopw [1, 5] (fun s1 i wr => ∃ k : Nat, k ≤ L.length ∧ i = .int .i64 (k : Int) ∧ s1 = .int .i64 (left - (L.length : Int) - (stSz (L.take k) : Int)) ∧ 0 ≤ left - (L.length : Int) - (stSz (L.take k) : Int) ∧ wr = w) (fun _ i _ => L.length - (intOf i).toNat)
    case atStart => exact ⟨0, Nat.zero_le _, rfl, by simp [stSz], by simp [stSz]; omega, rfl⟩
    case round =>
      obtain ⟨k, hk, rfl, rfl, hp, rfl⟩ := hrel
      by_cases hlt : k < L.length
      · rcases HH.out with h | ⟨b, o, rfl, hB, hc⟩
        · subst h
          exact absurd hlt (by simp)
        obtain ⟨x, hxy⟩ : ∃ x, L[k] = x := ⟨_, rfl⟩
        have e0 := hc k hlt
        rw [hxy] at e0
        have hx : L[k]? = some x := by rw [List.getElem?_eq_getElem hlt, hxy]
        have hm := HQ.out x (List.mem_of_getElem? hx)
        unfold maxLen at hm
        have hsn := stSz_snoc hx
        have hle := stSz_le L (k + 1)
        have HS := Lib.hid hsn
        have HLE := Lib.hid hle
        clear hxy hc hx hsn hle
        have i0 : (0 : Int) ≤ (k : Int) := by omega
        have i1 : (k : Int) < (L.length : Int) := by omega
        obtain ⟨y, hy⟩ : ∃ y : Int, left - (L.length : Int) - (stSz (L.take k) : Int) = y := ⟨_, rfl⟩
        have y1 : y ≤ 1048576 := by omega
        have HY := Lib.hid hy
        rw [hy] at hp ⊢
        clear hy
        by_cases hd : y < (x.size : Int)
        · have hd1 : y - (x.size : Int) < 0 := by omega
          have HE := Lib.hid (show oleft left (L.length + stSz L) = -1 by have := HS.out; have := HLE.out; have := HY.out; unfold oleft; rw [if_pos (by omega)])
          go_wp2_with fail
          go_ret
          exact ⟨by rw [HE.out]; rfl, Below.refl _ _⟩
        · have hd1 : ¬ y - (x.size : Int) < 0 := by omega
          go_wp2_with fail
          go_roundw
          case rel => exact ⟨k + 1, by omega, by go_num, by have := HS.out; have := HY.out; congr 1; omega, by have := HS.out; have := HY.out; omega, by trivial⟩
          case measure => simp [intOf]; omega
      · obtain rfl : k = L.length := by omega
        rw [List.take_length] at hp ⊢
        have HE := Lib.hid (show oleft left (L.length + stSz L) = left - (L.length : Int) - (stSz L : Int) by unfold oleft; rw [if_neg (by omega)]; omega)
        go_wp2_with fail
        go_ret
        exact ⟨by rw [HE.out]; rfl, Below.refl _ _⟩

theorem string_cells : Try.prog.cellsOf 9 = 1 := by kernel_rfl
theorem bool_cells : Try.prog.cellsOf 4 = 1 := by kernel_rfl
theorem add0 (a : Addr) : a.add 0 = a := by simp [Addr.add]
theorem plain_add' {b o n : Nat} : (⟨b, o, none⟩ : Addr).add n = ⟨b, o + n, none⟩ := by unfold Addr.add; split <;> simp_all
theorem rowOf {α : Type} [Inhabited α] {len : Nat} {p : Nat → α → Prop} (h : ∀ i, i < len → ∃ q, p i q) : ∃ X : List α, X.length = len ∧ ∀ i (hi : i < X.length), p i X[i] := by
  obtain ⟨X, hX⟩ := choose_lt h
  refine ⟨(List.range len).map X, by simp, fun i hi => ?_⟩
  have hi' : i < len := by simpa using hi
  simpa using hX i hi'
theorem row_at {α : Type} {mk : α → Value} {w : World} {a : Addr} {X : List α} {cap : Nat} (hX : ∀ i (hi : i < X.length), w.cell? (a.add (i * 1)) = some (mk X[i])) : OAt mk w w.heap.size (.slice (some a) X.length cap) X := by
  by_cases hz : X.length = 0
  · exact ⟨_, _, rfl, .inl (List.length_eq_zero_iff.1 hz)⟩
  · have c0 := hX 0 (by omega)
    obtain ⟨b, o, spot⟩ := a
    rw [Nat.zero_mul, add0] at c0
    have hspot : spot = none := by simpa using World.cell?_spot c0
    subst hspot
    refine ⟨_, _, rfl, .inr ⟨b, o, rfl, ?_, fun i hi => ?_⟩⟩
    · have := World.block_lt_of_cell? w _ c0
      simpa using this
    · have e0 := hX i hi
      rw [plain_add', Nat.mul_one] at e0
      exact e0
set_option maxRecDepth 100000 in
theorem open_texts {H : Type} {enc : TypeId × Value → H} {w : World} {held : Bool} {b0 : Nat} {v : Value} {d : DataW H} {p : List MemPlace} (hv : Value.okWide Try.prog w .any b0 24 v)
    (h : DataW.Trod enc Try.prog w 0 (fun _ => true) held 24 v d p) : ∃ a cap L, v = .slice a L.length cap ∧ StAt w w.heap.size (.slice a L.length cap) L ∧ L.length ≤ maxLen ∧ ∀ q ∈ L, q.size ≤ maxLen := by
  obtain ⟨a0, len0, cap0, rfl⟩ := okWide_slice Try.underlying24 hv
  obtain ⟨fuel, hf⟩ := h
  rcases open_slice Try.underlying24 hf with ⟨hcs, _⟩ | ⟨a, len, cap, m, k, D, Pl, hcs, _, hl, hm, hmm, _, hel⟩
  · simp [Value.cells] at hcs
    obtain ⟨rfl, rfl, rfl⟩ := hcs
    exact ⟨none, 0, [], rfl, ⟨_, _, rfl, .inl rfl⟩, Nat.zero_le _, fun q hq => by cases hq⟩
  · simp [Value.cells] at hcs
    obtain ⟨rfl, rfl, rfl⟩ := hcs
    simp at hmm
    subst hmm
    rw [string_cells] at hel
    obtain ⟨X, hlen, hX⟩ := rowOf (α := ByteArray) (p := fun i q => w.cell? (a.add (i * 1)) = some (.string q) ∧ q.size ≤ maxLen) (fun i (hi : i < len0) => by
      obtain ⟨cs', h1, h2⟩ := hel i (by omega)
      obtain ⟨q, e, _, hs⟩ := DataW.trod_string Try.underlying9 h2
      subst e
      obtain ⟨_, _, h3⟩ := World.cells?_some h1
      have e0 := h3 0 (by omega)
      rw [add0] at e0
      exact ⟨q, e0, hs⟩)
    subst hlen
    refine ⟨some a, m, X, rfl, row_at fun i hi => (hX i hi).1, by omega, fun q hq => ?_⟩
    obtain ⟨i, hi, rfl⟩ := List.getElem_of_mem hq
    exact (hX i hi).2
set_option maxRecDepth 100000 in
theorem open_bools {H : Type} {enc : TypeId × Value → H} {w : World} {held : Bool} {b0 : Nat} {v : Value} {d : DataW H} {p : List MemPlace} (hv : Value.okWide Try.prog w .any b0 121 v)
    (h : DataW.Trod enc Try.prog w 0 (fun _ => true) held 121 v d p) : ∃ a cap L, v = .slice a L.length cap ∧ BoAt w w.heap.size (.slice a L.length cap) L ∧ L.length ≤ maxLen := by
  obtain ⟨a0, len0, cap0, rfl⟩ := okWide_slice Try.underlying121 hv
  obtain ⟨fuel, hf⟩ := h
  rcases open_slice Try.underlying121 hf with ⟨hcs, _⟩ | ⟨a, len, cap, m, k, D, Pl, hcs, _, hl, hm, hmm, _, hel⟩
  · simp [Value.cells] at hcs
    obtain ⟨rfl, rfl, rfl⟩ := hcs
    exact ⟨none, 0, [], rfl, ⟨_, _, rfl, .inl rfl⟩, Nat.zero_le _⟩
  · simp [Value.cells] at hcs
    obtain ⟨rfl, rfl, rfl⟩ := hcs
    simp at hmm
    subst hmm
    rw [bool_cells] at hel
    obtain ⟨X, hlen, hX⟩ := rowOf (α := Bool) (p := fun i q => w.cell? (a.add (i * 1)) = some (.bool q)) (fun i (hi : i < len0) => by
      obtain ⟨cs', h1, h2⟩ := hel i (by omega)
      obtain ⟨q, e, _⟩ := DataW.trod_bool Try.underlying4 h2
      subst e
      obtain ⟨_, _, h3⟩ := World.cells?_some h1
      have e0 := h3 0 (by omega)
      rw [add0] at e0
      exact ⟨q, e0⟩)
    subst hlen
    exact ⟨some a, m, X, rfl, row_at hX, by omega⟩
end Obt
end Go.Proofs.Ytopplljilmjjgaa
