/- Contracts of the model's helpers of a run, over this seat's translation: l9Has tells whether a row has a number, l9Turn turns a text round; nothing that was there before a call has changed. Conditions: rows of at most 1048576 numbers, texts of at most 1048576 bytes. -/
import Derived.Test.YtopplljilmjjgaaRxi
import Derived.Test.YtopplljilmjjgaaOblto
import Derived.Laws.BytesString
import Derived.Laws.Cells
namespace Go.Proofs.Ytopplljilmjjgaa
open Go.RowKit Go.Sort
namespace Rx
set_option maxRecDepth 100000 in
set_option maxHeartbeats 4000000 in
theorem numberAmong_any (u : Value) (N : List Int) (n : Int) (w : World) (hl : N.length ≤ 1048576) (h : InAt w w.heap.size u N) :
    Calls Try.prog 133 #[u, .int .i64 n] w fun e w' => e = .returned (.bool (decide (n ∈ N))) ∧ Below w.heap.size w w' := by
  obtain ⟨xa, ca, rfl, h⟩ := h
  go_enter Try.func133, Try.ntmps133
  go_wp2_with fail
  go_loopw [9] (fun i wr => ∃ k : Nat, k ≤ N.length ∧ i = .int .i64 (k : Int) ∧ n ∉ N.take k ∧ Below w.heap.size w wr) (fun i _ => N.length - (intOf i).toNat)
  case atStart => exact ⟨0, Nat.zero_le _, rfl, by simp, Below.refl _ _⟩
  case round =>
    obtain ⟨k, hk, rfl, ht, hb⟩ := hrel
    have HT := Lib.hid ht
    clear ht
    by_cases hlt : k < N.length
    · rcases h with h | ⟨g, o, rfl, hB, hc⟩
      · subst h
        exact absurd hlt (by simp)
      obtain ⟨x, hx⟩ : ∃ x, N[k] = x := ⟨_, rfl⟩
      have k0 := (hb.cell (p := ⟨g, o + k, none⟩) hB).trans (hc k hlt)
      rw [hx] at k0
      have HX := Lib.hid hx
      clear hx hc
      have j0 : (0 : Int) ≤ (k : Int) := by omega
      have j1 : (k : Int) < (N.length : Int) := by omega
      by_cases hn : x = n
      · have HF := Lib.hid (show decide (n ∈ N) = true from decide_eq_true (by rw [← hn, ← HX.out]; exact List.getElem_mem hlt))
        subst hn
        go_wp2_with fail
        go_ret
        exact ⟨by rw [HF.out]; rfl, hb⟩
      · have hz : (x == n) = false := by rw [beq_eq_false_iff_ne]; exact hn
        have HP := Lib.hid (show n ∉ N.take (k + 1) by
          rw [List.take_succ_eq_append_getElem hlt, HX.out]
          intro m
          rcases List.mem_append.1 m with m | m
          · exact HT.out m
          · simp at m; exact hn m.symm)
        go_wp2_with fail
        go_roundw
        case rel => exact ⟨k + 1, by omega, by go_num, HP.out, hb⟩
        case measure => simp [intOf]; omega
    · obtain rfl : k = N.length := by omega
      have HF := Lib.hid (show decide (n ∈ N) = false from decide_eq_false (by have := HT.out; rwa [List.take_length] at this))
      go_wp2_with fail
      go_ret
      exact ⟨by rw [HF.out]; rfl, hb⟩

set_option maxRecDepth 100000 in
set_option maxHeartbeats 4000000 in
theorem l9Has_any (u : Value) (N : List Int) (n : Int) (w : World) (hl : N.length ≤ 1048576) (h : InAt w w.heap.size u N) :
    Calls Try.prog 137 #[u, .int .i64 n] w fun e w' => e = .returned (.bool (decide (n ∈ N))) ∧ Below w.heap.size w w' := by
  obtain ⟨xa, ca, rfl, h⟩ := h
  go_enter Try.func137, Try.ntmps137
  go_wp2_with fail
  go_loopw [5] (fun i wr => ∃ k : Nat, k ≤ N.length ∧ i = .int .i64 (k : Int) ∧ n ∉ N.take k ∧ Below w.heap.size w wr) (fun i _ => N.length - (intOf i).toNat)
  case atStart => exact ⟨0, Nat.zero_le _, rfl, by simp, Below.refl _ _⟩
  case round =>
    obtain ⟨k, hk, rfl, ht, hb⟩ := hrel
    have HT := Lib.hid ht
    clear ht
    by_cases hlt : k < N.length
    · rcases h with h | ⟨g, o, rfl, hB, hc⟩
      · subst h
        exact absurd hlt (by simp)
      obtain ⟨x, hx⟩ : ∃ x, N[k] = x := ⟨_, rfl⟩
      have k0 := (hb.cell (p := ⟨g, o + k, none⟩) hB).trans (hc k hlt)
      rw [hx] at k0
      have HX := Lib.hid hx
      clear hx hc
      have j0 : (0 : Int) ≤ (k : Int) := by omega
      have j1 : (k : Int) < (N.length : Int) := by omega
      by_cases hn : x = n
      · have HF := Lib.hid (show decide (n ∈ N) = true from decide_eq_true (by rw [← hn, ← HX.out]; exact List.getElem_mem hlt))
        subst hn
        go_wp2_with fail
        go_ret
        exact ⟨by rw [HF.out]; rfl, hb⟩
      · have hz : (x == n) = false := by rw [beq_eq_false_iff_ne]; exact hn
        have HP := Lib.hid (show n ∉ N.take (k + 1) by
          rw [List.take_succ_eq_append_getElem hlt, HX.out]
          intro m
          rcases List.mem_append.1 m with m | m
          · exact HT.out m
          · simp at m; exact hn m.symm)
        go_wp2_with fail
        go_roundw
        case rel => exact ⟨k + 1, by omega, by go_num, HP.out, hb⟩
        case measure => simp [intOf]; omega
    · obtain rfl : k = N.length := by omega
      have HF := Lib.hid (show decide (n ∈ N) = false from decide_eq_false (by have := HT.out; rwa [List.take_length] at this))
      go_wp2_with fail
      go_ret
      exact ⟨by rw [HF.out]; rfl, hb⟩

theorem push_all (l : List UInt8) : ∀ r : ByteArray, ((l.map fun x => ((x.toNat : Nat) : Int)).foldl (fun r n => r.push (UInt8.ofNat n.toNat)) r).data.toList = r.data.toList ++ l := by
  induction l with
  | nil => intro r; simp
  | cons a t ih =>
    intro r
    rw [List.map_cons, List.foldl_cons, ih]
    simp [ByteArray.push]
def bv (l : List UInt8) : List Value := l.map fun x => .int .u8 (x.toNat : Int)
theorem turn_conv {V : World} {base : Nat} {a : Option Addr} {n c : Nat} {l : List UInt8} (h : V.ownsRow base 5 1 (.slice a n c) n (bv l)) (hne : a ≠ none) :
    (convert 66 9 (.slice a n c)).run Try.prog V = .ok (.string ⟨l.toArray⟩) V := by
  rw [run_convert_bytes_string _ 66 9 5 _ n c Try.underlying66 Try.underlying5 Try.underlying9]
  obtain ⟨hlen, ⟨e, _⟩ | ⟨g, cap, cur, e, hb, hg, hnc, hcm, hcs, htk⟩⟩ := h
  · injection e with e1
    exact absurd e1 hne
  · injection e with e1 e2 e3
    subst e1
    have hll : (bv l).length = n := by omega
    have hl : (loadCells ⟨g, 0, none⟩ n).run Try.prog V = .ok ((l.map fun x => ((x.toNat : Nat) : Int)).map (Value.int .u8)).toArray V := by
      have h2 := run_loadCells_list (P := Try.prog) (w := V) ⟨g, 0, none⟩ (bv l) (fun j v hv => by
        rw [Obt.plain_add', Nat.zero_add, cell_of_row V g j cur _ (0, 0) hg, ← hv, ← htk, List.getElem?_take, Nat.mul_one]
        have hj : j < n := by
          have := (List.getElem?_eq_some_iff.1 hv).1
          omega
        rw [if_pos hj]
        simp)
      rw [hll] at h2
      rw [h2]
      simp [bv]
    rw [run_bytesToString _ _ n c _ hl]
    congr 2
    apply text_eq
    rw [push_all]
    rfl
theorem own_shape {w : World} {base : Nat} {e : TypeId} {size : Nat} {v : Value} {n : Nat} {xs : List Value} (h : w.ownsRow base e size v (n + 1) xs) : ∃ a c, v = .slice a (n + 1) c ∧ a ≠ none := by
  obtain ⟨_, ⟨_, h0⟩ | ⟨g, cap, cur, rfl, _⟩⟩ := h
  · cases h0
  · exact ⟨_, cap, rfl, by simp⟩
/-- What the loop of l9Turn keeps: the last bytes, turned round. -/
def LtRel9 (t : ByteArray) (w : World) (v i : Value) (wr : World) : Prop :=
  ∃ (m n c : Nat) (a : Option Addr), m ≤ t.size ∧ i = .int .i64 ((m : Int) - 1) ∧ v = .slice a n c ∧ a ≠ none ∧ n + m = t.size ∧ wr.ownsRow w.heap.size 5 1 (.slice a n c) n (bv (t.data.toList.drop m).reverse) ∧ Below w.heap.size w wr
theorem infoU8 : (Try.prog.info? 5).map (fun i => (i.zero, i.size, i.bytes)) = some (some (.int .u8 0), 1, 1) := by kernel_rfl
theorem cell_one8 (w : World) (x : Int) : ∀ j u, [Value.int .u8 x][j]? = some u → (w.alloc (.cells #[.int .u8 x] 5)).cell? ((⟨w.heap.size, 0, none⟩ : Addr).add j) = some u := by
  intro j u hu
  match j, hu with
  | 0, hu =>
    have hadd : (⟨w.heap.size, 0, none⟩ : Addr).add 0 = ⟨w.heap.size, 0, none⟩ := by simp [Addr.add]
    rw [hadd]
    simp at hu
    subst hu
    go_simp
theorem bv_push {t : ByteArray} {m : Nat} (h : m < t.size) : bv (t.data.toList.drop m).reverse = bv (t.data.toList.drop (m + 1)).reverse ++ [.int .u8 (t[m].toNat : Int)] := by
  have h2 : m < t.data.toList.length := by rw [← size_list]; exact h
  rw [List.drop_eq_getElem_cons h2, List.reverse_cons]
  simp [bv, ByteArray.getElem_eq_getElem_data]

set_option maxRecDepth 100000 in
set_option maxHeartbeats 2000000 in
theorem l9Turn_any (t : ByteArray) (w : World) (h1 : t.size ≤ 1048576) : Calls Try.prog 138 #[.string t] w fun e w' => e = .returned (.string (tnd t)) ∧ Below w.heap.size w w' := by
  obtain ⟨i0, hi, hz0, hz1, hz2⟩ := info_parts infoU8
  have HST := Lib.hid (show LtRel9 t w (.slice (some ⟨w.heap.size, 0, none⟩) 0 0) (.int .i64 ((t.size : Int) - 1)) (w.alloc (.cells #[] 5)) from
    ⟨t.size, 0, 0, _, Nat.le_refl _, rfl, rfl, by simp, by omega, by rw [size_list, List.drop_length]; exact World.ownsRow_made w #[] 0 (Nat.le_refl _) (by decide) rfl, (Below.refl _ _).alloc (Nat.le_refl _) _⟩)
  go_enter Try.func138, Try.ntmps138
  go_wp2_with fail
  go_loopw [3, 4] (fun v i wr => LtRel9 t w v i wr) (fun _ i _ => (intOf i + 1).toNat)
  case atStart => exact HST.out
  case round =>
    obtain ⟨m, n, c, a, hm, rfl, rfl, ha, hnm, hown, hb⟩ := hrel
    rcases m with _ | m
    · have KC := turn_conv hown ha
      have HE := Lib.hid (show (⟨(t.data.toList.drop 0).reverse.toArray⟩ : ByteArray) = tnd t from rfl)
      rw [HE.out] at KC
      obtain ⟨tt, htt⟩ : ∃ tt, tnd t = tt := ⟨_, rfl⟩
      rw [htt] at KC
      have HTT := Lib.hid htt
      clear hown ha htt HE
      go_wp2_with fail
      go_ret
      exact ⟨by rw [HTT.out]; rfl, hb⟩
    · have hlt : m < t.size := by omega
      have em : ((m + 1 : Nat) : Int) - 1 = (m : Int) := by omega
      rw [em]
      have HO := Lib.hid hown
      have HBV := Lib.hid (bv_push hlt)
      have HA := Lib.hid ha
      have hmI : (m : Int) < (t.size : Int) := by omega
      have m0 : (0 : Int) ≤ (m : Int) := by omega
      have hn : n ≤ 1048576 := by omega
      have zb := hb.size
      have oA := World.ownsRow.alloc hown (.cells #[.int .u8 (t[m].toNat : Int)] 5)
      clear hown ha
      go_wp2_with (at_builtin; refine wpList_append_own _ rfl _ _ 66 rfl w.heap.size 5 i0 (.int .u8 0) 1 1 Try.underlying66 hi hz0 hz1 hz2 rfl (by decide) _ _ _ rfl oA ⟨wr.heap.size, 0, none⟩ 1 1 [.int .u8 (t[m].toNat : Int)] rfl rfl (cell_one8 wr _) (by intro u hu; simp at hu; subst hu; rfl) (by unfold maxLen; omega) (by omega) (by simp; omega) ?_)
      intro v' w5 hown' hgrow hnn
      have HR := Lib.hid (show LtRel9 t w v' (.int .i64 ((m : Int) - 1)) w5 from by
        obtain ⟨a5, c5, rfl, ha5⟩ := own_shape hown'
        refine ⟨m, n + 1, c5, a5, by omega, rfl, rfl, ha5, by omega, by rw [HBV.out]; exact hown', ?_⟩
        have lt := World.ownsRow.lt HO.out
        exact (hb.alloc zb _).grown hgrow (by simp; omega) fun k hk => (lt k hk).1)
      clear hown' hgrow hnn oA hb
      go_wp2_with fail
      go_roundw
      case rel => exact HR.out
      case measure => first | (simp [intOf]; done) | (simp [intOf]; omega)
end Rx
end Go.Proofs.Ytopplljilmjjgaa
