/- Contracts of of ThingsOk, the program's and the model's, over this seat's translation: they answer whether lines are a script and texts are inputs; nothing that was there before a call has changed. Condition: at most 1048576 lines and texts, of at most 1048576 bytes. -/
import Derived.Test.YtopplljilmjjgaaRxo
import Derived.Handy
namespace Go.Proofs.Ytopplljilmjjgaa
open Go.RowKit Go.Sort
namespace Rx
set_option maxRecDepth 100000 in
set_option maxHeartbeats 2000000 in
theorem implThingsOk_any (v : Value) (N : List ByteArray) (w : World) (hl : N.length ≤ 1048576) (hq : ∀ q ∈ N, q.size ≤ 1048576) (h : Obl.StAt w w.heap.size v N) :
    Calls Try.prog 126 #[v] w fun e w' => e = .returned (.bool (thOk N)) ∧ Below w.heap.size w w' := by
  obtain ⟨a, cap, rfl, h⟩ := h
  have HH := Lib.hid h
  have HQ := Lib.hid hq
  clear h hq
  by_cases g0 : 5 < N.length
  · have HE := Lib.hid (thOk_long g0)
    have gI : (5 : Int) < (N.length : Int) := by omega
    go_enter Try.func126, Try.ntmps126
    go_wp2_with fail
    go_ret
    exact ⟨by rw [HE.out]; rfl, Below.refl _ _⟩
  have gI : ¬ (5 : Int) < (N.length : Int) := by omega
  go_enter Try.func126, Try.ntmps126
  go_wp2_with fail
  go_loopw [10] (fun i wr => ∃ k : Nat, k ≤ N.length ∧ i = .int .i64 (k : Int) ∧ (N.take k).all (fun x => decide (x.size ≤ 40)) = true ∧ Below w.heap.size w wr) (fun i _ => N.length - (intOf i).toNat)
  case atStart => exact ⟨0, Nat.zero_le _, rfl, rfl, Below.refl _ _⟩
  case round =>
    obtain ⟨k, hk, rfl, ha, hb⟩ := hrel
    have HA := Lib.hid ha
    clear ha
    by_cases hlt : k < N.length
    · rcases HH.out with h | ⟨b, o, rfl, hB, hc⟩
      · subst h
        exact absurd hlt (by simp)
      obtain ⟨x, hxy⟩ : ∃ x, N[k] = x := ⟨_, rfl⟩
      have e0 := (hb.cell (p := ⟨b, o + k, none⟩) hB).trans (hc k hlt)
      rw [hxy] at e0
      have HX := Lib.hid (show N[k]? = some x by rw [List.getElem?_eq_getElem hlt, hxy])
      have hm := HQ.out _ (List.mem_of_getElem? HX.out)
      clear hc hxy
      have i0 : (0 : Int) ≤ (k : Int) := by omega
      have i1 : (k : Int) < (N.length : Int) := by omega
      by_cases g : 40 < x.size
      · have HE := Lib.hid (thOk_bad HX.out g)
        have gx : (40 : Int) < (x.size : Int) := by omega
        go_wp2_with fail
        go_ret
        exact ⟨by rw [HE.out]; rfl, hb⟩
      · have HN := Lib.hid (th_next HX.out (by omega) HA.out)
        have gx : ¬ (40 : Int) < (x.size : Int) := by omega
        go_wp2_with fail
        go_roundw
        case rel => exact ⟨k + 1, by omega, by go_num, HN.out, hb⟩
        case measure => simp [intOf]; omega
    · obtain rfl : k = N.length := by omega
      have HE := Lib.hid (show thOk N = true by rw [thOk_all HA.out, decide_eq_true (by omega)])
      go_wp2_with fail
      go_ret
      exact ⟨by rw [HE.out]; rfl, hb⟩

set_option maxRecDepth 100000 in
set_option maxHeartbeats 2000000 in
theorem specThingsOk_any (v : Value) (N : List ByteArray) (w : World) (hl : N.length ≤ 1048576) (hq : ∀ q ∈ N, q.size ≤ 1048576) (h : Obl.StAt w w.heap.size v N) :
    Calls Try.prog 79 #[v] w fun e w' => e = .returned (.bool (thOk N)) ∧ Below w.heap.size w w' := by
  obtain ⟨a, cap, rfl, h⟩ := h
  have HH := Lib.hid h
  have HQ := Lib.hid hq
  clear h hq
  go_enter Try.func79, Try.ntmps79
  go_wp2_with fail
  go_loopw [3] (fun i wr => ∃ k : Nat, k ≤ N.length ∧ i = .int .i64 (k : Int) ∧ (N.take k).all (fun x => decide (x.size ≤ 40)) = true ∧ Below w.heap.size w wr) (fun i _ => N.length - (intOf i).toNat)
  case atStart => exact ⟨0, Nat.zero_le _, rfl, rfl, Below.refl _ _⟩
  case round =>
    obtain ⟨k, hk, rfl, ha, hb⟩ := hrel
    have HA := Lib.hid ha
    clear ha
    by_cases hlt : k < N.length
    · rcases HH.out with h | ⟨b, o, rfl, hB, hc⟩
      · subst h
        exact absurd hlt (by simp)
      obtain ⟨x, hxy⟩ : ∃ x, N[k] = x := ⟨_, rfl⟩
      have e0 := (hb.cell (p := ⟨b, o + k, none⟩) hB).trans (hc k hlt)
      rw [hxy] at e0
      have HX := Lib.hid (show N[k]? = some x by rw [List.getElem?_eq_getElem hlt, hxy])
      have hm := HQ.out _ (List.mem_of_getElem? HX.out)
      clear hc hxy
      have i0 : (0 : Int) ≤ (k : Int) := by omega
      have i1 : (k : Int) < (N.length : Int) := by omega
      by_cases g : 40 < x.size
      · have HE := Lib.hid (thOk_bad HX.out g)
        have gx : (40 : Int) < (x.size : Int) := by omega
        go_wp2_with fail
        go_ret
        exact ⟨by rw [HE.out]; rfl, hb⟩
      · have HN := Lib.hid (th_next HX.out (by omega) HA.out)
        have gx : ¬ (40 : Int) < (x.size : Int) := by omega
        go_wp2_with fail
        go_roundw
        case rel => exact ⟨k + 1, by omega, by go_num, HN.out, hb⟩
        case measure => simp [intOf]; omega
    · obtain rfl : k = N.length := by omega
      have HE := Lib.hid (thOk_all HA.out)
      by_cases g0 : N.length ≤ 5
      · have gI : (N.length : Int) ≤ 5 := by omega
        have HB := Lib.hid (show thOk N = true by rw [HE.out, decide_eq_true g0])
        go_wp2_with fail
        go_ret
        exact ⟨by rw [HB.out]; rfl, hb⟩
      · have gI : ¬ (N.length : Int) ≤ 5 := by omega
        have HB := Lib.hid (show thOk N = false by rw [HE.out, decide_eq_false g0])
        go_wp2_with fail
        go_ret
        exact ⟨by rw [HB.out]; rfl, hb⟩

end Rx
end Go.Proofs.Ytopplljilmjjgaa
