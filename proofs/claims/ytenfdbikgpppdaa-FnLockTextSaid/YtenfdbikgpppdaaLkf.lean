/- Contracts of the program's lineEnd and pickFrom, over this seat's translation: where a line ends, and the pick of a line as the plain function readI tells it; nothing that was there before a call has changed. Condition: a text of at most 1048576 bytes. -/
import Derived.Test.YtenfdbikgpppdaaLkp
import Derived.Test.YtenfdbikgpppdaaVfrom
import Derived.Test.YtenfdbikgpppdaaVcut
import Derived.Test.YtenfdbikgpppdaaPkmk
import Derived.Deep.RegionHeld3
import Derived.Handy
namespace Go.Proofs.Ytenfdbikgpppdaa
open Go.RowKit Go.Sort

namespace Lk
/-- From a place on, up to k, no line ends; at k one does, or the text. -/
def EndAt (s : ByteArray) (f k : Nat) : Prop := f ≤ k ∧ k ≤ s.size ∧ 10 ∉ (s.data.toList.drop f).take (k - f) ∧ (k = s.size ∨ s.data.toList[k]? = some 10)
def SomeEnd (s : ByteArray) (f : Nat) (w : World) (e : Ending) (w' : World) : Prop := ∃ k : Nat, EndAt s f k ∧ e = .returned (.int .i64 (k : Int)) ∧ w = w'

theorem take_no {l : List UInt8} {f k : Nat} (hf : f ≤ k) (hk : k < l.length) (h : 10 ∉ (l.drop f).take (k - f)) (hn : l[k] ≠ 10) : 10 ∉ (l.drop f).take (k + 1 - f) := by
  rw [take_more l f k hf hk]
  simp only [List.mem_append, List.mem_singleton, not_or]
  exact ⟨h, fun e => hn e.symm⟩

set_option maxHeartbeats 1000000 in
theorem lineEnd_any (s : ByteArray) (f : Nat) (w : World) (hs : s.size ≤ 1048576) (hf : f ≤ s.size) :
    Calls Try.prog 44 #[.string s, .int .i64 (f : Int)] w (SomeEnd s f w) := by
  go_enter Try.func44, Try.ntmps44
  go_wp2
  go_loop [5] (fun i => ∃ k : Nat, f ≤ k ∧ k ≤ s.size ∧ i = .int .i64 (k : Int) ∧ 10 ∉ (s.data.toList.drop f).take (k - f)) (fun i => s.size - (intOf i).toNat)
  case atStart => exact ⟨f, Nat.le_refl _, hf, rfl, by simp⟩
  case round =>
    obtain ⟨k, hfk, hk, rfl, hno⟩ := hrel
    have HN := Lib.hid hno
    clear hno
    by_cases hlt : k < s.size
    · have hg : s.data.toList[k]'(by simpa using hlt) = s[k] := by rw [Array.getElem_toList]; rfl
      by_cases he : s[k] = 10
      · have hq : ((s[k].toNat : Int) != 10) = false := by rw [he]; rfl
        have HE := Lib.hid (show EndAt s f k from ⟨hfk, hk, HN.out, .inr (by rw [List.getElem?_eq_getElem (by simpa using hlt), hg, he])⟩)
        clear he hg
        go_wp2
        go_ret
        exact ⟨k, HE.out, rfl, rfl⟩
      · have hq : ((s[k].toNat : Int) != 10) = true := by
          have : ¬ (s[k].toNat : Int) = 10 := fun e => he (UInt8.toNat_inj.1 (by have h10 : (10 : UInt8).toNat = 10 := rfl; omega))
          simpa [bne_iff_ne] using this
        have HE := Lib.hid (take_no hfk (show k < s.data.toList.length by simpa using hlt) HN.out (by rw [hg]; exact he))
        clear he hg
        go_wp2
        go_round
        case rel => exact ⟨k + 1, by omega, by omega, by go_num, HE.out⟩
        case measure => simp [intOf]; omega
    · have HE := Lib.hid (show EndAt s f k from ⟨hfk, hk, HN.out, .inl (by omega)⟩)
      go_wp2
      go_ret
      exact ⟨k, HE.out, rfl, rfl⟩

def ansP : Option Pk → Value
  | some x => .tuple #[pick x.1 x.2.1 x.2.2.1 x.2.2.2.1 x.2.2.2.2, .bool true]
  | none => .tuple #[pick 0 0 0 0 0, .bool false]
theorem readI_short {l : List UInt8} (h : l.length < 2) : readI l = none := by
  match l, h with
  | [], _ => rfl
  | [_], _ => rfl
theorem readI_long {l : List UInt8} (h : 2 ≤ l.length) : readI l = (Parse.im (l.drop 2)).map fun v => (((l[0]'(by omega)).toNat : Int) - 97, v) := by
  match l, h with
  | a :: b :: r, _ => rfl

theorem new_box {w w2 : World} (hb : Below (w.alloc (.cells #[.int .i64 0, .int .i64 0, .int .i64 0, .int .i64 0, .int .i64 0] 58)).heap.size (w.alloc (.cells #[.int .i64 0, .int .i64 0, .int .i64 0, .int .i64 0, .int .i64 0] 58)) w2) :
    (w2.cell? ⟨w.heap.size, 0, none⟩ = some (.int .i64 0) ∧ w2.frozen? ⟨w.heap.size, 0, none⟩ = false) ∧ (w2.cell? ⟨w.heap.size, 1, none⟩ = some (.int .i64 0) ∧ w2.frozen? ⟨w.heap.size, 1, none⟩ = false) ∧ (w2.cell? ⟨w.heap.size, 2, none⟩ = some (.int .i64 0) ∧ w2.frozen? ⟨w.heap.size, 2, none⟩ = false) ∧ (w2.cell? ⟨w.heap.size, 3, none⟩ = some (.int .i64 0) ∧ w2.frozen? ⟨w.heap.size, 3, none⟩ = false) ∧ w2.cell? ⟨w.heap.size, 4, none⟩ = some (.int .i64 0) ∧ w2.frozen? ⟨w.heap.size, 4, none⟩ = false := by
  obtain ⟨hc, hf⟩ := olds hb
  have hz : w.heap.size < (w.alloc (.cells #[.int .i64 0, .int .i64 0, .int .i64 0, .int .i64 0, .int .i64 0] 58)).heap.size := by simp
  have h := heap_alloc_new w (.cells #[.int .i64 0, .int .i64 0, .int .i64 0, .int .i64 0, .int .i64 0] 58)
  have e : ∀ j, (w.alloc (.cells #[.int .i64 0, .int .i64 0, .int .i64 0, .int .i64 0, .int .i64 0] 58)).frozen? ⟨w.heap.size, j, none⟩ = false := fun j => by simp only [World.frozen?, h]; rfl
  refine ⟨⟨(hc _ _ hz).trans (by go_simp), (hf _ _ hz).trans (e _)⟩, ⟨(hc _ _ hz).trans (by go_simp), (hf _ _ hz).trans (e _)⟩, ⟨(hc _ _ hz).trans (by go_simp), (hf _ _ hz).trans (e _)⟩, ⟨(hc _ _ hz).trans (by go_simp), (hf _ _ hz).trans (e _)⟩, (hc _ _ hz).trans (by go_simp), (hf _ _ hz).trans (e _)⟩

theorem five {W : World} {p : Nat} {x0 x1 x2 x3 x4 : Value} (hp : p < W.heap.size) (c0 : W.cell? ⟨p, 0, none⟩ = some x0) (c1 : W.cell? ⟨p, 1, none⟩ = some x1) (c2 : W.cell? ⟨p, 2, none⟩ = some x2) (c3 : W.cell? ⟨p, 3, none⟩ = some x3) (c4 : W.cell? ⟨p, 4, none⟩ = some x4) (v0 v1 v2 v3 v4 : Value) :
    (((((W.setCell ⟨p, 0, none⟩ v0).setCell ⟨p, 1, none⟩ v1).setCell ⟨p, 2, none⟩ v2).setCell ⟨p, 3, none⟩ v3).setCell ⟨p, 4, none⟩ v4).cell? ⟨p, 0, none⟩ = some v0 ∧ (((((W.setCell ⟨p, 0, none⟩ v0).setCell ⟨p, 1, none⟩ v1).setCell ⟨p, 2, none⟩ v2).setCell ⟨p, 3, none⟩ v3).setCell ⟨p, 4, none⟩ v4).cell? ⟨p, 1, none⟩ = some v1 ∧ (((((W.setCell ⟨p, 0, none⟩ v0).setCell ⟨p, 1, none⟩ v1).setCell ⟨p, 2, none⟩ v2).setCell ⟨p, 3, none⟩ v3).setCell ⟨p, 4, none⟩ v4).cell? ⟨p, 2, none⟩ = some v2 ∧ (((((W.setCell ⟨p, 0, none⟩ v0).setCell ⟨p, 1, none⟩ v1).setCell ⟨p, 2, none⟩ v2).setCell ⟨p, 3, none⟩ v3).setCell ⟨p, 4, none⟩ v4).cell? ⟨p, 3, none⟩ = some v3 ∧ (((((W.setCell ⟨p, 0, none⟩ v0).setCell ⟨p, 1, none⟩ v1).setCell ⟨p, 2, none⟩ v2).setCell ⟨p, 3, none⟩ v3).setCell ⟨p, 4, none⟩ v4).cell? ⟨p, 4, none⟩ = some v4 ∧ p < (((((W.setCell ⟨p, 0, none⟩ v0).setCell ⟨p, 1, none⟩ v1).setCell ⟨p, 2, none⟩ v2).setCell ⟨p, 3, none⟩ v3).setCell ⟨p, 4, none⟩ v4).heap.size := by
  refine ⟨by go_simp, by go_simp, by go_simp, by go_simp, by go_simp, by simp [World.setCell]; exact hp⟩
theorem five_on {W V : World} {p : Nat} {v0 v1 v2 v3 v4 : Value} (h : W.cell? ⟨p, 0, none⟩ = some v0 ∧ W.cell? ⟨p, 1, none⟩ = some v1 ∧ W.cell? ⟨p, 2, none⟩ = some v2 ∧ W.cell? ⟨p, 3, none⟩ = some v3 ∧ W.cell? ⟨p, 4, none⟩ = some v4 ∧ p < W.heap.size) (hb : Below W.heap.size W V) :
    V.cell? ⟨p, 0, none⟩ = some v0 ∧ V.cell? ⟨p, 1, none⟩ = some v1 ∧ V.cell? ⟨p, 2, none⟩ = some v2 ∧ V.cell? ⟨p, 3, none⟩ = some v3 ∧ V.cell? ⟨p, 4, none⟩ = some v4 := by
  obtain ⟨h0, h1, h2, h3, h4, hp⟩ := h
  exact ⟨(hb.cell (p := ⟨p, 0, none⟩) hp).trans h0, (hb.cell (p := ⟨p, 1, none⟩) hp).trans h1, (hb.cell (p := ⟨p, 2, none⟩) hp).trans h2, (hb.cell (p := ⟨p, 3, none⟩) hp).trans h3, (hb.cell (p := ⟨p, 4, none⟩) hp).trans h4⟩

set_option maxRecDepth 100000 in
set_option maxHeartbeats 2000000 in
theorem pickFrom_any (s : ByteArray) (w : World) (hs : s.size ≤ 1048576) :
    Calls Try.prog 45 #[.string s] w fun e w' => e = .returned (ansP (readI s.data.toList)) ∧ Below w.heap.size w w' := by
  have hlen : s.data.toList.length = s.size := by simp
  by_cases hl : s.size < 2
  · have H := Lib.hid (readI_short (l := s.data.toList) (by omega))
    clear hlen
    go_enter Try.func45, Try.ntmps45
    go_wp2_with fail
    exact bodyPost_ret (v := .tuple #[pick 0 0 0 0 0, .bool false]) (by simp [results, Try.results45, go_sem]) rfl ⟨by rw [H.out]; rfl, by go_grown⟩
  · have h2 : 2 ≤ s.size := by omega
    have HR := Lib.hid (readI_long (l := s.data.toList) (by simp only [hlen]; omega))
    have h0 : s.data.toList[0]'(by simp only [hlen]; omega) = s[0] := by rw [Array.getElem_toList]; rfl
    have hx : (s.extract 2 s.size).data.toList = s.data.toList.drop 2 := by
      rw [Lib.extract_data, List.take_of_length_le (by simp)]
    have hxs : (s.extract 2 s.size).size ≤ 1048576 := by simp only [ByteArray.size_extract]; omega
    have KF : Hid (∀ V, Calls Try.prog 29 #[.string (s.extract 2 s.size)] V fun e w' => e = .returned (ans (Parse.im (s.data.toList.drop 2))) ∧ Below V.heap.size V w') := Lib.hid fun V => by
      have := implFrom_any (s.extract 2 s.size) V hxs
      rwa [hx] at this
    clear hx hxs
    have HLEN := Lib.hid hlen
    rcases e : Parse.im (s.data.toList.drop 2) with _ | ⟨a, b, c, d⟩
    · have H := Lib.hid (show readI s.data.toList = none by rw [HR.out, e]; rfl)
      rw [e] at KF
      simp only [ans] at KF
      clear e HR h0
      go_enter Try.func45, Try.ntmps45
      go_wp2_with fail
      refine (KF.out _).mono ?_
      rintro e w2 ⟨rfl, hb2⟩
      obtain ⟨⟨c0, f0⟩, ⟨c1, f1⟩, ⟨c2, f2⟩, ⟨c3, f3⟩, c4, f4⟩ := new_box hb2
      have hz : w.heap.size < w2.heap.size := by have := hb2.size; simp at this; omega
      have hbw := (((Below.refl w.heap.size w).alloc (Nat.le_refl _) (.cells #[.int .i64 0, .int .i64 0, .int .i64 0, .int .i64 0, .int .i64 0] 58))).trans (hb2.mono (by simp))
      go_wp2_with fail
      obtain ⟨e0, e1, e2, e3, e4⟩ := five_on (five hz c0 c1 c2 c3 c4 (.int .i64 0) (.int .i64 0) (.int .i64 0) (.int .i64 0) (.int .i64 0)) ((Below.refl _ _).alloc (Nat.le_refl _) (.cells #[.int .i64 0, .int .i64 0, .int .i64 0, .int .i64 0] 47))
      exact bodyPost_ret (v := .tuple #[pick 0 0 0 0 0, .bool false]) (by simp [results, Try.results45, go_sem, e0, e1, e2, e3, e4]) rfl ⟨by rw [H.out]; rfl, by go_grown⟩
    · have H := Lib.hid (show readI s.data.toList = some ((s[0].toNat : Int) - 97, a, b, c, d) by rw [HR.out, e, h0]; rfl)
      rw [e] at KF
      simp only [ans] at KF
      clear e HR h0
      have hb0 : s[0].toNat < 256 := s[0].toNat_lt
      go_enter Try.func45, Try.ntmps45
      go_wp2_with fail
      refine (KF.out _).mono ?_
      rintro e w2 ⟨rfl, hb2⟩
      obtain ⟨⟨c0, f0⟩, ⟨c1, f1⟩, ⟨c2, f2⟩, ⟨c3, f3⟩, c4, f4⟩ := new_box hb2
      have hz : w.heap.size < w2.heap.size := by have := hb2.size; simp at this; omega
      have hbw := (((Below.refl w.heap.size w).alloc (Nat.le_refl _) (.cells #[.int .i64 0, .int .i64 0, .int .i64 0, .int .i64 0, .int .i64 0] 58))).trans (hb2.mono (by simp))
      have hp0 : 0 < s.size := by omega
      have ew1 : IntKind.i64.wrap (s[0].toNat : Int) = (s[0].toNat : Int) := IntWalk.i64_in _ (by omega)
      have ew2 : IntKind.i64.wrap ((s[0].toNat : Int) - 97) = (s[0].toNat : Int) - 97 := IntWalk.i64_in _ (by omega)
      go_wp2_with fail
      go_region
      have HE := Lib.hid (five_on (five hz c0 c1 c2 c3 c4 (.int .i64 ((s[0].toNat : Int) - 97)) (.int .i64 a) (.int .i64 b) (.int .i64 c) (.int .i64 d)) (((Below.refl _ _).alloc (Nat.le_refl _) (.cells #[.int .i64 a, .int .i64 b, .int .i64 c, .int .i64 d] 47)).drew))
      go_wp2_with fail
      exact bodyPost_ret (v := .tuple #[pick ((s[0].toNat : Int) - 97) a b c d, .bool true]) (by simp [results, Try.results45, go_sem, HE.out.1, HE.out.2.1, HE.out.2.2.1, HE.out.2.2.2.1, HE.out.2.2.2.2]) rfl ⟨by rw [H.out]; rfl, by go_grown⟩
end Lk
end Go.Proofs.Ytenfdbikgpppdaa
