/- Groundwork over this seat's translation: Tjp, Tja, Tgrow, Tjb, Tjc, Tjd in one text; the conditions stand at each part. -/
import Derived.Test.YtdhbjjolgmodjaaTmok
import Derived.Test.YtdhbjjolgmodjaaRlaw
import Derived.Test.YtdhbjjolgmodjaaGh
import Derived.Test.YtdhbjjolgmodjaaGn
import Derived.Test.YtdhbjjolgmodjaaGo
import Derived.Test.YtdhbjjolgmodjaaGs
import Derived.Test.YtdhbjjolgmodjaaImand2
import Derived.Test.YtdhbjjolgmodjaaImor2
import Derived.Deep.RegionHeld3
import Derived.Test.YtdhbjjolgmodjaaGw

/- Clashes joined, as plain facts: what two clashes come to that are joined at a name; and that picks which hit it hit one of the two. No condition. -/
namespace Go.Proofs.Ytdhbjjolgmodjaa
open Go.RowKit Go.Sort

namespace Tmj
/-- The first term of a name. -/
def tFirst (n : Int) : List Tm → Option Tm
  | [] => none
  | x :: t => if x.1 = n then some x else tFirst n t
def isAllL (L : Sps) : Bool := decide (L = [(0, 9999999)])
def tAnd (x y : Tm) : Option (List Tm) := if andOk x.2.1 y.2.1 = true then some [(x.1, andR x.2.1 y.2.1, x.2.2 && y.2.2)] else none
def tOr (x y : Tm) : Option (List Tm) :=
  if orOk x.2.1 y.2.1 = true then (if ((x.2.2 || y.2.2) && isAllL (orR x.2.1 y.2.1)) = true then some [] else some [(x.1, orR x.2.1 y.2.1, x.2.2 || y.2.2)]) else none
/-- What two clashes come to at one name. -/
def tJoin (A B : List Tm) (n : Int) (at' : Bool) : Option (List Tm) :=
  match tFirst n A, tFirst n B with
  | none, none => some []
  | none, some y => some [y]
  | some x, none => some [x]
  | some x, some y => if at' = true then tOr x y else tAnd x y
/-- What they come to at the names below k. -/
def joinGo (A B : List Tm) (n : Int) : Nat → Option (List Tm)
  | 0 => some []
  | k + 1 => match joinGo A B n k with
    | none => none
    | some T => match tJoin A B (k : Int) (decide ((k : Int) = n)) with
      | none => none
      | some U => some (T ++ U)
def joinL (A B : List Tm) (n : Int) : Option (List Tm) :=
  if tmOk A = true ∧ tmOk B = true ∧ (tFirst n A).isSome = true ∧ (tFirst n B).isSome = true then joinGo A B n 8 else none

theorem first_mem {n : Int} {x : Tm} : ∀ {T : List Tm}, tFirst n T = some x → x ∈ T ∧ x.1 = n
  | [], h => by simp [tFirst] at h
  | q :: t, h => by
    unfold tFirst at h
    split at h
    · rename_i hq
      injection h with h
      subst h
      exact ⟨List.mem_cons_self, hq⟩
    · have := first_mem h
      exact ⟨List.mem_cons_of_mem _ this.1, this.2⟩
theorem ok_mem {x : Tm} : ∀ {T : List Tm} {lo : Int}, tmFrom lo T = true → x ∈ T → lo ≤ x.1 ∧ x.1 ≤ 7 ∧ spOk x.2.1 = true ∧ tFirst x.1 T = some x
  | [], lo, h, hx => by simp at hx
  | q :: t, lo, h, hx => by
    simp only [tmFrom, Bool.and_eq_true, decide_eq_true_eq] at h
    obtain ⟨⟨h1, h2⟩, h3, h4⟩ := h
    rcases List.mem_cons.1 hx with rfl | hx
    · exact ⟨h1, h2, h3, by simp [tFirst]⟩
    · obtain ⟨k1, k2, k3, k4⟩ := ok_mem h4 hx
      refine ⟨by omega, k2, k3, ?_⟩
      unfold tFirst
      rw [if_neg (by omega)]
      exact k4
theorem go_piece {A B : List Tm} {n : Int} : ∀ {K : Nat} {O : List Tm}, joinGo A B n K = some O → ∀ k, k < K → ∃ U, tJoin A B (k : Int) (decide ((k : Int) = n)) = some U ∧ ∀ u ∈ U, u ∈ O
  | 0, O, _, k, hk => by omega
  | K + 1, O, h, k, hk => by
    unfold joinGo at h
    split at h
    · cases h
    rename_i T hT
    split at h
    · cases h
    rename_i U hU
    injection h with h
    subst h
    by_cases e : k < K
    · obtain ⟨V, h1, h2⟩ := go_piece hT k e
      exact ⟨V, h1, fun u hu => List.mem_append_left _ (h2 u hu)⟩
    · obtain rfl : k = K := by omega
      exact ⟨U, hU, fun u hu => List.mem_append_right _ hu⟩
end Tmj
end Go.Proofs.Ytdhbjjolgmodjaa

/- Contracts of the program's termsOf, hasTerm and rangeIsAll, over this seat's translation: the first term of a name, as a row of at most one; whether there is one; whether a range has all versions. Nothing that was there before a call has changed. Condition: at most 1048576 terms, not more than the slice has room for. -/
namespace Go.Proofs.Ytdhbjjolgmodjaa
open Go.RowKit Go.Sort

namespace Tmj
open Foot
theorem first_step {T : List Tm} {k : Nat} {x : Tm} {n : Int} (h : T[k]? = some x) : tFirst n (T.drop k) = if x.1 = n then some x else tFirst n (T.drop (k + 1)) := by
  have hk : k < T.length := (List.getElem?_eq_some_iff.1 h).1
  have hx : T[k] = x := (List.getElem?_eq_some_iff.1 h).2
  rw [List.drop_eq_getElem_cons hk, hx]
  rfl
/-- A slice of one term of a row. -/
theorem sub_at {w : World} {B b o c : Nat} {x : Tm} (h : TmC w B b o x) (hB : b < B) : TmAt w B (.slice (some ⟨b, o, none⟩) 1 c) [x] :=
  ⟨_, c, rfl, .inr ⟨b, o, rfl, hB, fun i hi => by obtain rfl : i = 0 := (by simpa using hi); simpa using h⟩⟩
def OfPost (o : Option Tm) (w : World) (e : Ending) (w' : World) : Prop := ∃ a c, e = .returned (.slice a o.toList.length c) ∧ TmAt w' w'.heap.size (.slice a o.toList.length c) o.toList ∧ Below w.heap.size w w'
set_option maxRecDepth 100000 in
set_option maxHeartbeats 2000000 in
theorem termsOf_any (na : Option Addr) (cap : Nat) (T : List Tm) (n : Int) (w : World) (hT : T.length ≤ 1048576) (hc : T.length ≤ cap) (h : TmAt w w.heap.size (.slice na T.length cap) T) :
    Calls Try.prog 95 #[.slice na T.length cap, .int .i64 n] w (OfPost (tFirst n T) w) := by
  obtain ⟨na', ncap', hv, h0⟩ := id h
  injection hv with hv _ hv2
  subst hv
  subst hv2
  clear h
  go_enter Try.func95, Try.ntmps95
  go_wp2_with fail
  go_loopw [9] (fun i wr => ∃ k : Nat, k ≤ T.length ∧ i = .int .i64 (k : Int) ∧ tFirst n T = tFirst n (T.drop k) ∧ Below w.heap.size w wr) (fun i _ => T.length - (intOf i).toNat)
  case atStart => exact ⟨0, Nat.zero_le _, rfl, rfl, Below.refl _ _⟩
  case round =>
    obtain ⟨k, hk, rfl, he, hb⟩ := hrel
    have HE := Lib.hid he
    clear he
    by_cases hlt : k < T.length
    · rcases h0 with h0 | ⟨b, o, rfl, hB, hc⟩
      · subst h0
        exact absurd hlt (by simp)
      obtain ⟨nm, L, f, hxy⟩ : ∃ nm L f, T[k] = (nm, L, f) := ⟨_, _, _, rfl⟩
      have hcell := (hc k hlt).below hb hB
      rw [hxy] at hcell
      have HC := Lib.hid hcell
      obtain ⟨r0, la, lc, r1, hs, r2⟩ := hcell
      simp only at r0 r1 hs r2
      have HXY := Lib.hid (show T[k]? = some (nm, L, f) by rw [List.getElem?_eq_getElem hlt, hxy])
      have HST := Lib.hid (first_step (n := n) HXY.out)
      have bB : b < wr.heap.size := Nat.lt_of_lt_of_le hB hb.size
      have i0 : (0 : Int) ≤ (k : Int) := by omega
      have i1 : (k : Int) < (T.length : Int) := by omega
      have bb := hb.alloc hb.size (.cells #[.int .i64 nm, .slice la L.length lc, .bool f] 83)
      clear hxy hs
      by_cases hn : nm = n
      · have HZ := Lib.hid (show tFirst n T = some (nm, L, f) by rw [HE.out, HST.out, if_pos hn])
        subst hn
        go_wp2_with fail
        go_ret
        rw [HZ.out]
        exact ⟨_, _, rfl, sub_at ((HC.out.mono hb.size).below ((Below.refl _ _).alloc (Nat.le_refl _) _) bB |>.mono (by simp)) (by simp; omega), bb⟩
      · have HZ := Lib.hid (show tFirst n T = tFirst n (T.drop (k + 1)) by rw [HE.out, HST.out, if_neg hn])
        have hne : decide (nm = n) = false := decide_eq_false hn
        go_wp2_with fail
        go_roundw
        case rel => exact ⟨k + 1, by omega, by go_num, HZ.out, bb⟩
        case measure => simp [intOf]; omega
    · obtain rfl : k = T.length := by omega
      have HQ := Lib.hid (show tFirst n T = none by rw [HE.out, List.drop_length]; rfl)
      go_wp2_with fail
      go_ret
      rw [HQ.out]
      exact ⟨none, 0, rfl, ⟨none, 0, rfl, .inl rfl⟩, hb⟩
set_option maxRecDepth 100000 in
theorem hasTerm_any (na : Option Addr) (cap : Nat) (T : List Tm) (n : Int) (w : World) (hT : T.length ≤ 1048576) (hc : T.length ≤ cap) (h : TmAt w w.heap.size (.slice na T.length cap) T) :
    Calls Try.prog 52 #[.slice na T.length cap, .int .i64 n] w fun e w' => e = .returned (.bool (tFirst n T).isSome) ∧ Below w.heap.size w w' := by
  have K := Lib.hid (termsOf_any na cap T n w hT hc h)
  clear h
  rcases hf : tFirst n T with _ | x
  · rw [hf] at K
    clear hf
    go_enter Try.func52, Try.ntmps52
    go_wp2_with fail
    refine K.out.mono ?_
    rintro e w1 ⟨a, c, rfl, _, hb⟩
    simp only [Option.toList, List.length_nil]
    go_wp2_with fail
    go_ret
    exact ⟨rfl, hb⟩
  · rw [hf] at K
    clear hf
    go_enter Try.func52, Try.ntmps52
    go_wp2_with fail
    refine K.out.mono ?_
    rintro e w1 ⟨a, c, rfl, _, hb⟩
    simp only [Option.toList, List.length_cons, List.length_nil]
    go_wp2_with fail
    go_ret
    exact ⟨rfl, hb⟩
theorem isAll_one (x y : Int) : isAllL [(x, y)] = (decide (x = 0) && decide (y = 9999999)) := by
  unfold isAllL
  by_cases h1 : x = 0 <;> by_cases h2 : y = 9999999 <;> simp [h1, h2]
theorem isAll_len {L : Sps} (h : L.length ≠ 1) : isAllL L = false := by
  unfold isAllL
  refine decide_eq_false fun k => h ?_
  rw [k]
  rfl
set_option maxRecDepth 100000 in
theorem rangeIsAll_any (v : Value) (L : Sps) (w : World) (hl : L.length ≤ 1048576) (h : SpAt w w.heap.size v L) :
    Calls Try.prog 128 #[.agg #[v]] w fun e w' => e = .returned (.bool (isAllL L)) ∧ Below w.heap.size w w' := by
  obtain ⟨a, cap, rfl, h⟩ := h
  by_cases h1 : L.length = 1
  · obtain ⟨p, rfl⟩ := List.length_eq_one_iff.1 h1
    obtain ⟨x, y⟩ := p
    rcases h with h | ⟨b, o, rfl, hB, hc⟩
    · cases h
    have c0 := hc 0 (by simp)
    simp only [List.getElem_cons_zero, Nat.zero_mul, Nat.add_zero] at c0
    obtain ⟨c0, c1⟩ := c0
    have HI := Lib.hid (isAll_one x y)
    have hb : Below w.heap.size w (w.alloc (.cells #[.slice (some ⟨b, o, none⟩) 1 cap] 81)) := (Below.refl _ _).alloc (Nat.le_refl _) _
    have bB : b < w.heap.size := hB
    clear hc h1 hl
    by_cases hx : x = 0
    · subst hx
      by_cases hy : y = 9999999
      · subst hy
        go_enter Try.func128, Try.ntmps128
        go_wp2_with fail
        go_ret
        exact ⟨by rw [HI.out]; rfl, hb⟩
      · have hy1 : (y == 9999999) = false := by simp [hy]
        have hy2 : decide (y = 9999999) = false := decide_eq_false hy
        rw [hy2] at HI
        go_enter Try.func128, Try.ntmps128
        go_wp2_with fail
        go_ret
        exact ⟨by rw [HI.out]; first | rfl | (simp [hy1]; done), hb⟩
    · have hx1 : (x == 0) = false := by simp [hx]
      have hx2 : decide (x = 0) = false := decide_eq_false hx
      rw [hx2, Bool.false_and] at HI
      go_enter Try.func128, Try.ntmps128
      go_wp2_with fail
      go_ret
      exact ⟨by rw [HI.out]; first | rfl | (simp [hx1]; done), hb⟩
  · have HI := Lib.hid (isAll_len h1)
    have hne : decide ((L.length : Int) = 1) = false := decide_eq_false (by omega)
    have hne2 : ((L.length : Int) == 1) = false := by simp; omega
    have hne3 : (L.length == 1) = false := by simp; omega
    have hne4 : decide (L.length = 1) = false := decide_eq_false h1
    have hb : Below w.heap.size w (w.alloc (.cells #[.slice a L.length cap] 81)) := (Below.refl _ _).alloc (Nat.le_refl _) _
    clear h
    go_enter Try.func128, Try.ntmps128
    go_wp2_with fail
    go_ret
    exact ⟨by rw [HI.out]; first | rfl | (simp [hne2]; done), hb⟩
end Tmj
end Go.Proofs.Ytdhbjjolgmodjaa

/- Rows of terms that a call grows, all that they stand on their own, and the contract of the program's termsCopy, over this seat's translation: a new row with the same terms; nothing that was there before the call has changed. Condition: at most 1048576 terms, and spans of each. -/
namespace Go.Proofs.Ytdhbjjolgmodjaa
open Go.RowKit Go.Sort

namespace Foot
/-- A row of terms that a call grows; all that it stands on is its own. -/
def TGrow (w : World) (B : Nat) (v : Value) (M : List Tm) (fs : List (List Nat)) : Prop :=
  ∃ cs : List Value, w.ownsRow B 83 3 v M.length cs ∧ TEl w cs M fs ∧ fs.flatten.Nodup ∧ ∀ b ∈ fs.flatten, B ≤ b ∧ b < w.heap.size ∧ v.ownBlock ≠ some b
theorem TGrow.own {w : World} {B : Nat} {v : Value} {M : List Tm} {fs : List (List Nat)} (h : TGrow w B v M fs) : Tmo.TOwn w B B v M := by
  obtain ⟨cs, ho, he, _, hb⟩ := h
  refine ⟨cs, ho, fun i hi => ?_⟩
  obtain ⟨h1, h4, a, cap, h2, h3⟩ := he.2 i hi
  exact ⟨h1, h4, a, cap, h2, h3.x fun b k => by obtain ⟨k1, _, k2⟩ := hb b (mem_flat k); exact ⟨k1, k2⟩⟩
theorem TGrow.below {w w' : World} {B : Nat} {v : Value} {M : List Tm} {fs : List (List Nat)} (h : TGrow w B v M fs) (hb : Below w.heap.size w w') : TGrow w' B v M fs := by
  obtain ⟨cs, ⟨hl, ho⟩, he, hn, hi⟩ := h
  refine ⟨cs, ⟨hl, ?_⟩, he.kept fun b k => hb.block b (hi b k).2.1, hn, fun b k => ⟨(hi b k).1, Nat.lt_of_lt_of_le (hi b k).2.1 hb.size, (hi b k).2.2⟩⟩
  rcases ho with hn | ⟨g, cap, cur, hv, hb', hg, rest⟩
  · exact .inl hn
  · exact .inr ⟨g, cap, cur, hv, hb', (hb.block g (Array.getElem?_eq_some_iff.1 hg).1).trans hg, rest⟩
theorem TGrow.nil (w : World) (B : Nat) : TGrow w B (.slice none 0 0) [] [] := ⟨[], World.ownsRow_nil _ _ _ _, ⟨rfl, fun i hi => absurd hi (by simp)⟩, by simp, by simp⟩
theorem TGrow.made {w V : World} {B : Nat} (hV : V.heap = (w.alloc (.cells #[] 83)).heap) (hB : B ≤ w.heap.size) : TGrow V B (.slice (some ⟨w.heap.size, 0, none⟩) 0 0) [] [] :=
  ⟨[], ⟨rfl, .inr ⟨w.heap.size, 0, #[], rfl, hB, by rw [hV]; exact heap_alloc_new w _, Nat.le_refl _, by unfold maxLen; omega, rfl, rfl⟩⟩, ⟨rfl, fun i hi => absurd hi (by simp)⟩, by simp, by simp⟩

/-- One term more: its spans are newer than Z, all else is elder. -/
theorem TGrow.push {w2 W w3 : World} {B Z g cap ncap : Nat} {x : Int} {f : Bool} {L : Sps} {F : List Nat} {na : Option Addr} {v : Value} {M : List Tm} {cs : List Value} {fs : List (List Nat)} (hb : Below w2.heap.size w2 W)
    (he : TEl w2 cs M fs) (hcl : cs.length = M.length * 3) (hnd : fs.flatten.Nodup) (hin : ∀ b ∈ fs.flatten, B ≤ b ∧ b < Z ∧ v.ownBlock ≠ some b) (hv : ∀ k, v.ownBlock = some k → k < Z)
    (hs : SpF w2 (.slice na L.length ncap) L F) (hF : ∀ b ∈ F, Z ≤ b) (hZ : Z ≤ w2.heap.size) (hB : B ≤ Z)
    (hown : w3.ownsRow B 83 3 (.slice (some ⟨g, 0, none⟩) (M.length + 1) cap) (M.length + 1) (cs ++ [.int .i64 x, .slice na L.length ncap, .bool f])) (hgrow : W.grownBy w3 v.ownBlock) (hat : v.ownBlock = some g ∨ g = W.heap.size) :
    TGrow w3 B (.slice (some ⟨g, 0, none⟩) (M.length + 1) cap) (M ++ [(x, L, f)]) (fs ++ [F]) := by
  have hall : ∀ b ∈ (fs ++ [F]).flatten, (b ∈ fs.flatten ∨ b ∈ F) := fun b h => by
    rw [List.flatten_append, List.mem_append] at h
    simpa using h
  have h2 : ∀ b ∈ (fs ++ [F]).flatten, B ≤ b ∧ b < w2.heap.size ∧ v.ownBlock ≠ some b := fun b h => by
    rcases hall b h with h | h
    · have := hin b h
      exact ⟨this.1, by omega, this.2.2⟩
    · have h3 := hF b h
      exact ⟨by omega, hs.lt b h, fun e => by have := hv b e; omega⟩
  refine ⟨cs ++ [.int .i64 x, .slice na L.length ncap, .bool f], by rw [List.length_append]; exact hown, (he.push hcl hs).kept fun b h => ?_, ?_, fun b h => ?_⟩
  · obtain ⟨_, k2, k3⟩ := h2 b h
    exact (hgrow.block b (Nat.lt_of_lt_of_le k2 hb.size) (fun e => k3 e.symm)).trans (hb.block b k2)
  · rw [List.flatten_append, List.nodup_append]
    refine ⟨hnd, by simpa using hs.nodup, fun b h1 c h2 => ?_⟩
    have := (hin b h1).2.1
    have := hF c (by simpa using h2)
    omega
  · obtain ⟨k1, k2, k3⟩ := h2 b h
    refine ⟨k1, Nat.lt_of_lt_of_le k2 (Nat.le_trans hb.size hgrow.size), fun e => ?_⟩
    have e' : some g = some b := e
    injection e' with e'
    rcases hat with h | h
    · exact k3 (h.trans (by rw [e']))
    · have := hb.size
      omega
/-- A row that was grown stands on blocks that are all different. -/
theorem TGrow.foot {w : World} {B : Nat} {v : Value} {M : List Tm} {fs : List (List Nat)} (h : TGrow w B v M fs) : ∃ F, TmF w v M F ∧ F.Nodup ∧ ∀ b ∈ F, B ≤ b := by
  obtain ⟨cs, ⟨hl, ho⟩, he, hn, hi⟩ := h
  rcases ho with ⟨rfl, h0⟩ | ⟨g, cap, cur, rfl, hb, hg, hnc, hcm, hcs, htk⟩
  · obtain rfl : M = [] := List.eq_nil_of_length_eq_zero h0
    exact ⟨[], ⟨none, 0, rfl, .inl ⟨rfl, rfl⟩⟩, by simp, by simp⟩
  · refine ⟨g :: fs.flatten, ⟨_, cap, rfl, .inr ⟨g, cap, fs, rfl, ⟨cur, hg, hcs, hnc, ⟨he.1, fun i hk => ?_⟩⟩, rfl⟩⟩, List.nodup_cons.2 ⟨fun k => (hi g k).2.2 rfl, hn⟩, fun b k => ?_⟩
    · obtain ⟨h1, h4, a, c, h2, h3⟩ := he.2 i hk
      rw [← htk, List.getElem?_take, if_pos (by omega)] at h1 h2 h4
      exact ⟨h1, h4, a, c, h2, h3⟩
    · rcases List.mem_cons.1 k with rfl | k
      · exact hb
      · exact (hi b k).1

theorem TGrow.tb {w : World} {B hi : Nat} {v : Value} {M : List Tm} {fs : List (List Nat)} (h : TGrow w B v M fs) (hh : w.heap.size ≤ hi) : TmB M B hi v w := by
  obtain ⟨F, hF, hn, hb⟩ := h.foot
  exact ⟨F, hF, hn, fun b k => ⟨hb b k, Nat.lt_of_lt_of_le (hF.lt b k) hh⟩⟩
theorem TGrow.form {w : World} {B : Nat} {v : Value} {M : List Tm} {fs : List (List Nat)} (h : TGrow w B v M fs) : ∃ a c, v = .slice a M.length c ∧ (a = none → c = 0) := by
  obtain ⟨cs, ⟨hl, ho⟩, _⟩ := h
  rcases ho with ⟨rfl, h0⟩ | ⟨g, cap, cur, rfl, _⟩
  · exact ⟨none, 0, by rw [h0], fun _ => rfl⟩
  · exact ⟨_, cap, rfl, fun k => by cases k⟩
/-- A call that answers with terms of its own, and whether there are any; a slice without a block has no room. -/
def TjPost (o : Option (List Tm)) (w : World) (e : Ending) (w' : World) : Prop :=
  ∃ a c, e = .returned (.tuple #[.slice a (o.getD []).length c, .bool o.isSome]) ∧ (a = none → c = 0) ∧ TmB (o.getD []) w.heap.size w'.heap.size (.slice a (o.getD []).length c) w' ∧ Below w.heap.size w w'
end Foot

namespace Tmj
open Foot Copy
/-- What the loops that copy terms keep. -/
def TcRel (M : List Tm) (w : World) (v i : Value) (wr : World) : Prop :=
  ∃ (k : Nat) (fs : List (List Nat)), k ≤ M.length ∧ i = .int .i64 (k : Int) ∧ TGrow wr w.heap.size v (M.take k) fs ∧ Below w.heap.size w wr
def TcPost (M : List Tm) (w : World) (e : Ending) (w' : World) : Prop := ∃ v fs, e = .returned v ∧ TGrow w' w.heap.size v M fs ∧ Below w.heap.size w w'

theorem tc_next {M T : List Tm} {w w3 : World} {k : Nat} {x : Int} {f : Bool} {L : Sps} {v : Value} {fs : List (List Nat)} (hT : M.take k = T) (hxy : M[k]? = some (x, L, f)) (h : TGrow w3 w.heap.size v (T ++ [(x, L, f)]) fs) (hb : Below w.heap.size w w3) :
    TcRel M w v (.int .i64 ((k : Int) + 1)) w3 := by
  have hk : k < M.length := (List.getElem?_eq_some_iff.1 hxy).1
  refine ⟨k + 1, fs, by omega, by go_num, ?_, hb⟩
  rw [List.take_add_one, hxy, hT]
  exact h

set_option maxRecDepth 100000 in
set_option maxHeartbeats 4000000 in
theorem termsCopy_any (v : Value) (M : List Tm) (w : World) (h : TmAt w w.heap.size v M) (hl : M.length ≤ 1048576) (hq : ∀ q ∈ M, q.2.1.length ≤ 1048576) : Calls Try.prog 96 #[v] w (TcPost M w) := by
  obtain ⟨a, cap, rfl, h⟩ := h
  obtain ⟨i0, hi, hz0, hz1, hz2⟩ := info_parts Tmo.infoTerm
  have h0 := h
  clear h
  go_enter Try.func96, Try.ntmps96
  go_wp2_with fail
  go_loopw [3, 8] (fun v i wr => TcRel M w v i wr) (fun _ i _ => M.length - (intOf i).toNat)
  case atStart => exact ⟨0, [], Nat.zero_le _, rfl, by rw [List.take_zero]; exact TGrow.nil _ _, Below.refl _ _⟩
  case round =>
    obtain ⟨k, fs, hk, rfl, hown, hb⟩ := hrel
    obtain ⟨T, hT⟩ : ∃ T, M.take k = T := ⟨_, rfl⟩
    have hTl := Lib.hid (show T.length = k by rw [← hT]; simp; omega)
    have hTm : T.length ≤ M.length := by rw [hTl.out]; exact hk
    rw [hT] at hown
    obtain ⟨va, vc, hv, hx⟩ := id hown.own.at
    subst hv
    clear hx
    have S1 := Lib.hid hown
    clear hown
    by_cases hlt : k < M.length
    · rcases h0 with h0 | ⟨b, o, rfl, hB, hc⟩
      · subst h0
        exact absurd hlt (by simp)
      obtain ⟨x, L, f, hxy⟩ : ∃ x L f, M[k] = (x, L, f) := ⟨_, _, _, rfl⟩
      have c := (hc k hlt).below hb hB
      rw [hxy] at c
      obtain ⟨e0, a1, cap1, e1, hs, e2⟩ := c
      have hL : L.length ≤ 1048576 := by have := hq _ (List.getElem_mem hlt); rwa [hxy] at this
      simp only at e0 e1 hs e2
      have HXY := Lib.hid (show M[k]? = some (x, L, f) by rw [List.getElem?_eq_getElem hlt, hxy])
      have HT := Lib.hid hT
      have zb := hb.size
      have HS := Lib.hid (hs.mono zb)
      have hB2 : b < wr.heap.size := by omega
      have hbne : b ≠ wr.heap.size := by omega
      clear hxy hc hs hT
      go_wp2_with fail
      go_region_held3 (fun V => V.cell? ⟨wr.heap.size, 0, none⟩ = some (.int .i64 x) ∧ V.cell? ⟨wr.heap.size, 1, none⟩ = some (.slice a1 L.length cap1) ∧ V.cell? ⟨wr.heap.size, 2, none⟩ = some (.bool f)) (go_keep)
        (first
        | (go_at_call 126; refine (rangeCopy_any _ L _ (SpAt.stepTo HS.out (by go_grown)) hL).mono ?_; rintro e w2 ⟨u2, rfl, sr2, hb2⟩; obtain ⟨na, ncap, rfl, _⟩ := id sr2; have n2 : Below wr.heap.size wr w2 := Below.step (by go_grown) hb2; have y0 : w2.cell? ⟨wr.heap.size, 0, none⟩ = some (.int .i64 x) := (hb2.cell (p := ⟨wr.heap.size, 0, none⟩) (by simp)).trans (by go_simp); have y1 : w2.cell? ⟨wr.heap.size, 1, none⟩ = some (.slice a1 L.length cap1) := (hb2.cell (p := ⟨wr.heap.size, 1, none⟩) (by simp)).trans (by go_simp); have y2 : w2.cell? ⟨wr.heap.size, 2, none⟩ = some (.bool f) := (hb2.cell (p := ⟨wr.heap.size, 2, none⟩) (by simp)).trans (by go_simp); have z2 := n2.size; have z3 := hb2.size; (try simp at z3); have nw2 : Below w.heap.size w w2 := hb.trans (n2.mono hb.size); obtain ⟨cs, hown2, he2, hnd2, _⟩ := S1.out.below n2; obtain ⟨_, _, _, _, hin1⟩ := id S1.out; have hlt2 := World.ownsRow.lt hown2; have hlt1 := S1.out.own.lt; obtain ⟨F, hsF, hF0⟩ := SpF.of sr2; have hF := Lib.hid (show ∀ b ∈ F, wr.heap.size ≤ b from fun b k => by have := hF0 b k; first | (simp at this; omega) | omega); have HE := Lib.hid he2; have HD := Lib.hid hnd2; have HI := Lib.hid hin1; have HX := Lib.hid hsF; clear he2 hnd2 hin1 hsF hF0 sr2 hb2)
        | ((try rw [if_pos (by first | rfl | kernel_rfl | simp [Region.wanted])]); refine wp_append_lies _ _ _ 24 (by rfl) w.heap.size 83 i0 (.agg #[.int .i64 0, .slice none 0 0, .bool false]) 3 40 Try.underlying24 hi hz0 hz1 hz2 rfl (by decide) _ _ cs (by rfl) (hown2.alloc (.cells #[.int .i64 x, .slice na L.length ncap, .bool f] 83)) ⟨w2.heap.size, 0, none⟩ 1 1 [.int .i64 x, .slice na L.length ncap, .bool f] (by rfl) rfl (Tmo.term_new rfl) Tmo.term_one (by omega) (by unfold maxLen; omega) (by omega) (by first | (simp; done) | (simp; omega)) _ rfl ?_; intro g cap3 w3 hown3 hgrow3 hat3 hlt3; have HP := Lib.hid (TGrow.push (Z := wr.heap.size) (W := w2.alloc (.cells #[.int .i64 x, .slice na L.length ncap, .bool f] 83)) ((Below.refl _ _).alloc (Nat.le_refl _) _) HE.out hown2.1 HD.out HI.out (fun k e => (hlt1 k e).2) HX.out hF.out z2 zb hown3 hgrow3 (by simpa using hat3)); have n3 : Below w.heap.size w w3 := Below.grown (by go_grown) hgrow3 (by first | (simp; done) | (simp; omega)) (fun k e => (hlt2 k e).1); have v0 : w3.cell? ⟨wr.heap.size, 0, none⟩ = some (.int .i64 x) := (World.cell?_of_block (a := ⟨wr.heap.size, 0, none⟩) (hgrow3.block (wr.heap.size) (by first | (simp; omega) | omega) (fun e => by have := hlt1 _ e.symm; omega))).trans (by go_simp); have v1 : w3.cell? ⟨wr.heap.size, 1, none⟩ = some (.slice a1 L.length cap1) := (World.cell?_of_block (a := ⟨wr.heap.size, 1, none⟩) (hgrow3.block (wr.heap.size) (by first | (simp; omega) | omega) (fun e => by have := hlt1 _ e.symm; omega))).trans (by go_simp); have v2 : w3.cell? ⟨wr.heap.size, 2, none⟩ = some (.bool f) := (World.cell?_of_block (a := ⟨wr.heap.size, 2, none⟩) (hgrow3.block (wr.heap.size) (by first | (simp; omega) | omega) (fun e => by have := hlt1 _ e.symm; omega))).trans (by go_simp)))
      all_goals
        go_wp2_with fail
        go_roundw
        case rel => first | exact tc_next HT.out HXY.out HP.out n3 | (rw [hTl.out] at HP; exact tc_next HT.out HXY.out HP.out n3)
        case measure => simp [intOf]; omega
    · obtain rfl : k = M.length := by omega
      have hT' : T = M := by rw [← hT, List.take_length]
      subst hT'
      go_wp2_with fail
      go_ret
      exact ⟨_, _, rfl, S1.out, hb⟩

end Tmj
end Go.Proofs.Ytdhbjjolgmodjaa

/- Contracts of the program's termsAnd and termsOr, over this seat's translation: one term, of own memory, or none, where the range has too many spans. Nothing that was there before a call has changed. Condition: at most 1048576 spans. -/
namespace Go.Proofs.Ytdhbjjolgmodjaa
open Go.RowKit Go.Sort

namespace Tmj
open Foot Tmc
set_option maxRecDepth 100000 in
set_option maxHeartbeats 4000000 in
theorem termsAnd_any (xn yn : Int) (u v : Value) (f g : Bool) (L M : Sps) (w : World) (hl : L.length ≤ 1048576) (hm : M.length ≤ 1048576) (h : SpAt w w.heap.size u L) (h' : SpAt w w.heap.size v M) :
    Calls Try.prog 98 #[term xn u f, term yn v g] w (TjPost (tAnd (xn, L, f) (yn, M, g)) w) := by
  obtain ⟨a, c, rfl, hx⟩ := id h
  obtain ⟨a', c', rfl, hx'⟩ := id h'
  clear hx hx'
  have b0 := ((Below.refl w.heap.size w).alloc (Nat.le_refl _) (.cells #[.int .i64 xn, .slice a L.length c, .bool f] 83)).alloc (by simp) (.cells #[.int .i64 yn, .slice a' M.length c', .bool g] 83)
  have hB : w.heap.size + 2 ≤ ((w.alloc (.cells #[.int .i64 xn, .slice a L.length c, .bool f] 83)).alloc (.cells #[.int .i64 yn, .slice a' M.length c', .bool g] 83)).heap.size := by simp
  have hb := Below.refl (w.heap.size + 2) ((w.alloc (.cells #[.int .i64 xn, .slice a L.length c, .bool f] 83)).alloc (.cells #[.int .i64 yn, .slice a' M.length c', .bool g] 83))
  have hs := (h.below b0).mono b0.size
  have hs' := (h'.below b0).mono b0.size
  clear h h'
  rcases hok : andOk L M
  · have HF := Lib.hid (show tAnd (xn, L, f) (yn, M, g) = none by unfold tAnd; rw [hok]; rfl)
    have K : Hid (∀ V, SpAt V V.heap.size (.slice a L.length c) L → SpAt V V.heap.size (.slice a' M.length c') M → Calls Try.prog 129 #[.agg #[.slice a L.length c], .agg #[.slice a' M.length c']] V (TPost false (andR L M) V)) := Lib.hid fun V k k' => by rw [← hok]; exact implAnd_any _ _ L M V hl hm k k'
    clear hok
    go_enter Try.func98, Try.ntmps98
    go_wp2_with fail
    refine (K.out _ hs hs').mono ?_
    rintro e w2 ⟨v2, rfl, r, hb2⟩
    have b2 := b0.trans (hb2.mono b0.size)
    obtain ⟨a3, cap3, rfl, _⟩ := id r
    have z2 : w.heap.size ≤ w2.heap.size := b2.size
    clear hs hs' hb b0 hb2 r
    go_wp2_with fail
    refine bodyPost_ret (v := .tuple #[.slice none 0 0, .bool false]) (by simp [results, Try.results98, go_sem]) rfl ?_
    rw [HF.out]
    exact ⟨_, _, rfl, (fun _ => rfl), TmB.nil _ _ _ _ _, by go_grown⟩
  · have HF := Lib.hid (show tAnd (xn, L, f) (yn, M, g) = some [(xn, andR L M, f && g)] by unfold tAnd; rw [hok]; rfl)
    have K : Hid (∀ V, SpAt V V.heap.size (.slice a L.length c) L → SpAt V V.heap.size (.slice a' M.length c') M → Calls Try.prog 129 #[.agg #[.slice a L.length c], .agg #[.slice a' M.length c']] V (TPost true (andR L M) V)) := Lib.hid fun V k k' => by rw [← hok]; exact implAnd_any _ _ L M V hl hm k k'
    clear hok
    go_enter Try.func98, Try.ntmps98
    go_wp2_with fail
    refine (K.out _ hs hs').mono ?_
    rintro e w2 ⟨v2, rfl, r, hb2⟩
    have hbb := hb.trans (hb2.mono hB)
    have c0 : w2.cell? ⟨w.heap.size, 0, none⟩ = some (.int .i64 xn) := (hbb.cell (p := ⟨w.heap.size, 0, none⟩) (by show w.heap.size < w.heap.size + 2; omega)).trans (by go_simp)
    have c2 : w2.cell? ⟨w.heap.size, 2, none⟩ = some (.bool f) := (hbb.cell (p := ⟨w.heap.size, 2, none⟩) (by show w.heap.size < w.heap.size + 2; omega)).trans (by go_simp)
    have d2 : w2.cell? ⟨w.heap.size + 1, 2, none⟩ = some (.bool g) := (hbb.cell (p := ⟨w.heap.size + 1, 2, none⟩) (by show w.heap.size + 1 < w.heap.size + 2; omega)).trans (by go_simp)
    have b2 := b0.trans (hb2.mono b0.size)
    obtain ⟨a3, cap3, rfl, _⟩ := id r
    have z2 : w.heap.size < w2.heap.size := by have := hbb.size; omega
    have z3 : w.heap.size + 1 < w2.heap.size := by have := hbb.size; omega
    have HR := Lib.hid ((r.below ((Below.refl _ _).alloc (Nat.le_refl _) (.cells #[.slice a3 (andR L M).length cap3] 81))).mono (base' := w.heap.size) (by omega))
    have hz : (w2.alloc (.cells #[.slice a3 (andR L M).length cap3] 81)).heap.size = w2.heap.size + 1 := by simp
    have HT := Lib.hid (made_one (x := xn) (f := f && g) (cap := 1) HR.out (by rw [hz]; omega))
    rw [hz] at HT
    clear hb hb2 hbb b0 hs hs' r K hz
    rcases f <;> rcases g
    all_goals
      go_wp2_with fail
      refine bodyPost_ret (v := .tuple #[.slice (some ⟨w2.heap.size + 1, 0, none⟩) 1 1, .bool true]) (by simp [results, Try.results98, go_sem]) rfl ?_
      rw [HF.out]
      exact ⟨_, _, rfl, (fun k => by cases k), HT.out.wide (by simp), by go_grown⟩
set_option maxRecDepth 100000 in
set_option maxHeartbeats 4000000 in
theorem termsOr_any (xn yn : Int) (u v : Value) (f g : Bool) (L M : Sps) (w : World) (hl : L.length ≤ 1048576) (hm : M.length ≤ 1048576) (h : SpAt w w.heap.size u L) (h' : SpAt w w.heap.size v M) :
    Calls Try.prog 97 #[term xn u f, term yn v g] w (TjPost (tOr (xn, L, f) (yn, M, g)) w) := by
  obtain ⟨a, c, rfl, hx⟩ := id h
  obtain ⟨a', c', rfl, hx'⟩ := id h'
  clear hx hx'
  have b0 := ((Below.refl w.heap.size w).alloc (Nat.le_refl _) (.cells #[.int .i64 xn, .slice a L.length c, .bool f] 83)).alloc (by simp) (.cells #[.int .i64 yn, .slice a' M.length c', .bool g] 83)
  have hB : w.heap.size + 2 ≤ ((w.alloc (.cells #[.int .i64 xn, .slice a L.length c, .bool f] 83)).alloc (.cells #[.int .i64 yn, .slice a' M.length c', .bool g] 83)).heap.size := by simp
  have hb := Below.refl (w.heap.size + 2) ((w.alloc (.cells #[.int .i64 xn, .slice a L.length c, .bool f] 83)).alloc (.cells #[.int .i64 yn, .slice a' M.length c', .bool g] 83))
  have hs := (h.below b0).mono b0.size
  have hs' := (h'.below b0).mono b0.size
  clear h h'
  rcases hok : orOk L M
  · have HF := Lib.hid (show tOr (xn, L, f) (yn, M, g) = none by unfold tOr; rw [if_neg (by rw [hok]; simp)])
    have K : Hid (∀ V, SpAt V V.heap.size (.slice a L.length c) L → SpAt V V.heap.size (.slice a' M.length c') M → Calls Try.prog 127 #[.agg #[.slice a L.length c], .agg #[.slice a' M.length c']] V (TPost false (orR L M) V)) := Lib.hid fun V k k' => by rw [← hok]; exact implOr_any _ _ L M V hl hm k k'
    clear hok
    go_enter Try.func97, Try.ntmps97
    go_wp2_with fail
    refine (K.out _ hs hs').mono ?_
    rintro e w2 ⟨v2, rfl, r, hb2⟩
    have b2 := b0.trans (hb2.mono b0.size)
    obtain ⟨a3, cap3, rfl, _⟩ := id r
    have z2 : w.heap.size ≤ w2.heap.size := b2.size
    clear hs hs' hb b0 hb2 r
    go_wp2_with fail
    refine bodyPost_ret (v := .tuple #[.slice none 0 0, .bool false]) (by simp [results, Try.results97, go_sem]) rfl ?_
    rw [HF.out]
    exact ⟨_, _, rfl, (fun _ => rfl), TmB.nil _ _ _ _ _, by go_grown⟩
  · have KA : Hid (∀ (V V' : World) (a3 : Option Addr) (cap3 : Nat), SRes (orR L M) V'.heap.size (.slice a3 (orR L M).length cap3) V → Calls Try.prog 128 #[.agg #[.slice a3 (orR L M).length cap3]] (V.alloc (.cells #[.slice a3 (orR L M).length cap3] 81)) fun e w' => e = .returned (.bool (isAllL (orR L M))) ∧ Below (V.alloc (.cells #[.slice a3 (orR L M).length cap3] 81)).heap.size (V.alloc (.cells #[.slice a3 (orR L M).length cap3] 81)) w') := Lib.hid fun V V' a3 cap3 r => rangeIsAll_any _ _ _ (orR_len L M) (r.at.stepAt ((Below.refl _ _).alloc (Nat.le_refl _) _))
    have K : Hid (∀ V, SpAt V V.heap.size (.slice a L.length c) L → SpAt V V.heap.size (.slice a' M.length c') M → Calls Try.prog 127 #[.agg #[.slice a L.length c], .agg #[.slice a' M.length c']] V (TPost true (orR L M) V)) := Lib.hid fun V k k' => by rw [← hok]; exact implOr_any _ _ L M V hl hm k k'
    have HF := Lib.hid (show tOr (xn, L, f) (yn, M, g) = if ((f || g) && isAllL (orR L M)) = true then some [] else some [(xn, orR L M, f || g)] by unfold tOr; rw [if_pos hok])
    obtain ⟨al, hal⟩ : ∃ al, isAllL (orR L M) = al := ⟨_, rfl⟩
    rw [hal] at KA HF
    clear hok hal
    go_enter Try.func97, Try.ntmps97
    go_wp2_with fail
    refine (K.out _ hs hs').mono ?_
    rintro e w2 ⟨v2, rfl, r, hb2⟩
    have hbb := hb.trans (hb2.mono hB)
    have c0 : w2.cell? ⟨w.heap.size, 0, none⟩ = some (.int .i64 xn) := (hbb.cell (p := ⟨w.heap.size, 0, none⟩) (by show w.heap.size < w.heap.size + 2; omega)).trans (by go_simp)
    have c2 : w2.cell? ⟨w.heap.size, 2, none⟩ = some (.bool f) := (hbb.cell (p := ⟨w.heap.size, 2, none⟩) (by show w.heap.size < w.heap.size + 2; omega)).trans (by go_simp)
    have d2 : w2.cell? ⟨w.heap.size + 1, 2, none⟩ = some (.bool g) := (hbb.cell (p := ⟨w.heap.size + 1, 2, none⟩) (by show w.heap.size + 1 < w.heap.size + 2; omega)).trans (by go_simp)
    have b2 := b0.trans (hb2.mono b0.size)
    obtain ⟨a3, cap3, rfl, _⟩ := id r
    have z2 : w.heap.size < w2.heap.size := by have := hbb.size; omega
    have z3 : w.heap.size + 1 < w2.heap.size := by have := hbb.size; omega
    have KB := Lib.hid (KA.out w2 _ a3 cap3 r)
    have r2 := (r.below ((Below.refl _ _).alloc (Nat.le_refl _) (.cells #[.slice a3 (orR L M).length cap3] 81))).mono (base' := w.heap.size) (by omega)
    have HR := Lib.hid r2
    have hz : (w2.alloc (.cells #[.slice a3 (orR L M).length cap3] 81)).heap.size = w2.heap.size + 1 := by simp
    have HT := Lib.hid (made_one (x := xn) (f := f || g) (cap := 1) HR.out (by rw [hz]; omega))
    rw [hz] at HT
    have b3 : Below w.heap.size w (w2.alloc (.cells #[.slice a3 (orR L M).length cap3] 81)) := b2.alloc (by omega) _
    clear hb hb2 hbb b0 hs hs' r r2 K KA hz
    rcases f <;> rcases g
    · go_wp2_with fail
      refine bodyPost_ret (v := .tuple #[.slice (some ⟨w2.heap.size + 1, 0, none⟩) 1 1, .bool true]) (by simp [results, Try.results97, go_sem]) rfl ?_
      rw [HF.out]
      exact ⟨_, _, rfl, (fun k => by cases k), HT.out.wide (by simp), by go_grown⟩
    all_goals
      rcases al
      · go_wp2_with fail
        refine KB.out.mono ?_
        rintro e w4 ⟨rfl, hb4⟩
        have hz : (w2.alloc (.cells #[.slice a3 (orR L M).length cap3] 81)).heap.size = w2.heap.size + 1 := by simp
        have hz4 := hb4.size
        rw [hz] at hb4 hz4
        have c4 : w4.cell? ⟨w.heap.size, 0, none⟩ = some (.int .i64 xn) := (hb4.cell (p := ⟨w.heap.size, 0, none⟩) (by show w.heap.size < w2.heap.size + 1; omega)).trans (by go_simp)
        have e4 : w4.cell? ⟨w2.heap.size, 0, none⟩ = some (.slice a3 (orR L M).length cap3) := (hb4.cell (p := ⟨w2.heap.size, 0, none⟩) (by show w2.heap.size < w2.heap.size + 1; omega)).trans (by go_simp)
        have b4 : Below w.heap.size w w4 := b3.trans (hb4.mono (by omega))
        have HR4 := Lib.hid (HR.out.below (by rw [hz]; exact hb4))
        have HT4 := Lib.hid (made_one (x := xn) (f := true) (cap := 1) HR4.out (by omega))
        clear hb4 hz
        go_wp2_with fail
        refine bodyPost_ret (v := .tuple #[.slice (some ⟨w4.heap.size, 0, none⟩) 1 1, .bool true]) (by simp [results, Try.results97, go_sem]) rfl ?_
        rw [HF.out]
        exact ⟨_, _, rfl, (fun k => by cases k), HT4.out.wide (by simp), by go_grown⟩
      · go_wp2_with fail
        refine KB.out.mono ?_
        rintro e w4 ⟨rfl, hb4⟩
        have hz4 := hb4.size
        have b4 : Below w.heap.size w w4 := b3.trans (hb4.mono b3.size)
        clear hb4
        go_wp2_with fail
        refine bodyPost_ret (v := .tuple #[.slice none 0 0, .bool true]) (by simp [results, Try.results97, go_sem]) rfl ?_
        rw [HF.out]
        exact ⟨_, _, rfl, (fun _ => rfl), TmB.nil _ _ _ _ _, b4⟩
end Tmj
end Go.Proofs.Ytdhbjjolgmodjaa

/- The contract of the program's termsJoin, over this seat's translation: what two clashes come to at one name, of own memory. Nothing that was there before a call has changed. Condition: at most 1048576 terms, not more than the slices have room for, and spans of each. -/
namespace Go.Proofs.Ytdhbjjolgmodjaa
open Go.RowKit Go.Sort

namespace Tmj
open Foot Copy Tmc
set_option maxRecDepth 100000 in
set_option maxHeartbeats 4000000 in
theorem termsJoin_any (na nb : Option Addr) (ca cb : Nat) (A B : List Tm) (n : Int) (at' : Bool) (w : World) (hA : A.length ≤ 1048576) (hqA : ∀ q ∈ A, q.2.1.length ≤ 1048576) (hcA : A.length ≤ ca) (hB : B.length ≤ 1048576) (hqB : ∀ q ∈ B, q.2.1.length ≤ 1048576) (hcB : B.length ≤ cb)
    (h : TmAt w w.heap.size (.slice na A.length ca) A) (h' : TmAt w w.heap.size (.slice nb B.length cb) B) :
    Calls Try.prog 53 #[.slice na A.length ca, .slice nb B.length cb, .int .i64 n, .bool at'] w (TjPost (tJoin A B n at') w) := by
  have K1 := Lib.hid (termsOf_any na ca A n w hA hcA h)
  have K2 : Hid (∀ V, Below w.heap.size w V → Calls Try.prog 95 #[.slice nb B.length cb, .int .i64 n] V (OfPost (tFirst n B) V)) := Lib.hid fun V g => termsOf_any nb cb B n V hB hcB (h'.stepAt g)
  have KC : Hid (∀ (V : World) (v : Value) (o : Option Tm), (∀ x, o = some x → x.2.1.length ≤ 1048576) → TmAt V V.heap.size v o.toList → Calls Try.prog 96 #[v] V (TcPost o.toList V)) := Lib.hid fun V v o g k => termsCopy_any v o.toList V k (by cases o <;> simp) (by cases o with | none => simp | some x => simpa using g x rfl)
  have hmA : ∀ x, tFirst n A = some x → x.2.1.length ≤ 1048576 := fun x k => hqA x (first_mem k).1
  have hmB : ∀ x, tFirst n B = some x → x.2.1.length ≤ 1048576 := fun x k => hqB x (first_mem k).1
  clear h h' hqA hqB
  rcases hx : tFirst n A with _ | x
  · obtain ⟨o2, hy⟩ : ∃ o2, tFirst n B = o2 := ⟨_, rfl⟩
    have HF := Lib.hid (show tJoin A B n at' = some o2.toList by unfold tJoin; rw [hx, hy]; cases o2 <;> rfl)
    rw [hx] at K1
    rw [hy] at K2 hmB
    have KD : Hid (∀ (V : World) (v : Value), TmAt V V.heap.size v o2.toList → Calls Try.prog 96 #[v] V (TcPost o2.toList V)) := Lib.hid fun V v k => KC.out V v o2 hmB k
    obtain ⟨M2, hM2⟩ : ∃ M2, o2.toList = M2 := ⟨_, rfl⟩
    have K3 : Hid (∀ V, Below w.heap.size w V → Calls Try.prog 95 #[.slice nb B.length cb, .int .i64 n] V fun e w' => ∃ a c, e = .returned (.slice a M2.length c) ∧ TmAt w' w'.heap.size (.slice a M2.length c) M2 ∧ Below V.heap.size V w') := Lib.hid fun V g => by
      have := K2.out V g
      unfold OfPost at this
      rwa [hM2] at this
    rw [hM2] at KD HF
    clear hx hy hM2 KC K2 hmA hmB
    go_enter Try.func53, Try.ntmps53
    go_wp2_with fail
    refine K1.out.mono ?_
    rintro e w2 ⟨a2, c2, rfl, _, b2⟩
    simp only [Option.toList, List.length_nil]
    go_wp2_with fail
    refine (K3.out _ b2).mono ?_
    rintro e w3 ⟨a3, c3, rfl, t3, hb⟩
    have b3 := b2.trans (hb.mono b2.size)
    clear hb
    go_wp2_with fail
    refine (KD.out _ _ t3).mono ?_
    rintro e w4 ⟨v4, fs, rfl, hg, hb⟩
    have b4 := b3.trans (hb.mono b3.size)
    have T4 := Lib.hid ((hg.tb (Nat.le_refl _)).mono b3.size)
    obtain ⟨a4, c4, rfl, z4⟩ := hg.form
    clear hg hb
    go_wp2_with fail
    refine bodyPost_ret (v := .tuple #[.slice a4 M2.length c4, .bool true]) (by simp [results, Try.results53, go_sem]) rfl ?_
    rw [HF.out]
    exact ⟨_, _, rfl, z4, T4.out, b4⟩
  rcases hy : tFirst n B with _ | y
  · have HF := Lib.hid (show tJoin A B n at' = some (some x).toList by unfold tJoin; rw [hx, hy]; rfl)
    rw [hx] at K1 hmA
    rw [hy] at K2
    have KD : Hid (∀ (V : World) (v : Value), TmAt V V.heap.size v (some x).toList → Calls Try.prog 96 #[v] V (TcPost (some x).toList V)) := Lib.hid fun V v k => KC.out V v (some x) hmA k
    clear hx hy KC hmA hmB
    go_enter Try.func53, Try.ntmps53
    go_wp2_with fail
    refine K1.out.mono ?_
    rintro e w2 ⟨a2, c2, rfl, t2, b2⟩
    have H2 := Lib.hid t2
    simp only [Option.toList, List.length_cons, List.length_nil] at H2 ⊢
    clear t2
    go_wp2_with fail
    refine (K2.out _ b2).mono ?_
    rintro e w3 ⟨a3, c3, rfl, _, hb⟩
    have b3 := b2.trans (hb.mono b2.size)
    have H3 := Lib.hid (H2.out.stepAt hb)
    clear hb H2
    simp only [Option.toList, List.length_nil]
    go_wp2_with fail
    refine (KD.out _ _ H3.out).mono ?_
    rintro e w4 ⟨v4, fs, rfl, hg, hb⟩
    have b4 := b3.trans (hb.mono b3.size)
    have T4 := Lib.hid ((hg.tb (Nat.le_refl _)).mono b3.size)
    obtain ⟨a4, c4, rfl, z4⟩ := hg.form
    clear hg hb
    go_wp2_with fail
    refine bodyPost_ret (v := .tuple #[.slice a4 (some x).toList.length c4, .bool true]) (by simp [results, Try.results53, go_sem]) rfl ?_
    rw [HF.out]
    exact ⟨_, _, rfl, z4, T4.out, b4⟩
  · have hL := hmA x hx
    have hM := hmB y hy
    obtain ⟨xn, L, xf⟩ := x
    obtain ⟨yn, M, yf⟩ := y
    simp only at hL hM
    have HF := Lib.hid (show tJoin A B n at' = if at' = true then tOr (xn, L, xf) (yn, M, yf) else tAnd (xn, L, xf) (yn, M, yf) by unfold tJoin; rw [hx, hy])
    rw [hx] at K1
    rw [hy] at K2
    clear hx hy KC hmA hmB
    go_enter Try.func53, Try.ntmps53
    go_wp2_with fail
    refine K1.out.mono ?_
    rintro e w2 ⟨a2, c2, rfl, t2, b2⟩
    rw [show ((some ((xn, L, xf) : Tm)).toList.length) = 1 from rfl] at t2 ⊢
    change TmAt w2 w2.heap.size (.slice a2 1 c2) [(xn, L, xf)] at t2
    obtain ⟨a9, c9, hv, t2⟩ := t2
    injection hv with hv hv3 hv2; clear hv3
    subst hv
    subst hv2
    rcases t2 with t2 | ⟨b, o, rfl, hB2, t2⟩
    · cases t2
    have tc := t2 0 (by simp)
    simp only [List.getElem_cons_zero, Nat.zero_mul, Nat.add_zero] at tc
    clear t2
    go_wp2_with fail
    refine (K2.out _ b2).mono ?_
    rintro e w3 ⟨a3, c3, rfl, t3, hb⟩
    rw [show ((some ((yn, M, yf) : Tm)).toList.length) = 1 from rfl] at t3 ⊢
    change TmAt w3 w3.heap.size (.slice a3 1 c3) [(yn, M, yf)] at t3
    have b3 := b2.trans (hb.mono b2.size)
    have tc := (tc.below hb hB2).mono hb.size
    have hB2 : b < w3.heap.size := Nat.lt_of_lt_of_le hB2 hb.size
    clear hb
    obtain ⟨a9, c9, hv, t3⟩ := t3
    injection hv with hv hv3 hv2; clear hv3
    subst hv
    subst hv2
    rcases t3 with t3 | ⟨b', o', rfl, hB3, t3⟩
    · cases t3
    have td := t3 0 (by simp)
    simp only [List.getElem_cons_zero, Nat.zero_mul, Nat.add_zero] at td
    clear t3
    obtain ⟨p0, la, lc, p1, hs, p2⟩ := tc
    obtain ⟨q0, la', lc', q1, hs2, q2⟩ := td
    simp only at p0 p1 hs p2 q0 q1 hs2 q2
    have HS := Lib.hid hs
    have HS2 := Lib.hid hs2
    clear hs hs2 K1 K2
    rcases at'
    · have HF := Lib.hid (HF.out.trans (if_neg (by simp)))
      go_wp2_with fail
      go_region_held3 (fun V => V.cell? ⟨b, o, none⟩ = some (.int .i64 xn) ∧ V.cell? ⟨b, o + 1, none⟩ = some (.slice la L.length lc) ∧ V.cell? ⟨b, o + 2, none⟩ = some (.bool xf) ∧ V.cell? ⟨b', o', none⟩ = some (.int .i64 yn) ∧ V.cell? ⟨b', o' + 1, none⟩ = some (.slice la' M.length lc') ∧ V.cell? ⟨b', o' + 2, none⟩ = some (.bool yf)) (go_keep)
        ((go_at_call 98; refine (termsAnd_any xn yn _ _ xf yf L M _ hL hM (SpAt.stepTo HS.out (by go_grown)) (SpAt.stepTo HS2.out (by go_grown))).mono ?_; rintro e w4 ⟨a4, c4, rfl, z4, t4, hb4⟩; have n4 : Below w3.heap.size w3 w4 := Below.step (by go_grown) hb4; have T4 := Lib.hid (t4.mono (lo' := w.heap.size) (by first | exact b3.size | (simp; exact b3.size) | (simp; omega) | omega)); clear t4 hb4; have y0 : w4.cell? ⟨b, o, none⟩ = some (.int .i64 xn) := (n4.cell (p := ⟨b, o, none⟩) hB2).trans p0; have y1 : w4.cell? ⟨b, o + 1, none⟩ = some (.slice la L.length lc) := (n4.cell (p := ⟨b, o + 1, none⟩) hB2).trans p1; have y2 : w4.cell? ⟨b, o + 2, none⟩ = some (.bool xf) := (n4.cell (p := ⟨b, o + 2, none⟩) hB2).trans p2; have y3 : w4.cell? ⟨b', o', none⟩ = some (.int .i64 yn) := (n4.cell (p := ⟨b', o', none⟩) hB3).trans q0; have y4 : w4.cell? ⟨b', o' + 1, none⟩ = some (.slice la' M.length lc') := (n4.cell (p := ⟨b', o' + 1, none⟩) hB3).trans q1; have y5 : w4.cell? ⟨b', o' + 2, none⟩ = some (.bool yf) := (n4.cell (p := ⟨b', o' + 2, none⟩) hB3).trans q2))
      all_goals
        go_wp2_with fail
        refine bodyPost_ret (v := .tuple #[.slice a4 ((tAnd (xn, L, xf) (yn, M, yf)).getD []).length c4, .bool (tAnd (xn, L, xf) (yn, M, yf)).isSome]) (by simp [results, Try.results53, go_sem]) rfl ?_
        rw [HF.out]
        exact ⟨_, _, rfl, z4, T4.out, b3.trans (n4.mono b3.size)⟩
    · have HF := Lib.hid (HF.out.trans (if_pos rfl))
      go_wp2_with fail
      go_region_held3 (fun V => V.cell? ⟨b, o, none⟩ = some (.int .i64 xn) ∧ V.cell? ⟨b, o + 1, none⟩ = some (.slice la L.length lc) ∧ V.cell? ⟨b, o + 2, none⟩ = some (.bool xf) ∧ V.cell? ⟨b', o', none⟩ = some (.int .i64 yn) ∧ V.cell? ⟨b', o' + 1, none⟩ = some (.slice la' M.length lc') ∧ V.cell? ⟨b', o' + 2, none⟩ = some (.bool yf)) (go_keep)
        ((go_at_call 97; refine (termsOr_any xn yn _ _ xf yf L M _ hL hM (SpAt.stepTo HS.out (by go_grown)) (SpAt.stepTo HS2.out (by go_grown))).mono ?_; rintro e w4 ⟨a4, c4, rfl, z4, t4, hb4⟩; have n4 : Below w3.heap.size w3 w4 := Below.step (by go_grown) hb4; have T4 := Lib.hid (t4.mono (lo' := w.heap.size) (by first | exact b3.size | (simp; exact b3.size) | (simp; omega) | omega)); clear t4 hb4; have y0 : w4.cell? ⟨b, o, none⟩ = some (.int .i64 xn) := (n4.cell (p := ⟨b, o, none⟩) hB2).trans p0; have y1 : w4.cell? ⟨b, o + 1, none⟩ = some (.slice la L.length lc) := (n4.cell (p := ⟨b, o + 1, none⟩) hB2).trans p1; have y2 : w4.cell? ⟨b, o + 2, none⟩ = some (.bool xf) := (n4.cell (p := ⟨b, o + 2, none⟩) hB2).trans p2; have y3 : w4.cell? ⟨b', o', none⟩ = some (.int .i64 yn) := (n4.cell (p := ⟨b', o', none⟩) hB3).trans q0; have y4 : w4.cell? ⟨b', o' + 1, none⟩ = some (.slice la' M.length lc') := (n4.cell (p := ⟨b', o' + 1, none⟩) hB3).trans q1; have y5 : w4.cell? ⟨b', o' + 2, none⟩ = some (.bool yf) := (n4.cell (p := ⟨b', o' + 2, none⟩) hB3).trans q2))
      all_goals
        go_wp2_with fail
        refine bodyPost_ret (v := .tuple #[.slice a4 ((tOr (xn, L, xf) (yn, M, yf)).getD []).length c4, .bool (tOr (xn, L, xf) (yn, M, yf)).isSome]) (by simp [results, Try.results53, go_sem]) rfl ?_
        rw [HF.out]
        exact ⟨_, _, rfl, z4, T4.out, b3.trans (n4.mono b3.size)⟩
end Tmj
end Go.Proofs.Ytdhbjjolgmodjaa

/- The contract of the program's ClashJoin, over this seat's translation: the plain function joinL, of own memory. Nothing that was there before a call has changed. Condition: at most 1048576 terms, not more than the slices have room for, and spans of each. -/
namespace Go.Proofs.Ytdhbjjolgmodjaa
open Go.RowKit Go.Sort

namespace Tmj
open Foot Copy Tmc
/-- What an append of at most one term of own memory needs, and that the row is grown behind it. -/
theorem append_tb {w W : World} {B : Nat} {v : Value} {a4 : Option Addr} {c4 : Nat} {M P : List Tm} {fs : List (List Nat)} (h : TGrow w B v M fs) (hb : Below w.heap.size w W) (hP : TmB P w.heap.size W.heap.size (.slice a4 P.length c4) W) (h4 : a4 = none → c4 = 0) (hP1 : P.length ≤ 1) (hB : B ≤ w.heap.size) :
    ∃ cs news : List Value, W.ownsRow B 83 3 v M.length cs ∧ news.length = P.length * 3 ∧ (a4 = none → P.length = 0 ∧ c4 = 0) ∧ (∀ ad, a4 = some ad → ∀ j u, news[j]? = some u → W.cell? (ad.add j) = some u) ∧ (∀ u ∈ news, u.oneCell' = true) ∧
      (∀ a' c' w', w'.ownsRow B 83 3 (.slice a' (M.length + P.length) c') (M.length + P.length) (cs ++ news) → W.grownBy w' v.ownBlock → ((Value.slice a' (M.length + P.length) c').ownBlock = v.ownBlock ∨ (Value.slice a' (M.length + P.length) c').ownBlock = some W.heap.size) → ∃ fs', TGrow w' B (.slice a' (M.length + P.length) c') (M ++ P) fs') := by
  obtain ⟨cs0, ho0, _, _, hi0⟩ := id h
  have hlt0 := World.ownsRow.lt ho0
  obtain ⟨cs, ho, he, hn, hi⟩ := h.below hb
  match P, hP1, hP with
  | [], _, hP =>
    refine ⟨cs, [], ho, rfl, fun k => ⟨rfl, h4 k⟩, fun ad _ j u hu => by simp at hu, fun u hu => by simp at hu, fun a' c' w' hown hg hat => ⟨fs, ?_⟩⟩
    simp only [List.append_nil, List.length_nil, Nat.add_zero] at hown hat ⊢
    refine ⟨cs, hown, he.kept fun b k => hg.block b (hi b k).2.1 (fun e => (hi b k).2.2 e.symm), hn, fun b k => ⟨(hi b k).1, Nat.lt_of_lt_of_le (hi b k).2.1 hg.size, fun e => ?_⟩⟩
    rcases hat with hat | hat
    · exact (hi b k).2.2 (hat ▸ e)
    · rw [e] at hat
      injection hat with hat
      have := (hi b k).2.1
      omega
  | [(x, L, f)], _, hP =>
    obtain ⟨F, hF, hnF, hlo⟩ := hP
    obtain ⟨a9, c9, hv, hF⟩ := hF
    injection hv with hv1 hv3 hv2
    subst hv1
    subst hv2
    clear hv3
    rcases hF with ⟨k, _⟩ | ⟨g, n, fs0, rfl, ⟨C, hg, hcs, hnc, hel⟩, rfl⟩
    · cases k
    obtain ⟨hf1, hel⟩ := hel
    obtain ⟨F0, rfl⟩ := List.length_eq_one_iff.1 hf1
    obtain ⟨e0, e2, na, ncap, e1, hs⟩ := hel 0 (by simp)
    simp only [List.getElem_cons_zero, Nat.zero_mul, Nat.zero_add] at e0 e1 e2 hs
    simp only [List.length_cons, List.length_nil, Nat.zero_add] at hnc
    refine ⟨cs, [.int .i64 x, .slice na L.length ncap, .bool f], ho, rfl, (fun k => by cases k), fun ad k j u hu => ?_, (fun u hu => by simp at hu; rcases hu with rfl | rfl | rfl <;> rfl), fun a' c' w' hown hgr hat => ?_⟩
    · injection k with k
      subst k
      have hadd : (⟨g, 0, none⟩ : Addr).add j = ⟨g, j, none⟩ := by unfold Addr.add; split <;> simp_all
      rw [hadd, cell_of_row W g _ C _ (0, 0) hg]
      match j, hu with
      | 0, hu => exact (by simpa using e0 : C[0]? = _).trans hu
      | 1, hu => exact (by simpa using e1 : C[1]? = _).trans hu
      | 2, hu => exact (by simpa using e2 : C[2]? = _).trans hu
    · have hform : ∃ g', a' = some ⟨g', 0, none⟩ := by
        rcases hown.2 with ⟨_, h0⟩ | ⟨g', cap', cur', hv, _⟩
        · simp at h0
        · injection hv with hv
          exact ⟨g', hv⟩
      obtain ⟨g', rfl⟩ := hform
      refine ⟨fs ++ [F0], ?_⟩
      simp only [List.length_cons, List.length_nil, Nat.zero_add] at hown hat ⊢
      refine TGrow.push (Z := w.heap.size) (W := W) (Below.refl _ _) he ho.1 hn (fun b k => ?_) (fun k e => (hlt0 k e).2) (by simpa using hs) (fun b k => ?_) hb.size hB hown hgr ?_
      · have := hi0 b k
        exact ⟨this.1, this.2.1, this.2.2⟩
      · exact (hlo b (by simp [k])).1
      · rcases hat with hat | hat
        · exact .inl hat.symm
        · have : some g' = some W.heap.size := hat
          injection this with this
          exact .inr this
theorem go_len {A B : List Tm} {n : Int} : ∀ {k : Nat} {U : List Tm}, joinGo A B n k = some U → U.length ≤ k
  | 0, U, h => by simp only [joinGo, Option.some.injEq] at h; subst h; simp
  | k + 1, U, h => by
    unfold joinGo at h
    split at h
    · cases h
    rename_i T hT
    split at h
    · cases h
    rename_i V hV
    injection h with h
    subst h
    have := go_len hT
    have h1 : V.length ≤ 1 := tJoin_len hV
    simp
    omega
where
  tJoin_len {A B : List Tm} {m : Int} {at' : Bool} {V : List Tm} (h : tJoin A B m at' = some V) : V.length ≤ 1 := by
    unfold tJoin at h
    split at h
    · injection h with h; subst h; simp
    · injection h with h; subst h; simp
    · injection h with h; subst h; simp
    · split at h
      · unfold tOr at h
        split at h
        · split at h
          · injection h with h; subst h; simp
          · injection h with h; subst h; simp
        · cases h
      · unfold tAnd at h
        split at h
        · injection h with h; subst h; simp
        · cases h
theorem go_none {A B : List Tm} {n : Int} {k : Nat} (h : joinGo A B n k = none) : ∀ d, joinGo A B n (k + d) = none
  | 0 => h
  | d + 1 => by
    show joinGo A B n ((k + d) + 1) = none
    unfold joinGo
    rw [go_none h d]
theorem join_next {A B : List Tm} {n : Int} {k : Nat} {T U : List Tm} (h : joinGo A B n k = some T) (h' : tJoin A B (k : Int) (decide ((k : Int) = n)) = some U) : joinGo A B n (k + 1) = some (T ++ U) := by
  unfold joinGo
  rw [h]
  simp only
  rw [h']
theorem join_stop {A B : List Tm} {n : Int} {k : Nat} {T : List Tm} (h : joinGo A B n k = some T) (h' : tJoin A B (k : Int) (decide ((k : Int) = n)) = none) : joinGo A B n (k + 1) = none := by
  unfold joinGo
  rw [h]
  simp only
  rw [h']
/-- What the loop keeps. -/
def JnRel (A B : List Tm) (n : Int) (w : World) (v i : Value) (wr : World) : Prop :=
  ∃ (k : Nat) (U : List Tm) (fs : List (List Nat)), k ≤ 8 ∧ i = .int .i64 (k : Int) ∧ joinGo A B n k = some U ∧ TGrow wr w.heap.size v U fs ∧ Below w.heap.size w wr
set_option maxRecDepth 100000 in
set_option maxHeartbeats 4000000 in
theorem implClashJoin_any (na nb : Option Addr) (ca cb : Nat) (A B : List Tm) (n : Int) (w : World) (hA : A.length ≤ 1048576) (hqA : ∀ q ∈ A, q.2.1.length ≤ 1048576) (hcA : A.length ≤ ca) (hB : B.length ≤ 1048576) (hqB : ∀ q ∈ B, q.2.1.length ≤ 1048576) (hcB : B.length ≤ cb)
    (h : TmAt w w.heap.size (.slice na A.length ca) A) (h' : TmAt w w.heap.size (.slice nb B.length cb) B) :
    Calls Try.prog 13 #[.slice na A.length ca, .slice nb B.length cb, .int .i64 n] w (TjPost (joinL A B n) w) := by
  have K1 : Hid (∀ V, Below w.heap.size w V → Calls Try.prog 19 #[.slice na A.length ca] V fun e w' => e = .returned (.bool (tmOk A)) ∧ Below V.heap.size V w') := Lib.hid fun V g => implClashOk_any _ A V hA hqA (h.stepAt g)
  have K2 : Hid (∀ V, Below w.heap.size w V → Calls Try.prog 19 #[.slice nb B.length cb] V fun e w' => e = .returned (.bool (tmOk B)) ∧ Below V.heap.size V w') := Lib.hid fun V g => implClashOk_any _ B V hB hqB (h'.stepAt g)
  have K3 : Hid (∀ V, Below w.heap.size w V → Calls Try.prog 52 #[.slice na A.length ca, .int .i64 n] V fun e w' => e = .returned (.bool (tFirst n A).isSome) ∧ Below V.heap.size V w') := Lib.hid fun V g => hasTerm_any _ _ A n V hA hcA (h.stepAt g)
  have K4 : Hid (∀ V, Below w.heap.size w V → Calls Try.prog 52 #[.slice nb B.length cb, .int .i64 n] V fun e w' => e = .returned (.bool (tFirst n B).isSome) ∧ Below V.heap.size V w') := Lib.hid fun V g => hasTerm_any _ _ B n V hB hcB (h'.stepAt g)
  have K5 : Hid (∀ V (k : Int) (at' : Bool), Below w.heap.size w V → Calls Try.prog 53 #[.slice na A.length ca, .slice nb B.length cb, .int .i64 k, .bool at'] V (TjPost (tJoin A B k at') V)) := Lib.hid fun V k at' g => termsJoin_any _ _ _ _ A B k at' V hA hqA hcA hB hqB hcB (h.stepAt g) (h'.stepAt g)
  clear h h' hqA hqB hA hB hcA hcB
  have NO : ∀ (w' : World), joinL A B n = none → Below w.heap.size w w' → TjPost (joinL A B n) w (.returned (.tuple #[.slice none 0 0, .bool false])) w' := fun w' e g => by
    rw [e]
    exact ⟨none, 0, rfl, fun _ => rfl, TmB.nil _ _ _ _ _, g⟩
  have HNO := Lib.hid NO
  clear NO
  rcases c1 : tmOk A
  · have HJ := Lib.hid (show joinL A B n = none from if_neg (fun k => by rw [c1] at k; simp at k))
    rw [c1] at K1
    clear c1
    go_enter Try.func13, Try.ntmps13
    go_wp2_with fail
    refine (K1.out _ (Below.refl _ _)).mono ?_
    rintro e w2 ⟨rfl, hb⟩
    have b2 := hb
    clear hb
    go_wp2_with fail
    exact bodyPost_ret (v := .tuple #[.slice none 0 0, .bool false]) (by simp [results, Try.results13, go_sem]) rfl (HNO.out _ HJ.out b2)
  rw [c1] at K1
  rcases c2 : tmOk B
  · have HJ := Lib.hid (show joinL A B n = none from if_neg (fun k => by rw [c2] at k; simp at k))
    rw [c2] at K2
    clear c1 c2
    go_enter Try.func13, Try.ntmps13
    go_wp2_with fail
    refine (K1.out _ (Below.refl _ _)).mono ?_
    rintro e w2 ⟨rfl, hb⟩
    have b2 := hb
    clear hb
    go_wp2_with fail
    refine (K2.out _ b2).mono ?_
    rintro e w3 ⟨rfl, hb⟩
    have b3 := b2.trans (hb.mono b2.size)
    clear hb
    go_wp2_with fail
    exact bodyPost_ret (v := .tuple #[.slice none 0 0, .bool false]) (by simp [results, Try.results13, go_sem]) rfl (HNO.out _ HJ.out b3)
  rw [c2] at K2
  rcases c3 : (tFirst n A).isSome
  · have HJ := Lib.hid (show joinL A B n = none from if_neg (fun k => by rw [c3] at k; simp at k))
    rw [c3] at K3
    clear c1 c2 c3
    go_enter Try.func13, Try.ntmps13
    go_wp2_with fail
    refine (K1.out _ (Below.refl _ _)).mono ?_
    rintro e w2 ⟨rfl, hb⟩
    have b2 := hb
    clear hb
    go_wp2_with fail
    refine (K2.out _ b2).mono ?_
    rintro e w3 ⟨rfl, hb⟩
    have b3 := b2.trans (hb.mono b2.size)
    clear hb
    go_wp2_with fail
    refine (K3.out _ b3).mono ?_
    rintro e w4 ⟨rfl, hb⟩
    have b4 := b3.trans (hb.mono b3.size)
    clear hb
    go_wp2_with fail
    exact bodyPost_ret (v := .tuple #[.slice none 0 0, .bool false]) (by simp [results, Try.results13, go_sem]) rfl (HNO.out _ HJ.out b4)
  rw [c3] at K3
  rcases c4 : (tFirst n B).isSome
  · have HJ := Lib.hid (show joinL A B n = none from if_neg (fun k => by rw [c4] at k; simp at k))
    rw [c4] at K4
    clear c1 c2 c3 c4
    go_enter Try.func13, Try.ntmps13
    go_wp2_with fail
    refine (K1.out _ (Below.refl _ _)).mono ?_
    rintro e w2 ⟨rfl, hb⟩
    have b2 := hb
    clear hb
    go_wp2_with fail
    refine (K2.out _ b2).mono ?_
    rintro e w3 ⟨rfl, hb⟩
    have b3 := b2.trans (hb.mono b2.size)
    clear hb
    go_wp2_with fail
    refine (K3.out _ b3).mono ?_
    rintro e w4 ⟨rfl, hb⟩
    have b4 := b3.trans (hb.mono b3.size)
    clear hb
    go_wp2_with fail
    refine (K4.out _ b4).mono ?_
    rintro e w5 ⟨rfl, hb⟩
    have b5 := b4.trans (hb.mono b4.size)
    clear hb
    go_wp2_with fail
    exact bodyPost_ret (v := .tuple #[.slice none 0 0, .bool false]) (by simp [results, Try.results13, go_sem]) rfl (HNO.out _ HJ.out b5)
  rw [c4] at K4
  have HJ := Lib.hid (show joinL A B n = joinGo A B n 8 from if_pos ⟨c1, c2, c3, c4⟩)
  clear c1 c2 c3 c4
  obtain ⟨i0, hi, hz0, hz1, hz2⟩ := info_parts Tmo.infoTerm
  go_enter Try.func13, Try.ntmps13
  go_wp2_with fail
  refine (K1.out _ (Below.refl _ _)).mono ?_
  rintro e w2 ⟨rfl, hb⟩
  have b2 := hb
  clear hb
  go_wp2_with fail
  refine (K2.out _ b2).mono ?_
  rintro e w3 ⟨rfl, hb⟩
  have b3 := b2.trans (hb.mono b2.size)
  clear hb
  go_wp2_with fail
  refine (K3.out _ b3).mono ?_
  rintro e w4 ⟨rfl, hb⟩
  have b4 := b3.trans (hb.mono b3.size)
  clear hb
  go_wp2_with fail
  refine (K4.out _ b4).mono ?_
  rintro e w5 ⟨rfl, hb⟩
  have b5 := b4.trans (hb.mono b4.size)
  clear hb
  clear K1 K2 K3 K4
  go_wp2_with fail
  go_loopw [8, 9] (fun v i wr => JnRel A B n w v i wr) (fun _ i _ => 8 - (intOf i).toNat)
  case atStart => exact ⟨0, [], [], Nat.zero_le _, rfl, rfl, TGrow.nil _ _, b5⟩
  case round =>
    obtain ⟨k, U, fs, hk, rfl, hj, hown, hb⟩ := hrel
    have HG := Lib.hid hown
    obtain ⟨va, vc, rfl, _⟩ := hown.form
    have HU := Lib.hid (go_len hj)
    have HK := Lib.hid hj
    clear hown hj
    by_cases hlt : k < 8
    · obtain ⟨d, hd⟩ : ∃ d : Bool, ((k : Int) == n) = d := ⟨_, rfl⟩
      have hd2 : decide ((k : Int) = n) = d := hd
      obtain ⟨o2, ho2⟩ : ∃ o2, tJoin A B (k : Int) d = o2 := ⟨_, rfl⟩
      have K6 := Lib.hid (K5.out wr (k : Int) d hb)
      rw [ho2] at K6
      have i0' : (k : Int) ≤ 7 := by omega
      rcases o2 with _ | P
      · have HN := Lib.hid (show joinL A B n = none by
          rw [HJ.out]
          have := go_none (join_stop HK.out (by rw [hd2]; exact ho2)) (7 - k)
          rwa [show k + 1 + (7 - k) = 8 by omega] at this)
        clear ho2 hd2
        go_wp2_with fail
        refine K6.out.mono ?_
        rintro e w6 ⟨a6, c6, rfl, _, _, hb6⟩
        have b6 := hb.trans (hb6.mono hb.size)
        clear hb6
        simp only [Option.getD_none, List.length_nil, Option.isSome_none]
        go_wp2_with fail
        exact bodyPost_ret (v := .tuple #[.slice none 0 0, .bool false]) (by simp [results, Try.results13, go_sem]) rfl (HNO.out _ HN.out b6)
      · have HX := Lib.hid (join_next HK.out (by rw [hd2]; exact ho2))
        have HP1 := Lib.hid (go_len.tJoin_len ho2)
        clear ho2 hd2
        go_wp2_with fail
        refine K6.out.mono ?_
        rintro e w6 ⟨a6, c6, rfl, z6, t6, hb6⟩
        have b6 := hb.trans (hb6.mono hb.size)
        obtain ⟨cs, news, q1, q2, q3, q4, q5, q6⟩ := append_tb HG.out hb6 t6 z6 HP1.out hb.size
        have Q4 := Lib.hid q4
        have Q5 := Lib.hid q5
        have Q6 := Lib.hid q6
        have h1 := HU.out
        have h2 := HP1.out
        have hlt9 := World.ownsRow.lt q1
        clear t6 z6 q4 q5 q6 hb6
        simp only [Option.getD_some, Option.isSome_some]
        go_wp2_with (at_builtin; refine Ap2.wpList_append _ rfl (.tmp 48) (.tmp 49) 24 rfl w.heap.size 83 i0 (.agg #[.int .i64 0, .slice none 0 0, .bool false]) 3 40 Try.underlying24 hi hz0 hz1 hz2 rfl (by decide) _ U.length cs rfl q1 a6 P.length c6 news (by rfl) q2 (fun k => (q3 k).1) Q4.out Q5.out (by unfold maxLen; omega) (by omega) b6.size ?_)
        intro a7 c7 w7 hown7 hg7 hat7
        obtain ⟨fs7, hT7⟩ := Q6.out a7 c7 w7 hown7 hg7 hat7
        have n7 : Below w.heap.size w w7 := Below.grown b6 hg7 b6.size (fun j e => (hlt9 j e).1)
        have HR := Lib.hid (show JnRel A B n w (.slice a7 (U.length + P.length) c7) (.int .i64 ((k : Int) + 1)) w7 from ⟨k + 1, U ++ P, fs7, by omega, by go_num, HX.out, hT7, n7⟩)
        clear hown7 hg7 hat7 hT7 q1 q2 q3
        go_wp2_with fail
        go_roundw
        case rel => exact HR.out
        case measure => simp [intOf]; omega
    · obtain rfl : k = 8 := by omega
      have HY := Lib.hid (show joinL A B n = some U by rw [HJ.out]; exact HK.out)
      have HE := Lib.hid ((HG.out.tb (Nat.le_refl _)))
      have z := HG.out.form
      go_wp2_with fail
      refine bodyPost_ret (v := .tuple #[.slice va U.length vc, .bool true]) (by simp [results, Try.results13, go_sem]) rfl ?_
      rw [HY.out]
      obtain ⟨a', c', hv, hz⟩ := z
      injection hv with hv _ hv2
      subst hv
      subst hv2
      exact ⟨_, _, rfl, hz, HE.out, hb⟩
end Tmj
end Go.Proofs.Ytdhbjjolgmodjaa
