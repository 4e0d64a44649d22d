/- The contract of the model's ClashJoin, over this seat's translation: the plain function joinL, of own memory. Nothing that was there before a call has changed. Condition: at most 1048576 terms, not more than the slices have room for, and spans of each. -/
import Derived.BigFrame
import Derived.BigQuiet
import Derived.Deep.RegionHeld3
import Derived.Test.YtdhbjjolgmodjaaGv
import Derived.Test.YtdhbjjolgmodjaaGq
import Derived.Test.YtdhbjjolgmodjaaGm
import Derived.Test.YtdhbjjolgmodjaaGp
import Derived.Test.YtdhbjjolgmodjaaGs
import Derived.Test.YtdhbjjolgmodjaaSpor
import Derived.Test.YtdhbjjolgmodjaaSpand
import Derived.Test.YtdhbjjolgmodjaaSpone
import Derived.Test.YtdhbjjolgmodjaaSptext
import Derived.Test.YtdhbjjolgmodjaaTmok
namespace Go.Proofs.Ytdhbjjolgmodjaa
open Go.RowKit Go.Sort

namespace Tmj
open Foot Copy Tmc
theorem drop_at {A : List Tm} {k : Nat} {x : Tm} (h : A[k]? = some x) : A.drop k = x :: A.drop (k + 1) := by
  obtain ⟨hk, rfl⟩ := List.getElem?_eq_some_iff.1 h
  exact List.drop_eq_getElem_cons hk
theorem drop_first {A t : List Tm} {k : Nat} {x : Tm} (h : A.drop k = x :: t) : A[k]? = some x := by
  have : (A.drop k)[0]? = some x := by rw [h]; rfl
  rwa [List.getElem?_drop, Nat.add_zero] at this
theorem ms_left {A B U : List Tm} {n : Int} {k l : Nat} {x : Tm} {fd : Bool} {J : Option (List Tm)} (hx : A[k]? = some x) (hl : ∀ y, B[l]? = some y → x.1 < y.1) (H : mg n (A.drop k) (B.drop l) U fd = J) :
    (x.1 = n → J = none) ∧ (x.1 ≠ n → mg n (A.drop (k + 1)) (B.drop l) (U ++ [x]) fd = J) := by
  rw [drop_at hx, mg_left fun y t h => hl y (drop_first h)] at H
  exact ⟨fun e => by rw [if_pos e] at H; exact H.symm, fun e => by rw [if_neg e] at H; exact H⟩
theorem ms_right {A B U : List Tm} {n : Int} {k l : Nat} {y : Tm} {fd : Bool} {J : Option (List Tm)} (hy : B[l]? = some y) (hl : ∀ x, A[k]? = some x → y.1 < x.1) (H : mg n (A.drop k) (B.drop l) U fd = J) :
    (y.1 = n → J = none) ∧ (y.1 ≠ n → mg n (A.drop k) (B.drop (l + 1)) (U ++ [y]) fd = J) := by
  rw [drop_at hy, mg_right fun x t h => hl x (drop_first h)] at H
  exact ⟨fun e => by rw [if_pos e] at H; exact H.symm, fun e => by rw [if_neg e] at H; exact H⟩
theorem ms_or {A B U : List Tm} {n : Int} {k l : Nat} {x y : Tm} {fd : Bool} {J : Option (List Tm)} (hx : A[k]? = some x) (hy : B[l]? = some y) (h : x.1 = y.1) (hn : x.1 = n) (H : mg n (A.drop k) (B.drop l) U fd = J) :
    (tOr x y = none → J = none) ∧ ∀ V, tOr x y = some V → mg n (A.drop (k + 1)) (B.drop (l + 1)) (U ++ V) true = J := by
  rw [drop_at hx, drop_at hy, mg_both h, if_pos hn] at H
  exact ⟨fun e => by rw [e] at H; exact H.symm, fun V e => by rw [e] at H; exact H⟩
theorem ms_and {A B U : List Tm} {n : Int} {k l : Nat} {x y : Tm} {fd : Bool} {J : Option (List Tm)} (hx : A[k]? = some x) (hy : B[l]? = some y) (h : x.1 = y.1) (hn : x.1 ≠ n) (H : mg n (A.drop k) (B.drop l) U fd = J) :
    (tAnd x y = none → J = none) ∧ ∀ V, tAnd x y = some V → mg n (A.drop (k + 1)) (B.drop (l + 1)) (U ++ V) fd = J := by
  rw [drop_at hx, drop_at hy, mg_both h, if_neg hn] at H
  exact ⟨fun e => by rw [e] at H; exact H.symm, fun V e => by rw [e] at H; exact H⟩
theorem ms_end {A B U : List Tm} {n : Int} {fd : Bool} {J : Option (List Tm)} (H : mg n (A.drop A.length) (B.drop B.length) U fd = J) : J = if fd = true then some U else none := by
  rw [List.drop_length, List.drop_length, mg] at H
  exact H.symm
theorem or_none {x y : Tm} (h : orOk x.2.1 y.2.1 = false) : tOr x y = none := by
  unfold tOr
  rw [if_neg (by rw [h]; decide)]
theorem or_all {x y : Tm} (h : orOk x.2.1 y.2.1 = true) (hf : (x.2.2 || y.2.2) = true) (ha : orR x.2.1 y.2.1 = [(0, 9999999)]) : tOr x y = some [] := by
  unfold tOr
  rw [if_pos h, if_pos (by rw [hf, ha]; rfl)]
theorem or_some {x y : Tm} (h : orOk x.2.1 y.2.1 = true) (hf : (x.2.2 || y.2.2) = false ∨ orR x.2.1 y.2.1 ≠ [(0, 9999999)]) : tOr x y = some [(x.1, orR x.2.1 y.2.1, x.2.2 || y.2.2)] := by
  unfold tOr
  rw [if_pos h, if_neg]
  intro k
  rw [Bool.and_eq_true] at k
  rcases hf with hf | hf
  · rw [hf] at k
    cases k.1
  · exact hf (of_decide_eq_true k.2)
theorem and_none {x y : Tm} (h : andOk x.2.1 y.2.1 = false) : tAnd x y = none := by
  unfold tAnd
  rw [if_neg (by rw [h]; decide)]
theorem and_some {x y : Tm} (h : andOk x.2.1 y.2.1 = true) : tAnd x y = some [(x.1, andR x.2.1 y.2.1, x.2.2 && y.2.2)] := by
  unfold tAnd
  rw [if_pos h]
theorem join_le {A B U : List Tm} {n : Int} (h : joinL A B n = some U) : U.length ≤ 1048576 := by
  unfold joinL at h
  split at h
  · have := go_len h
    omega
  · cases h
/-- A term of a row that was there. -/
theorem tm_get {w : World} {na : Option Addr} {ca : Nat} {A : List Tm} (h : TmAt w w.heap.size (.slice na A.length ca) A) {k : Nat} (hk : k < A.length) :
    ∃ b o a1 c1 x L f, na = some ⟨b, o, none⟩ ∧ b < w.heap.size ∧ A[k]? = some (x, L, f) ∧ ∀ V, Below w.heap.size w V → V.cell? ⟨b, o + k * 3, none⟩ = some (.int .i64 x) ∧ V.cell? ⟨b, o + k * 3 + 1, none⟩ = some (.slice a1 L.length c1) ∧ V.cell? ⟨b, o + k * 3 + 2, none⟩ = some (.bool f) ∧ SpAt V w.heap.size (.slice a1 L.length c1) L := by
  obtain ⟨a, cap, hv, h⟩ := h
  injection hv with e1 _ e2
  subst e1
  subst e2
  rcases h with h | ⟨b, o, rfl, hB, hc⟩
  · subst h
    simp at hk
  obtain ⟨x, L, f, hx⟩ : ∃ x L f, A[k] = (x, L, f) := ⟨_, _, _, rfl⟩
  have c := hc k hk
  rw [hx] at c
  obtain ⟨c0, a1, c1, h1, hs, h2⟩ := c
  refine ⟨b, o, a1, c1, x, L, f, rfl, hB, by rw [List.getElem?_eq_getElem hk, hx], fun V hb => ⟨(hb.cell (p := ⟨b, o + k * 3, none⟩) hB).trans c0, (hb.cell (p := ⟨b, o + k * 3 + 1, none⟩) hB).trans h1, (hb.cell (p := ⟨b, o + k * 3 + 2, none⟩) hB).trans h2, hs.below hb⟩⟩
/-- A box with a range that a call has made. -/
def RBox (W : World) (R : Sps) (p : Value) (V : World) : Prop :=
  ∃ g a c, p = .pointer (some ⟨g, 0, none⟩) ∧ W.heap.size ≤ g ∧ g < V.heap.size ∧ V.cell? ⟨g, 0, none⟩ = some (.slice a R.length c) ∧ SRes R W.heap.size (.slice a R.length c) V
theorem RBox.first {W V w5 : World} {R : Sps} {a : Option Addr} {c : Nat} (q : SRes R V.heap.size (.slice a R.length c) w5) (T : BxI w5 W.heap.size) (hV : W.heap.size < V.heap.size) (h5 : W.heap.size < w5.heap.size) :
    RBox W R (.pointer (some ⟨W.heap.size, 0, none⟩)) (w5.setCell ⟨W.heap.size, 0, none⟩ (.slice a R.length c)) := by
  obtain ⟨t0, t1⟩ := T
  exact ⟨_, a, c, rfl, Nat.le_refl _, by simp; omega, by go_simp, (resSet q hV).mono (by omega)⟩
theorem RBox.last {W V w5 : World} {R : Sps} {a : Option Addr} {c : Nat} (q : SRes R V.heap.size (.slice a R.length c) w5) (hV : W.heap.size ≤ V.heap.size) (h5 : W.heap.size ≤ w5.heap.size) :
    RBox W R (.pointer (some ⟨w5.heap.size, 0, none⟩)) (w5.alloc (.cells #[.slice a R.length c] 81)) :=
  ⟨_, a, c, rfl, h5, by simp, by go_simp, (resNew q).mono hV⟩
/-- One term more behind a row that a call grows. -/
theorem town_push {W w' : World} {B : Nat} {v : Value} {U : List Tm} {cs : List Value} {x : Int} {L : Sps} {f : Bool} {la a7 : Option Addr} {lc c7 : Nat} (ho : W.ownsRow B 83 3 v U.length cs)
    (hc : ∀ i (h : i < U.length), cs[i * 3]? = some (.int .i64 U[i].1) ∧ cs[i * 3 + 2]? = some (.bool U[i].2.2) ∧ ∃ a cap, cs[i * 3 + 1]? = some (.slice a U[i].2.1.length cap) ∧ SpX W 0 v.ownBlock (.slice a U[i].2.1.length cap) U[i].2.1)
    (hs : SpX W 0 v.ownBlock (.slice la L.length lc) L)
    (hown : w'.ownsRow B 83 3 (.slice a7 (U.length + 1) c7) (U.length + 1) (cs ++ [.int .i64 x, .slice la L.length lc, .bool f])) (hg : W.grownBy w' v.ownBlock)
    (hat : (Value.slice a7 (U.length + 1) c7).ownBlock = v.ownBlock ∨ (Value.slice a7 (U.length + 1) c7).ownBlock = some W.heap.size) : Tmo.TOwn w' B 0 (.slice a7 (U.length + 1) c7) (U ++ [(x, L, f)]) := by
  have hform : ∃ g, a7 = some ⟨g, 0, none⟩ := by
    rcases hown.2 with ⟨_, h0⟩ | ⟨g', cap', cur', hv, _⟩
    · simp at h0
    · injection hv with hv
      exact ⟨g', hv⟩
  obtain ⟨g, rfl⟩ := hform
  refine Tmo.TOwn.grow (P := [(x, L, f)]) ho hc (fun i hi => ?_) hown hg ?_
  · obtain rfl : i = 0 := by simpa using hi
    exact ⟨rfl, rfl, la, lc, rfl, hs⟩
  · rcases hat with hat | hat
    · exact .inl hat.symm
    · have : some g = some W.heap.size := hat
      injection this with this
      exact .inr this
/-- What the walk keeps. -/
def MRel (A B : List Tm) (n : Int) (w : World) (v f i j : Value) (wr : World) : Prop :=
  ∃ (k l : Nat) (U : List Tm) (fd : Bool), k ≤ A.length ∧ l ≤ B.length ∧ i = .int .i64 (k : Int) ∧ j = .int .i64 (l : Int) ∧ f = .bool fd ∧ U.length ≤ k + l ∧ (∀ q ∈ U, q.2.1.length ≤ 1048576) ∧ mg n (A.drop k) (B.drop l) U fd = joinL A B n ∧ Tmo.TOwn wr w.heap.size 0 v U ∧ Below w.heap.size w wr
theorem all_le {U : List Tm} {x : Tm} (h : ∀ q ∈ U, q.2.1.length ≤ 1048576) (hx : x.2.1.length ≤ 1048576) : ∀ q ∈ U ++ [x], q.2.1.length ≤ 1048576 := fun q hq => by
  rcases List.mem_append.1 hq with hq | hq
  · exact h q hq
  · simp only [List.mem_singleton] at hq
    rw [hq]
    exact hx
set_option maxRecDepth 100000 in
set_option maxHeartbeats 16000000 in
theorem specClashJoin_any (na nb : Option Addr) (ca cb : Nat) (A B : List Tm) (n : Int) (w : World) (hA : A.length ≤ 1048576) (hqA : ∀ q ∈ A, q.2.1.length ≤ 1048576) (hB : B.length ≤ 1048576) (hqB : ∀ q ∈ B, q.2.1.length ≤ 1048576)
    (h : TmAt w w.heap.size (.slice na A.length ca) A) (h' : TmAt w w.heap.size (.slice nb B.length cb) B) :
    Calls Try.prog 11 #[.slice na A.length ca, .slice nb B.length cb, .int .i64 n] w (TjPost (joinL A B n) w) := by
  have K1 : Hid (∀ V, Below w.heap.size w V → Calls Try.prog 45 #[.slice na A.length ca] V fun e w' => e = .returned (.bool (tmOk A)) ∧ Below V.heap.size V w') := Lib.hid fun V g => specClashOk_any _ A V hA hqA (h.stepAt g)
  have K2 : Hid (∀ V, Below w.heap.size w V → Calls Try.prog 45 #[.slice nb B.length cb] V fun e w' => e = .returned (.bool (tmOk B)) ∧ Below V.heap.size V w') := Lib.hid fun V g => specClashOk_any _ B V hB hqB (h'.stepAt g)
  have NO : ∀ (w' : World) (g : Nat), joinL A B n = none → Below w.heap.size w w' → TjPost (joinL A B n) w (.returned (.tuple #[.slice (some ⟨g, 0, none⟩) 0 0, .bool false])) w' := fun w' g e b => by
    rw [e]
    exact ⟨_, 0, rfl, fun _ => rfl, TmB.nil _ _ _ _ _, b⟩
  have HNO := Lib.hid NO
  clear NO
  rcases c1 : tmOk A
  · have HJ := Lib.hid (show joinL A B n = none from if_neg (fun k => by rw [c1] at k; simp at k))
    rw [c1] at K1
    clear c1
    go_enter Try.func11, Try.ntmps11
    go_wp2_with fail
    refine (K1.out _ (Below.refl _ _)).mono ?_
    rintro e w2 ⟨rfl, hb⟩
    have b2 := hb
    clear hb
    go_wp2_with fail
    exact bodyPost_ret (v := .tuple #[.slice (some ⟨w2.heap.size, 0, none⟩) 0 0, .bool false]) (by simp [results, Try.results11, go_sem]) rfl (HNO.out _ _ HJ.out (b2.alloc b2.size _))
  rw [c1] at K1
  rcases c2 : tmOk B
  · have HJ := Lib.hid (show joinL A B n = none from if_neg (fun k => by rw [c2] at k; simp at k))
    rw [c2] at K2
    clear c1 c2
    go_enter Try.func11, Try.ntmps11
    go_wp2_with fail
    refine (K1.out _ (Below.refl _ _)).mono ?_
    rintro e w2 ⟨rfl, hb⟩
    have b2 := hb
    clear hb
    go_wp2_with fail
    refine (K2.out _ b2).mono ?_
    rintro e w3 ⟨rfl, hb⟩
    have b3 := b2.trans (hb.mono b2.size)
    clear hb b2
    go_wp2_with fail
    exact bodyPost_ret (v := .tuple #[.slice (some ⟨w3.heap.size, 0, none⟩) 0 0, .bool false]) (by simp [results, Try.results11, go_sem]) rfl (HNO.out _ _ HJ.out (b3.alloc b3.size _))
  rw [c2] at K2
  have HMG := Lib.hid (mg_all (n := n) c1 c2)
  clear c1 c2
  have HA := Lib.hid h
  have HB' := Lib.hid h'
  have QA := Lib.hid (fun k (x : Tm) (e : A[k]? = some x) => hqA x (List.mem_of_getElem? e))
  have QB := Lib.hid (fun k (x : Tm) (e : B[k]? = some x) => hqB x (List.mem_of_getElem? e))
  clear h h' hqA hqB
  obtain ⟨i0, hi, hz0, hz1, hz2⟩ := info_parts Tmo.infoTerm
  go_enter Try.func11, Try.ntmps11
  go_wp2_with fail
  refine (K1.out _ (Below.refl _ _)).mono ?_
  rintro e w2 ⟨rfl, hb⟩
  have b2 := hb
  clear hb
  go_wp2_with fail
  refine (K2.out _ b2).mono ?_
  rintro e w3 ⟨rfl, hb⟩
  have b3 := b2.trans (hb.mono b2.size)
  clear hb b2 K1 K2
  go_wp2_with fail
  go_loopw [8, 9, 10, 11] (fun v f i j wr => MRel A B n w v f i j wr) (fun _ _ i j _ => (A.length - (intOf i).toNat) + (B.length - (intOf j).toNat))
  case atStart => exact ⟨0, 0, [], false, Nat.zero_le _, Nat.zero_le _, rfl, rfl, rfl, Nat.zero_le _, fun q hq => (by cases hq), HMG.out, Tmo.TOwn.made rfl b3.size, b3.alloc b3.size _⟩
  case round =>
    obtain ⟨k, l, U, fd, hk, hl, rfl, rfl, rfl, hU, hq, hm, hown, hb⟩ := hrel
    obtain ⟨va, vc, rfl, _⟩ := id hown.at
    have HO := Lib.hid hown
    have HM := Lib.hid hm
    have HQ := Lib.hid hq
    clear hown hm hq HMG
    by_cases hkA : k < A.length
    · obtain ⟨b, o, a1, c1, x, L, f, rfl, hbA, hxy, hca⟩ := tm_get HA.out hkA
      have HX := Lib.hid hxy
      have CA := Lib.hid hca
      have hLq := QA.out _ _ hxy
      simp only at hLq
      clear hxy hca
      have i1 : (k : Int) < (A.length : Int) := by omega
      have i0' : (0 : Int) ≤ (k : Int) := by omega
      by_cases hlB : l < B.length
      · obtain ⟨b', o', a2, c2, y, M, g, rfl, hbB, hxy, hca⟩ := tm_get HB'.out hlB
        have HY := Lib.hid hxy
        have CB := Lib.hid hca
        have hMq := QB.out _ _ hxy
        simp only at hMq
        clear hxy hca
        have j1 : (l : Int) < (B.length : Int) := by omega
        have j0' : (0 : Int) ≤ (l : Int) := by omega
        have hlz : ((l : Int) == (B.length : Int)) = false := by rw [beq_eq_false_iff_ne]; omega
        have hkz : ((k : Int) == (A.length : Int)) = false := by rw [beq_eq_false_iff_ne]; omega
        by_cases hxy : x < y
        · have HS := Lib.hid (ms_left HX.out (fun z hz => by rw [HY.out] at hz; injection hz with hz; rw [← hz]; exact hxy) HM.out)
          have hd : decide (x < y) = true := decide_eq_true hxy
          go_wp2_with fail
          have t0 := cell_regrown (CA.out wr hb).1
          have t1 := cell_regrown (CB.out wr hb).1
          refine wp_region_quiet_below (by kernel_rfl) (by kernel_rfl) ?_
          repeat (any_goals (first | go_big_quiet_step (fail) | quiet_step (fail)))
          refine wpQuiet_nil ?_
          intro wa hw
          have nn := quiet_end hw
          have ba := hb.trans (nn.mono hb.size)
          have HOwa := Lib.hid (HO.out.below nn)
          clear hw nn t0 t1
          as_aux_lemma =>
            obtain ⟨e0, e1, e2, es⟩ := CA.out wa ba
            by_cases hn : x = n
            · have HJ := Lib.hid (HS.out.1 hn)
              have hnb : (x == n) = true := by rw [hn]; simp
              clear es e1 e2 HS
              go_wp2_with fail
              exact bodyPost_ret (v := .tuple #[.slice (some ⟨wa.heap.size, 0, none⟩) 0 0, .bool false]) (by simp [results, Try.results11, go_sem]) rfl (HNO.out _ _ HJ.out (ba.alloc ba.size _))
            · have HN := Lib.hid (HS.out.2 hn)
              have hnb : (x == n) = false := beq_eq_false_iff_ne.2 hn
              clear HS hn
              have LB : Below wa.heap.size wa (wa.alloc (.cells #[.int .i64 x, .slice a1 L.length c1, .bool f] 83)) := (Below.refl _ _).alloc (Nat.le_refl _) _
              have SPX := Lib.hid (fun (cs : List Value) (q : (wa.alloc (.cells #[.int .i64 x, .slice a1 L.length c1, .bool f] 83)).ownsRow w.heap.size 83 3 (.slice va U.length vc) U.length cs) => SpX.of (es.below (LB.mono ba.size)) (by have := LB.size; have := ba.size; omega) (fun c e => (World.ownsRow.lt q c e).1))
              obtain ⟨cs, q1, q2⟩ := Tmo.TOwn.below HOwa.out LB
              have Q2 := Lib.hid q2
              have hlt9 := World.ownsRow.lt q1
              have hUU : U.length ≤ 2097152 := by omega
              have b8 : Below w.heap.size w (wa.alloc (.cells #[.int .i64 x, .slice a1 L.length c1, .bool f] 83)) := ba.trans (LB.mono ba.size)
              clear q2 LB
              go_wp2_with (at_builtin; refine Ap2.wpList_append _ rfl (.tmp 112) (.tmp 117) 24 rfl w.heap.size 83 i0 (.agg #[.int .i64 0, .slice none 0 0, .bool false]) 3 40 Try.underlying24 hi hz0 hz1 hz2 rfl (by decide) _ U.length cs rfl q1 (some ⟨wa.heap.size, 0, none⟩) 1 1 [.int .i64 x, .slice a1 L.length c1, .bool f] (by rfl) rfl (fun k => by cases k) (fun ad e j u hu => by cases e; exact Tmo.term_new rfl j u hu) Tmo.term_one (by unfold maxLen; omega) (by omega) b8.size ?_)
              intro a7 c7 w7 hown7 hg7 hat7
              have n7 : Below w.heap.size w w7 := Below.grown b8 hg7 b8.size (fun j e => (hlt9 j e).1)
              have HR := Lib.hid ((show ∀ (T : Tmo.TOwn w7 w.heap.size 0 (.slice a7 (U.length + 1) c7) (U ++ [(x, L, f)])) (N : Below w.heap.size w w7), MRel A B n w (.slice a7 (U.length + 1) c7) (.bool fd) (.int .i64 ((k : Int) + 1)) (.int .i64 (l : Int)) w7 from fun T N => ⟨k + 1, l, _, fd, by omega, by omega, by go_num, by go_num, rfl, by simp; omega, all_le HQ.out hLq, HN.out, T, N⟩) (town_push q1 Q2.out (SPX.out _ q1) hown7 hg7 (by simpa using hat7)) n7)
              clear hown7 hg7 hat7 q1 n7 b8 hlt9
              go_wp2_with fail
              go_roundw
              case rel => exact HR.out
              case measure => simp [intOf]; omega
        have hd : decide (x < y) = false := decide_eq_false hxy
        by_cases hyx : y < x
        · have HS := Lib.hid (ms_right HY.out (fun z hz => by rw [HX.out] at hz; injection hz with hz; rw [← hz]; exact hyx) HM.out)
          have hd2 : decide (y < x) = true := decide_eq_true hyx
          go_wp2_with fail
          have t0 := cell_regrown (CA.out wr hb).1
          have t1 := cell_regrown (CB.out wr hb).1
          refine wp_region_quiet_below (by kernel_rfl) (by kernel_rfl) ?_
          repeat (any_goals (first | go_big_quiet_step (fail) | quiet_step (fail)))
          refine wpQuiet_nil ?_
          intro wa hw
          have nn := quiet_end hw
          have ba := hb.trans (nn.mono hb.size)
          have HOwa := Lib.hid (HO.out.below nn)
          clear hw nn t0 t1
          go_wp2_with fail
          have t0 := cell_regrown (CA.out wa ba).1
          have t1 := cell_regrown (CB.out wa ba).1
          refine wp_region_quiet_below (by kernel_rfl) (by kernel_rfl) ?_
          repeat (any_goals (first | go_big_quiet_step (fail) | quiet_step (fail)))
          refine wpQuiet_nil ?_
          intro wc hw
          have nn := quiet_end hw
          have bc := ba.trans (nn.mono ba.size)
          have HOwc := Lib.hid (HOwa.out.below nn)
          clear hw nn t0 t1
          as_aux_lemma =>
            obtain ⟨e0, e1, e2, es⟩ := CB.out wc bc
            by_cases hn : y = n
            · have HJ := Lib.hid (HS.out.1 hn)
              have hnb : (y == n) = true := by rw [hn]; simp
              clear es e1 e2 HS
              go_wp2_with fail
              exact bodyPost_ret (v := .tuple #[.slice (some ⟨wc.heap.size, 0, none⟩) 0 0, .bool false]) (by simp [results, Try.results11, go_sem]) rfl (HNO.out _ _ HJ.out (bc.alloc bc.size _))
            · have HN := Lib.hid (HS.out.2 hn)
              have hnb : (y == n) = false := beq_eq_false_iff_ne.2 hn
              clear HS hn
              have LB : Below wc.heap.size wc (wc.alloc (.cells #[.int .i64 y, .slice a2 M.length c2, .bool g] 83)) := (Below.refl _ _).alloc (Nat.le_refl _) _
              have SPX := Lib.hid (fun (cs : List Value) (q : (wc.alloc (.cells #[.int .i64 y, .slice a2 M.length c2, .bool g] 83)).ownsRow w.heap.size 83 3 (.slice va U.length vc) U.length cs) => SpX.of (es.below (LB.mono bc.size)) (by have := LB.size; have := bc.size; omega) (fun c e => (World.ownsRow.lt q c e).1))
              obtain ⟨cs, q1, q2⟩ := Tmo.TOwn.below HOwc.out LB
              have Q2 := Lib.hid q2
              have hlt9 := World.ownsRow.lt q1
              have hUU : U.length ≤ 2097152 := by omega
              have b8 : Below w.heap.size w (wc.alloc (.cells #[.int .i64 y, .slice a2 M.length c2, .bool g] 83)) := bc.trans (LB.mono bc.size)
              clear q2 LB
              go_wp2_with (at_builtin; refine Ap2.wpList_append _ rfl (.tmp 147) (.tmp 152) 24 rfl w.heap.size 83 i0 (.agg #[.int .i64 0, .slice none 0 0, .bool false]) 3 40 Try.underlying24 hi hz0 hz1 hz2 rfl (by decide) _ U.length cs rfl q1 (some ⟨wc.heap.size, 0, none⟩) 1 1 [.int .i64 y, .slice a2 M.length c2, .bool g] (by rfl) rfl (fun k => by cases k) (fun ad e j u hu => by cases e; exact Tmo.term_new rfl j u hu) Tmo.term_one (by unfold maxLen; omega) (by omega) b8.size ?_)
              intro a7 c7 w7 hown7 hg7 hat7
              have n7 : Below w.heap.size w w7 := Below.grown b8 hg7 b8.size (fun j e => (hlt9 j e).1)
              have HR := Lib.hid ((show ∀ (T : Tmo.TOwn w7 w.heap.size 0 (.slice a7 (U.length + 1) c7) (U ++ [(y, M, g)])) (N : Below w.heap.size w w7), MRel A B n w (.slice a7 (U.length + 1) c7) (.bool fd) (.int .i64 (k : Int)) (.int .i64 ((l : Int) + 1)) w7 from fun T N => ⟨k, l + 1, _, fd, by omega, by omega, by go_num, by go_num, rfl, by simp; omega, all_le HQ.out hMq, HN.out, T, N⟩) (town_push q1 Q2.out (SPX.out _ q1) hown7 hg7 (by simpa using hat7)) n7)
              clear hown7 hg7 hat7 q1 n7 b8 hlt9
              go_wp2_with fail
              go_roundw
              case rel => exact HR.out
              case measure => simp [intOf]; omega
        obtain rfl : x = y := by omega
        clear hxy hyx hd
        have hd : decide (x < x) = false := decide_eq_false (by omega)
        go_wp2_with fail
        have t0 := cell_regrown (CA.out wr hb).1
        have t1 := cell_regrown (CB.out wr hb).1
        refine wp_region_quiet_below (by kernel_rfl) (by kernel_rfl) ?_
        repeat (any_goals (first | go_big_quiet_step (fail) | quiet_step (fail)))
        refine wpQuiet_nil ?_
        intro wa hw
        have nn := quiet_end hw
        have ba := hb.trans (nn.mono hb.size)
        have HOwa := Lib.hid (HO.out.below nn)
        clear hw nn t0 t1
        go_wp2_with fail
        have t0 := cell_regrown (CA.out wa ba).1
        have t1 := cell_regrown (CB.out wa ba).1
        refine wp_region_quiet_below (by kernel_rfl) (by kernel_rfl) ?_
        repeat (any_goals (first | go_big_quiet_step (fail) | quiet_step (fail)))
        refine wpQuiet_nil ?_
        intro wc hw
        have nn := quiet_end hw
        have bc := ba.trans (nn.mono ba.size)
        have HOwc := Lib.hid (HOwa.out.below nn)
        clear hw nn t0 t1
        clear hd
        obtain ⟨e0, e1, e2, es⟩ := CA.out wc bc
        obtain ⟨g0, g1, g2, gs⟩ := CB.out wc bc
        have zc := bc.size
        have zA : b < wc.heap.size := by omega
        have zB : b' < wc.heap.size := by omega
        have nA := Nat.ne_of_lt zA
        have nA2 := (Nat.ne_of_lt zA).symm
        have nB := Nat.ne_of_lt zB
        have nB2 := (Nat.ne_of_lt zB).symm
        by_cases hn : x = n
        · subst hn
          have HS := Lib.hid (ms_or HX.out HY.out rfl rfl HM.out)
          have KO : Hid (∀ V, Below wc.heap.size wc V → Calls Try.prog 46 #[.agg #[.slice a1 L.length c1], .agg #[.slice a2 M.length c2]] V (TPost (orOk L M) (orR L M) V)) := Lib.hid fun V g => specOr_any _ _ L M V hLq hMq ((es.below (g.mono zc)).mono (by have := g.size; omega)) ((gs.below (g.mono zc)).mono (by have := g.size; omega))
          clear es gs
          go_upto_region 25 with fail
          go_cut [12, 13] from 27 to 212 (fun p q wx => q = .bool (orOk L M) ∧ RBox wc (orR L M) p wx ∧ Below wc.heap.size wc wx)
          case first =>
            go_region_held3 (fun V => V.cell? ⟨b, o + k * 3 + 1, none⟩ = some (.slice a1 L.length c1) ∧ V.cell? ⟨b', o' + l * 3 + 1, none⟩ = some (.slice a2 M.length c2)) (go_keep)
              (first
                | (go_at_call 46; refine (KO.out _ (by go_grown)).mono ?_; rintro e w5 ⟨v5, rfl, q5, hb5⟩; obtain ⟨oa, oc, rfl, _⟩ := id q5; have n5 : Below wc.heap.size wc w5 := Below.step (by go_grown) hb5; have z5 := n5.size; have z5b := hb5.size; (try simp at z5b); have y0 := (n5.cell (p := ⟨b, o + k * 3 + 1, none⟩) zA).trans e1; have y1 := (n5.cell (p := ⟨b', o' + l * 3 + 1, none⟩) zB).trans g1; (try (have T5 : BxI w5 wc.heap.size := BxI.kept (by first | exact BxI.new wc | exact BxI.new wc.drew) hb5 (by first | (simp; done) | (simp; omega)))); (try (obtain ⟨t0, t1⟩ := id T5)); have HQ5 := Lib.hid q5; have HN5 := Lib.hid n5; clear q5 hb5 n5))
            all_goals
              have hn5 := HN5.out
              go_wp2_with fail
              go_meet
              case rel =>
                first
                  | exact ⟨rfl, RBox.first HQ5.out T5 (by first | omega | (simp; done) | (simp; omega)) (by omega), by go_grown⟩
                  | exact ⟨rfl, RBox.last HQ5.out (by first | exact Nat.le_refl _ | omega | (simp; done) | (simp; omega)) (by omega), by go_grown⟩
          case rest =>
            rename World => w6
            obtain ⟨rfl, ⟨gp, ra, rc, rfl, gpl, gp1, gp2, gR⟩, n6⟩ := hcut
            have b6 := bc.trans (n6.mono bc.size)
            have HO6 := Lib.hid (HOwc.out.below n6)
            have GR := Lib.hid gR
            have N6 := Lib.hid n6
            have z6 := b6.size
            clear e0 e1 e2 g0 g1 g2 zA zB nA nA2 nB nB2 gR KO n6
            obtain ⟨e0, e1, e2, es⟩ := CA.out w6 b6
            obtain ⟨g0, g1, g2, gs⟩ := CB.out w6 b6
            clear es gs
            rcases hok : orOk L M
            · have HJ := Lib.hid (HS.out.1 (or_none hok))
              clear hok HS
              go_wp2_with fail
              exact bodyPost_ret (v := .tuple #[.slice (some ⟨w6.heap.size, 0, none⟩) 0 0, .bool false]) (by simp [results, Try.results11, go_sem]) rfl (HNO.out _ _ HJ.out (b6.alloc b6.size _))
            obtain ⟨R, hR⟩ : ∃ R, orR L M = R := ⟨_, rfl⟩
            have hRs := (or_facts hok).1
            have HRL := Lib.hid (spOk_iff.1 hRs).2
            have HALL := Lib.hid (fun e => Txa.all_text hRs e)
            have HOR := Lib.hid (fun f g hf => or_some (x := (x, L, f)) (y := (x, M, g)) hok hf)
            have HOA := Lib.hid (fun f g hf ha => or_all (x := (x, L, f)) (y := (x, M, g)) hok hf ha)
            simp only at HOR HOA
            rw [hR] at HRL HALL HOR HOA GR gp2
            have KT : Hid (∀ V, Below w6.heap.size w6 V → Calls Try.prog 47 #[.agg #[.slice ra R.length rc]] V fun e w' => e = .returned (.string (textR R)) ∧ Below V.heap.size V w') := Lib.hid fun V g => specRangeText_any _ R V (by have := HRL.out; omega) (GR.out.below g).at
            have KX : Hid (∀ V a c, SpAt V V.heap.size (.slice a 1 c) [(0, 9999999)] → Calls Try.prog 47 #[.agg #[.slice a 1 c]] V fun e w' => e = .returned (.string (textR [(0, 9999999)])) ∧ Below V.heap.size V w') := Lib.hid fun V a c g => specRangeText_any _ [(0, 9999999)] V (by simp) g
            obtain ⟨tA, hTA⟩ : ∃ t, textR [(0, 9999999)] = t := ⟨_, rfl⟩
            obtain ⟨tR, hTR⟩ : ∃ t, textR R = t := ⟨_, rfl⟩
            clear hok hR hRs
            rcases f
            · rcases g
              · skip
                as_aux_lemma =>
                  have HN := Lib.hid (HS.out.2 _ (HOR.out false false (.inl rfl)))
                  clear HS HOR HOA HALL KT KX hTA hTR e0 e1 g0 g1
                  have LB : Below w6.heap.size w6 (w6.alloc (.cells #[.int .i64 x, .slice ra R.length rc, .bool false] 83)) := (Below.refl _ _).alloc (Nat.le_refl _) _
                  have SPX := Lib.hid (show SpX (w6.alloc (.cells #[.int .i64 x, .slice ra R.length rc, .bool false] 83)) 0 (Value.slice va U.length vc).ownBlock (.slice ra R.length rc) R from (SpX.res (resNew GR.out) (fun c e => (Tmo.TOwn.lt HOwc.out c e).2)).down (Nat.zero_le _))
                  obtain ⟨cs, q1, q2⟩ := Tmo.TOwn.below HO6.out LB
                  have Q2 := Lib.hid q2
                  have hlt9 := World.ownsRow.lt q1
                  have hUU : U.length ≤ 2097152 := by omega
                  have b8 : Below w.heap.size w (w6.alloc (.cells #[.int .i64 x, .slice ra R.length rc, .bool false] 83)) := b6.trans (LB.mono b6.size)
                  clear q2 LB
                  go_wp2_with (at_builtin; refine Ap2.wpList_append _ rfl (.tmp 202) (.tmp 207) 24 rfl w.heap.size 83 i0 (.agg #[.int .i64 0, .slice none 0 0, .bool false]) 3 40 Try.underlying24 hi hz0 hz1 hz2 rfl (by decide) _ U.length cs rfl q1 (some ⟨w6.heap.size, 0, none⟩) 1 1 [.int .i64 x, .slice ra R.length rc, .bool false] (by rfl) rfl (fun k => by cases k) (fun ad e j u hu => by cases e; exact Tmo.term_new rfl j u hu) Tmo.term_one (by unfold maxLen; omega) (by omega) b8.size ?_)
                  intro a7 c7 w7 hown7 hg7 hat7
                  have n7 : Below w.heap.size w w7 := Below.grown b8 hg7 b8.size (fun j e => (hlt9 j e).1)
                  have HR := Lib.hid ((show ∀ (T : Tmo.TOwn w7 w.heap.size 0 (.slice a7 (U.length + 1) c7) (U ++ [(x, R, false)])) (N : Below w.heap.size w w7), MRel A B x w (.slice a7 (U.length + 1) c7) (.bool true) (.int .i64 ((k : Int) + 1)) (.int .i64 ((l : Int) + 1)) w7 from fun T N => ⟨k + 1, l + 1, _, true, by omega, by omega, by go_num, by go_num, rfl, by simp; omega, all_le HQ.out (by have := HRL.out; show R.length ≤ _; omega), HN.out, T, N⟩) (town_push q1 Q2.out (SPX.out) hown7 hg7 (by simpa using hat7)) n7)
                  clear hown7 hg7 hat7 q1 n7 b8 hlt9
                  go_wp2_with fail
                  go_roundw
                  case rel => exact HR.out
                  case measure => simp [intOf]; omega
              · skip
                as_aux_lemma =>
                  by_cases hall : R = [(0, 9999999)]
                  · have HN := Lib.hid (HS.out.2 _ (HOA.out false true rfl hall))
                    have htt : tR = tA := by rw [← hTR, ← hTA, hall]
                    rw [hTR] at KT
                    rw [hTA] at KX
                    have hne : (tR.toList == tA.toList) = true := by rw [htt]; simp
                    clear HS HOR HOA HALL hTA hTR hall htt
                    go_wp2_with fail
                    refine (KT.out _ (Below.refl _ _)).mono ?_
                    rintro e w7 ⟨rfl, hb7⟩
                    go_wp2_with fail
                    refine (specAll_any _).mono ?_
                    rintro e w8 ⟨v8, rfl, ⟨aa, ac, rfl, hra⟩, hb8⟩
                    have RA : SpAt w8 w8.heap.size (.slice aa 1 ac) [(0, 9999999)] := SRes.at (base := w7.heap.size) ⟨aa, ac, rfl, hra⟩
                    go_wp2_with fail
                    refine (KX.out _ _ _ RA).mono ?_
                    rintro e w9 ⟨rfl, hb9⟩
                    have b9 : Below w6.heap.size w6 w9 := hb7.trans ((hb8.trans (hb9.mono hb8.size)).mono hb7.size)
                    have HR := Lib.hid (show MRel A B x w (.slice va U.length vc) (.bool true) (.int .i64 ((k : Int) + 1)) (.int .i64 ((l : Int) + 1)) w9 from ⟨k + 1, l + 1, _, true, by omega, by omega, by go_num, by go_num, rfl, by omega, HQ.out, by have := HN.out; rwa [List.append_nil] at this, HO6.out.below b9, b6.trans (b9.mono b6.size)⟩)
                    clear hb7 hb8 hb9 b9 hra RA
                    go_wp2_with fail
                    go_roundw
                    case rel => exact HR.out
                    case measure => simp [intOf]; omega
                  · have HN := Lib.hid (HS.out.2 _ (HOR.out false true (.inr hall)))
                    have htt : tR ≠ tA := fun e => hall (HALL.out (by rw [hTR, hTA]; exact e))
                    rw [hTR] at KT
                    rw [hTA] at KX
                    have hne : (tR.toList == tA.toList) = false := by
                      rw [beq_eq_false_iff_ne, ByteArray.toList_eq, ByteArray.toList_eq]
                      exact fun e => htt (ByteArray.ext (Array.toList_inj.1 e))
                    clear HS HOR HOA HALL hTA hTR hall htt
                    go_wp2_with fail
                    refine (KT.out _ (Below.refl _ _)).mono ?_
                    rintro e w7 ⟨rfl, hb7⟩
                    go_wp2_with fail
                    refine (specAll_any _).mono ?_
                    rintro e w8 ⟨v8, rfl, ⟨aa, ac, rfl, hra⟩, hb8⟩
                    have RA : SpAt w8 w8.heap.size (.slice aa 1 ac) [(0, 9999999)] := SRes.at (base := w7.heap.size) ⟨aa, ac, rfl, hra⟩
                    go_wp2_with fail
                    refine (KX.out _ _ _ RA).mono ?_
                    rintro e w9 ⟨rfl, hb9⟩
                    have m9 : Below w6.heap.size w6 w9 := hb7.trans ((hb8.trans (hb9.mono hb8.size)).mono hb7.size)
                    have b9 := b6.trans (m9.mono b6.size)
                    have HO9 := Lib.hid (HO6.out.below m9)
                    have GR9 := Lib.hid (GR.out.below m9)
                    have gp9 := (m9.cell (p := ⟨gp, 0, none⟩) gp1).trans gp2
                    clear hb7 hb8 hb9 m9 hra RA gp2 e0 e1 e2 g0 g1 g2
                    have LB : Below w9.heap.size w9 (w9.alloc (.cells #[.int .i64 x, .slice ra R.length rc, .bool true] 83)) := (Below.refl _ _).alloc (Nat.le_refl _) _
                    have SPX := Lib.hid (show SpX (w9.alloc (.cells #[.int .i64 x, .slice ra R.length rc, .bool true] 83)) 0 (Value.slice va U.length vc).ownBlock (.slice ra R.length rc) R from (SpX.res (resNew GR9.out) (fun c e => (Tmo.TOwn.lt HOwc.out c e).2)).down (Nat.zero_le _))
                    obtain ⟨cs, q1, q2⟩ := Tmo.TOwn.below HO9.out LB
                    have Q2 := Lib.hid q2
                    have hlt9 := World.ownsRow.lt q1
                    have hUU : U.length ≤ 2097152 := by omega
                    have b8 : Below w.heap.size w (w9.alloc (.cells #[.int .i64 x, .slice ra R.length rc, .bool true] 83)) := b9.trans (LB.mono b9.size)
                    clear q2 LB
                    go_wp2_with (at_builtin; refine Ap2.wpList_append _ rfl (.tmp 202) (.tmp 207) 24 rfl w.heap.size 83 i0 (.agg #[.int .i64 0, .slice none 0 0, .bool false]) 3 40 Try.underlying24 hi hz0 hz1 hz2 rfl (by decide) _ U.length cs rfl q1 (some ⟨w9.heap.size, 0, none⟩) 1 1 [.int .i64 x, .slice ra R.length rc, .bool true] (by rfl) rfl (fun k => by cases k) (fun ad e j u hu => by cases e; exact Tmo.term_new rfl j u hu) Tmo.term_one (by unfold maxLen; omega) (by omega) b8.size ?_)
                    intro a7 c7 w7 hown7 hg7 hat7
                    have n7 : Below w.heap.size w w7 := Below.grown b8 hg7 b8.size (fun j e => (hlt9 j e).1)
                    have HR := Lib.hid ((show ∀ (T : Tmo.TOwn w7 w.heap.size 0 (.slice a7 (U.length + 1) c7) (U ++ [(x, R, true)])) (N : Below w.heap.size w w7), MRel A B x w (.slice a7 (U.length + 1) c7) (.bool true) (.int .i64 ((k : Int) + 1)) (.int .i64 ((l : Int) + 1)) w7 from fun T N => ⟨k + 1, l + 1, _, true, by omega, by omega, by go_num, by go_num, rfl, by simp; omega, all_le HQ.out (by have := HRL.out; show R.length ≤ _; omega), HN.out, T, N⟩) (town_push q1 Q2.out (SPX.out) hown7 hg7 (by simpa using hat7)) n7)
                    clear hown7 hg7 hat7 q1 n7 b8 hlt9
                    go_wp2_with fail
                    go_roundw
                    case rel => exact HR.out
                    case measure => simp [intOf]; omega
            · skip
              as_aux_lemma =>
                by_cases hall : R = [(0, 9999999)]
                · have HN := Lib.hid (HS.out.2 _ (HOA.out true g rfl hall))
                  have htt : tR = tA := by rw [← hTR, ← hTA, hall]
                  rw [hTR] at KT
                  rw [hTA] at KX
                  have hne : (tR.toList == tA.toList) = true := by rw [htt]; simp
                  clear HS HOR HOA HALL hTA hTR hall htt
                  go_wp2_with fail
                  refine (KT.out _ (Below.refl _ _)).mono ?_
                  rintro e w7 ⟨rfl, hb7⟩
                  go_wp2_with fail
                  refine (specAll_any _).mono ?_
                  rintro e w8 ⟨v8, rfl, ⟨aa, ac, rfl, hra⟩, hb8⟩
                  have RA : SpAt w8 w8.heap.size (.slice aa 1 ac) [(0, 9999999)] := SRes.at (base := w7.heap.size) ⟨aa, ac, rfl, hra⟩
                  go_wp2_with fail
                  refine (KX.out _ _ _ RA).mono ?_
                  rintro e w9 ⟨rfl, hb9⟩
                  have b9 : Below w6.heap.size w6 w9 := hb7.trans ((hb8.trans (hb9.mono hb8.size)).mono hb7.size)
                  have HR := Lib.hid (show MRel A B x w (.slice va U.length vc) (.bool true) (.int .i64 ((k : Int) + 1)) (.int .i64 ((l : Int) + 1)) w9 from ⟨k + 1, l + 1, _, true, by omega, by omega, by go_num, by go_num, rfl, by omega, HQ.out, by have := HN.out; rwa [List.append_nil] at this, HO6.out.below b9, b6.trans (b9.mono b6.size)⟩)
                  clear hb7 hb8 hb9 b9 hra RA
                  go_wp2_with fail
                  go_roundw
                  case rel => exact HR.out
                  case measure => simp [intOf]; omega
                · have HN := Lib.hid (HS.out.2 _ (HOR.out true g (.inr hall)))
                  have htt : tR ≠ tA := fun e => hall (HALL.out (by rw [hTR, hTA]; exact e))
                  rw [hTR] at KT
                  rw [hTA] at KX
                  have hne : (tR.toList == tA.toList) = false := by
                    rw [beq_eq_false_iff_ne, ByteArray.toList_eq, ByteArray.toList_eq]
                    exact fun e => htt (ByteArray.ext (Array.toList_inj.1 e))
                  clear HS HOR HOA HALL hTA hTR hall htt
                  go_wp2_with fail
                  refine (KT.out _ (Below.refl _ _)).mono ?_
                  rintro e w7 ⟨rfl, hb7⟩
                  go_wp2_with fail
                  refine (specAll_any _).mono ?_
                  rintro e w8 ⟨v8, rfl, ⟨aa, ac, rfl, hra⟩, hb8⟩
                  have RA : SpAt w8 w8.heap.size (.slice aa 1 ac) [(0, 9999999)] := SRes.at (base := w7.heap.size) ⟨aa, ac, rfl, hra⟩
                  go_wp2_with fail
                  refine (KX.out _ _ _ RA).mono ?_
                  rintro e w9 ⟨rfl, hb9⟩
                  have m9 : Below w6.heap.size w6 w9 := hb7.trans ((hb8.trans (hb9.mono hb8.size)).mono hb7.size)
                  have b9 := b6.trans (m9.mono b6.size)
                  have HO9 := Lib.hid (HO6.out.below m9)
                  have GR9 := Lib.hid (GR.out.below m9)
                  have gp9 := (m9.cell (p := ⟨gp, 0, none⟩) gp1).trans gp2
                  clear hb7 hb8 hb9 m9 hra RA gp2 e0 e1 e2 g0 g1 g2
                  have LB : Below w9.heap.size w9 (w9.alloc (.cells #[.int .i64 x, .slice ra R.length rc, .bool true] 83)) := (Below.refl _ _).alloc (Nat.le_refl _) _
                  have SPX := Lib.hid (show SpX (w9.alloc (.cells #[.int .i64 x, .slice ra R.length rc, .bool true] 83)) 0 (Value.slice va U.length vc).ownBlock (.slice ra R.length rc) R from (SpX.res (resNew GR9.out) (fun c e => (Tmo.TOwn.lt HOwc.out c e).2)).down (Nat.zero_le _))
                  obtain ⟨cs, q1, q2⟩ := Tmo.TOwn.below HO9.out LB
                  have Q2 := Lib.hid q2
                  have hlt9 := World.ownsRow.lt q1
                  have hUU : U.length ≤ 2097152 := by omega
                  have b8 : Below w.heap.size w (w9.alloc (.cells #[.int .i64 x, .slice ra R.length rc, .bool true] 83)) := b9.trans (LB.mono b9.size)
                  clear q2 LB
                  go_wp2_with (at_builtin; refine Ap2.wpList_append _ rfl (.tmp 202) (.tmp 207) 24 rfl w.heap.size 83 i0 (.agg #[.int .i64 0, .slice none 0 0, .bool false]) 3 40 Try.underlying24 hi hz0 hz1 hz2 rfl (by decide) _ U.length cs rfl q1 (some ⟨w9.heap.size, 0, none⟩) 1 1 [.int .i64 x, .slice ra R.length rc, .bool true] (by rfl) rfl (fun k => by cases k) (fun ad e j u hu => by cases e; exact Tmo.term_new rfl j u hu) Tmo.term_one (by unfold maxLen; omega) (by omega) b8.size ?_)
                  intro a7 c7 w7 hown7 hg7 hat7
                  have n7 : Below w.heap.size w w7 := Below.grown b8 hg7 b8.size (fun j e => (hlt9 j e).1)
                  have HR := Lib.hid ((show ∀ (T : Tmo.TOwn w7 w.heap.size 0 (.slice a7 (U.length + 1) c7) (U ++ [(x, R, true)])) (N : Below w.heap.size w w7), MRel A B x w (.slice a7 (U.length + 1) c7) (.bool true) (.int .i64 ((k : Int) + 1)) (.int .i64 ((l : Int) + 1)) w7 from fun T N => ⟨k + 1, l + 1, _, true, by omega, by omega, by go_num, by go_num, rfl, by simp; omega, all_le HQ.out (by have := HRL.out; show R.length ≤ _; omega), HN.out, T, N⟩) (town_push q1 Q2.out (SPX.out) hown7 hg7 (by simpa using hat7)) n7)
                  clear hown7 hg7 hat7 q1 n7 b8 hlt9
                  go_wp2_with fail
                  go_roundw
                  case rel => exact HR.out
                  case measure => simp [intOf]; omega
        · have HS := Lib.hid (ms_and HX.out HY.out rfl hn HM.out)
          have hnb : (x == n) = false := beq_eq_false_iff_ne.2 hn
          clear hn
          have KO : Hid (∀ V, Below wc.heap.size wc V → Calls Try.prog 49 #[.agg #[.slice a1 L.length c1], .agg #[.slice a2 M.length c2]] V (TPost (andOk L M) (andR L M) V)) := Lib.hid fun V g => specAnd_any _ _ L M V hLq hMq ((es.below (g.mono zc)).mono (by have := g.size; omega)) ((gs.below (g.mono zc)).mono (by have := g.size; omega))
          clear es gs
          go_upto_region 8 with fail
          go_cut [15, 16] from 27 to 212 (fun p q wx => q = .bool (andOk L M) ∧ RBox wc (andR L M) p wx ∧ Below wc.heap.size wc wx)
          case first =>
            go_region_held3 (fun V => V.cell? ⟨b, o + k * 3 + 1, none⟩ = some (.slice a1 L.length c1) ∧ V.cell? ⟨b', o' + l * 3 + 1, none⟩ = some (.slice a2 M.length c2)) (go_keep)
              (first
                | (go_at_call 49; refine (KO.out _ (by go_grown)).mono ?_; rintro e w5 ⟨v5, rfl, q5, hb5⟩; obtain ⟨oa, oc, rfl, _⟩ := id q5; have n5 : Below wc.heap.size wc w5 := Below.step (by go_grown) hb5; have z5 := n5.size; have z5b := hb5.size; (try simp at z5b); have y0 := (n5.cell (p := ⟨b, o + k * 3 + 1, none⟩) zA).trans e1; have y1 := (n5.cell (p := ⟨b', o' + l * 3 + 1, none⟩) zB).trans g1; (try (have T5 : BxI w5 wc.heap.size := BxI.kept (by first | exact BxI.new wc | exact BxI.new wc.drew) hb5 (by first | (simp; done) | (simp; omega)))); (try (obtain ⟨t0, t1⟩ := id T5)); have HQ5 := Lib.hid q5; have HN5 := Lib.hid n5; clear q5 hb5 n5))
            all_goals
              have hn5 := HN5.out
              go_wp2_with fail
              go_meet
              case rel =>
                first
                  | exact ⟨rfl, RBox.first HQ5.out T5 (by first | omega | (simp; done) | (simp; omega)) (by omega), by go_grown⟩
                  | exact ⟨rfl, RBox.last HQ5.out (by first | exact Nat.le_refl _ | omega | (simp; done) | (simp; omega)) (by omega), by go_grown⟩
          case rest =>
            rename World => w6
            obtain ⟨rfl, ⟨gp, ra, rc, rfl, gpl, gp1, gp2, gR⟩, n6⟩ := hcut
            have b6 := bc.trans (n6.mono bc.size)
            have HO6 := Lib.hid (HOwc.out.below n6)
            have GR := Lib.hid gR
            have N6 := Lib.hid n6
            have z6 := b6.size
            clear e0 e1 e2 g0 g1 g2 zA zB nA nA2 nB nB2 gR KO n6
            obtain ⟨e0, e1, e2, es⟩ := CA.out w6 b6
            obtain ⟨g0, g1, g2, gs⟩ := CB.out w6 b6
            clear es gs
            rcases hok : andOk L M
            · have HJ := Lib.hid (HS.out.1 (and_none hok))
              clear hok HS
              go_wp2_with fail
              exact bodyPost_ret (v := .tuple #[.slice (some ⟨w6.heap.size, 0, none⟩) 0 0, .bool false]) (by simp [results, Try.results11, go_sem]) rfl (HNO.out _ _ HJ.out (b6.alloc b6.size _))
            obtain ⟨R, hR⟩ : ∃ R, andR L M = R := ⟨_, rfl⟩
            have HRL := Lib.hid (spOk_iff.1 (and_facts hok).1).2
            have HN0 := Lib.hid (HS.out.2 _ (and_some (x := (x, L, f)) (y := (x, M, g)) hok))
            simp only at HN0
            rw [hR] at HRL HN0 GR gp2
            clear hok hR HS
            have zA : b < w6.heap.size := by omega
            have zB : b' < w6.heap.size := by omega
            have hUU : U.length ≤ 2097152 := by omega
            have GPL := Lib.hid (show wc.heap.size ≤ gp from gpl)
            rcases f
            · skip
              as_aux_lemma =>
                have HN := Lib.hid (show mg n (A.drop (k + 1)) (B.drop (l + 1)) (U ++ [(x, R, false)]) fd = joinL A B n from by have := HN0.out; simpa using this)
                obtain ⟨cs, q1, q2⟩ := id HO6.out
                have Q1 := Lib.hid q1
                have Q2 := Lib.hid q2
                have SPX := Lib.hid (show SpX w6 0 (Value.slice va U.length vc).ownBlock (.slice ra R.length rc) R from (SpX.res GR.out (fun c e => (Tmo.TOwn.lt HOwc.out c e).2)).down (Nat.zero_le _))
                have HLT := Lib.hid (fun j e => (World.ownsRow.lt q1 j e).1)
                have GPK := Lib.hid (show ∀ W x7, W.grownBy x7 (Value.slice va U.length vc).ownBlock → Below w6.heap.size w6 W → x7.cell? ⟨gp, 0, none⟩ = some (.slice ra R.length rc) from fun W x7 hg hW => (World.cell?_of_block (a := ⟨gp, 0, none⟩) (hg.block gp (Nat.lt_of_lt_of_le gp1 hW.size) (fun e => by have := (Tmo.TOwn.lt HOwc.out gp e.symm).2; have := GPL.out; omega))).trans ((hW.cell (p := ⟨gp, 0, none⟩) gp1).trans gp2))
                have PSH := Lib.hid (show ∀ (W w7 : World) (a7 : Option Addr) (c7 : Nat) (_ : W.grownBy w7 (Value.slice va U.length vc).ownBlock) (_ : Below w6.heap.size w6 W) (_ : W.ownsRow w.heap.size 83 3 (.slice va U.length vc) U.length cs) (_ : w7.ownsRow w.heap.size 83 3 (.slice a7 (U.length + 1) c7) (U.length + 1) (cs ++ [.int .i64 x, .slice ra R.length rc, .bool false])) (_ : (Value.slice a7 (U.length + 1) c7).ownBlock = (Value.slice va U.length vc).ownBlock ∨ (Value.slice a7 (U.length + 1) c7).ownBlock = some W.heap.size), Tmo.TOwn w7 w.heap.size 0 (.slice a7 (U.length + 1) c7) (U ++ [(x, R, false)]) from fun W w7 a7 c7 hg hW ho hown hat => town_push ho (fun i hi => by
                  obtain ⟨h1, h4, a, cap, h2, h3⟩ := Q2.out i hi
                  exact ⟨h1, h4, a, cap, h2, h3.below hW⟩) (SPX.out.below hW) hown hg hat)
                clear q1 q2 HN0
                clear e1 g0 g1
                go_upto_region 11 with fail
                refine wp_region_noPanic ?_
                refine wp_region_held_drew (S := fun V => V.cell? ⟨b, o + k * 3, none⟩ = some (.int .i64 x) ∧ V.cell? ⟨gp, 0, none⟩ = some (.slice ra R.length rc) ∧ V.cell? ⟨b, o + k * 3 + 2, none⟩ = some (.bool false)) (by kernel_rfl) ?_ (fun hHeld => ?_)
                · go_keep
                refine take0 (v := ?vq0) (by kernel_rfl) (by kernel_rfl) (by kernel_rfl) (fun _ _ _ h => h) (by rfl) ?yq0 (by assumption) ?rq0
                case yq0 => (intro w hSw; (try (obtain ⟨hSw1, hSw2, hSw3⟩ := hSw)); (try dsimp only at hSw); go_simp; (try with_reducible rfl))
                (try simp only [Act.put, List.setIfInBounds_toArray, List.set_cons_zero, List.set_cons_succ])
                refine take1 (v := ?vq1) (by kernel_rfl) (by kernel_rfl) (by kernel_rfl) (fun _ _ _ h => h) (by rfl) ?yq1 (by assumption) ?rq1
                case yq1 => (intro w hSw; (try (obtain ⟨hSw1, hSw2, hSw3⟩ := hSw)); (try dsimp only at hSw); go_simp; (try with_reducible rfl))
                (try simp only [Act.put, List.setIfInBounds_toArray, List.set_cons_zero, List.set_cons_succ])
                refine take2 (v := ?vq2) (by kernel_rfl) (by kernel_rfl) (by kernel_rfl) (fun _ _ _ h => h) (by rfl) ?yq2 (by assumption) ?rq2
                case yq2 => (intro w hSw; (try (obtain ⟨hSw1, hSw2, hSw3⟩ := hSw)); (try dsimp only at hSw); go_simp; (try with_reducible rfl))
                (try simp only [Act.put, List.setIfInBounds_toArray, List.set_cons_zero, List.set_cons_succ])
                refine take3 (v := ?vq3) (by kernel_rfl) (by kernel_rfl) (by kernel_rfl) (fun _ _ _ h => h) (by rfl) ?yq3 (by assumption) ?rq3
                case yq3 => (intro w hSw; (try (obtain ⟨hSw1, hSw2, hSw3⟩ := hSw)); (try dsimp only at hSw); go_simp; (try with_reducible rfl))
                (try simp only [Act.put, List.setIfInBounds_toArray, List.set_cons_zero, List.set_cons_succ])
                refine take4 (v := ?vq4) (by kernel_rfl) (by kernel_rfl) (by kernel_rfl) (fun _ _ _ h => h) (by rfl) ?yq4 (by assumption) ?rq4
                case yq4 => (intro w hSw; (try (obtain ⟨hSw1, hSw2, hSw3⟩ := hSw)); (try dsimp only at hSw); go_simp; (try with_reducible rfl))
                (try simp only [Act.put, List.setIfInBounds_toArray, List.set_cons_zero, List.set_cons_succ])
                refine take5 (v := ?vq5) (by kernel_rfl) (by kernel_rfl) (by kernel_rfl) (fun _ _ _ h => h) (by rfl) ?yq5 (by assumption) ?rq5
                case yq5 => (intro w hSw; (try (obtain ⟨hSw1, hSw2, hSw3⟩ := hSw)); (try dsimp only at hSw); go_simp; (try with_reducible rfl))
                (try simp only [Act.put, List.setIfInBounds_toArray, List.set_cons_zero, List.set_cons_succ])
                refine take6 (v := ?vq6) (by kernel_rfl) (by kernel_rfl) (by kernel_rfl) (fun _ _ _ h => h) (by rfl) ?yq6 (by assumption) ?rq6
                case yq6 => (intro w hSw; (try (obtain ⟨hSw1, hSw2, hSw3⟩ := hSw)); (try dsimp only at hSw); go_simp; (try with_reducible rfl))
                (try simp only [Act.put, List.setIfInBounds_toArray, List.set_cons_zero, List.set_cons_succ])
                refine take7 (v := ?vq7) (by kernel_rfl) (by kernel_rfl) (by kernel_rfl) (fun _ _ _ h => h) (by rfl) ?yq7 (by assumption) ?rq7
                case yq7 => (intro w hSw; (try (obtain ⟨hSw1, hSw2, hSw3⟩ := hSw)); (try dsimp only at hSw); go_simp; (try with_reducible rfl))
                (try simp only [Act.put, List.setIfInBounds_toArray, List.set_cons_zero, List.set_cons_succ])
                refine take8 (v := ?vq8) (by kernel_rfl) (by kernel_rfl) (by kernel_rfl) (fun _ _ _ h => h) (by rfl) ?yq8 (by assumption) ?rq8
                case yq8 => (intro w hSw; (try (obtain ⟨hSw1, hSw2, hSw3⟩ := hSw)); (try dsimp only at hSw); go_simp; (try with_reducible rfl))
                (try simp only [Act.put, List.setIfInBounds_toArray, List.set_cons_zero, List.set_cons_succ])
                refine take9 (v := ?vq9) (by kernel_rfl) (by kernel_rfl) (by kernel_rfl) (fun _ _ _ h => h) (by rfl) ?yq9 (by assumption) ?rq9
                case yq9 => (intro w hSw; (try (obtain ⟨hSw1, hSw2, hSw3⟩ := hSw)); (try dsimp only at hSw); go_simp; (try with_reducible rfl))
                (try simp only [Act.put, List.setIfInBounds_toArray, List.set_cons_zero, List.set_cons_succ])
                refine take10 (v := ?vq10) (by kernel_rfl) (by kernel_rfl) (by kernel_rfl) (fun _ _ _ h => h) (by rfl) ?yq10 (by assumption) ?rq10
                case yq10 => (intro w hSw; (try (obtain ⟨hSw1, hSw2, hSw3⟩ := hSw)); (try dsimp only at hSw); go_simp; (try with_reducible rfl))
                (try simp only [Act.put, List.setIfInBounds_toArray, List.set_cons_zero, List.set_cons_succ])
                refine take11 (v := ?vq11) (by kernel_rfl) (by kernel_rfl) (by kernel_rfl) (fun _ _ _ h => h) (by rfl) ?yq11 (by assumption) ?rq11
                case yq11 => (intro w hSw; (try (obtain ⟨hSw1, hSw2, hSw3⟩ := hSw)); (try dsimp only at hSw); go_simp; (try with_reducible rfl))
                (try simp only [Act.put, List.setIfInBounds_toArray, List.set_cons_zero, List.set_cons_succ])
                refine take12 (v := ?vq12) (by kernel_rfl) (by kernel_rfl) (by kernel_rfl) (fun _ _ _ h => h) (by rfl) ?yq12 (by assumption) ?rq12
                case yq12 => (intro w hSw; (try (obtain ⟨hSw1, hSw2, hSw3⟩ := hSw)); (try dsimp only at hSw); go_simp; (try with_reducible rfl))
                (try simp only [Act.put, List.setIfInBounds_toArray, List.set_cons_zero, List.set_cons_succ])
                refine skip13 (by kernel_rfl) (by kernel_rfl) (by kernel_rfl) (fun _ _ _ h => h) (by rfl) (by assumption) ?_
                (try simp only [Act.put, List.setIfInBounds_toArray, List.set_cons_zero, List.set_cons_succ])
                refine skip14 (by kernel_rfl) (by kernel_rfl) (by kernel_rfl) (fun _ _ _ h => h) (by rfl) (by assumption) ?_
                (try simp only [Act.put, List.setIfInBounds_toArray, List.set_cons_zero, List.set_cons_succ])
                refine skip15 (by kernel_rfl) (by kernel_rfl) (by kernel_rfl) (fun _ _ _ h => h) (by rfl) (by assumption) ?_
                (try simp only [Act.put, List.setIfInBounds_toArray, List.set_cons_zero, List.set_cons_succ])
                refine skip16 (by kernel_rfl) (by kernel_rfl) (by kernel_rfl) (fun _ _ _ h => h) (by rfl) (by assumption) ?_
                (try simp only [Act.put, List.setIfInBounds_toArray, List.set_cons_zero, List.set_cons_succ])
                refine skip17 (by kernel_rfl) (by kernel_rfl) (by kernel_rfl) (fun _ _ _ h => h) (by rfl) (by assumption) ?_
                (try simp only [Act.put, List.setIfInBounds_toArray, List.set_cons_zero, List.set_cons_succ])
                refine take18 (v := ?vq18) (by kernel_rfl) (by kernel_rfl) (by kernel_rfl) (fun _ _ _ h => h) (by rfl) ?yq18 (by assumption) ?rq18
                case yq18 => (intro w hSw; (try (obtain ⟨hSw1, hSw2, hSw3⟩ := hSw)); (try dsimp only at hSw); go_simp; (try with_reducible rfl))
                (try simp only [Act.put, List.setIfInBounds_toArray, List.set_cons_zero, List.set_cons_succ])
                refine take19 (v := ?vq19) (by kernel_rfl) (by kernel_rfl) (by kernel_rfl) (fun _ _ _ h => h) (by rfl) ?yq19 (by assumption) ?rq19
                case yq19 => (intro w hSw; (try (obtain ⟨hSw1, hSw2, hSw3⟩ := hSw)); (try dsimp only at hSw); go_simp; (try with_reducible rfl))
                (try simp only [Act.put, List.setIfInBounds_toArray, List.set_cons_zero, List.set_cons_succ])
                refine wpAnyH_ready (rs := [20]) (by kernel_rfl) (by simp) ?_
                refine come20 (fun K hK => ?_) ?_
                · go_simp
                  refine hK.out _ _ ?_ (fun hHeld => ?_)
                  · go_keep
                  clear hK K
                  (try simp only [Act.put, List.setIfInBounds_toArray, List.set_cons_zero, List.set_cons_succ])
                  refine wpAnyH_ready (rs := [21]) (by kernel_rfl) (by simp) ?_
                  refine come21 (fun K hK => ?_) ?_
                  · refine step_append_rows _ rfl (.tmp 54) (.tmp 74) 24 rfl w.heap.size 83 i0 (.agg #[.int .i64 0, .slice none 0 0, .bool false]) 3 40 Try.underlying24 hi hz0 hz1 hz2 rfl (by decide) (.slice va U.length vc) U.length cs (by rfl) (Q1.out.alloc (.cells #[.int .i64 x, .slice ra R.length rc, .bool false] 83)) (some ⟨w6.heap.size, 0, none⟩) 1 1 [.int .i64 x, .slice ra R.length rc, .bool false] (by rfl) rfl (fun e => by cases e) (fun ad e j u hu => by cases e; exact Tmo.term_new (by rfl) j u hu) Tmo.term_one (by unfold maxLen; omega) (by omega) (by simp; omega) ?_; intro a7 c7 w7 hown7 hg7 hat7; have T7 := Lib.hid (PSH.out _ w7 a7 c7 hg7 (by go_grown) (by exact (Q1.out.alloc (.cells #[.int .i64 x, .slice ra R.length rc, .bool false] 83))) hown7 (by simpa using hat7)); have n7 : Below w.heap.size w w7 := Below.grown (by go_grown) hg7 (by simp; omega) HLT.out; have v0 := (CA.out _ n7).1; have v1 : w7.cell? ⟨gp, 0, none⟩ = some (.slice ra R.length rc) := GPK.out _ _ hg7 (by go_grown); have v2 := (CA.out _ n7).2.2.1; have N7 := Lib.hid n7; clear hown7 hat7 hg7 n7
                    refine hK.out _ _ ?_ (fun hHeld => ?_)
                    · go_keep
                    clear hK K
                    (try simp only [Act.put, List.setIfInBounds_toArray, List.set_cons_zero, List.set_cons_succ])
                    refine take22 (v := ?vq22) (by kernel_rfl) (by kernel_rfl) (by kernel_rfl) (fun _ _ _ h => h) (by rfl) ?yq22 (by assumption) ?rq22
                    case yq22 => (intro w hSw; (try (obtain ⟨hSw1, hSw2, hSw3⟩ := hSw)); (try dsimp only at hSw); go_simp; (try with_reducible rfl))
                    (try simp only [Act.put, List.setIfInBounds_toArray, List.set_cons_zero, List.set_cons_succ])
                    refine wpAnyH_done (by kernel_rfl) ?_ _
                    refine NoPanic.normal ?_
                    have HR := Lib.hid (show MRel A B n w (.slice a7 (U.length + 1) c7) (.bool fd) (.int .i64 ((k : Int) + 1)) (.int .i64 ((l : Int) + 1)) w7 from ⟨k + 1, l + 1, _, fd, by omega, by omega, by go_num, by go_num, rfl, by simp; omega, all_le HQ.out (by have := HRL.out; show R.length ≤ _; omega), HN.out, T7.out, N7.out⟩)
                    go_wp2_with fail
                    go_roundw
                    case rel => exact HR.out
                    case measure => simp [intOf]; omega
                  exact AllReadyH.nil
                exact AllReadyH.nil
            · rcases g
              · skip
                as_aux_lemma =>
                  have HN := Lib.hid (show mg n (A.drop (k + 1)) (B.drop (l + 1)) (U ++ [(x, R, false)]) fd = joinL A B n from by have := HN0.out; simpa using this)
                  obtain ⟨cs, q1, q2⟩ := id HO6.out
                  have Q1 := Lib.hid q1
                  have Q2 := Lib.hid q2
                  have SPX := Lib.hid (show SpX w6 0 (Value.slice va U.length vc).ownBlock (.slice ra R.length rc) R from (SpX.res GR.out (fun c e => (Tmo.TOwn.lt HOwc.out c e).2)).down (Nat.zero_le _))
                  have HLT := Lib.hid (fun j e => (World.ownsRow.lt q1 j e).1)
                  have GPK := Lib.hid (show ∀ W x7, W.grownBy x7 (Value.slice va U.length vc).ownBlock → Below w6.heap.size w6 W → x7.cell? ⟨gp, 0, none⟩ = some (.slice ra R.length rc) from fun W x7 hg hW => (World.cell?_of_block (a := ⟨gp, 0, none⟩) (hg.block gp (Nat.lt_of_lt_of_le gp1 hW.size) (fun e => by have := (Tmo.TOwn.lt HOwc.out gp e.symm).2; have := GPL.out; omega))).trans ((hW.cell (p := ⟨gp, 0, none⟩) gp1).trans gp2))
                  have PSH := Lib.hid (show ∀ (W w7 : World) (a7 : Option Addr) (c7 : Nat) (_ : W.grownBy w7 (Value.slice va U.length vc).ownBlock) (_ : Below w6.heap.size w6 W) (_ : W.ownsRow w.heap.size 83 3 (.slice va U.length vc) U.length cs) (_ : w7.ownsRow w.heap.size 83 3 (.slice a7 (U.length + 1) c7) (U.length + 1) (cs ++ [.int .i64 x, .slice ra R.length rc, .bool false])) (_ : (Value.slice a7 (U.length + 1) c7).ownBlock = (Value.slice va U.length vc).ownBlock ∨ (Value.slice a7 (U.length + 1) c7).ownBlock = some W.heap.size), Tmo.TOwn w7 w.heap.size 0 (.slice a7 (U.length + 1) c7) (U ++ [(x, R, false)]) from fun W w7 a7 c7 hg hW ho hown hat => town_push ho (fun i hi => by
                    obtain ⟨h1, h4, a, cap, h2, h3⟩ := Q2.out i hi
                    exact ⟨h1, h4, a, cap, h2, h3.below hW⟩) (SPX.out.below hW) hown hg hat)
                  clear q1 q2 HN0
                  clear e1 g0 g1
                  go_upto_region 11 with fail
                  go_region_held3 (fun V => V.cell? ⟨b, o + k * 3, none⟩ = some (.int .i64 x) ∧ V.cell? ⟨gp, 0, none⟩ = some (.slice ra R.length rc) ∧ V.cell? ⟨b, o + k * 3 + 2, none⟩ = some (.bool true) ∧ V.cell? ⟨b', o' + l * 3 + 2, none⟩ = some (.bool false)) (go_keep)
                    (first
                      | (refine step_append_rows _ rfl (.tmp 54) (.tmp 74) 24 rfl w.heap.size 83 i0 (.agg #[.int .i64 0, .slice none 0 0, .bool false]) 3 40 Try.underlying24 hi hz0 hz1 hz2 rfl (by decide) (.slice va U.length vc) U.length cs (by rfl) (Q1.out.alloc (.cells #[.int .i64 x, .slice ra R.length rc, .bool false] 83)) (some ⟨w6.heap.size, 0, none⟩) 1 1 [.int .i64 x, .slice ra R.length rc, .bool false] (by rfl) rfl (fun e => by cases e) (fun ad e j u hu => by cases e; exact Tmo.term_new (by rfl) j u hu) Tmo.term_one (by unfold maxLen; omega) (by omega) (by simp; omega) ?_; intro a7 c7 w7 hown7 hg7 hat7; have T7 := Lib.hid (PSH.out _ w7 a7 c7 hg7 (by go_grown) (by exact (Q1.out.alloc (.cells #[.int .i64 x, .slice ra R.length rc, .bool false] 83))) hown7 (by simpa using hat7)); have n7 : Below w.heap.size w w7 := Below.grown (by go_grown) hg7 (by simp; omega) HLT.out; have v0 := (CA.out _ n7).1; have v1 : w7.cell? ⟨gp, 0, none⟩ = some (.slice ra R.length rc) := GPK.out _ _ hg7 (by go_grown); have v2 := (CA.out _ n7).2.2.1; have v3 := (CB.out _ n7).2.2.1; have N7 := Lib.hid n7; clear hown7 hat7 hg7 n7)
                      | fail)
                  all_goals
                    have HR := Lib.hid (show MRel A B n w (.slice a7 (U.length + 1) c7) (.bool fd) (.int .i64 ((k : Int) + 1)) (.int .i64 ((l : Int) + 1)) w7 from ⟨k + 1, l + 1, _, fd, by omega, by omega, by go_num, by go_num, rfl, by simp; omega, all_le HQ.out (by have := HRL.out; show R.length ≤ _; omega), HN.out, T7.out, N7.out⟩)
                    go_wp2_with fail
                    go_roundw
                    case rel => exact HR.out
                    case measure => simp [intOf]; omega
              · skip
                as_aux_lemma =>
                  have HN := Lib.hid (show mg n (A.drop (k + 1)) (B.drop (l + 1)) (U ++ [(x, R, true)]) fd = joinL A B n from by have := HN0.out; simpa using this)
                  obtain ⟨cs, q1, q2⟩ := id HO6.out
                  have Q1 := Lib.hid q1
                  have Q2 := Lib.hid q2
                  have SPX := Lib.hid (show SpX w6 0 (Value.slice va U.length vc).ownBlock (.slice ra R.length rc) R from (SpX.res GR.out (fun c e => (Tmo.TOwn.lt HOwc.out c e).2)).down (Nat.zero_le _))
                  have HLT := Lib.hid (fun j e => (World.ownsRow.lt q1 j e).1)
                  have GPK := Lib.hid (show ∀ W x7, W.grownBy x7 (Value.slice va U.length vc).ownBlock → Below w6.heap.size w6 W → x7.cell? ⟨gp, 0, none⟩ = some (.slice ra R.length rc) from fun W x7 hg hW => (World.cell?_of_block (a := ⟨gp, 0, none⟩) (hg.block gp (Nat.lt_of_lt_of_le gp1 hW.size) (fun e => by have := (Tmo.TOwn.lt HOwc.out gp e.symm).2; have := GPL.out; omega))).trans ((hW.cell (p := ⟨gp, 0, none⟩) gp1).trans gp2))
                  have PSH := Lib.hid (show ∀ (W w7 : World) (a7 : Option Addr) (c7 : Nat) (_ : W.grownBy w7 (Value.slice va U.length vc).ownBlock) (_ : Below w6.heap.size w6 W) (_ : W.ownsRow w.heap.size 83 3 (.slice va U.length vc) U.length cs) (_ : w7.ownsRow w.heap.size 83 3 (.slice a7 (U.length + 1) c7) (U.length + 1) (cs ++ [.int .i64 x, .slice ra R.length rc, .bool true])) (_ : (Value.slice a7 (U.length + 1) c7).ownBlock = (Value.slice va U.length vc).ownBlock ∨ (Value.slice a7 (U.length + 1) c7).ownBlock = some W.heap.size), Tmo.TOwn w7 w.heap.size 0 (.slice a7 (U.length + 1) c7) (U ++ [(x, R, true)]) from fun W w7 a7 c7 hg hW ho hown hat => town_push ho (fun i hi => by
                    obtain ⟨h1, h4, a, cap, h2, h3⟩ := Q2.out i hi
                    exact ⟨h1, h4, a, cap, h2, h3.below hW⟩) (SPX.out.below hW) hown hg hat)
                  clear q1 q2 HN0
                  clear e1 g0 g1
                  go_upto_region 11 with fail
                  go_region_held3 (fun V => V.cell? ⟨b, o + k * 3, none⟩ = some (.int .i64 x) ∧ V.cell? ⟨gp, 0, none⟩ = some (.slice ra R.length rc) ∧ V.cell? ⟨b, o + k * 3 + 2, none⟩ = some (.bool true) ∧ V.cell? ⟨b', o' + l * 3 + 2, none⟩ = some (.bool true)) (go_keep)
                    (first
                      | (refine step_append_rows _ rfl (.tmp 54) (.tmp 74) 24 rfl w.heap.size 83 i0 (.agg #[.int .i64 0, .slice none 0 0, .bool false]) 3 40 Try.underlying24 hi hz0 hz1 hz2 rfl (by decide) (.slice va U.length vc) U.length cs (by rfl) (Q1.out.alloc (.cells #[.int .i64 x, .slice ra R.length rc, .bool true] 83)) (some ⟨w6.heap.size, 0, none⟩) 1 1 [.int .i64 x, .slice ra R.length rc, .bool true] (by rfl) rfl (fun e => by cases e) (fun ad e j u hu => by cases e; exact Tmo.term_new (by rfl) j u hu) Tmo.term_one (by unfold maxLen; omega) (by omega) (by simp; omega) ?_; intro a7 c7 w7 hown7 hg7 hat7; have T7 := Lib.hid (PSH.out _ w7 a7 c7 hg7 (by go_grown) (by exact (Q1.out.alloc (.cells #[.int .i64 x, .slice ra R.length rc, .bool true] 83))) hown7 (by simpa using hat7)); have n7 : Below w.heap.size w w7 := Below.grown (by go_grown) hg7 (by simp; omega) HLT.out; have v0 := (CA.out _ n7).1; have v1 : w7.cell? ⟨gp, 0, none⟩ = some (.slice ra R.length rc) := GPK.out _ _ hg7 (by go_grown); have v2 := (CA.out _ n7).2.2.1; have v3 := (CB.out _ n7).2.2.1; have N7 := Lib.hid n7; clear hown7 hat7 hg7 n7)
                      | fail)
                  all_goals
                    have HR := Lib.hid (show MRel A B n w (.slice a7 (U.length + 1) c7) (.bool fd) (.int .i64 ((k : Int) + 1)) (.int .i64 ((l : Int) + 1)) w7 from ⟨k + 1, l + 1, _, fd, by omega, by omega, by go_num, by go_num, rfl, by simp; omega, all_le HQ.out (by have := HRL.out; show R.length ≤ _; omega), HN.out, T7.out, N7.out⟩)
                    go_wp2_with fail
                    go_roundw
                    case rel => exact HR.out
                    case measure => simp [intOf]; omega
      · obtain rfl : l = B.length := by omega
        have HS := Lib.hid (ms_left HX.out (fun z hz => by rw [List.getElem?_eq_none (Nat.le_refl _)] at hz; cases hz) HM.out)
        go_wp2_with fail
        refine wp_region_quiet_below (by kernel_rfl) (by kernel_rfl) ?_
        repeat (any_goals (first | go_big_quiet_step (fail) | quiet_step (fail)))
        refine wpQuiet_nil ?_
        intro wa hw
        have nn := quiet_end hw
        have ba := hb.trans (nn.mono hb.size)
        have HOwa := Lib.hid (HO.out.below nn)
        clear hw nn
        as_aux_lemma =>
          obtain ⟨e0, e1, e2, es⟩ := CA.out wa ba
          by_cases hn : x = n
          · have HJ := Lib.hid (HS.out.1 hn)
            have hnb : (x == n) = true := by rw [hn]; simp
            clear es e1 e2 HS
            go_wp2_with fail
            exact bodyPost_ret (v := .tuple #[.slice (some ⟨wa.heap.size, 0, none⟩) 0 0, .bool false]) (by simp [results, Try.results11, go_sem]) rfl (HNO.out _ _ HJ.out (ba.alloc ba.size _))
          · have HN := Lib.hid (HS.out.2 hn)
            have hnb : (x == n) = false := beq_eq_false_iff_ne.2 hn
            clear HS hn
            have LB : Below wa.heap.size wa (wa.alloc (.cells #[.int .i64 x, .slice a1 L.length c1, .bool f] 83)) := (Below.refl _ _).alloc (Nat.le_refl _) _
            have SPX := Lib.hid (fun (cs : List Value) (q : (wa.alloc (.cells #[.int .i64 x, .slice a1 L.length c1, .bool f] 83)).ownsRow w.heap.size 83 3 (.slice va U.length vc) U.length cs) => SpX.of (es.below (LB.mono ba.size)) (by have := LB.size; have := ba.size; omega) (fun c e => (World.ownsRow.lt q c e).1))
            obtain ⟨cs, q1, q2⟩ := Tmo.TOwn.below HOwa.out LB
            have Q2 := Lib.hid q2
            have hlt9 := World.ownsRow.lt q1
            have hUU : U.length ≤ 2097152 := by omega
            have b8 : Below w.heap.size w (wa.alloc (.cells #[.int .i64 x, .slice a1 L.length c1, .bool f] 83)) := ba.trans (LB.mono ba.size)
            clear q2 LB
            go_wp2_with (at_builtin; refine Ap2.wpList_append _ rfl (.tmp 112) (.tmp 117) 24 rfl w.heap.size 83 i0 (.agg #[.int .i64 0, .slice none 0 0, .bool false]) 3 40 Try.underlying24 hi hz0 hz1 hz2 rfl (by decide) _ U.length cs rfl q1 (some ⟨wa.heap.size, 0, none⟩) 1 1 [.int .i64 x, .slice a1 L.length c1, .bool f] (by rfl) rfl (fun k => by cases k) (fun ad e j u hu => by cases e; exact Tmo.term_new rfl j u hu) Tmo.term_one (by unfold maxLen; omega) (by omega) b8.size ?_)
            intro a7 c7 w7 hown7 hg7 hat7
            have n7 : Below w.heap.size w w7 := Below.grown b8 hg7 b8.size (fun j e => (hlt9 j e).1)
            have HR := Lib.hid ((show ∀ (T : Tmo.TOwn w7 w.heap.size 0 (.slice a7 (U.length + 1) c7) (U ++ [(x, L, f)])) (N : Below w.heap.size w w7), MRel A B n w (.slice a7 (U.length + 1) c7) (.bool fd) (.int .i64 ((k : Int) + 1)) (.int .i64 (B.length : Int)) w7 from fun T N => ⟨k + 1, B.length, _, fd, by omega, by omega, by go_num, by go_num, rfl, by simp; omega, all_le HQ.out hLq, HN.out, T, N⟩) (town_push q1 Q2.out (SPX.out _ q1) hown7 hg7 (by simpa using hat7)) n7)
            clear hown7 hg7 hat7 q1 n7 b8 hlt9
            go_wp2_with fail
            go_roundw
            case rel => exact HR.out
            case measure => simp [intOf]; omega
    · obtain rfl : k = A.length := by omega
      by_cases hlB : l < B.length
      · obtain ⟨b', o', a2, c2, y, M, g, rfl, hbB, hxy, hca⟩ := tm_get HB'.out hlB
        have HY := Lib.hid hxy
        have CB := Lib.hid hca
        have hMq := QB.out _ _ hxy
        simp only at hMq
        clear hxy hca
        have j1 : (l : Int) < (B.length : Int) := by omega
        have j0' : (0 : Int) ≤ (l : Int) := by omega
        have hlz : ((l : Int) == (B.length : Int)) = false := by rw [beq_eq_false_iff_ne]; omega
        have HS := Lib.hid (ms_right HY.out (fun z hz => by rw [List.getElem?_eq_none (Nat.le_refl _)] at hz; cases hz) HM.out)
        go_wp2_with fail
        refine wp_region_quiet_below (by kernel_rfl) (by kernel_rfl) ?_
        repeat (any_goals (first | go_big_quiet_step (fail) | quiet_step (fail)))
        refine wpQuiet_nil ?_
        intro wa hw
        have nn := quiet_end hw
        have ba := hb.trans (nn.mono hb.size)
        have HOwa := Lib.hid (HO.out.below nn)
        clear hw nn
        go_wp2_with fail
        refine wp_region_quiet_below (by kernel_rfl) (by kernel_rfl) ?_
        repeat (any_goals (first | go_big_quiet_step (fail) | quiet_step (fail)))
        refine wpQuiet_nil ?_
        intro wc hw
        have nn := quiet_end hw
        have bc := ba.trans (nn.mono ba.size)
        have HOwc := Lib.hid (HOwa.out.below nn)
        clear hw nn
        as_aux_lemma =>
          obtain ⟨e0, e1, e2, es⟩ := CB.out wc bc
          by_cases hn : y = n
          · have HJ := Lib.hid (HS.out.1 hn)
            have hnb : (y == n) = true := by rw [hn]; simp
            clear es e1 e2 HS
            go_wp2_with fail
            exact bodyPost_ret (v := .tuple #[.slice (some ⟨wc.heap.size, 0, none⟩) 0 0, .bool false]) (by simp [results, Try.results11, go_sem]) rfl (HNO.out _ _ HJ.out (bc.alloc bc.size _))
          · have HN := Lib.hid (HS.out.2 hn)
            have hnb : (y == n) = false := beq_eq_false_iff_ne.2 hn
            clear HS hn
            have LB : Below wc.heap.size wc (wc.alloc (.cells #[.int .i64 y, .slice a2 M.length c2, .bool g] 83)) := (Below.refl _ _).alloc (Nat.le_refl _) _
            have SPX := Lib.hid (fun (cs : List Value) (q : (wc.alloc (.cells #[.int .i64 y, .slice a2 M.length c2, .bool g] 83)).ownsRow w.heap.size 83 3 (.slice va U.length vc) U.length cs) => SpX.of (es.below (LB.mono bc.size)) (by have := LB.size; have := bc.size; omega) (fun c e => (World.ownsRow.lt q c e).1))
            obtain ⟨cs, q1, q2⟩ := Tmo.TOwn.below HOwc.out LB
            have Q2 := Lib.hid q2
            have hlt9 := World.ownsRow.lt q1
            have hUU : U.length ≤ 2097152 := by omega
            have b8 : Below w.heap.size w (wc.alloc (.cells #[.int .i64 y, .slice a2 M.length c2, .bool g] 83)) := bc.trans (LB.mono bc.size)
            clear q2 LB
            go_wp2_with (at_builtin; refine Ap2.wpList_append _ rfl (.tmp 147) (.tmp 152) 24 rfl w.heap.size 83 i0 (.agg #[.int .i64 0, .slice none 0 0, .bool false]) 3 40 Try.underlying24 hi hz0 hz1 hz2 rfl (by decide) _ U.length cs rfl q1 (some ⟨wc.heap.size, 0, none⟩) 1 1 [.int .i64 y, .slice a2 M.length c2, .bool g] (by rfl) rfl (fun k => by cases k) (fun ad e j u hu => by cases e; exact Tmo.term_new rfl j u hu) Tmo.term_one (by unfold maxLen; omega) (by omega) b8.size ?_)
            intro a7 c7 w7 hown7 hg7 hat7
            have n7 : Below w.heap.size w w7 := Below.grown b8 hg7 b8.size (fun j e => (hlt9 j e).1)
            have HR := Lib.hid ((show ∀ (T : Tmo.TOwn w7 w.heap.size 0 (.slice a7 (U.length + 1) c7) (U ++ [(y, M, g)])) (N : Below w.heap.size w w7), MRel A B n w (.slice a7 (U.length + 1) c7) (.bool fd) (.int .i64 (A.length : Int)) (.int .i64 ((l : Int) + 1)) w7 from fun T N => ⟨A.length, l + 1, _, fd, by omega, by omega, by go_num, by go_num, rfl, by simp; omega, all_le HQ.out hMq, HN.out, T, N⟩) (town_push q1 Q2.out (SPX.out _ q1) hown7 hg7 (by simpa using hat7)) n7)
            clear hown7 hg7 hat7 q1 n7 b8 hlt9
            go_wp2_with fail
            go_roundw
            case rel => exact HR.out
            case measure => simp [intOf]; omega
      · obtain rfl : l = B.length := by omega
        have HE := Lib.hid (ms_end HM.out)
        rcases fd
        · have HJ := Lib.hid (show joinL A B n = none from HE.out)
          clear HE
          go_wp2_with fail
          exact bodyPost_ret (v := .tuple #[.slice (some ⟨wr.heap.size, 0, none⟩) 0 0, .bool false]) (by simp [results, Try.results11, go_sem]) rfl (HNO.out _ _ HJ.out (hb.alloc hb.size _))
        · have HJ := Lib.hid (show joinL A B n = some U from HE.out)
          have HLE := Lib.hid (show U.length ≤ 1048576 from join_le HE.out)
          clear HE
          go_wp2_with fail
          refine (l6Copy_any _ U _ HO.out.at HLE.out HQ.out).mono ?_
          rintro e w9 ⟨v9, fs9, rfl, hT9, hb9⟩
          obtain ⟨a9, c9, rfl, hz9⟩ := hT9.form
          have HT9 := Lib.hid hT9
          have b9 := hb.trans (hb9.mono hb.size)
          clear hT9 hb9
          go_wp2_with fail
          refine bodyPost_ret (v := .tuple #[.slice a9 U.length c9, .bool true]) (by simp [results, Try.results11, go_sem]) rfl ?_
          rw [HJ.out]
          exact ⟨_, _, rfl, hz9, (HT9.out.tb (Nat.le_refl _)).mono hb.size, b9⟩
end Tmj
end Go.Proofs.Ytdhbjjolgmodjaa
