/- Rows of spans that a function grows by append, over this seat's translation: what it is for a value to own such a row; and the contract of the program's spansNot. Nothing that was there before the call has changed. Condition: the row is in order, at most 1048576 spans. -/
import Derived.Test.YtflmljgmmcdniaaRl
import Derived.Test.YtflmljgmmcdniaaSpto
import Derived.WalkKit
namespace Go.Proofs.Ytflmljgmmcdniaa
open Go.RowKit Go.Sort

/-- The cells of a row of spans. -/
def flat : List (Int × Int) → List Value
  | [] => []
  | (a, b) :: t => .int .i64 a :: .int .i64 b :: flat t
theorem flat_len : ∀ L : List (Int × Int), (flat L).length = L.length * 2
  | [] => rfl
  | (_, _) :: t => by simp [flat, flat_len t]; omega
theorem flat_append : ∀ L M : List (Int × Int), flat (L ++ M) = flat L ++ flat M
  | [], _ => rfl
  | (_, _) :: t, M => by simp [flat, flat_append t M]
theorem flat_at : ∀ (L : List (Int × Int)) (i : Nat) (h : i < L.length), (flat L)[i * 2]? = some (.int .i64 L[i].1) ∧ (flat L)[i * 2 + 1]? = some (.int .i64 L[i].2)
  | (a, b) :: t, 0, _ => ⟨rfl, rfl⟩
  | (a, b) :: t, i + 1, h => by
    have := flat_at t i (by simpa using h)
    rw [show (i + 1) * 2 = i * 2 + 1 + 1 by omega]
    simpa [flat] using this

/-- A row that a call has grown. -/
abbrev Owns (w : World) (base : Nat) (v : Value) (L : List (Int × Int)) : Prop := w.ownsRow base 40 2 v L.length (flat L)

/-- A slice value whose spans are L: none of its own memory, or a row that is new since w. -/
def SRes (L : List (Int × Int)) (base : Nat) (v : Value) (w' : World) : Prop :=
  ∃ a cap, v = .slice a L.length cap ∧ (L = [] ∨ ∃ g n, a = some ⟨g, 0, none⟩ ∧ SpBlk w' g n L ∧ base ≤ g)
theorem SRes.at {L : List (Int × Int)} {base : Nat} {v : Value} {w : World} (h : SRes L base v w) : SpAt w w.heap.size v L := by
  obtain ⟨a, cap, rfl, h⟩ := h
  rcases h with rfl | ⟨g, n, rfl, hb, _⟩
  · exact ⟨_, _, rfl, .inl rfl⟩
  · exact hb.at hb.lt
theorem SRes.kept {L : List (Int × Int)} {base : Nat} {v : Value} {w w' : World} (h : SRes L base v w) (hb : ∀ g, base ≤ g → g < w.heap.size → w'.heap[g]? = w.heap[g]?) : SRes L base v w' := by
  obtain ⟨a, cap, rfl, h⟩ := h
  refine ⟨_, _, rfl, ?_⟩
  rcases h with h | ⟨g, n, rfl, hk, hg⟩
  · exact .inl h
  · exact .inr ⟨g, n, rfl, hk.kept (hb g hg hk.lt), hg⟩
theorem SRes.below {L : List (Int × Int)} {base : Nat} {v : Value} {w w' : World} (h : SRes L base v w) (hb : Below w.heap.size w w') : SRes L base v w' := h.kept fun g _ hl => hb.block g hl
theorem SRes.mono {L : List (Int × Int)} {base base' : Nat} {v : Value} {w : World} (h : SRes L base v w) (hb : base' ≤ base) : SRes L base' v w := by
  obtain ⟨a, cap, rfl, h⟩ := h
  refine ⟨_, _, rfl, ?_⟩
  rcases h with h | ⟨g, n, rfl, hk, hg⟩
  · exact .inl h
  · exact .inr ⟨g, n, rfl, hk, by omega⟩

theorem Owns.res {w : World} {base : Nat} {v : Value} {L : List (Int × Int)} (h : Owns w base v L) : SRes L base v w := by
  obtain ⟨_, ⟨rfl, hn⟩ | ⟨g, cap, cur, rfl, hb, hg, hnc, hcm, hcs, htk⟩⟩ := h
  · obtain rfl : L = [] := List.eq_nil_of_length_eq_zero hn
    exact ⟨none, 0, rfl, .inl rfl⟩
  · refine ⟨some ⟨g, 0, none⟩, cap, rfl, .inr ⟨g, cap, rfl, ⟨cur, hg, hcs, hnc, fun i hi => ?_⟩, hb⟩⟩
    obtain ⟨h1, h2⟩ := flat_at L i hi
    rw [← htk, List.getElem?_take] at h1 h2
    rw [if_pos (by omega)] at h1 h2
    exact ⟨by rw [← h1]; simp, by rw [← h2]; simp⟩

theorem Owns.push {w : World} {base : Nat} {v : Value} {L : List (Int × Int)} {x y : Int} (h : w.ownsRow base 40 2 v (L.length + 1) (flat L ++ [.int .i64 x, .int .i64 y])) : Owns w base v (L ++ [(x, y)]) := by
  show w.ownsRow base 40 2 v (L ++ [(x, y)]).length (flat (L ++ [(x, y)]))
  rw [flat_append, List.length_append]
  exact h

theorem two_cells {w : World} {g : Nat} {x y : Value} {C : Array Value} (h : w.heap[g]? = some (.cells C 40 (0, 0))) (hC : C = #[x, y]) :
    ∀ j u, [x, y][j]? = some u → w.cell? ((⟨g, 0, none⟩ : Addr).add j) = some u := by
  subst hC
  intro j u hu
  have hadd : (⟨g, 0, none⟩ : Addr).add j = ⟨g, j, none⟩ := by unfold Addr.add; split <;> simp_all
  rw [hadd, cell_of_row w g j _ _ (0, 0) h]
  match j, hu with
  | 0, hu => exact hu
  | 1, hu => exact hu
theorem two_new (w : World) (A : Obj) (x y : Int) : ∀ j u, [Value.int .i64 x, .int .i64 y][j]? = some u → ((w.alloc A).alloc (.cells #[.int .i64 x, .int .i64 y] 40)).cell? ((⟨w.heap.size + 1, 0, none⟩ : Addr).add j) = some u := by
  have h := heap_alloc_new (w.alloc A) (.cells #[.int .i64 x, .int .i64 y] 40)
  rw [show (w.alloc A).heap.size = w.heap.size + 1 by simp] at h
  exact two_cells h rfl
theorem two_new0 (w : World) (x y : Int) : ∀ j u, [Value.int .i64 x, .int .i64 y][j]? = some u → (w.alloc (.cells #[.int .i64 x, .int .i64 y] 40)).cell? ((⟨w.heap.size, 0, none⟩ : Addr).add j) = some u :=
  two_cells (heap_alloc_new w (.cells #[.int .i64 x, .int .i64 y] 40)) rfl
theorem two_one (x y : Int) : ∀ u ∈ [Value.int .i64 x, .int .i64 y], u.oneCell' = true := by
  intro u hu
  simp at hu
  rcases hu with rfl | rfl <;> rfl

theorem Owns.gone {w wr w1 : World} {B : Nat} {v : Value} {L : List (Int × Int)} {o : Obj} (h : Owns wr B v L) (hb : Below B w wr) (hB : B ≤ wr.heap.size) (hg : (wr.alloc o).grownBy w1 v.ownBlock) : Below B w w1 :=
  (hb.alloc hB o).grown hg (by simp; omega) fun k hk => ((World.ownsRow.lt h) k hk).1

/-- What the loop of spansNot keeps. -/
def NotRel (L : List (Int × Int)) (w : World) (v lo i : Value) (wr : World) : Prop :=
  ∃ (k : Nat) (low : Int) (G : List (Int × Int)), k ≤ L.length ∧ i = .int .i64 (k : Int) ∧ lo = .int .i64 low ∧ 0 ≤ low ∧ low ≤ 10000000 ∧ Wf low (L.drop k) ∧ notL L = G ++ notFrom low (L.drop k) ∧ G.length ≤ k ∧
    Owns wr w.heap.size v G ∧ Below w.heap.size w wr

theorem drop_at {L : List (Int × Int)} {k : Nat} {x y : Int} (h : L[k]? = some (x, y)) : L.drop k = (x, y) :: L.drop (k + 1) := by
  have hk : k < L.length := (List.getElem?_eq_some_iff.1 h).1
  rw [List.drop_eq_getElem_cons hk, (List.getElem?_eq_some_iff.1 h).2]

theorem not_yes {L G : List (Int × Int)} {w wr : World} {v : Value} {k : Nat} {x y low : Int} (hL : L[k]? = some (x, y)) (hw : Wf low (L.drop k)) (h0 : 0 ≤ low) (he : notL L = G ++ notFrom low (L.drop k)) (hn : G.length ≤ k) (hlt : low < x)
    (ho : Owns wr w.heap.size v (G ++ [(low, x - 1)])) (hb : Below w.heap.size w wr) : NotRel L w v (.int .i64 (y + 1)) (.int .i64 ((k : Int) + 1)) wr := by
  have hk : k < L.length := (List.getElem?_eq_some_iff.1 hL).1
  rw [drop_at hL] at hw he
  obtain ⟨h1, h2, h3, h4⟩ := hw
  refine ⟨k + 1, y + 1, _, by omega, by go_num, rfl, by omega, by omega, h4.mono (by omega), ?_, by simp; omega, ho, hb⟩
  rw [he, notFrom, if_pos hlt, List.append_assoc]
  rfl
theorem not_no {L G : List (Int × Int)} {w wr : World} {v : Value} {k : Nat} {x y low : Int} (hL : L[k]? = some (x, y)) (hw : Wf low (L.drop k)) (h0 : 0 ≤ low) (he : notL L = G ++ notFrom low (L.drop k)) (hn : G.length ≤ k) (hlt : ¬ low < x)
    (ho : Owns wr w.heap.size v G) (hb : Below w.heap.size w wr) : NotRel L w v (.int .i64 (y + 1)) (.int .i64 ((k : Int) + 1)) wr := by
  have hk : k < L.length := (List.getElem?_eq_some_iff.1 hL).1
  rw [drop_at hL] at hw he
  obtain ⟨h1, h2, h3, h4⟩ := hw
  refine ⟨k + 1, y + 1, _, by omega, by go_num, rfl, by omega, by omega, h4.mono (by omega), ?_, by omega, ho, hb⟩
  rw [he, notFrom, if_neg hlt]

def SPost (L : List (Int × Int)) (w : World) (e : Ending) (w' : World) : Prop := ∃ v, e = .returned v ∧ SRes L w.heap.size v w' ∧ Below w.heap.size w w'

set_option maxHeartbeats 2000000 in
theorem spansNot_any (v0 : Value) (L : List (Int × Int)) (w : World) (hl : L.length ≤ 1048576) (hwf : Wf 0 L) (h : SpAt w w.heap.size v0 L) : Calls Try.prog 57 #[v0] w (SPost (notL L) w) := by
  obtain ⟨a, cap, rfl, h⟩ := h
  have HH := Lib.hid h
  obtain ⟨i0, hi, hz0, hz1, hz2⟩ := info_parts infoSpan
  clear h
  go_enter Try.func57, Try.ntmps57
  go_wp2
  go_loopw [3, 4, 9] (fun v lo i wr => NotRel L w v lo i wr) (fun _ _ i _ => L.length - (intOf i).toNat)
  case atStart => exact ⟨0, 0, [], Nat.zero_le _, rfl, rfl, Int.le_refl _, by omega, hwf, rfl, Nat.le_refl _, World.ownsRow_nil _ _ _ _, Below.refl _ _⟩
  case round =>
    obtain ⟨k, low, G, hk, rfl, rfl, h0, hlo, hw, he, hn, hown, hb⟩ := hrel
    have HW := Lib.hid hw
    have HE := Lib.hid he
    clear hw he
    have z1 := hb.size
    by_cases hlt : k < L.length
    · rcases HH.out with h1 | ⟨b, o, rfl, hB, hc⟩
      · subst h1
        exact absurd hlt (by simp)
      obtain ⟨x, y, hxy⟩ : ∃ x y, L[k] = (x, y) := ⟨_, _, rfl⟩
      have c := hc k hlt
      rw [hxy] at c
      have c0 := (hb.cell (p := ⟨b, o + k * 2, none⟩) hB).trans c.1
      have c1 := (hb.cell (p := ⟨b, o + k * 2 + 1, none⟩) hB).trans c.2
      have HX := Lib.hid (show L[k]? = some (x, y) by rw [List.getElem?_eq_getElem hlt, hxy])
      clear c hxy hc
      simp only at c0 c1
      have xb : low ≤ x ∧ x ≤ y ∧ y ≤ 9999999 := by
        have := HW.out
        rw [drop_at HX.out] at this
        exact ⟨this.1, this.2.1, this.2.2.1⟩
      by_cases hgap : low < x
      · go_wp2_with (at_builtin; refine wpList_append_own _ rfl _ _ 26 rfl w.heap.size 40 i0 (.agg #[.int .i64 0, .int .i64 0]) 2 16 Try.underlying26 hi hz0 hz1 hz2 rfl (by decide) _ _ _ rfl ((hown.alloc (.cells #[.int .i64 x, .int .i64 y] 40)).alloc (.cells #[.int .i64 low, .int .i64 (x - 1)] 40)) ⟨wr.heap.size + 1, 0, none⟩ 1 1 [.int .i64 low, .int .i64 (x - 1)] rfl rfl (two_new wr _ low (x - 1)) (two_one _ _) (by unfold maxLen; omega) (by omega) (by simp; omega) ?_)
        intro v' w1 hown' hgrow _
        have hb1 := Owns.gone (hown.alloc (.cells #[.int .i64 x, .int .i64 y] 40)) (hb.alloc z1 _) (by simp; omega) hgrow
        have HP := Lib.hid (not_yes HX.out HW.out h0 HE.out hn hgap (Owns.push hown') hb1)
        have k6 : w1.cell? ⟨wr.heap.size, 1, none⟩ = some (.int .i64 y) := hgrow.cell (by go_simp) (fun e => by have := (World.ownsRow.lt hown) _ e.symm; simp at this)
        clear hown' hgrow hown hb hb1
        go_wp2_with fail
        go_roundw
        case rel => exact HP.out
        case measure => simp [intOf]; omega
      · have HP := Lib.hid (not_no HX.out HW.out h0 HE.out hn hgap (hown.alloc (.cells #[.int .i64 x, .int .i64 y] 40)) (hb.alloc z1 _))
        clear hown hb
        go_wp2_with fail
        go_roundw
        case rel => exact HP.out
        case measure => simp [intOf]; omega
    · obtain rfl : k = L.length := by omega
      have he := HE.out
      rw [List.drop_length, notFrom] at he
      by_cases hlow : low ≤ 9999999
      · rw [if_pos hlow] at he
        have HE' := Lib.hid he
        clear he
        go_wp2_with (at_builtin; refine wpList_append_own _ rfl _ _ 26 rfl w.heap.size 40 i0 (.agg #[.int .i64 0, .int .i64 0]) 2 16 Try.underlying26 hi hz0 hz1 hz2 rfl (by decide) _ _ _ rfl (hown.alloc (.cells #[.int .i64 low, .int .i64 9999999] 40)) ⟨wr.heap.size, 0, none⟩ 1 1 [.int .i64 low, .int .i64 9999999] rfl rfl (two_new0 wr low 9999999) (two_one _ _) (by unfold maxLen; omega) (by omega) (by simp; omega) ?_)
        intro v' w1 hown' hgrow _
        have hb1 := Owns.gone hown hb z1 hgrow
        have fin := (Owns.push hown').res
        rw [← HE'.out] at fin
        clear hown' hgrow hown hb
        go_wp2_with fail
        go_ret
        exact ⟨v', rfl, fin, hb1⟩
      · rw [if_neg hlow, List.append_nil] at he
        have fin := Owns.res hown
        rw [← he] at fin
        clear he hown
        go_wp2_with fail
        go_ret
        exact ⟨_, rfl, fin, hb⟩

end Go.Proofs.Ytflmljgmmcdniaa
