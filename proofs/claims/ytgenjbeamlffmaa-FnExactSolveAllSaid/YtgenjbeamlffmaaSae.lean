/- Rows of rows of picks between two block numbers, over this seat's translation: what it is to hold them, and the laws' functions that compare, mark and hold them; SolveAll of the program answers rows on blocks of its own, all different. Condition: at most 50 rows of at most 1048576 picks. -/
import Derived.Test.YtgenjbeamlffmaaSad
import Derived.Test.YtgenjbeamlffmaaMarkr
import Derived.Test.YtgenjbeamlffmaaGg
namespace Go.Proofs.Ytgenjbeamlffmaa
open Go.RowKit Go.Sort

namespace Sae
open Foot Copy Nup Cpu Cfa Rch Svp
/-- Rows of rows of picks in blocks from one number to another. -/
def LB (Ls : List (List Pk)) (lo hi : Nat) (v : Value) (w : World) : Prop :=
  ∃ a cap, v = .slice a Ls.length cap ∧ (Ls = [] ∨ ∃ g, a = some ⟨g, 0, none⟩ ∧ lo ≤ g ∧ g < hi ∧ g < w.heap.size ∧ ∀ i (h : i < Ls.length), ∃ z, w.cell? ⟨g, i, none⟩ = some z ∧ PB Ls[i] lo hi z w)
/-- Such rows somewhere. -/
def LA (w : World) (v : Value) (Ls : List (List Pk)) : Prop := ∃ lo hi, LB Ls lo hi v w
theorem LB.at {Ls : List (List Pk)} {lo hi : Nat} {v : Value} {w : World} (h : LB Ls lo hi v w) : LA w v Ls := ⟨lo, hi, h⟩
theorem LB.below {Ls : List (List Pk)} {lo hi : Nat} {v : Value} {w w' : World} (h : LB Ls lo hi v w) (hb : Below w.heap.size w w') : LB Ls lo hi v w' := by
  obtain ⟨a, cap, rfl, h⟩ := h
  refine ⟨_, _, rfl, ?_⟩
  rcases h with h | ⟨g, rfl, h1, h2, h3, hc⟩
  · exact .inl h
  · exact .inr ⟨g, rfl, h1, h2, Nat.lt_of_lt_of_le h3 hb.size, fun i hi' => by obtain ⟨z, k1, k2⟩ := hc i hi'; exact ⟨z, (hb.cell (p := ⟨g, i, none⟩) h3).trans k1, k2.below hb⟩⟩
theorem LB.out {Ls : List (List Pk)} {lo hi lo' hi' : Nat} {v : Value} {w w' : World} (h : LB Ls lo hi v w) (ho : Out lo' hi' w w') (hd : hi ≤ lo' ∨ hi' ≤ lo) : LB Ls lo hi v w' := by
  obtain ⟨a, cap, rfl, h⟩ := h
  refine ⟨_, _, rfl, ?_⟩
  rcases h with h | ⟨g, rfl, h1, h2, h3, hc⟩
  · exact .inl h
  · exact .inr ⟨g, rfl, h1, h2, Nat.lt_of_lt_of_le h3 ho.size, fun i hi' => by obtain ⟨z, k1, k2⟩ := hc i hi'; exact ⟨z, ho.cell k1 (by omega), k2.out ho hd⟩⟩
theorem pb_wide {L : List Pk} {lo lo' hi hi' : Nat} {v : Value} {w : World} (h : PB L lo hi v w) (hl : lo' ≤ lo) (hh : hi ≤ hi') : PB L lo' hi' v w := by
  obtain ⟨a, cap, rfl, h⟩ := h
  refine ⟨_, _, rfl, ?_⟩
  rcases h with h | ⟨g, m, rfl, hk, h1, h2⟩
  · exact .inl h
  · exact .inr ⟨g, m, rfl, hk, by omega, by omega⟩
theorem LB.mono {Ls : List (List Pk)} {lo lo' hi : Nat} {v : Value} {w : World} (h : LB Ls lo hi v w) (hl : lo' ≤ lo) : LB Ls lo' hi v w := by
  obtain ⟨a, cap, rfl, h⟩ := h
  refine ⟨_, _, rfl, ?_⟩
  rcases h with h | ⟨g, rfl, h1, h2, h3, hc⟩
  · exact .inl h
  · exact .inr ⟨g, rfl, by omega, h2, h3, fun i hi' => by obtain ⟨z, k1, k2⟩ := hc i hi'; exact ⟨z, k1, pb_wide k2 hl (Nat.le_refl _)⟩⟩
theorem LB.of {w : World} {B : Nat} {v : Value} {Ls : List (List Pk)} (h : LOwn w B B v Ls) : LB Ls B w.heap.size v w := by
  obtain ⟨a, c, rfl⟩ := h.form
  obtain ⟨cs, ho, he⟩ := h
  refine ⟨_, _, rfl, ?_⟩
  rcases ho.2 with ⟨_, h0⟩ | ⟨g, cap, cur, e, hb, hg, _⟩
  · exact .inl (List.eq_nil_of_length_eq_zero h0)
  · simp only [Value.slice.injEq] at e
    obtain ⟨rfl, _, _⟩ := e
    refine .inr ⟨g, rfl, hb, (Array.getElem?_eq_some_iff.1 hg).1, (Array.getElem?_eq_some_iff.1 hg).1, fun i hi => ?_⟩
    obtain ⟨z, h1, h2⟩ := he i hi
    refine ⟨z, ?_, KOwn.pb h2⟩
    have := World.ownsRow.cells ho (g := g) rfl i _ h1
    have hadd : (⟨g, 0, none⟩ : Addr).add i = ⟨g, i, none⟩ := by unfold Addr.add; split <;> simp_all
    rw [hadd] at this
    exact this

set_option maxRecDepth 100000 in
set_option maxHeartbeats 2000000 in
theorem eqSS_same {v v' : Value} {Ls : List (List Pk)} {w : World} (hl : Ls.length ≤ 1048576) (h8 : ∀ L ∈ Ls, L.length ≤ 1048576) (h : LA w v Ls) (h' : LA w v' Ls) :
    Calls Try.prog 30 #[v, v'] w fun e w' => e = .returned (.bool true) ∧ Below w.heap.size w w' := by
  obtain ⟨lo, hi, hb⟩ := h
  obtain ⟨lo', hi', hb'⟩ := h'
  obtain ⟨a, cap, rfl, hx⟩ := id hb
  obtain ⟨a', cap', rfl, hx'⟩ := id hb'
  have HB := Lib.hid hb
  have HB' := Lib.hid hb'
  clear hb hb' hx hx'
  have hz : ((Ls.length : Int) != (Ls.length : Int)) = false := by simp
  go_enter Try.func30, Try.ntmps30
  go_wp2_with fail
  go_loopw [5] (fun i wr => ∃ k : Nat, k ≤ Ls.length ∧ i = .int .i64 (k : Int) ∧ Below w.heap.size w wr) (fun i _ => Ls.length - (intOf i).toNat)
  case atStart => exact ⟨0, Nat.zero_le _, rfl, Below.refl _ _⟩
  case round =>
    obtain ⟨k, hk, rfl, hb⟩ := hrel
    by_cases hlt : k < Ls.length
    · obtain ⟨_, _, e1, k1⟩ := HB.out.below hb
      obtain ⟨_, _, e2, k2⟩ := HB'.out.below hb
      simp only [Value.slice.injEq, true_and] at e1 e2
      obtain ⟨rfl, rfl⟩ := e1
      obtain ⟨rfl, rfl⟩ := e2
      rcases k1 with k1 | ⟨g, rfl, _, _, hg, hc⟩
      · subst k1; exact absurd hlt (by simp)
      rcases k2 with k2 | ⟨g', rfl, _, _, hg', hc'⟩
      · subst k2; exact absurd hlt (by simp)
      obtain ⟨z, c1, p1⟩ := hc k hlt
      obtain ⟨z', c2, p2⟩ := hc' k hlt
      have P1 := Lib.hid p1.at
      have P2 := Lib.hid p2.at
      obtain ⟨za, zc, rfl, hy⟩ := id p1
      obtain ⟨za', zc', rfl, hy'⟩ := id p2
      obtain ⟨L, hL⟩ : ∃ L, Ls[k] = L := ⟨_, rfl⟩
      have hL8 : L.length ≤ 1048576 := by rw [← hL]; exact h8 _ (List.getElem_mem hlt)
      rw [hL] at P1 P2 c1 c2
      have K : Hid (∀ V, PkAt V V.heap.size (.slice za L.length zc) L → PkAt V V.heap.size (.slice za' L.length zc') L → Calls Try.prog 21 #[.slice za L.length zc, .slice za' L.length zc'] V fun e w' => e = .returned (.bool true) ∧ Below V.heap.size V w') := Lib.hid fun V g1 g2 => eqPickS_same hL8 g1 g2
      have i0 : (0 : Int) ≤ (k : Int) := by omega
      have i1 : (k : Int) < (Ls.length : Int) := by omega
      clear hc hc' p1 p2 hy hy' hL
      have t0 := cell_regrown c1
      have t1 := cell_regrown c2
      go_wp2_with fail
      refine wp_region_quiet_below (by kernel_rfl) (by kernel_rfl) ?_
      repeat (any_goals (first | go_big_quiet_step ((go_at_call 21; exact Calls.regrown_of (K.out _ (P1.out.stepAt (below_regrown _ _ _)) (P2.out.stepAt (below_regrown _ _ _))))) | quiet_step ((go_at_call 21; exact Calls.regrown_of (K.out _ (P1.out.stepAt (below_regrown _ _ _)) (P2.out.stepAt (below_regrown _ _ _)))))))
      refine wpQuiet_nil ?_
      intro W2 hw
      have nn := quiet_end hw
      clear hw t0 t1
      have HRN := Lib.hid (show ∃ k' : Nat, k' ≤ Ls.length ∧ Value.int .i64 ((k : Int) + 1) = .int .i64 (k' : Int) ∧ Below w.heap.size w W2 from ⟨k + 1, by omega, by go_num, hb.trans (nn.mono hb.size)⟩)
      go_wp2_with fail
      go_roundw
      case rel => exact HRN.out
      case measure => simp [intOf]; omega
    · obtain rfl : k = Ls.length := by omega
      go_wp2_with fail
      go_ret
      exact ⟨rfl, hb⟩

/-- The marks of rows of rows, from a number on, and the number behind them. -/
def ssm (k : Int) : List (List Pk) → List (List Pk)
  | [] => []
  | L :: t => pmarks k L.length :: ssm (k + 5 * L.length) t
def ssE (k : Int) : List (List Pk) → Int
  | [] => k
  | L :: t => ssE (k + 5 * L.length) t
theorem ssm_len : ∀ (Ls : List (List Pk)) (k : Int), (ssm k Ls).length = Ls.length
  | [], _ => rfl
  | L :: t, k => by simp only [ssm, List.length_cons]; rw [ssm_len t]
theorem ssm_app : ∀ (A B : List (List Pk)) (k : Int), ssm k (A ++ B) = ssm k A ++ ssm (ssE k A) B
  | [], _, _ => rfl
  | L :: t, B, k => by simp only [List.cons_append, ssm, ssE]; rw [ssm_app t B]
theorem ssE_app : ∀ (A B : List (List Pk)) (k : Int), ssE k (A ++ B) = ssE (ssE k A) B
  | [], _, _ => rfl
  | L :: t, B, k => by simp only [List.cons_append, ssE]; rw [ssE_app t B]
theorem ssE_up : ∀ (Ls : List (List Pk)) (k : Int), (∀ L ∈ Ls, L.length ≤ 8) → k ≤ ssE k Ls ∧ ssE k Ls ≤ k + 40 * Ls.length
  | [], k, _ => by simp [ssE]
  | L :: t, k, h => by
    have := ssE_up t (k + 5 * L.length) (fun x hx => h x (List.mem_cons_of_mem _ hx))
    have h0 := h L List.mem_cons_self
    simp only [ssE, List.length_cons]
    omega
theorem ss_next {Ls : List (List Pk)} {j : Nat} {L : List Pk} (h : Ls[j]? = some L) (k : Int) : ssm k (Ls.take (j + 1)) = ssm k (Ls.take j) ++ [pmarks (ssE k (Ls.take j)) L.length] ∧ ssE k (Ls.take (j + 1)) = ssE k (Ls.take j) + 5 * L.length := by
  rw [List.take_add_one, h]
  exact ⟨ssm_app _ _ _, ssE_app _ _ _⟩
theorem ssm_at {Ls : List (List Pk)} {j : Nat} {L : List Pk} (h : Ls[j]? = some L) (k : Int) : (ssm k Ls)[j]? = some (pmarks (ssE k (Ls.take j)) L.length) := by
  have hj : j < Ls.length := (List.getElem?_eq_some_iff.1 h).1
  have e : Ls = Ls.take (j + 1) ++ Ls.drop (j + 1) := (List.take_append_drop _ _).symm
  have hl : (ssm k (Ls.take j)).length = j := by rw [ssm_len, List.length_take]; omega
  rw [e, ssm_app, (ss_next h k).1, List.append_assoc, List.getElem?_append_right (by omega), hl, Nat.sub_self]
  have e2 : (Ls.take (j + 1) ++ Ls.drop (j + 1)).take j = Ls.take j := by rw [← e]
  rw [e2]
  rfl
/-- Rows on blocks of their own, all different. -/
def PSS (Ls : List (List Pk)) (lo hi : Nat) (v : Value) (w : World) : Prop :=
  ∃ a cap, v = .slice a Ls.length cap ∧ (Ls = [] ∨ ∃ (g : Nat) (Z : Nat → Value) (Bk : Nat → Nat), a = some ⟨g, 0, none⟩ ∧ lo ≤ g ∧ g < hi ∧ g < w.heap.size ∧
    (∀ i (h : i < Ls.length), w.cell? ⟨g, i, none⟩ = some (Z i) ∧ PB Ls[i] (Bk i) (Bk i + 1) (Z i) w ∧ (Ls[i] ≠ [] → lo ≤ Bk i ∧ Bk i < hi ∧ Bk i < w.heap.size ∧ Bk i ≠ g)) ∧
    ∀ i j (hi : i < Ls.length) (hj : j < Ls.length), i ≠ j → Ls[i] ≠ [] → Ls[j] ≠ [] → Bk i ≠ Bk j)
theorem PSS.lb {Ls : List (List Pk)} {lo hi : Nat} {v : Value} {w : World} (h : PSS Ls lo hi v w) : LB Ls lo hi v w := by
  obtain ⟨a, cap, rfl, h⟩ := h
  refine ⟨_, _, rfl, ?_⟩
  rcases h with h | ⟨g, Z, Bk, rfl, h1, h2, h3, hc, _⟩
  · exact .inl h
  · refine .inr ⟨g, rfl, h1, h2, h3, fun i hi' => ?_⟩
    obtain ⟨k1, k2, k3⟩ := hc i hi'
    refine ⟨_, k1, ?_⟩
    by_cases he : Ls[i] = []
    · obtain ⟨za, zc, hz, _⟩ := k2
      exact ⟨za, zc, hz, .inl he⟩
    · have := k3 he
      exact pb_wide k2 (by omega) (by omega)
theorem PSS.at {Ls : List (List Pk)} {lo hi : Nat} {v : Value} {w : World} (h : PSS Ls lo hi v w) : LA w v Ls := h.lb.at
theorem PSS.below {Ls : List (List Pk)} {lo hi : Nat} {v : Value} {w w' : World} (h : PSS Ls lo hi v w) (hb : Below w.heap.size w w') : PSS Ls lo hi v w' := by
  obtain ⟨a, cap, rfl, h⟩ := h
  refine ⟨_, _, rfl, ?_⟩
  rcases h with h | ⟨g, Z, Bk, rfl, h1, h2, h3, hc, hd⟩
  · exact .inl h
  · refine .inr ⟨g, Z, Bk, rfl, h1, h2, Nat.lt_of_lt_of_le h3 hb.size, fun i hi' => ?_, hd⟩
    obtain ⟨k1, k2, k3⟩ := hc i hi'
    exact ⟨(hb.cell (p := ⟨g, i, none⟩) h3).trans k1, k2.below hb, fun he => by have := k3 he; have := hb.size; omega⟩
theorem PSS.out {Ls : List (List Pk)} {lo hi lo' hi' : Nat} {v : Value} {w w' : World} (h : PSS Ls lo hi v w) (ho : Out lo' hi' w w') (hd' : hi ≤ lo' ∨ hi' ≤ lo) : PSS Ls lo hi v w' := by
  obtain ⟨a, cap, rfl, h⟩ := h
  refine ⟨_, _, rfl, ?_⟩
  rcases h with h | ⟨g, Z, Bk, rfl, h1, h2, h3, hc, hd⟩
  · exact .inl h
  · refine .inr ⟨g, Z, Bk, rfl, h1, h2, Nat.lt_of_lt_of_le h3 ho.size, fun i hi' => ?_, hd⟩
    obtain ⟨k1, k2, k3⟩ := hc i hi'
    refine ⟨ho.cell k1 (by omega), ?_, fun he => by have := k3 he; have := ho.size; omega⟩
    by_cases he : Ls[i] = []
    · obtain ⟨za, zc, hz, _⟩ := k2
      exact ⟨za, zc, hz, .inl he⟩
    · have := k3 he
      exact k2.out ho (by omega)
theorem PSS.of {w : World} {B : Nat} {v : Value} {Ls : List (List Pk)} (h : DOwn w B B B w.heap.size none v Ls) : PSS Ls B w.heap.size v w := by
  obtain ⟨a, c, rfl⟩ := h.form
  obtain ⟨cs, ho, he, hD⟩ := h
  refine ⟨_, _, rfl, ?_⟩
  rcases ho.2 with ⟨_, h0⟩ | ⟨g, cap, cur, e, hb, hg, _⟩
  · exact .inl (List.eq_nil_of_length_eq_zero h0)
  · simp only [Value.slice.injEq] at e
    obtain ⟨rfl, _, _⟩ := e
    have hgl := (Array.getElem?_eq_some_iff.1 hg).1
    have hcell : ∀ i z, cs[i]? = some z → w.cell? ⟨g, i, none⟩ = some z := fun i z h1 => by
      have := World.ownsRow.cells ho (g := g) rfl i _ h1
      have hadd : (⟨g, 0, none⟩ : Addr).add i = ⟨g, i, none⟩ := by unfold Addr.add; split <;> simp_all
      rw [hadd] at this
      exact this
    -- a row that is not empty stands on a block
    have row : ∀ i (hi : i < Ls.length), ∃ z, cs[i]? = some z ∧ KOwn w B z Ls[i] ∧ (Ls[i] ≠ [] → ∃ b, z.ownBlock = some b ∧ B ≤ b ∧ b < w.heap.size ∧ b ≠ g ∧ PB Ls[i] b (b + 1) z w) := fun i hi => by
      obtain ⟨z, h1, h2⟩ := he i hi
      refine ⟨z, h1, h2, fun hne => ?_⟩
      obtain ⟨za, zc, rfl, hp⟩ := KOwn.pb h2
      rcases hp with hp | ⟨b, n, rfl, hk, k1, k2⟩
      · exact absurd hp hne
      · refine ⟨b, rfl, k1, k2, fun e => ?_, ⟨_, _, rfl, .inr ⟨b, n, rfl, hk, Nat.le_refl _, by omega⟩⟩⟩
        subst e
        obtain ⟨C, hC, _⟩ := hk
        rw [hC] at hg
        simp at hg
    refine .inr ⟨g, fun i => (cs[i]?).getD default, fun i => (((cs[i]?).getD default).ownBlock).getD 0, rfl, hb, hgl, hgl, fun i hi => ?_, fun i j hi hj hne hi0 hj0 => ?_⟩
    · obtain ⟨z, h1, h2, h3⟩ := row i hi
      simp only [h1, Option.getD_some]
      refine ⟨hcell i z h1, ?_, fun hne => ?_⟩
      · by_cases hz : Ls[i] = []
        · obtain ⟨za, zc, hv, _⟩ := KOwn.pb h2
          exact ⟨za, zc, hv, .inl hz⟩
        · obtain ⟨b, e, _, _, _, hp⟩ := h3 hz
          rw [e]
          exact hp
      · obtain ⟨b, e, k1, k2, k3, _⟩ := h3 hne
        rw [e]
        exact ⟨k1, k2, k2, k3⟩
    · obtain ⟨z, h1, h2, h3⟩ := row i hi
      obtain ⟨z', h1', h2', h3'⟩ := row j hj
      obtain ⟨b, e, _⟩ := h3 hi0
      obtain ⟨b', e', _⟩ := h3' hj0
      simp only [h1, h1', Option.getD_some, e, e']
      intro hbb
      subst hbb
      exact (hD i z b h1 e).2 j z' h1' (fun k => hne k.symm) e'

theorem drop_put {α : Type} (l : List α) (j : Nat) (x : α) : (l.set j x).drop (j + 1) = l.drop (j + 1) := by
  apply List.ext_getElem?
  intro i
  rw [List.getElem?_drop, List.getElem?_drop, List.getElem?_set_ne (by omega)]
/-- What marking keeps. -/
def MkR (Ls : List (List Pk)) (g : Nat) (Z : Nat → Value) (Bk : Nat → Nat) (lo hi : Nat) (w : World) (s i : Value) (wr : World) : Prop :=
  ∃ (j : Nat) (Ms : List (List Pk)), j ≤ Ls.length ∧ i = .int .i64 (j : Int) ∧ s = .int .i64 (ssE 1 (Ls.take j)) ∧ Ms.length = Ls.length ∧ Ms.take j = ssm 1 (Ls.take j) ∧ Ms.drop j = Ls.drop j ∧
    (∀ i (h : i < Ms.length), wr.cell? ⟨g, i, none⟩ = some (Z i) ∧ PB Ms[i] (Bk i) (Bk i + 1) (Z i) wr) ∧ Out lo hi w wr
set_option maxRecDepth 100000 in
set_option maxHeartbeats 2000000 in
theorem markPSS {Ls : List (List Pk)} {lo hi : Nat} {u : Value} {w : World} (hl : Ls.length ≤ 50) (h8 : ∀ L ∈ Ls, L.length ≤ 8) (h : PSS Ls lo hi u w) :
    Calls Try.prog 31 #[u, .int .i64 1] w fun e w' => e = .returned (.int .i64 (ssE 1 Ls)) ∧ PSS (ssm 1 Ls) lo hi u w' ∧ Out lo hi w w' := by
  obtain ⟨a, cap, rfl, h⟩ := h
  rcases h with rfl | ⟨g, Z, Bk0, rfl, h1, h2, h3, hc0, hd0⟩
  · go_enter Try.func31, Try.ntmps31
    go_wp2_with fail
    go_loopw [1, 5] (fun s i wr => s = .int .i64 1 ∧ i = .int .i64 0 ∧ wr = w) (fun _ _ _ => 0)
    case atStart => exact ⟨rfl, rfl, rfl⟩
    case round =>
      obtain ⟨rfl, rfl, rfl⟩ := hrel
      go_wp2_with fail
      go_ret
      exact ⟨rfl, ⟨a, cap, rfl, .inl rfl⟩, Out.refl _ _ _⟩
  -- empty rows are given numbers of their own
  obtain ⟨Bk, hBk⟩ : ∃ Bk : Nat → Nat, Bk = fun i => if (Ls[i]?).getD [] = [] then w.heap.size + i else Bk0 i := ⟨_, rfl⟩
  have hB0 : ∀ i (h : i < Ls.length), Ls[i] ≠ [] → Bk i = Bk0 i := fun i h hne => by rw [hBk]; simp only [List.getElem?_eq_getElem h, Option.getD_some]; rw [if_neg hne]
  have hB1 : ∀ i (h : i < Ls.length), Ls[i] = [] → Bk i = w.heap.size + i := fun i h he => by rw [hBk]; simp only [List.getElem?_eq_getElem h, Option.getD_some]; rw [if_pos he]
  have hc : ∀ i (h : i < Ls.length), w.cell? ⟨g, i, none⟩ = some (Z i) ∧ PB Ls[i] (Bk i) (Bk i + 1) (Z i) w ∧ ((lo ≤ Bk i ∧ Bk i < hi) ∨ w.heap.size ≤ Bk i) ∧ Bk i ≠ g := fun i h => by
    obtain ⟨k1, k2, k3⟩ := hc0 i h
    by_cases he : Ls[i] = []
    · obtain ⟨za, zc, hz, _⟩ := k2
      rw [hB1 i h he]
      exact ⟨k1, ⟨za, zc, hz, .inl he⟩, .inr (by omega), by omega⟩
    · have := k3 he
      rw [hB0 i h he]
      exact ⟨k1, k2, .inl (by omega), by omega⟩
  have hd : ∀ i j (hi : i < Ls.length) (hj : j < Ls.length), i ≠ j → Bk i ≠ Bk j := fun i j hi' hj' hne => by
    by_cases he : Ls[i] = []
    · by_cases he' : Ls[j] = []
      · rw [hB1 i hi' he, hB1 j hj' he']; omega
      · have := (hc0 j hj').2.2 he'
        rw [hB1 i hi' he, hB0 j hj' he']; omega
    · by_cases he' : Ls[j] = []
      · have := (hc0 i hi').2.2 he
        rw [hB0 i hi' he, hB1 j hj' he']; omega
      · rw [hB0 i hi' he, hB0 j hj' he']
        exact hd0 i j hi' hj' hne he he'
  have HB0 := Lib.hid hB0
  have HC0 := Lib.hid hc0
  have HD0 := Lib.hid hd0
  have HS := Lib.hid (show MkR Ls g Z Bk lo hi w (.int .i64 1) (.int .i64 0) w from ⟨0, Ls, Nat.zero_le _, rfl, by simp [ssE], rfl, by simp [ssm], rfl, fun i h => ⟨(hc i h).1, (hc i h).2.1⟩, Out.refl _ _ _⟩)
  have HC := Lib.hid (fun i h => (hc i h).2.2)
  have HD := Lib.hid hd
  clear hc hd hc0 hd0 hB0 hB1 hBk
  go_enter Try.func31, Try.ntmps31
  go_wp2_with fail
  go_loopw [1, 5] (fun s i wr => MkR Ls g Z Bk lo hi w s i wr) (fun _ i _ => Ls.length - (intOf i).toNat)
  case atStart => exact HS.out
  case round =>
    obtain ⟨j, Ms, hj, rfl, rfl, hM, ht, hdr, hrow, ho⟩ := hrel
    have hyy := ssE_up (Ls.take j) 1 (fun L hL => h8 L (List.mem_of_mem_take hL))
    have hlt40 : (Ls.take j).length ≤ 50 := by rw [List.length_take]; omega
    by_cases hlt : j < Ls.length
    · have hltM : j < Ms.length := by omega
      obtain ⟨L, hL⟩ : ∃ L, Ls[j] = L := ⟨_, rfl⟩
      have hLj : Ls[j]? = some L := by rw [List.getElem?_eq_getElem hlt, hL]
      have hMj : Ms[j] = L := by
        have e1 : Ms[j]? = (Ms.drop j)[0]? := by simp
        have e2 : Ls[j]? = (Ls.drop j)[0]? := by simp
        have e3 : Ms[j]? = Ls[j]? := by rw [e1, e2, hdr]
        rw [List.getElem?_eq_getElem hltM, hLj] at e3
        exact Option.some.inj e3
      have hL8 : L.length ≤ 8 := by rw [← hL]; exact h8 _ (List.getElem_mem hlt)
      have HN := Lib.hid (ss_next hLj 1)
      obtain ⟨c1, p1⟩ := hrow j hltM
      rw [hMj] at p1
      obtain ⟨za, zc, hz, hy⟩ := id p1
      rw [hz] at c1 p1
      obtain ⟨y, hyE⟩ : ∃ y, ssE 1 (Ls.take j) = y := ⟨_, rfl⟩
      rw [hyE] at hyy HN ⊢
      have K : Hid (Calls Try.prog 26 #[.slice za L.length zc, .int .i64 y] wr fun e w' => e = .returned (.int .i64 (y + 5 * L.length)) ∧ PB (pmarks y L.length) (Bk j) (Bk j + 1) (.slice za L.length zc) w' ∧ Out (Bk j) (Bk j + 1) wr w') := Lib.hid (markPB (by omega) p1 y (by omega) (by omega))
      have HROW := Lib.hid hrow
      have HT := Lib.hid (show Ms.length = Ls.length ∧ Ms.take j = ssm 1 (Ls.take j) ∧ Ms.drop j = Ls.drop j from ⟨hM, ht, hdr⟩)
      have HO := Lib.hid ho
      have HZ := Lib.hid hz
      have i0 : (0 : Int) ≤ (j : Int) := by omega
      have i1 : (j : Int) < (Ls.length : Int) := by omega
      have hcj := Lib.hid (HC.out j hlt)
      clear hrow hM ht hdr ho hz hy p1 hLj hMj hL hyE
      go_wp2_with fail
      refine K.out.mono ?_
      rintro e w2 ⟨rfl, pb2, ho2⟩
      have HP := Lib.hid (show MkR Ls g Z Bk lo hi w (.int .i64 (y + 5 * (L.length : Int))) (.int .i64 ((j : Int) + 1)) w2 by
        have ht := HT.out
        refine ⟨j + 1, Ms.set j (pmarks y L.length), by omega, by go_num, by rw [HN.out.2], by rw [List.length_set]; exact ht.1, ?_, ?_, fun i hi' => ?_, ?_⟩
        · rw [HN.out.1, List.take_add_one, List.take_set_of_le (Nat.le_refl _), ht.2.1, List.getElem?_set_self (by omega)]
          rfl
        · rw [drop_put]
          have := congrArg (fun l => l.drop 1) ht.2.2
          simpa using this
        · have hi2 : i < Ms.length := by simpa using hi'
          obtain ⟨r1, r2⟩ := HROW.out i hi2
          have hcell : w2.cell? ⟨g, i, none⟩ = some (Z i) := ho2.cell r1 (by have := hcj.out.2; omega)
          by_cases e : i = j
          · subst e
            rw [List.getElem_set_self]
            exact ⟨hcell, by rw [HZ.out]; exact pb2⟩
          · rw [List.getElem_set_ne (fun k => e k.symm)]
            have hne := HD.out i j (by have := ht.1; omega) (by omega) e
            exact ⟨hcell, r2.out ho2 (by omega)⟩
        · have hoo := HO.out
          exact ⟨ho2.os.trans hoo.os, ho2.tape.trans hoo.tape, ho2.output.trans hoo.output, Nat.le_trans hoo.size ho2.size, fun k hk1 hk2 => (ho2.block k (Nat.lt_of_lt_of_le hk1 hoo.size) (by rcases hcj.out.1 with q | q <;> omega)).trans (hoo.block k hk1 hk2)⟩)
      clear pb2 ho2
      go_wp2_with fail
      go_roundw
      case rel => exact HP.out
      case measure => simp [intOf]; omega
    · obtain rfl : j = Ls.length := by omega
      have hMM : Ms = ssm 1 Ls := by
        rw [List.take_length] at ht
        rw [← ht, List.take_of_length_le (by omega)]
      subst hMM
      rw [List.take_length] at hyy hlt40 ⊢
      have hne : ∀ i (h : i < (ssm 1 Ls).length) (h' : i < Ls.length), (ssm 1 Ls)[i] ≠ [] → Ls[i] ≠ [] := fun i h h' hn he => hn (by
        have := ssm_at (List.getElem?_eq_getElem h') 1
        rw [List.getElem?_eq_getElem h] at this
        injection this with this
        rw [this, he]
        rfl)
      have HF := Lib.hid (show PSS (ssm 1 Ls) lo hi (.slice (some ⟨g, 0, none⟩) Ls.length cap) wr by
        refine ⟨_, cap, by rw [ssm_len], .inr ⟨g, Z, Bk, rfl, h1, h2, Nat.lt_of_lt_of_le h3 ho.size, fun i hi' => ?_, fun i j hi' hj' hne' _ _ => HD.out i j (by rw [ssm_len] at hi'; exact hi') (by rw [ssm_len] at hj'; exact hj') hne'⟩⟩
        have hi2 : i < Ls.length := by rw [ssm_len] at hi'; exact hi'
        refine ⟨(hrow i hi').1, (hrow i hi').2, fun hn => ?_⟩
        have hl0 := hne i hi' hi2 hn
        have k3 := (HC0.out i hi2).2.2 hl0
        have := HB0.out i hi2 hl0
        have := ho.size
        omega)
      clear hrow hdr ht hM hne
      go_wp2_with fail
      go_ret
      exact ⟨rfl, HF.out, ho⟩

set_option maxRecDepth 100000 in
set_option maxHeartbeats 2000000 in
theorem heldPSS {Ls : List (List Pk)} {lo hi : Nat} {u : Value} {w : World} (hl : Ls.length ≤ 50) (h8 : ∀ L ∈ Ls, L.length ≤ 8) (h : PSS (ssm 1 Ls) lo hi u w) :
    Calls Try.prog 32 #[u, .int .i64 1] w fun e w' => e = .returned (.int .i64 (ssE 1 Ls)) ∧ Below w.heap.size w w' := by
  have hb := h.lb
  obtain ⟨a, cap, rfl, hx⟩ := id hb
  rw [ssm_len] at hb ⊢
  have HB := Lib.hid hb
  clear h hb hx
  go_enter Try.func32, Try.ntmps32
  go_wp2_with fail
  go_loopw [1, 5] (fun s i wr => ∃ j : Nat, j ≤ Ls.length ∧ i = .int .i64 (j : Int) ∧ s = .int .i64 (ssE 1 (Ls.take j)) ∧ Below w.heap.size w wr) (fun _ i _ => Ls.length - (intOf i).toNat)
  case atStart => exact ⟨0, Nat.zero_le _, rfl, by simp [ssE], Below.refl _ _⟩
  case round =>
    obtain ⟨j, hj, rfl, rfl, hb⟩ := hrel
    have hyy := ssE_up (Ls.take j) 1 (fun L hL => h8 L (List.mem_of_mem_take hL))
    have hlt40 : (Ls.take j).length ≤ 50 := by rw [List.length_take]; omega
    by_cases hlt : j < Ls.length
    · obtain ⟨_, _, e1, k1⟩ := HB.out.below hb
      simp only [Value.slice.injEq] at e1
      obtain ⟨rfl, hx9, rfl⟩ := e1
      clear hx9
      rcases k1 with k1 | ⟨g, rfl, _, _, hg, hc⟩
      · have : Ls.length = 0 := by rw [← ssm_len Ls 1, k1]; rfl
        omega
      obtain ⟨L, hL⟩ : ∃ L, Ls[j] = L := ⟨_, rfl⟩
      have hLj : Ls[j]? = some L := by rw [List.getElem?_eq_getElem hlt, hL]
      have hL8 : L.length ≤ 8 := by rw [← hL]; exact h8 _ (List.getElem_mem hlt)
      obtain ⟨z, c1, p1⟩ := hc j (by rw [ssm_len]; exact hlt)
      have hm : (ssm 1 Ls)[j]'(by rw [ssm_len]; exact hlt) = pmarks (ssE 1 (Ls.take j)) L.length := by
        have := ssm_at hLj 1
        rw [List.getElem?_eq_getElem (by rw [ssm_len]; exact hlt)] at this
        exact Option.some.inj this
      rw [hm] at p1
      have HN := Lib.hid (ss_next hLj 1).2
      obtain ⟨y, hyE⟩ : ∃ y, ssE 1 (Ls.take j) = y := ⟨_, rfl⟩
      rw [hyE] at hyy HN p1 ⊢
      have K : Hid (Calls Try.prog 27 #[z, .int .i64 y] wr fun e w' => e = .returned (.int .i64 (y + 5 * L.length)) ∧ Below wr.heap.size wr w') := Lib.hid (heldPB (by omega) y (by omega) (by omega) p1)
      obtain ⟨za, zc, rfl, hy⟩ := id p1
      have i0 : (0 : Int) ≤ (j : Int) := by omega
      have i1 : (j : Int) < (Ls.length : Int) := by omega
      have hneg : ¬ (y + 5 * (L.length : Int) < 0) := by omega
      clear hc p1 hy hm hLj hL hyE
      go_wp2_with fail
      refine K.out.mono ?_
      rintro e w2 ⟨rfl, hb2⟩
      have HRN := Lib.hid (show ∃ k' : Nat, k' ≤ Ls.length ∧ Value.int .i64 ((j : Int) + 1) = .int .i64 (k' : Int) ∧ Value.int .i64 (y + 5 * (L.length : Int)) = .int .i64 (ssE 1 (Ls.take k')) ∧ Below w.heap.size w w2 from ⟨j + 1, by omega, by go_num, by rw [HN.out], hb.trans (hb2.mono hb.size)⟩)
      clear hb2
      go_wp2_with fail
      go_roundw
      case rel => exact HRN.out
      case measure => simp [intOf]; omega
    · obtain rfl : j = Ls.length := by omega
      rw [List.take_length] at hyy hlt40 ⊢
      go_wp2_with fail
      go_ret
      exact ⟨rfl, hb⟩
end Sae
end Go.Proofs.Ytgenjbeamlffmaa
