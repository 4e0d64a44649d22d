/- Rows of needs and of releases whose inner rows lie in order, one behind the other: what the laws' copies make; and what marking such a row can change. Condition: at most 1048576 needs and releases, and spans of each. -/
import Derived.Test.YtjnmkkcdcacakaaGc
namespace Go.Proofs.Ytjnmkkcdcacakaa
open Go.RowKit Go.Sort

/-- The spans of these needs lie in rows of their own, in order, between two block numbers. -/
def NOrd (w : World) (g : Nat) : Nat → List Nd → Nat → Nat → Prop
  | _, [], lo, hi => lo ≤ hi
  | i, x :: t, lo, hi => ∃ a cap m, w.cell? ⟨g, i * 2 + 1, none⟩ = some (.slice a x.2.length cap) ∧ SB x.2 lo m (.slice a x.2.length cap) w ∧ lo ≤ m ∧ NOrd w g (i + 1) t m hi
theorem NOrd.le {w : World} {g hi : Nat} : ∀ {M : List Nd} {i lo : Nat}, NOrd w g i M lo hi → lo ≤ hi
  | [], _, _, h => h
  | _ :: _, _, _, ⟨_, _, _, _, _, h1, h2⟩ => Nat.le_trans h1 (NOrd.le h2)
theorem NOrd.kept {w w' : World} {g hi : Nat} : ∀ {M : List Nd} {i lo : Nat}, NOrd w g i M lo hi → (∀ j, i ≤ j → j < i + M.length → w'.cell? ⟨g, j * 2 + 1, none⟩ = w.cell? ⟨g, j * 2 + 1, none⟩) → (∀ k, lo ≤ k → k < hi → k < w.heap.size → w'.heap[k]? = w.heap[k]?) → NOrd w' g i M lo hi
  | [], _, _, h, _, _ => h
  | x :: t, i, lo, ⟨a, cap, m, h1, h2, h3, h4⟩, hc, hb =>
    ⟨a, cap, m, (hc i (Nat.le_refl _) (by simp)).trans h1, h2.kept fun k k1 k2 k3 => hb k k1 (by have := NOrd.le h4; omega) k3, h3, NOrd.kept h4 (fun j j1 j2 => hc j (by omega) (by simp only [List.length_cons]; omega)) fun k k1 k2 k3 => hb k (by omega) k2 k3⟩
theorem NOrd.up {w : World} {g hi hi' : Nat} (hh : hi ≤ hi') : ∀ {M : List Nd} {i lo : Nat}, NOrd w g i M lo hi → NOrd w g i M lo hi'
  | [], _, _, h => Nat.le_trans h hh
  | _ :: _, _, _, ⟨a, cap, m, h1, h2, h3, h4⟩ => ⟨a, cap, m, h1, h2, h3, NOrd.up hh h4⟩
theorem NOrd.push {w : World} {g mid hi : Nat} {y : Nd} {a : Option Addr} {cap : Nat} : ∀ {M : List Nd} {i lo : Nat}, NOrd w g i M lo mid → w.cell? ⟨g, (i + M.length) * 2 + 1, none⟩ = some (.slice a y.2.length cap) → SB y.2 mid hi (.slice a y.2.length cap) w → mid ≤ hi → NOrd w g i (M ++ [y]) lo hi
  | [], i, lo, h, hc, hs, hh => by
    obtain ⟨a', c', e, hx⟩ := hs
    simp only [Value.slice.injEq] at e
    obtain ⟨rfl, _, rfl⟩ := e
    refine ⟨a, cap, hi, by simpa using hc, ⟨a, cap, rfl, ?_⟩, Nat.le_trans h hh, Nat.le_refl _⟩
    rcases hx with hx | ⟨b, n, e, hk, h1, h2⟩
    · exact .inl hx
    · exact .inr ⟨b, n, e, hk, Nat.le_trans h h1, h2⟩
  | x :: t, i, lo, ⟨a', cap', m, h1, h2, h3, h4⟩, hc, hs, hh => ⟨a', cap', m, h1, h2, h3, NOrd.push h4 (by rw [← hc]; simp only [List.length_cons]; rw [show i + 1 + t.length = i + (t.length + 1) by omega]) hs hh⟩

/-- A row of needs of one's own, its spans behind it in order, between two block numbers. -/
def NIn (M : List Nd) (lo hi : Nat) (v : Value) (w : World) : Prop :=
  ∃ a cap, v = .slice a M.length cap ∧ (M = [] ∨ ∃ g n, a = some ⟨g, 0, none⟩ ∧ NdBlk w g n M ∧ lo ≤ g ∧ NOrd w g 0 M (g + 1) hi)
theorem NIn.kept {M : List Nd} {lo hi : Nat} {v : Value} {w w' : World} (h : NIn M lo hi v w) (hb : ∀ k, lo ≤ k → k < w.heap.size → w'.heap[k]? = w.heap[k]?) : NIn M lo hi v w' := by
  obtain ⟨a, cap, rfl, h⟩ := h
  refine ⟨_, _, rfl, ?_⟩
  rcases h with h | ⟨g, n, rfl, hk, h1, h2⟩
  · exact .inl h
  · exact .inr ⟨g, n, rfl, hk.kept fun k k1 k2 => hb k (by omega) k2, h1, h2.kept (fun j _ _ => World.cell?_of_block (a := ⟨g, j * 2 + 1, none⟩) (hb g h1 hk.lt)) fun k k1 _ k3 => hb k (by omega) k3⟩
theorem NIn.below {M : List Nd} {lo hi : Nat} {v : Value} {w w' : World} (h : NIn M lo hi v w) (hb : Below w.heap.size w w') : NIn M lo hi v w' := h.kept fun k _ hl => hb.block k hl
theorem NIn.at {M : List Nd} {lo hi : Nat} {v : Value} {w : World} (h : NIn M lo hi v w) : NdAt w w.heap.size v M := by
  obtain ⟨a, cap, rfl, h⟩ := h
  rcases h with rfl | ⟨g, n, rfl, hb, _⟩
  · exact ⟨_, _, rfl, .inl rfl⟩
  · exact hb.at

theorem two_ne {w : World} {g i j : Nat} {x y : Value} (h : i ≠ j) : ((w.setCell ⟨g, i * 2, none⟩ x).setCell ⟨g, i * 2 + 1, none⟩ y).cell? ⟨g, j * 2 + 1, none⟩ = w.cell? ⟨g, j * 2 + 1, none⟩ := by
  exact (World.cell?_setCell_other _ _ _ _ (by first | (simp; done) | (simp; omega))).trans (World.cell?_setCell_other _ _ _ _ (by first | (simp; done) | (simp; omega)))

/-- What the loop of toNeedS keeps, in order. -/
def NToRel2 (M : List Nd) (w : World) (g : Nat) (i : Value) (wr : World) : Prop :=
  ∃ k : Nat, k ≤ M.length ∧ i = .int .i64 (k : Int) ∧ NdBlk wr g M.length (M.take k) ∧ NOrd wr g 0 (M.take k) (g + 1) wr.heap.size ∧ Below w.heap.size w wr

def NToPost2 (M : List Nd) (w : World) (e : Ending) (w' : World) : Prop :=
  ∃ v, e = .returned v ∧ NIn M w.heap.size w'.heap.size v w' ∧ Below w.heap.size w w'

set_option maxRecDepth 100000 in
set_option maxHeartbeats 1000000 in
theorem toNeedS_ord (v : Value) (M : List Nd) (w : World) (h : NdAt w w.heap.size v M) (hl : M.length ≤ 1048576) (hq : ∀ q ∈ M, q.2.length ≤ 1048576) : Calls Try.prog 22 #[v] w fun e w' => ∃ g, e = .returned (.slice (some ⟨g, 0, none⟩) M.length M.length) ∧ NdBlk w' g M.length M ∧ w.heap.size ≤ g ∧ NOrd w' g 0 M (g + 1) w'.heap.size ∧ Below w.heap.size w w' := by
  obtain ⟨a, cap, rfl, h⟩ := h
  have hmk := make_needs M.length hl
  go_enter Try.func22, Try.ntmps22
  go_wp2
  clear hmk
  go_loopw [4] (fun i wr => NToRel2 M w w.heap.size i wr) (fun i _ => M.length - (intOf i).toNat)
  case atStart => exact ⟨0, Nat.zero_le _, rfl, by rw [List.take_zero]; exact made_needs _ _, by rw [List.take_zero]; show _ ≤ _; simp, (Below.refl _ _).alloc (Nat.le_refl _) _⟩
  case round =>
    obtain ⟨k, hk, rfl, hblk, hord, hb⟩ := hrel
    by_cases hlt : k < M.length
    · rcases h with h | ⟨b, o, rfl, hB, hc⟩
      · subst h
        exact absurd hlt (by simp)
      obtain ⟨x, L, hxy⟩ : ∃ x L, M[k] = (x, L) := ⟨_, _, rfl⟩
      have c := (hc k hlt).below hb hB
      rw [hxy] at c
      obtain ⟨e0, a1, cap1, e1, hs⟩ := c
      have hL : L.length ≤ 1048576 := by have := hq _ (List.getElem_mem hlt); rwa [hxy] at this
      simp only at e0 e1 hs
      have HXY := Lib.hid (show M[k]? = some (x, L) by rw [List.getElem?_eq_getElem hlt, hxy])
      clear hxy hc
      have HS := Lib.hid (hs.mono hb.size)
      have HBK := Lib.hid hblk
      have HOD := Lib.hid hord
      have hg := hblk.lt
      clear hs hblk hord
      go_wp2_with fail
      refine (toNeed_any x _ L wr HS.out hL).mono ?_
      rintro e w2 ⟨g2, rfl, sblk, hg2, hb2⟩
      have blk2 := HBK.out.below hb2
      have ord2 : NOrd w2 w.heap.size 0 (M.take k) (w.heap.size + 1) wr.heap.size := HOD.out.kept (fun j _ _ => hb2.cell (p := ⟨w.heap.size, _, none⟩) hg) fun k _ _ hk => hb2.block k hk
      have bel2 := hb.trans (hb2.mono hb.size)
      have pl := blk2.place hlt
      obtain ⟨⟨q0, hq0⟩, ⟨q1, hq1⟩, g0, g1⟩ := pl
      have hn := nto_push HXY.out hlt blk2 (show SRes L (w.heap.size + 1) (.slice (some ⟨g2, 0, none⟩) L.length L.length) w2 from ⟨_, _, rfl, .inr ⟨g2, _, rfl, sblk, by omega⟩⟩) bel2
      have HP := Lib.hid (show NToRel2 M w w.heap.size (.int .i64 ((k : Int) + 1)) ((w2.setCell ⟨w.heap.size, k * 2, none⟩ (.int .i64 x)).setCell ⟨w.heap.size, k * 2 + 1, none⟩ (.slice (some ⟨g2, 0, none⟩) L.length L.length)) by
        obtain ⟨k', h1, h2, h3, h4⟩ := hn
        have hkk : k' = k + 1 := by
          simp only [Value.int.injEq, true_and] at h2
          omega
        subst hkk
        refine ⟨k + 1, h1, h2, h3, ?_, h4⟩
        rw [List.take_add_one, HXY.out]
        have hlen : (M.take k).length = k := by simp; omega
        have far : ∀ j, j ≠ w.heap.size → ((w2.setCell ⟨w.heap.size, k * 2, none⟩ (.int .i64 x)).setCell ⟨w.heap.size, k * 2 + 1, none⟩ (.slice (some ⟨g2, 0, none⟩) L.length L.length)).heap[j]? = w2.heap[j]? := fun j hj =>
          (Below.heap_setCell _ _ _ _ (by show j ≠ w.heap.size; exact hj)).trans (Below.heap_setCell _ _ _ _ (by show j ≠ w.heap.size; exact hj))
        refine NOrd.push (y := (x, L)) (mid := wr.heap.size) (ord2.kept (fun j _ hj => two_ne (by rw [hlen] at hj; omega)) fun j j1 _ _ => far j (by omega)) ?_ ⟨some ⟨g2, 0, none⟩, L.length, rfl, .inr ⟨g2, L.length, rfl, sblk.kept (far g2 (by omega)), hg2, ?_⟩⟩ ?_
        · rw [hlen, Nat.zero_add]
          refine World.cell?_setCell_same _ _ _ (u := q1) ?_
          exact (World.cell?_setCell_other _ _ _ _ (by simp)).trans hq1
        · have := sblk.lt
          simpa [World.setCell] using this
        · have := hb2.size
          simpa [World.setCell] using this)
      clear hn hb hb2 e0 e1 blk2 ord2 bel2 sblk
      go_wp2_with fail
      go_roundw
      case rel => exact HP.out
      case measure => simp [intOf]; omega
    · obtain rfl : k = M.length := by omega
      rw [List.take_length] at hblk hord
      go_wp2_with fail
      go_ret
      exact ⟨w.heap.size, rfl, hblk, Nat.le_refl _, hord, hb⟩

end Go.Proofs.Ytjnmkkcdcacakaa
