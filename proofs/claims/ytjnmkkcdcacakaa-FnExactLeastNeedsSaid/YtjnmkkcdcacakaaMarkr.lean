/- What marking rows of needs and of releases can change, over this seat's translation: the marks go up by a known bound, and nothing is changed but the rows themselves, between two block numbers. Condition: at most 1048576 of each. -/
import Derived.Test.YtjnmkkcdcacakaaRord
namespace Go.Proofs.Ytjnmkkcdcacakaa
open Go.RowKit Go.Sort

theorem Out.refl (lo hi : Nat) (w : World) : Out lo hi w w := ⟨rfl, rfl, rfl, Nat.le_refl _, fun _ _ _ => rfl⟩
theorem Out.trans {lo hi : Nat} {a b c : World} (h : Out lo hi a b) (k : Out lo hi b c) : Out lo hi a c :=
  ⟨k.os.trans h.os, k.tape.trans h.tape, k.output.trans h.output, Nat.le_trans h.size k.size, fun j j1 j2 => (k.block j (Nat.lt_of_lt_of_le j1 h.size) j2).trans (h.block j j1 j2)⟩
theorem Out.wide {lo hi lo' hi' : Nat} {a b : World} (h : Out lo hi a b) (h1 : lo' ≤ lo) (h2 : hi ≤ hi') : Out lo' hi' a b :=
  ⟨h.os, h.tape, h.output, h.size, fun j j1 j2 => h.block j j1 (by omega)⟩
theorem Out.setCell {lo hi : Nat} {a b : World} (h : Out lo hi a b) {g o : Nat} {v : Value} (h1 : lo ≤ g) (h2 : g < hi) : Out lo hi a (b.setCell ⟨g, o, none⟩ v) :=
  ⟨h.os, h.tape, h.output, by simpa [World.setCell] using h.size, fun j j1 j2 => (Below.heap_setCell _ _ _ _ (by show j ≠ g; omega)).trans (h.block j j1 j2)⟩
theorem Out.ofBelow {lo hi : Nat} {a b : World} (h : Below a.heap.size a b) : Out lo hi a b := ⟨h.os, h.tape, h.output, h.size, fun j j1 _ => h.block j j1⟩
/-- A set of blocks that may be written: the cells that may be, are. -/
def Shape (w : World) (g n : Nat) (t : TypeId) : Prop := ∃ C : Array Value, w.heap[g]? = some (.cells C t (0, 0)) ∧ C.size = n
theorem Shape.place {w : World} {g n : Nat} {t : TypeId} (h : Shape w g n t) {k : Nat} (hk : k < n) : (∃ x, w.cell? ⟨g, k, none⟩ = some x) ∧ w.frozen? ⟨g, k, none⟩ = false := by
  obtain ⟨C, h, hs⟩ := h
  refine ⟨⟨C[k]'(by omega), ?_⟩, ?_⟩
  · rw [cell_of_row w g _ C _ (0, 0) h]; exact Array.getElem?_eq_getElem _
  · simp [World.frozen?, h]
theorem Shape.set {w : World} {g n : Nat} {t : TypeId} (h : Shape w g n t) (k : Nat) (v : Value) : Shape (w.setCell ⟨g, k, none⟩ v) g n t := by
  obtain ⟨C, h, hs⟩ := h
  exact ⟨C.setIfInBounds k v, by simp [World.setCell, Array.getElem?_modify, h], by simpa using hs⟩
theorem Shape.kept {w w' : World} {g n : Nat} {t : TypeId} (h : Shape w g n t) (hb : w'.heap[g]? = w.heap[g]?) : Shape w' g n t := by
  obtain ⟨C, h, hs⟩ := h
  exact ⟨C, hb.trans h, hs⟩
theorem Shape.lt {w : World} {g n : Nat} {t : TypeId} (h : Shape w g n t) : g < w.heap.size := by
  obtain ⟨C, h, _⟩ := h
  exact (Array.getElem?_eq_some_iff.1 h).1

theorem markSpanSB {L : List (Int × Int)} {lo hi : Nat} {u : Value} {w : World} (hl : L.length ≤ 1048576) (h : SB L lo hi u w) (k : Int) (hk0 : 0 ≤ k) (hk1 : k ≤ 1000000000) :
    Calls Try.prog 70 #[u, .int .i64 k] w fun e w' => e = .returned (.int .i64 (k + 2 * L.length)) ∧ Out lo hi w w' := by
  obtain ⟨a, cap, rfl, h⟩ := h
  rcases h with rfl | ⟨g, n, rfl, hb, h1, h2⟩
  · refine (markSpanS_nil a cap k w).mono ?_
    rintro e w' ⟨rfl, rfl⟩
    exact ⟨by simp, Out.refl _ _ _⟩
  · refine (markSpanS_any g n cap L k w hl hk0 hk1 hb).mono ?_
    rintro e w' ⟨rfl, hb', hg⟩
    exact ⟨rfl, ⟨hg.os, hg.tape, hg.output, hg.size, fun i hi hd => hg.block i hi (fun e => by injection e with e; omega)⟩⟩

def NMRel (M : List Nd) (k : Int) (g n hi : Nat) (w : World) (s1 i : Value) (wr : World) : Prop :=
  ∃ (j : Nat) (y : Int) (lo : Nat), j ≤ M.length ∧ i = .int .i64 (j : Int) ∧ s1 = .int .i64 y ∧ k ≤ y ∧ y + 2 * (ndSz (M.drop j) : Int) ≤ k + j + 2 * (ndSz M : Int) ∧ Shape wr g (n * 2) 37 ∧ NOrd wr g j (M.drop j) lo hi ∧ g + 1 ≤ lo ∧ Out g hi w wr

set_option maxRecDepth 100000 in
set_option maxHeartbeats 2000000 in
theorem markNeedS_out (g n cap : Nat) (M : List Nd) (k : Int) (hi : Nat) (w : World) (hl : M.length ≤ 1048576) (hsz : ndSz M ≤ 1048576) (hk0 : 0 ≤ k) (hk1 : k ≤ 500000000) (h : NdBlk w g n M) (ho : NOrd w g 0 M (g + 1) hi) :
    Calls Try.prog 27 #[.slice (some ⟨g, 0, none⟩) M.length cap, .int .i64 k] w fun e w' => (∃ y : Int, e = .returned (.int .i64 y) ∧ k ≤ y ∧ y ≤ k + M.length + 2 * (ndSz M : Int)) ∧ Out g hi w w' := by
  have hgh := NOrd.le ho
  obtain ⟨hsh, hnl⟩ : Shape w g (n * 2) 37 ∧ M.length ≤ n := by
    obtain ⟨C, h1, h2, h3, _⟩ := h
    exact ⟨⟨C, h1, h2⟩, h3⟩
  have HS := Lib.hid (show NMRel M k g n hi w (.int .i64 k) (.int .i64 0) w from ⟨0, k, g + 1, Nat.zero_le _, rfl, rfl, Int.le_refl _, by simp, hsh, ho, Nat.le_refl _, Out.refl _ _ _⟩)
  clear h ho hsh
  go_enter Try.func27, Try.ntmps27
  go_wp2
  go_loopw [1, 5] (fun s1 i wr => NMRel M k g n hi w s1 i wr) (fun _ i _ => M.length - (intOf i).toNat)
  case atStart => exact HS.out
  case round =>
    obtain ⟨j, y, lo, hj, rfl, rfl, hy0, hy1, hsh, hord, hlo, hout⟩ := hrel
    by_cases hlt : j < M.length
    · obtain ⟨x, L, hxy⟩ : ∃ x L, M[j] = (x, L) := ⟨_, _, rfl⟩
      have hx : M[j]? = some (x, L) := by rw [List.getElem?_eq_getElem hlt, hxy]
      have hd : M.drop j = (x, L) :: M.drop (j + 1) := by rw [List.drop_eq_getElem_cons hlt, hxy]
      have hds := ndSz_drop M j _ hx
      simp only at hds
      rw [hd] at hord
      obtain ⟨a, cp, m, hc, hs, hlm, hrest⟩ := hord
      simp only at hc hs
      have hmem := ndSz_mem M j _ hx
      simp only at hmem
      have hLs : L.length ≤ 1048576 := by omega
      obtain ⟨⟨z, hz⟩, hf⟩ := hsh.place (show j * 2 < n * 2 by omega)
      have hmh := NOrd.le hrest
      have HSB := Lib.hid (hs.kept (w' := wr.setCell ⟨g, j * 2, none⟩ (.int .i64 y)) fun q q1 _ _ => Below.heap_setCell _ _ _ _ (by show q ≠ g; omega))
      have HSH := Lib.hid (hsh.set (j * 2) (.int .i64 y))
      have HRest := Lib.hid (hrest.kept (w' := wr.setCell ⟨g, j * 2, none⟩ (.int .i64 y)) (fun q q1 _ => World.cell?_setCell_other _ _ _ _ (by first | (simp; done) | (simp; omega))) fun q q1 _ _ => Below.heap_setCell _ _ _ _ (by show q ≠ g; omega))
      have HO := Lib.hid (hout.setCell (o := j * 2) (v := .int .i64 y) (Nat.le_refl g) (by omega))
      clear hs hsh hrest hout hxy hx hd
      go_wp2_with fail
      refine (markSpanSB hLs HSB.out (y + 1) (by omega) (by omega)).mono ?_
      rintro e w2 ⟨rfl, ho2⟩
      have HP := Lib.hid (show NMRel M k g n hi w (.int .i64 (y + 1 + 2 * (L.length : Int))) (.int .i64 ((j : Int) + 1)) w2 from
        ⟨j + 1, y + 1 + 2 * (L.length : Int), m, by omega, by go_num, rfl, by omega, by omega, HSH.out.kept (ho2.block g HSH.out.lt (.inl (by omega))), HRest.out.kept (fun q q1 _ => World.cell?_of_block (a := ⟨g, q * 2 + 1, none⟩) (ho2.block g HSH.out.lt (.inl (by omega)))) (fun q q1 _ q3 => ho2.block q q3 (.inr q1)), by omega, HO.out.trans (ho2.wide (by omega) hmh)⟩)
      clear ho2
      go_wp2_with fail
      go_roundw
      case rel => exact HP.out
      case measure => simp [intOf]; omega
    · obtain rfl : j = M.length := by omega
      rw [List.drop_length] at hy1
      have HE := Lib.hid (show k ≤ y ∧ y ≤ k + M.length + 2 * (ndSz M : Int) from ⟨hy0, by simp [ndSz] at hy1; omega⟩)
      clear hsh hord
      go_wp2_with fail
      go_ret
      exact ⟨⟨y, rfl, HE.out.1, HE.out.2⟩, hout⟩

set_option maxRecDepth 100000 in
set_option maxHeartbeats 400000 in
theorem markNeedS_nil (a : Option Addr) (cap : Nat) (k : Int) (w : World) : Calls Try.prog 27 #[.slice a 0 cap, .int .i64 k] w fun e w' => e = .returned (.int .i64 k) ∧ w = w' := by
  go_enter Try.func27, Try.ntmps27
  go_wp2
  go_loop [1, 5] (fun s1 i => i = .int .i64 0 ∧ s1 = .int .i64 k) (fun _ _ => 0)
  case atStart => exact ⟨rfl, rfl⟩
  case round =>
    obtain ⟨rfl, rfl⟩ := hrel
    go_wp2_with fail
    go_ret
    exact ⟨rfl, rfl⟩

theorem markNIn {M : List Nd} {lo hi : Nat} {u : Value} {w : World} (hl : M.length ≤ 1048576) (hsz : ndSz M ≤ 1048576) (h : NIn M lo hi u w) (k : Int) (hk0 : 0 ≤ k) (hk1 : k ≤ 500000000) :
    Calls Try.prog 27 #[u, .int .i64 k] w fun e w' => (∃ y : Int, e = .returned (.int .i64 y) ∧ k ≤ y ∧ y ≤ k + M.length + 2 * (ndSz M : Int)) ∧ Out lo hi w w' := by
  obtain ⟨a, cap, rfl, h⟩ := h
  rcases h with rfl | ⟨g, n, rfl, hb, h1, h2⟩
  · refine (markNeedS_nil a cap k w).mono ?_
    rintro e w' ⟨rfl, rfl⟩
    exact ⟨⟨k, rfl, Int.le_refl _, by simp [ndSz]⟩, Out.refl _ _ _⟩
  · refine (markNeedS_out g n cap M k hi w hl hsz hk0 hk1 hb h2).mono ?_
    rintro e w' ⟨he, ho⟩
    exact ⟨he, ho.wide h1 (Nat.le_refl _)⟩

def RMRel (S : List Rel) (k : Int) (g n hi : Nat) (w : World) (s1 i : Value) (wr : World) : Prop :=
  ∃ (j : Nat) (y : Int) (lo : Nat), j ≤ S.length ∧ i = .int .i64 (j : Int) ∧ s1 = .int .i64 y ∧ k ≤ y ∧ y + 2 * (rlSz (S.drop j) : Int) ≤ k + 6 * j + 2 * (rlSz S : Int) ∧ Shape wr g (n * 7) 71 ∧ ROrd wr g j (S.drop j) lo hi ∧ g + 1 ≤ lo ∧ Out g hi w wr

set_option maxRecDepth 100000 in
set_option maxHeartbeats 4000000 in
theorem markReleaseS_out {S : List Rel} {lo0 hi : Nat} {u : Value} {w : World} (hl : S.length ≤ 1048576) (hsz : rlSz S ≤ 1048576) (h : RIn S lo0 hi u w) (k : Int) (hk0 : 0 ≤ k) (hk1 : k ≤ 1000000) :
    Calls Try.prog 26 #[u, .int .i64 k] w fun e w' => (∃ y : Int, e = .returned (.int .i64 y) ∧ k ≤ y ∧ y ≤ k + 6 * S.length + 2 * (rlSz S : Int)) ∧ Out lo0 hi w w' := by
  obtain ⟨a, cap, rfl, g, n, rfl, hb, hlog, ho⟩ := h
  have hgh := ROrd.le ho
  obtain ⟨hsh, hnl⟩ : Shape w g (n * 7) 71 ∧ S.length ≤ n := by
    obtain ⟨C, h1, h2, h3, _⟩ := hb
    exact ⟨⟨C, h1, h2⟩, h3⟩
  have HS := Lib.hid (show RMRel S k g n hi w (.int .i64 k) (.int .i64 0) w from ⟨0, k, g + 1, Nat.zero_le _, rfl, rfl, Int.le_refl _, by simp, hsh, ho, Nat.le_refl _, Out.refl _ _ _⟩)
  clear hb ho hsh
  go_enter Try.func26, Try.ntmps26
  go_wp2
  go_loopw [1, 5] (fun s1 i wr => RMRel S k g n hi w s1 i wr) (fun _ i _ => S.length - (intOf i).toNat)
  case atStart => exact HS.out
  case round =>
    obtain ⟨j, y, lo, hj, rfl, rfl, hy0, hy1, hsh, hord, hlo, hout⟩ := hrel
    by_cases hlt : j < S.length
    · obtain ⟨x, hxy⟩ : ∃ x, S[j] = x := ⟨_, rfl⟩
      have hx : S[j]? = some x := by rw [List.getElem?_eq_getElem hlt, hxy]
      have hd : S.drop j = x :: S.drop (j + 1) := by rw [List.drop_eq_getElem_cons hlt, hxy]
      have hds := rlSz_drop S j _ hx
      have hmem := rlSz_mem S j _ hx
      rw [hd] at hord
      obtain ⟨p, cp, m, hc, hs, hlm, hrest⟩ := hord
      obtain ⟨M, hM⟩ : ∃ M, x.2.2.2 = M := ⟨_, rfl⟩
      rw [hM] at hc hs hds hmem
      have hLs : M.length ≤ 1048576 := by omega
      have hLz : ndSz M ≤ 1048576 := by omega
      have hmh := ROrd.le hrest
      obtain ⟨bb, hbb⟩ : ∃ bb : Bool, ((y + 1 + 1 + 1 + 1 + 1) % 3 == 0) = bb := ⟨_, rfl⟩
      obtain ⟨⟨z0, hz0⟩, hf0⟩ := hsh.place (show j * 7 < n * 7 by omega)
      obtain ⟨⟨z1, hz1⟩, hf1⟩ := hsh.place (show j * 7 + 1 < n * 7 by omega)
      obtain ⟨⟨z2, hz2⟩, hf2⟩ := hsh.place (show j * 7 + 2 < n * 7 by omega)
      obtain ⟨⟨z3, hz3⟩, hf3⟩ := hsh.place (show j * 7 + 3 < n * 7 by omega)
      obtain ⟨⟨z4, hz4⟩, hf4⟩ := hsh.place (show j * 7 + 4 < n * 7 by omega)
      obtain ⟨⟨z5, hz5⟩, hf5⟩ := hsh.place (show j * 7 + 5 < n * 7 by omega)
      have far : ∀ q, q ≠ g → ((((((wr.setCell ⟨g, j * 7, none⟩ (.int .i64 y)).setCell ⟨g, j * 7 + 1, none⟩ (.int .i64 (y + 1))).setCell ⟨g, j * 7 + 2, none⟩ (.int .i64 (y + 1 + 1))).setCell ⟨g, j * 7 + 3, none⟩ (.int .i64 (y + 1 + 1 + 1))).setCell ⟨g, j * 7 + 4, none⟩ (.int .i64 (y + 1 + 1 + 1 + 1))).setCell ⟨g, j * 7 + 5, none⟩ (.bool bb)).heap[q]? = wr.heap[q]? := fun q hq => (Below.heap_setCell _ _ _ _ (by show q ≠ g; omega)).trans ((Below.heap_setCell _ _ _ _ (by show q ≠ g; omega)).trans ((Below.heap_setCell _ _ _ _ (by show q ≠ g; omega)).trans ((Below.heap_setCell _ _ _ _ (by show q ≠ g; omega)).trans ((Below.heap_setCell _ _ _ _ (by show q ≠ g; omega)).trans ((Below.heap_setCell _ _ _ _ (by show q ≠ g; omega)))))))
      have HSB := Lib.hid (hs.kept (w' := ((((((wr.setCell ⟨g, j * 7, none⟩ (.int .i64 y)).setCell ⟨g, j * 7 + 1, none⟩ (.int .i64 (y + 1))).setCell ⟨g, j * 7 + 2, none⟩ (.int .i64 (y + 1 + 1))).setCell ⟨g, j * 7 + 3, none⟩ (.int .i64 (y + 1 + 1 + 1))).setCell ⟨g, j * 7 + 4, none⟩ (.int .i64 (y + 1 + 1 + 1 + 1))).setCell ⟨g, j * 7 + 5, none⟩ (.bool bb))) fun q q1 _ => far q (by omega))
      have HSH := Lib.hid ((((((hsh.set (j * 7) (.int .i64 y)).set (j * 7 + 1) (.int .i64 (y + 1))).set (j * 7 + 2) (.int .i64 (y + 1 + 1))).set (j * 7 + 3) (.int .i64 (y + 1 + 1 + 1))).set (j * 7 + 4) (.int .i64 (y + 1 + 1 + 1 + 1))).set (j * 7 + 5) (.bool bb))
      have HRest := Lib.hid (hrest.kept (w' := ((((((wr.setCell ⟨g, j * 7, none⟩ (.int .i64 y)).setCell ⟨g, j * 7 + 1, none⟩ (.int .i64 (y + 1))).setCell ⟨g, j * 7 + 2, none⟩ (.int .i64 (y + 1 + 1))).setCell ⟨g, j * 7 + 3, none⟩ (.int .i64 (y + 1 + 1 + 1))).setCell ⟨g, j * 7 + 4, none⟩ (.int .i64 (y + 1 + 1 + 1 + 1))).setCell ⟨g, j * 7 + 5, none⟩ (.bool bb))) (fun q q1 _ => (World.cell?_setCell_other _ _ _ _ (by first | (simp; done) | (simp; omega))).trans ((World.cell?_setCell_other _ _ _ _ (by first | (simp; done) | (simp; omega))).trans ((World.cell?_setCell_other _ _ _ _ (by first | (simp; done) | (simp; omega))).trans ((World.cell?_setCell_other _ _ _ _ (by first | (simp; done) | (simp; omega))).trans ((World.cell?_setCell_other _ _ _ _ (by first | (simp; done) | (simp; omega))).trans ((World.cell?_setCell_other _ _ _ _ (by first | (simp; done) | (simp; omega))))))))) fun q q1 _ => far q (by omega))
      have HO := Lib.hid ((((((hout.setCell (o := j * 7) (v := (.int .i64 y)) (Nat.le_refl g) (by omega)).setCell (o := j * 7 + 1) (v := (.int .i64 (y + 1))) (Nat.le_refl g) (by omega)).setCell (o := j * 7 + 2) (v := (.int .i64 (y + 1 + 1))) (Nat.le_refl g) (by omega)).setCell (o := j * 7 + 3) (v := (.int .i64 (y + 1 + 1 + 1))) (Nat.le_refl g) (by omega)).setCell (o := j * 7 + 4) (v := (.int .i64 (y + 1 + 1 + 1 + 1))) (Nat.le_refl g) (by omega)).setCell (o := j * 7 + 5) (v := (.bool bb)) (Nat.le_refl g) (by omega))
      clear hs hsh hrest hout hxy hx hd far hM
      go_wp2_with fail
      refine (markNIn hLs hLz HSB.out _ (by omega) (by omega)).mono ?_
      rintro e w2 ⟨⟨y2, rfl, h1, h2⟩, ho2⟩
      have HP := Lib.hid (show RMRel S k g n hi w (.int .i64 y2) (.int .i64 ((j : Int) + 1)) w2 from
        ⟨j + 1, y2, m, by omega, by go_num, rfl, by omega, by omega, HSH.out.kept (ho2.block g HSH.out.lt (.inl (by omega))), HRest.out.kept (fun q q1 _ => World.cell?_of_block (a := ⟨g, q * 7 + 6, none⟩) (ho2.block g HSH.out.lt (.inl (by omega)))) (fun q q1 q3 => ho2.block q q3 (.inr q1)), by omega, HO.out.trans (ho2.wide (by omega) hmh)⟩)
      clear ho2
      go_wp2_with fail
      go_roundw
      case rel => exact HP.out
      case measure => simp [intOf]; omega
    · obtain rfl : j = S.length := by omega
      rw [List.drop_length] at hy1
      have HE := Lib.hid (show k ≤ y ∧ y ≤ k + 6 * S.length + 2 * (rlSz S : Int) from ⟨hy0, by simp [rlSz] at hy1; omega⟩)
      have HO := Lib.hid (hout.wide hlog (Nat.le_refl _))
      clear hsh hord hout
      go_wp2_with fail
      go_ret
      exact ⟨⟨y, rfl, HE.out.1, HE.out.2⟩, HO.out⟩

end Go.Proofs.Ytjnmkkcdcacakaa
