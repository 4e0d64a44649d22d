/- The contract of the model's draw of worlds, over this seat's translation: whatever is drawn is a row of few targets, all small; nothing that was there has changed but the reader. Condition: the reader was not asked too often; at most 9 targets. -/
import Derived.Test.YtopplljilmjjgaaDwl
import Derived.Test.YtopplljilmjjgaaRin
namespace Go.Proofs.Ytopplljilmjjgaa
open Go.RowKit Go.Sort

namespace Dtg
open Tg Drm
/-- What the table of spoilt targets is made of. -/
def I1 (w : World) (lo g : Nat) (x : Int) : Prop := lo ≤ g ∧ InBlk w g 1 [x]
def L1 (w : World) (lo g : Nat) : Prop := lo ≤ g ∧ LnBlk w g 1 [(0, 0, 0, ⟨#[]⟩)]
def U1 (w : World) (lo g : Nat) : Prop := lo ≤ g ∧ w.heap[g]? = some (.cells (madeCells #[.int .u8 0] 41) 5 (0, 0))
def Tb (w : World) (lo g : Nat) (n : Int) : Prop := lo ≤ g ∧ ∃ g1 g2 g3, w.heap[g]? = some (.cells #[.bool true, .string ⟨#[]⟩, .slice none 0 0, .slice (some ⟨g1, 0, none⟩) 1 1, .bool false, .string z41, .slice none 0 0, .slice none 0 0, .bool true, .string ⟨#[120]⟩, .slice none 0 0, .slice none 0 0, .bool false, .string ⟨#[]⟩, .slice none 0 0, .slice (some ⟨g2, 0, none⟩) 1 1, .bool true, .string ⟨#[]⟩, .slice (some ⟨g3, 0, none⟩) 1 1, .slice none 0 0] 79 (0, 0)) ∧ I1 w lo g1 n ∧ I1 w lo g2 0 ∧ L1 w lo g3
/-- One target, with its lines and numbers in blocks from a number on. -/
def Xv (w : World) (lo : Nat) (m : Bool) (t : ByteArray) (a a' : Option Addr) (c c' : Nat) (L : List Ln) (N : List Int) : Prop := Sm (m, t, L, N) ∧ LnB L lo w.heap.size (.slice a L.length c) w ∧ IB N lo w.heap.size (.slice a' N.length c') w
def X1 (w : World) (lo g : Nat) : Prop := lo ≤ g ∧ ∃ m t a a' c c' L N, w.heap[g]? = some (.cells #[.bool m, .string t, .slice a L.length c, .slice a' N.length c'] 79 (0, 0)) ∧ Xv w lo m t a a' c c' L N
section
variable {w w' : World} {lo : Nat} (hz : w.heap.size ≤ w'.heap.size) (hk : ∀ k, lo ≤ k → k < w.heap.size → w'.heap[k]? = w.heap[k]?)
include hk
theorem I1.keep {g : Nat} {x : Int} (h : I1 w lo g x) : I1 w' lo g x := ⟨h.1, h.2.kept (hk g h.1 h.2.lt)⟩
theorem L1.keep {g : Nat} (h : L1 w lo g) : L1 w' lo g := ⟨h.1, h.2.kept (hk g h.1 h.2.lt)⟩
theorem U1.keep {g : Nat} (h : U1 w lo g) : U1 w' lo g := ⟨h.1, (hk g h.1 (Array.getElem?_eq_some_iff.1 h.2).1).trans h.2⟩
theorem Tb.keep {g : Nat} {n : Int} (h : Tb w lo g n) : Tb w' lo g n := by
  obtain ⟨h0, g1, g2, g3, h1, h2, h3, h4⟩ := h
  exact ⟨h0, g1, g2, g3, (hk g h0 (Array.getElem?_eq_some_iff.1 h1).1).trans h1, h2.keep hk, h3.keep hk, h4.keep hk⟩
include hz
theorem Xv.keep {m : Bool} {t : ByteArray} {a a' : Option Addr} {c c' : Nat} {L : List Ln} {N : List Int} (h : Xv w lo m t a a' c c' L N) : Xv w' lo m t a a' c c' L N :=
  ⟨h.1, (lnb_grow (LnB.kept h.2.1 fun g k1 _ k3 => hk g k1 k3) (Nat.le_refl _) hz), (ib_grow (IB.kept h.2.2 fun g k1 _ k3 => hk g k1 k3) (Nat.le_refl _) hz)⟩
theorem X1.keep {g : Nat} (h : X1 w lo g) : X1 w' lo g := by
  obtain ⟨h0, m, t, a, a', c, c', L, N, h1, h2⟩ := h
  exact ⟨h0, m, t, a, a', c, c', L, N, (hk g h0 (Array.getElem?_eq_some_iff.1 h1).1).trans h1, h2.keep hz hk⟩
end
/-- What is in the table. -/
theorem tb_at {w : World} {lo g k : Nat} {n : Int} (h : Tb w lo g n) (hk : k < 5) : ∃ m t a a' c c' L N, (w.cell? ⟨g, k * 4, none⟩ = some (.bool m) ∧ w.cell? ⟨g, k * 4 + 1, none⟩ = some (.string t) ∧ w.cell? ⟨g, k * 4 + 2, none⟩ = some (.slice a L.length c) ∧ w.cell? ⟨g, k * 4 + 3, none⟩ = some (.slice a' N.length c')) ∧ Xv w lo m t a a' c c' L N := by
  obtain ⟨h0, g1, g2, g3, h1, ⟨h2, b2⟩, ⟨h3, b3⟩, ⟨h4, b4⟩⟩ := h
  have cell : ∀ o, w.cell? ⟨g, o, none⟩ = _ := fun o => cell_of_row w g o _ _ (0, 0) h1
  have i1 : ∀ {b : Nat} {x : Int}, lo ≤ b → InBlk w b 1 [x] → IB [x] lo w.heap.size (.slice (some ⟨b, 0, none⟩) 1 1) w := fun hl hb => ⟨_, _, rfl, .inr ⟨_, _, rfl, hb, hl, hb.lt⟩⟩
  have l1 : LnB [((0 : Int), (0 : Int), (0 : Int), (⟨#[]⟩ : ByteArray))] lo w.heap.size (.slice (some ⟨g3, 0, none⟩) 1 1) w := ⟨_, _, rfl, .inr ⟨_, _, rfl, b4, h4, b4.lt⟩⟩
  have hsm : ∀ p ∈ [((0 : Int), (0 : Int), (0 : Int), (⟨#[]⟩ : ByteArray))], p.2.2.2.size ≤ 9 := fun p hp => by
    simp at hp
    subst hp
    exact Nat.zero_le _
  have : k = 0 ∨ k = 1 ∨ k = 2 ∨ k = 3 ∨ k = 4 := by omega
  rcases this with rfl | rfl | rfl | rfl | rfl
  · exact ⟨true, ⟨#[]⟩, none, some ⟨g1, 0, none⟩, 0, 1, [], [n], ⟨(cell _).trans rfl, (cell _).trans rfl, (cell _).trans rfl, (cell _).trans rfl⟩, ⟨Nat.zero_le _, Nat.zero_le _, (fun p hp => by cases hp), by show 1 ≤ 3; omega⟩, lnb_no _ _ _, i1 h2 b2⟩
  · exact ⟨false, z41, none, none, 0, 0, [], [], ⟨(cell _).trans rfl, (cell _).trans rfl, (cell _).trans rfl, (cell _).trans rfl⟩, ⟨by decide, Nat.zero_le _, (fun p hp => by cases hp), Nat.zero_le _⟩, lnb_no _ _ _, ib_no _ _ _⟩
  · exact ⟨true, ⟨#[120]⟩, none, none, 0, 0, [], [], ⟨(cell _).trans rfl, (cell _).trans rfl, (cell _).trans rfl, (cell _).trans rfl⟩, ⟨by decide, Nat.zero_le _, (fun p hp => by cases hp), Nat.zero_le _⟩, lnb_no _ _ _, ib_no _ _ _⟩
  · exact ⟨false, ⟨#[]⟩, none, some ⟨g2, 0, none⟩, 0, 1, [], [0], ⟨(cell _).trans rfl, (cell _).trans rfl, (cell _).trans rfl, (cell _).trans rfl⟩, ⟨Nat.zero_le _, Nat.zero_le _, (fun p hp => by cases hp), by show 1 ≤ 3; omega⟩, lnb_no _ _ _, i1 h3 b3⟩
  · exact ⟨true, ⟨#[]⟩, some ⟨g3, 0, none⟩, none, 1, 0, [(0, 0, 0, ⟨#[]⟩)], [], ⟨(cell _).trans rfl, (cell _).trans rfl, (cell _).trans rfl, (cell _).trans rfl⟩, ⟨Nat.zero_le _, by show 1 ≤ 6; omega, hsm, Nat.zero_le _⟩, l1, ib_no _ _ _⟩
theorem i1_new {w : World} {lo : Nat} (x : Int) (h : lo ≤ w.heap.size) : I1 (w.alloc (.cells #[.int .i64 x] 3)) lo w.heap.size x := ⟨h, _, heap_alloc_new w _, rfl, Nat.le_refl _, fun i hi => by
  obtain rfl : i = 0 := by simpa using hi
  rfl⟩
theorem l1_new {w : World} {lo : Nat} (h : lo ≤ w.heap.size) : L1 (w.alloc (.cells #[.int .i64 0, .int .i64 0, .int .i64 0, .string ⟨#[]⟩] 99)) lo w.heap.size := ⟨h, ⟨_, heap_alloc_new w _, rfl⟩, Nat.le_refl _, fun i hi => by
  obtain rfl : i = 0 := by simpa using hi
  exact ⟨(cell_of_row _ _ _ _ _ (0, 0) (heap_alloc_new w _)).trans rfl, (cell_of_row _ _ _ _ _ (0, 0) (heap_alloc_new w _)).trans rfl, (cell_of_row _ _ _ _ _ (0, 0) (heap_alloc_new w _)).trans rfl, (cell_of_row _ _ _ _ _ (0, 0) (heap_alloc_new w _)).trans rfl⟩⟩
theorem u1_new {w : World} {lo : Nat} (h : lo ≤ w.heap.size) : U1 (w.alloc (.cells (madeCells #[.int .u8 0] 41) 5)) lo w.heap.size := ⟨h, heap_alloc_new w _⟩
set_option maxRecDepth 10000 in
theorem conv_u1 {w : World} {lo g : Nat} (h : U1 w lo g) : (convert 66 9 (.slice (some ⟨g, 0, none⟩) 41 41)).run Try.prog w = .ok (.string z41) w :=
  Rx.turn_conv (base := g) (l := List.replicate 41 (0 : UInt8)) ⟨by simp [Rx.bv], .inr ⟨g, 41, _, rfl, Nat.le_refl _, h.2, Nat.le_refl _, by unfold maxLen; omega, by rw [size_madeCells], by rw [made41]; simp [Rx.bv]⟩⟩ (by simp)
theorem tb_new {w : World} {lo g1 g2 g3 : Nat} {n : Int} (h : lo ≤ w.heap.size) (h1 : I1 w lo g1 n) (h2 : I1 w lo g2 0) (h3 : L1 w lo g3) : Tb (w.alloc (.cells #[.bool true, .string ⟨#[]⟩, .slice none 0 0, .slice (some ⟨g1, 0, none⟩) 1 1, .bool false, .string z41, .slice none 0 0, .slice none 0 0, .bool true, .string ⟨#[120]⟩, .slice none 0 0, .slice none 0 0, .bool false, .string ⟨#[]⟩, .slice none 0 0, .slice (some ⟨g2, 0, none⟩) 1 1, .bool true, .string ⟨#[]⟩, .slice (some ⟨g3, 0, none⟩) 1 1, .slice none 0 0] 79)) lo w.heap.size n :=
  have hb : Below w.heap.size w (w.alloc (.cells #[.bool true, .string ⟨#[]⟩, .slice none 0 0, .slice (some ⟨g1, 0, none⟩) 1 1, .bool false, .string z41, .slice none 0 0, .slice none 0 0, .bool true, .string ⟨#[120]⟩, .slice none 0 0, .slice none 0 0, .bool false, .string ⟨#[]⟩, .slice none 0 0, .slice (some ⟨g2, 0, none⟩) 1 1, .bool true, .string ⟨#[]⟩, .slice (some ⟨g3, 0, none⟩) 1 1, .slice none 0 0] 79)) := (Below.refl _ _).alloc (Nat.le_refl _) _
  ⟨h, g1, g2, g3, heap_alloc_new w _, h1.keep fun k _ k2 => hb.block k k2, h2.keep fun k _ k2 => hb.block k k2, h3.keep fun k _ k2 => hb.block k k2⟩
theorem x1_new {w : World} {lo : Nat} {m : Bool} {t : ByteArray} {a a' : Option Addr} {c c' : Nat} {L : List Ln} {N : List Int} (h : lo ≤ w.heap.size) (hx : Xv w lo m t a a' c c' L N) : X1 (w.alloc (.cells #[.bool m, .string t, .slice a L.length c, .slice a' N.length c'] 79)) lo w.heap.size :=
  have hb : Below w.heap.size w (w.alloc (.cells #[.bool m, .string t, .slice a L.length c, .slice a' N.length c'] 79)) := (Below.refl _ _).alloc (Nat.le_refl _) _
  ⟨h, m, t, a, a', c, c', L, N, heap_alloc_new w _, hx.keep hb.size fun k _ k2 => hb.block k k2⟩
theorem x1_news {w : World} {lo g : Nat} (h : X1 w lo g) : ∃ m t a a' c c' L N, Xv w lo m t a a' c c' L N ∧ ∀ j u, [Value.bool m, .string t, .slice a L.length c, .slice a' N.length c'][j]? = some u → w.cell? ((⟨g, 0, none⟩ : Addr).add j) = some u := by
  obtain ⟨_, m, t, a, a', c, c', L, N, h1, h2⟩ := h
  refine ⟨m, t, a, a', c, c', L, N, h2, fun j u hu => ?_⟩
  have hadd : ∀ n : Nat, (⟨g, 0, none⟩ : Addr).add n = ⟨g, n, none⟩ := fun n => by unfold Addr.add; split <;> simp_all
  obtain ⟨c0, c1, c2, c3, _⟩ := box_cells h1
  rw [hadd]
  match j, hu with
  | 0, hu => simp at hu; subst hu; exact c0
  | 1, hu => simp at hu; subst hu; exact c1
  | 2, hu => simp at hu; subst hu; exact c2
  | 3, hu => simp at hu; subst hu; exact c3
/-- What is known of the operations that have come up. -/
structure CC (R q lo : Nat) (vW : Value) (n : Int) (w0 : World) (l : Array Bool) (A : Act) (w : World) : Prop where
  ls : l.size = 22
  s : A.tmps.size = 99
  d : A.defers = []
  r : A.tmps[0]? = some (.pointer (some ⟨R, 0, none⟩))
  v : A.tmps[7]? = some vW
  q0 : l.getD 16 false = false → RdAt w R q
  q1 : l.getD 16 false = true → RdAt w R (q + 1)
  g : w0.grownBy w (some R)
  e20 : l.getD 20 false = false
  e21 : l.getD 21 false = true → l.getD 20 false = true
  c0 : l.getD 0 false = true → (A.tmps[77]? = some vW)
  c1 : l.getD 1 false = true → (A.tmps[78]? = some vW)
  c2 : l.getD 2 false = true → (A.tmps[79]? = some (.int .i64 n)) ∧ l.getD 1 false = true
  c3 : l.getD 3 false = true → (∃ g, A.tmps[80]? = some (.slice (some ⟨g, 0, none⟩) 1 1) ∧ I1 w lo g n) ∧ l.getD 2 false = true
  c4 : l.getD 4 false = true → (∃ g, A.tmps[81]? = some (tgt true ⟨#[]⟩ (.slice none 0 0) (.slice (some ⟨g, 0, none⟩) 1 1)) ∧ I1 w lo g n) ∧ l.getD 3 false = true
  c5 : l.getD 5 false = true → (∃ g, A.tmps[82]? = some (.slice (some ⟨g, 0, none⟩) 41 41) ∧ U1 w lo g)
  c6 : l.getD 6 false = true → (A.tmps[83]? = some (.string z41)) ∧ l.getD 5 false = true
  c7 : l.getD 7 false = true → (A.tmps[84]? = some (tgt false z41 (.slice none 0 0) (.slice none 0 0))) ∧ l.getD 6 false = true
  c8 : l.getD 8 false = true → (A.tmps[85]? = some (tgt true ⟨#[120]⟩ (.slice none 0 0) (.slice none 0 0)))
  c9 : l.getD 9 false = true → (∃ g, A.tmps[86]? = some (.slice (some ⟨g, 0, none⟩) 1 1) ∧ I1 w lo g 0)
  c10 : l.getD 10 false = true → (∃ g, A.tmps[87]? = some (tgt false ⟨#[]⟩ (.slice none 0 0) (.slice (some ⟨g, 0, none⟩) 1 1)) ∧ I1 w lo g 0) ∧ l.getD 9 false = true
  c11 : l.getD 11 false = true → (A.tmps[88]? = some (line 0 0 0 ⟨#[]⟩))
  c12 : l.getD 12 false = true → (∃ g, A.tmps[89]? = some (.slice (some ⟨g, 0, none⟩) 1 1) ∧ L1 w lo g) ∧ l.getD 11 false = true
  c13 : l.getD 13 false = true → (∃ g, A.tmps[90]? = some (tgt true ⟨#[]⟩ (.slice (some ⟨g, 0, none⟩) 1 1) (.slice none 0 0)) ∧ L1 w lo g) ∧ l.getD 12 false = true
  c14 : l.getD 14 false = true → (∃ g, A.tmps[91]? = some (.slice (some ⟨g, 0, none⟩) 5 5) ∧ Tb w lo g n) ∧ l.getD 4 false = true ∧ l.getD 7 false = true ∧ l.getD 8 false = true ∧ l.getD 10 false = true ∧ l.getD 13 false = true
  c15 : l.getD 15 false = true → (A.tmps[92]? = some (.pointer (some ⟨R, 0, none⟩)))
  c16 : l.getD 16 false = true → (∃ k : Nat, A.tmps[93]? = some (.int .i64 (k : Int)) ∧ k < 5) ∧ l.getD 15 false = true
  c17 : l.getD 17 false = true → (∃ g k : Nat, A.tmps[94]? = some (.pointer (some ⟨g, k * 4, none⟩)) ∧ k < 5 ∧ Tb w lo g n) ∧ l.getD 14 false = true ∧ l.getD 16 false = true
  c18 : l.getD 18 false = true → (∃ m t a a' c c' L N, A.tmps[95]? = some (tgt m t (.slice a L.length c) (.slice a' N.length c')) ∧ Xv w lo m t a a' c c' L N) ∧ l.getD 17 false = true
  c19 : l.getD 19 false = true → (∃ g, A.tmps[96]? = some (.slice (some ⟨g, 0, none⟩) 1 1) ∧ X1 w lo g) ∧ l.getD 18 false = true
theorem CC.keep {R q lo : Nat} {vW : Value} {n : Int} {w0 w w' : World} {l : Array Bool} {A : Act} (h : CC R q lo vW n w0 l A w) (hb : Below w.heap.size w w') : CC R q lo vW n w0 l A w' := by
  have hz := hb.size
  have hk : ∀ k, lo ≤ k → k < w.heap.size → w'.heap[k]? = w.heap[k]? := fun k _ k2 => hb.block k k2
  have hq : ∀ {p : Nat}, RdAt w R p → RdAt w' R p := fun hr => rdAt_below hr hb (rdAt_lt hr)
  exact ⟨h.ls, h.s, h.d, h.r, h.v, fun e => hq (h.q0 e), fun e => hq (h.q1 e), grown_below h.g (hb.mono h.g.size), h.e20, h.e21,
    (h.c0),
    (h.c1),
    (fun e => by obtain ⟨x0, y0⟩ := h.c2 e; exact ⟨x0, y0⟩),
    (fun e => by obtain ⟨⟨g, x0, x1⟩, y0⟩ := h.c3 e; exact ⟨⟨g, x0, x1.keep hk⟩, y0⟩),
    (fun e => by obtain ⟨⟨g, x0, x1⟩, y0⟩ := h.c4 e; exact ⟨⟨g, x0, x1.keep hk⟩, y0⟩),
    (fun e => by obtain ⟨g, x0, x1⟩ := h.c5 e; exact ⟨g, x0, x1.keep hk⟩),
    (fun e => by obtain ⟨x0, y0⟩ := h.c6 e; exact ⟨x0, y0⟩),
    (fun e => by obtain ⟨x0, y0⟩ := h.c7 e; exact ⟨x0, y0⟩),
    (h.c8),
    (fun e => by obtain ⟨g, x0, x1⟩ := h.c9 e; exact ⟨g, x0, x1.keep hk⟩),
    (fun e => by obtain ⟨⟨g, x0, x1⟩, y0⟩ := h.c10 e; exact ⟨⟨g, x0, x1.keep hk⟩, y0⟩),
    (h.c11),
    (fun e => by obtain ⟨⟨g, x0, x1⟩, y0⟩ := h.c12 e; exact ⟨⟨g, x0, x1.keep hk⟩, y0⟩),
    (fun e => by obtain ⟨⟨g, x0, x1⟩, y0⟩ := h.c13 e; exact ⟨⟨g, x0, x1.keep hk⟩, y0⟩),
    (fun e => by obtain ⟨⟨g, x0, x1⟩, y0, y1, y2, y3, y4⟩ := h.c14 e; exact ⟨⟨g, x0, x1.keep hk⟩, y0, y1, y2, y3, y4⟩),
    (h.c15),
    (fun e => by obtain ⟨⟨k, x0, x1⟩, y0⟩ := h.c16 e; exact ⟨⟨k, x0, x1⟩, y0⟩),
    (fun e => by obtain ⟨⟨g, k, x0, x1, x2⟩, y0, y1⟩ := h.c17 e; exact ⟨⟨g, k, x0, x1, x2.keep hk⟩, y0, y1⟩),
    (fun e => by obtain ⟨⟨m, t, a, a', c, c', L, N, x0, x1⟩, y0⟩ := h.c18 e; exact ⟨⟨m, t, a, a', c, c', L, N, x0, x1.keep hz hk⟩, y0⟩),
    (fun e => by obtain ⟨⟨g, x0, x1⟩, y0⟩ := h.c19 e; exact ⟨⟨g, x0, x1.keep hz hk⟩, y0⟩)⟩
theorem CC.drawn {R q lo : Nat} {vW : Value} {n : Int} {w0 w w' : World} {l : Array Bool} {A : Act} (h : CC R q lo vW n w0 l A w) (hg : w.grownBy w' (some R)) (hr : RdAt w' R (q + 1)) (hR : R < lo) {k : Nat} (hk5 : k < 5) (h15 : l.getD 15 false = true) (h16 : l.getD 16 true = false) : CC R q lo vW n w0 (l.setIfInBounds 16 true) (A.put (some 93) (.int .i64 (k : Int))) w' := by
  have hz := hg.size
  have hk : ∀ k, lo ≤ k → k < w.heap.size → w'.heap[k]? = w.heap[k]? := fun k k1 k2 => hg.block k k2 (fun e => by injection e with e; omega)
  have hs := h.s
  have ne : ∀ {j : Nat}, j ≠ 16 → (l.setIfInBounds 16 true).getD j false = l.getD j false := fun hj => getD_set_ne false (fun e => hj e.symm)
  refine ⟨by simpa using h.ls, by rw [Rin.put_size]; exact h.s, h.d, Rin.put_ne h.r (by decide), Rin.put_ne h.v (by decide), (fun e => by rw [Rin.set_self h16] at e; cases e), fun _ => hr, grown_trans h.g hg, (by rw [ne (by decide)]; exact h.e20), (fun e => by rw [ne (by decide)] at e ⊢; exact h.e21 e),
    (fun e => by have x0 := h.c0 (by rwa [ne (by decide)] at e); exact Rin.put_ne x0 (by decide)),
    (fun e => by have x0 := h.c1 (by rwa [ne (by decide)] at e); exact Rin.put_ne x0 (by decide)),
    (fun e => by obtain ⟨x0, y0⟩ := h.c2 (by rwa [ne (by decide)] at e); exact ⟨Rin.put_ne x0 (by decide), (by rw [ne (by decide)]; exact y0)⟩),
    (fun e => by obtain ⟨⟨g, x0, x1⟩, y0⟩ := h.c3 (by rwa [ne (by decide)] at e); exact ⟨⟨g, Rin.put_ne x0 (by decide), x1.keep hk⟩, (by rw [ne (by decide)]; exact y0)⟩),
    (fun e => by obtain ⟨⟨g, x0, x1⟩, y0⟩ := h.c4 (by rwa [ne (by decide)] at e); exact ⟨⟨g, Rin.put_ne x0 (by decide), x1.keep hk⟩, (by rw [ne (by decide)]; exact y0)⟩),
    (fun e => by obtain ⟨g, x0, x1⟩ := h.c5 (by rwa [ne (by decide)] at e); exact ⟨g, Rin.put_ne x0 (by decide), x1.keep hk⟩),
    (fun e => by obtain ⟨x0, y0⟩ := h.c6 (by rwa [ne (by decide)] at e); exact ⟨Rin.put_ne x0 (by decide), (by rw [ne (by decide)]; exact y0)⟩),
    (fun e => by obtain ⟨x0, y0⟩ := h.c7 (by rwa [ne (by decide)] at e); exact ⟨Rin.put_ne x0 (by decide), (by rw [ne (by decide)]; exact y0)⟩),
    (fun e => by have x0 := h.c8 (by rwa [ne (by decide)] at e); exact Rin.put_ne x0 (by decide)),
    (fun e => by obtain ⟨g, x0, x1⟩ := h.c9 (by rwa [ne (by decide)] at e); exact ⟨g, Rin.put_ne x0 (by decide), x1.keep hk⟩),
    (fun e => by obtain ⟨⟨g, x0, x1⟩, y0⟩ := h.c10 (by rwa [ne (by decide)] at e); exact ⟨⟨g, Rin.put_ne x0 (by decide), x1.keep hk⟩, (by rw [ne (by decide)]; exact y0)⟩),
    (fun e => by have x0 := h.c11 (by rwa [ne (by decide)] at e); exact Rin.put_ne x0 (by decide)),
    (fun e => by obtain ⟨⟨g, x0, x1⟩, y0⟩ := h.c12 (by rwa [ne (by decide)] at e); exact ⟨⟨g, Rin.put_ne x0 (by decide), x1.keep hk⟩, (by rw [ne (by decide)]; exact y0)⟩),
    (fun e => by obtain ⟨⟨g, x0, x1⟩, y0⟩ := h.c13 (by rwa [ne (by decide)] at e); exact ⟨⟨g, Rin.put_ne x0 (by decide), x1.keep hk⟩, (by rw [ne (by decide)]; exact y0)⟩),
    (fun e => by obtain ⟨⟨g, x0, x1⟩, y0, y1, y2, y3, y4⟩ := h.c14 (by rwa [ne (by decide)] at e); exact ⟨⟨g, Rin.put_ne x0 (by decide), x1.keep hk⟩, (by rw [ne (by decide)]; exact y0), (by rw [ne (by decide)]; exact y1), (by rw [ne (by decide)]; exact y2), (by rw [ne (by decide)]; exact y3), (by rw [ne (by decide)]; exact y4)⟩),
    (fun e => by have x0 := h.c15 (by rwa [ne (by decide)] at e); exact Rin.put_ne x0 (by decide)),
    (fun _ => ⟨⟨k, Rin.put_eq (by omega), hk5⟩, by rw [ne (by decide)]; exact h15⟩),
    (fun e => by obtain ⟨⟨g, k, x0, x1, x2⟩, y0, y1⟩ := h.c17 (by rwa [ne (by decide)] at e); exact ⟨⟨g, k, Rin.put_ne x0 (by decide), x1, x2.keep hk⟩, (by rw [ne (by decide)]; exact y0), Rin.set_self h16 false⟩),
    (fun e => by obtain ⟨⟨m, t, a, a', c, c', L, N, x0, x1⟩, y0⟩ := h.c18 (by rwa [ne (by decide)] at e); exact ⟨⟨m, t, a, a', c, c', L, N, Rin.put_ne x0 (by decide), x1.keep hz hk⟩, (by rw [ne (by decide)]; exact y0)⟩),
    (fun e => by obtain ⟨⟨g, x0, x1⟩, y0⟩ := h.c19 (by rwa [ne (by decide)] at e); exact ⟨⟨g, Rin.put_ne x0 (by decide), x1.keep hz hk⟩, (by rw [ne (by decide)]; exact y0)⟩)⟩
theorem CC.set0 {R q lo : Nat} {vW u : Value} {n : Int} {w0 w : World} {l : Array Bool} {A : Act} (h : CC R q lo vW n w0 l A w) (_h0 : l.getD 0 true = false)  (hu : (A.put (some 77) u).tmps[77]? = some vW) : CC R q lo vW n w0 (l.setIfInBounds 0 true) (A.put (some 77) u) w := by
  have hs := h.s
  have ne : ∀ {j : Nat}, j ≠ 0 → (l.setIfInBounds 0 true).getD j false = l.getD j false := fun hj => getD_set_ne false (fun e => hj e.symm)
  refine ⟨by simpa using h.ls, by rw [Rin.put_size]; exact h.s, h.d, Rin.put_ne h.r (by decide), Rin.put_ne h.v (by decide), fun e => h.q0 (by rwa [ne (by decide)] at e), fun e => h.q1 (by rwa [ne (by decide)] at e), h.g, (by rw [ne (by decide)]; exact h.e20), (fun e => by rw [ne (by decide)] at e ⊢; exact h.e21 e),
    (fun _ => hu),
    (fun e => by have x0 := h.c1 (by rwa [ne (by decide)] at e); exact Rin.put_ne x0 (by decide)),
    (fun e => by obtain ⟨x0, y0⟩ := h.c2 (by rwa [ne (by decide)] at e); exact ⟨Rin.put_ne x0 (by decide), (by rw [ne (by decide)]; exact y0)⟩),
    (fun e => by obtain ⟨⟨g, x0, x1⟩, y0⟩ := h.c3 (by rwa [ne (by decide)] at e); exact ⟨⟨g, Rin.put_ne x0 (by decide), x1⟩, (by rw [ne (by decide)]; exact y0)⟩),
    (fun e => by obtain ⟨⟨g, x0, x1⟩, y0⟩ := h.c4 (by rwa [ne (by decide)] at e); exact ⟨⟨g, Rin.put_ne x0 (by decide), x1⟩, (by rw [ne (by decide)]; exact y0)⟩),
    (fun e => by obtain ⟨g, x0, x1⟩ := h.c5 (by rwa [ne (by decide)] at e); exact ⟨g, Rin.put_ne x0 (by decide), x1⟩),
    (fun e => by obtain ⟨x0, y0⟩ := h.c6 (by rwa [ne (by decide)] at e); exact ⟨Rin.put_ne x0 (by decide), (by rw [ne (by decide)]; exact y0)⟩),
    (fun e => by obtain ⟨x0, y0⟩ := h.c7 (by rwa [ne (by decide)] at e); exact ⟨Rin.put_ne x0 (by decide), (by rw [ne (by decide)]; exact y0)⟩),
    (fun e => by have x0 := h.c8 (by rwa [ne (by decide)] at e); exact Rin.put_ne x0 (by decide)),
    (fun e => by obtain ⟨g, x0, x1⟩ := h.c9 (by rwa [ne (by decide)] at e); exact ⟨g, Rin.put_ne x0 (by decide), x1⟩),
    (fun e => by obtain ⟨⟨g, x0, x1⟩, y0⟩ := h.c10 (by rwa [ne (by decide)] at e); exact ⟨⟨g, Rin.put_ne x0 (by decide), x1⟩, (by rw [ne (by decide)]; exact y0)⟩),
    (fun e => by have x0 := h.c11 (by rwa [ne (by decide)] at e); exact Rin.put_ne x0 (by decide)),
    (fun e => by obtain ⟨⟨g, x0, x1⟩, y0⟩ := h.c12 (by rwa [ne (by decide)] at e); exact ⟨⟨g, Rin.put_ne x0 (by decide), x1⟩, (by rw [ne (by decide)]; exact y0)⟩),
    (fun e => by obtain ⟨⟨g, x0, x1⟩, y0⟩ := h.c13 (by rwa [ne (by decide)] at e); exact ⟨⟨g, Rin.put_ne x0 (by decide), x1⟩, (by rw [ne (by decide)]; exact y0)⟩),
    (fun e => by obtain ⟨⟨g, x0, x1⟩, y0, y1, y2, y3, y4⟩ := h.c14 (by rwa [ne (by decide)] at e); exact ⟨⟨g, Rin.put_ne x0 (by decide), x1⟩, (by rw [ne (by decide)]; exact y0), (by rw [ne (by decide)]; exact y1), (by rw [ne (by decide)]; exact y2), (by rw [ne (by decide)]; exact y3), (by rw [ne (by decide)]; exact y4)⟩),
    (fun e => by have x0 := h.c15 (by rwa [ne (by decide)] at e); exact Rin.put_ne x0 (by decide)),
    (fun e => by obtain ⟨⟨k, x0, x1⟩, y0⟩ := h.c16 (by rwa [ne (by decide)] at e); exact ⟨⟨k, Rin.put_ne x0 (by decide), x1⟩, (by rw [ne (by decide)]; exact y0)⟩),
    (fun e => by obtain ⟨⟨g, k, x0, x1, x2⟩, y0, y1⟩ := h.c17 (by rwa [ne (by decide)] at e); exact ⟨⟨g, k, Rin.put_ne x0 (by decide), x1, x2⟩, (by rw [ne (by decide)]; exact y0), (by rw [ne (by decide)]; exact y1)⟩),
    (fun e => by obtain ⟨⟨m, t, a, a', c, c', L, N, x0, x1⟩, y0⟩ := h.c18 (by rwa [ne (by decide)] at e); exact ⟨⟨m, t, a, a', c, c', L, N, Rin.put_ne x0 (by decide), x1⟩, (by rw [ne (by decide)]; exact y0)⟩),
    (fun e => by obtain ⟨⟨g, x0, x1⟩, y0⟩ := h.c19 (by rwa [ne (by decide)] at e); exact ⟨⟨g, Rin.put_ne x0 (by decide), x1⟩, (by rw [ne (by decide)]; exact y0)⟩)⟩
theorem CC.set1 {R q lo : Nat} {vW u : Value} {n : Int} {w0 w : World} {l : Array Bool} {A : Act} (h : CC R q lo vW n w0 l A w) (h0 : l.getD 1 true = false)  (hu : (A.put (some 78) u).tmps[78]? = some vW) : CC R q lo vW n w0 (l.setIfInBounds 1 true) (A.put (some 78) u) w := by
  have hs := h.s
  have ne : ∀ {j : Nat}, j ≠ 1 → (l.setIfInBounds 1 true).getD j false = l.getD j false := fun hj => getD_set_ne false (fun e => hj e.symm)
  refine ⟨by simpa using h.ls, by rw [Rin.put_size]; exact h.s, h.d, Rin.put_ne h.r (by decide), Rin.put_ne h.v (by decide), fun e => h.q0 (by rwa [ne (by decide)] at e), fun e => h.q1 (by rwa [ne (by decide)] at e), h.g, (by rw [ne (by decide)]; exact h.e20), (fun e => by rw [ne (by decide)] at e ⊢; exact h.e21 e),
    (fun e => by have x0 := h.c0 (by rwa [ne (by decide)] at e); exact Rin.put_ne x0 (by decide)),
    (fun _ => hu),
    (fun e => by obtain ⟨x0, y0⟩ := h.c2 (by rwa [ne (by decide)] at e); exact ⟨Rin.put_ne x0 (by decide), Rin.set_self h0 false⟩),
    (fun e => by obtain ⟨⟨g, x0, x1⟩, y0⟩ := h.c3 (by rwa [ne (by decide)] at e); exact ⟨⟨g, Rin.put_ne x0 (by decide), x1⟩, (by rw [ne (by decide)]; exact y0)⟩),
    (fun e => by obtain ⟨⟨g, x0, x1⟩, y0⟩ := h.c4 (by rwa [ne (by decide)] at e); exact ⟨⟨g, Rin.put_ne x0 (by decide), x1⟩, (by rw [ne (by decide)]; exact y0)⟩),
    (fun e => by obtain ⟨g, x0, x1⟩ := h.c5 (by rwa [ne (by decide)] at e); exact ⟨g, Rin.put_ne x0 (by decide), x1⟩),
    (fun e => by obtain ⟨x0, y0⟩ := h.c6 (by rwa [ne (by decide)] at e); exact ⟨Rin.put_ne x0 (by decide), (by rw [ne (by decide)]; exact y0)⟩),
    (fun e => by obtain ⟨x0, y0⟩ := h.c7 (by rwa [ne (by decide)] at e); exact ⟨Rin.put_ne x0 (by decide), (by rw [ne (by decide)]; exact y0)⟩),
    (fun e => by have x0 := h.c8 (by rwa [ne (by decide)] at e); exact Rin.put_ne x0 (by decide)),
    (fun e => by obtain ⟨g, x0, x1⟩ := h.c9 (by rwa [ne (by decide)] at e); exact ⟨g, Rin.put_ne x0 (by decide), x1⟩),
    (fun e => by obtain ⟨⟨g, x0, x1⟩, y0⟩ := h.c10 (by rwa [ne (by decide)] at e); exact ⟨⟨g, Rin.put_ne x0 (by decide), x1⟩, (by rw [ne (by decide)]; exact y0)⟩),
    (fun e => by have x0 := h.c11 (by rwa [ne (by decide)] at e); exact Rin.put_ne x0 (by decide)),
    (fun e => by obtain ⟨⟨g, x0, x1⟩, y0⟩ := h.c12 (by rwa [ne (by decide)] at e); exact ⟨⟨g, Rin.put_ne x0 (by decide), x1⟩, (by rw [ne (by decide)]; exact y0)⟩),
    (fun e => by obtain ⟨⟨g, x0, x1⟩, y0⟩ := h.c13 (by rwa [ne (by decide)] at e); exact ⟨⟨g, Rin.put_ne x0 (by decide), x1⟩, (by rw [ne (by decide)]; exact y0)⟩),
    (fun e => by obtain ⟨⟨g, x0, x1⟩, y0, y1, y2, y3, y4⟩ := h.c14 (by rwa [ne (by decide)] at e); exact ⟨⟨g, Rin.put_ne x0 (by decide), x1⟩, (by rw [ne (by decide)]; exact y0), (by rw [ne (by decide)]; exact y1), (by rw [ne (by decide)]; exact y2), (by rw [ne (by decide)]; exact y3), (by rw [ne (by decide)]; exact y4)⟩),
    (fun e => by have x0 := h.c15 (by rwa [ne (by decide)] at e); exact Rin.put_ne x0 (by decide)),
    (fun e => by obtain ⟨⟨k, x0, x1⟩, y0⟩ := h.c16 (by rwa [ne (by decide)] at e); exact ⟨⟨k, Rin.put_ne x0 (by decide), x1⟩, (by rw [ne (by decide)]; exact y0)⟩),
    (fun e => by obtain ⟨⟨g, k, x0, x1, x2⟩, y0, y1⟩ := h.c17 (by rwa [ne (by decide)] at e); exact ⟨⟨g, k, Rin.put_ne x0 (by decide), x1, x2⟩, (by rw [ne (by decide)]; exact y0), (by rw [ne (by decide)]; exact y1)⟩),
    (fun e => by obtain ⟨⟨m, t, a, a', c, c', L, N, x0, x1⟩, y0⟩ := h.c18 (by rwa [ne (by decide)] at e); exact ⟨⟨m, t, a, a', c, c', L, N, Rin.put_ne x0 (by decide), x1⟩, (by rw [ne (by decide)]; exact y0)⟩),
    (fun e => by obtain ⟨⟨g, x0, x1⟩, y0⟩ := h.c19 (by rwa [ne (by decide)] at e); exact ⟨⟨g, Rin.put_ne x0 (by decide), x1⟩, (by rw [ne (by decide)]; exact y0)⟩)⟩
theorem CC.set2 {R q lo : Nat} {vW u : Value} {n : Int} {w0 w : World} {l : Array Bool} {A : Act} (h : CC R q lo vW n w0 l A w) (h0 : l.getD 2 true = false) (d1 : l.getD 1 false = true) (hu : (A.put (some 79) u).tmps[79]? = some (.int .i64 n)) : CC R q lo vW n w0 (l.setIfInBounds 2 true) (A.put (some 79) u) w := by
  have hs := h.s
  have ne : ∀ {j : Nat}, j ≠ 2 → (l.setIfInBounds 2 true).getD j false = l.getD j false := fun hj => getD_set_ne false (fun e => hj e.symm)
  refine ⟨by simpa using h.ls, by rw [Rin.put_size]; exact h.s, h.d, Rin.put_ne h.r (by decide), Rin.put_ne h.v (by decide), fun e => h.q0 (by rwa [ne (by decide)] at e), fun e => h.q1 (by rwa [ne (by decide)] at e), h.g, (by rw [ne (by decide)]; exact h.e20), (fun e => by rw [ne (by decide)] at e ⊢; exact h.e21 e),
    (fun e => by have x0 := h.c0 (by rwa [ne (by decide)] at e); exact Rin.put_ne x0 (by decide)),
    (fun e => by have x0 := h.c1 (by rwa [ne (by decide)] at e); exact Rin.put_ne x0 (by decide)),
    (fun _ => ⟨hu, by rw [ne (by decide)]; exact d1⟩),
    (fun e => by obtain ⟨⟨g, x0, x1⟩, y0⟩ := h.c3 (by rwa [ne (by decide)] at e); exact ⟨⟨g, Rin.put_ne x0 (by decide), x1⟩, Rin.set_self h0 false⟩),
    (fun e => by obtain ⟨⟨g, x0, x1⟩, y0⟩ := h.c4 (by rwa [ne (by decide)] at e); exact ⟨⟨g, Rin.put_ne x0 (by decide), x1⟩, (by rw [ne (by decide)]; exact y0)⟩),
    (fun e => by obtain ⟨g, x0, x1⟩ := h.c5 (by rwa [ne (by decide)] at e); exact ⟨g, Rin.put_ne x0 (by decide), x1⟩),
    (fun e => by obtain ⟨x0, y0⟩ := h.c6 (by rwa [ne (by decide)] at e); exact ⟨Rin.put_ne x0 (by decide), (by rw [ne (by decide)]; exact y0)⟩),
    (fun e => by obtain ⟨x0, y0⟩ := h.c7 (by rwa [ne (by decide)] at e); exact ⟨Rin.put_ne x0 (by decide), (by rw [ne (by decide)]; exact y0)⟩),
    (fun e => by have x0 := h.c8 (by rwa [ne (by decide)] at e); exact Rin.put_ne x0 (by decide)),
    (fun e => by obtain ⟨g, x0, x1⟩ := h.c9 (by rwa [ne (by decide)] at e); exact ⟨g, Rin.put_ne x0 (by decide), x1⟩),
    (fun e => by obtain ⟨⟨g, x0, x1⟩, y0⟩ := h.c10 (by rwa [ne (by decide)] at e); exact ⟨⟨g, Rin.put_ne x0 (by decide), x1⟩, (by rw [ne (by decide)]; exact y0)⟩),
    (fun e => by have x0 := h.c11 (by rwa [ne (by decide)] at e); exact Rin.put_ne x0 (by decide)),
    (fun e => by obtain ⟨⟨g, x0, x1⟩, y0⟩ := h.c12 (by rwa [ne (by decide)] at e); exact ⟨⟨g, Rin.put_ne x0 (by decide), x1⟩, (by rw [ne (by decide)]; exact y0)⟩),
    (fun e => by obtain ⟨⟨g, x0, x1⟩, y0⟩ := h.c13 (by rwa [ne (by decide)] at e); exact ⟨⟨g, Rin.put_ne x0 (by decide), x1⟩, (by rw [ne (by decide)]; exact y0)⟩),
    (fun e => by obtain ⟨⟨g, x0, x1⟩, y0, y1, y2, y3, y4⟩ := h.c14 (by rwa [ne (by decide)] at e); exact ⟨⟨g, Rin.put_ne x0 (by decide), x1⟩, (by rw [ne (by decide)]; exact y0), (by rw [ne (by decide)]; exact y1), (by rw [ne (by decide)]; exact y2), (by rw [ne (by decide)]; exact y3), (by rw [ne (by decide)]; exact y4)⟩),
    (fun e => by have x0 := h.c15 (by rwa [ne (by decide)] at e); exact Rin.put_ne x0 (by decide)),
    (fun e => by obtain ⟨⟨k, x0, x1⟩, y0⟩ := h.c16 (by rwa [ne (by decide)] at e); exact ⟨⟨k, Rin.put_ne x0 (by decide), x1⟩, (by rw [ne (by decide)]; exact y0)⟩),
    (fun e => by obtain ⟨⟨g, k, x0, x1, x2⟩, y0, y1⟩ := h.c17 (by rwa [ne (by decide)] at e); exact ⟨⟨g, k, Rin.put_ne x0 (by decide), x1, x2⟩, (by rw [ne (by decide)]; exact y0), (by rw [ne (by decide)]; exact y1)⟩),
    (fun e => by obtain ⟨⟨m, t, a, a', c, c', L, N, x0, x1⟩, y0⟩ := h.c18 (by rwa [ne (by decide)] at e); exact ⟨⟨m, t, a, a', c, c', L, N, Rin.put_ne x0 (by decide), x1⟩, (by rw [ne (by decide)]; exact y0)⟩),
    (fun e => by obtain ⟨⟨g, x0, x1⟩, y0⟩ := h.c19 (by rwa [ne (by decide)] at e); exact ⟨⟨g, Rin.put_ne x0 (by decide), x1⟩, (by rw [ne (by decide)]; exact y0)⟩)⟩
theorem CC.set3 {R q lo : Nat} {vW u : Value} {n : Int} {w0 w : World} {l : Array Bool} {A : Act} (h : CC R q lo vW n w0 l A w) (h0 : l.getD 3 true = false) (d2 : l.getD 2 false = true) (hu : ∃ g, (A.put (some 80) u).tmps[80]? = some (.slice (some ⟨g, 0, none⟩) 1 1) ∧ I1 w lo g n) : CC R q lo vW n w0 (l.setIfInBounds 3 true) (A.put (some 80) u) w := by
  have hs := h.s
  have ne : ∀ {j : Nat}, j ≠ 3 → (l.setIfInBounds 3 true).getD j false = l.getD j false := fun hj => getD_set_ne false (fun e => hj e.symm)
  refine ⟨by simpa using h.ls, by rw [Rin.put_size]; exact h.s, h.d, Rin.put_ne h.r (by decide), Rin.put_ne h.v (by decide), fun e => h.q0 (by rwa [ne (by decide)] at e), fun e => h.q1 (by rwa [ne (by decide)] at e), h.g, (by rw [ne (by decide)]; exact h.e20), (fun e => by rw [ne (by decide)] at e ⊢; exact h.e21 e),
    (fun e => by have x0 := h.c0 (by rwa [ne (by decide)] at e); exact Rin.put_ne x0 (by decide)),
    (fun e => by have x0 := h.c1 (by rwa [ne (by decide)] at e); exact Rin.put_ne x0 (by decide)),
    (fun e => by obtain ⟨x0, y0⟩ := h.c2 (by rwa [ne (by decide)] at e); exact ⟨Rin.put_ne x0 (by decide), (by rw [ne (by decide)]; exact y0)⟩),
    (fun _ => ⟨hu, by rw [ne (by decide)]; exact d2⟩),
    (fun e => by obtain ⟨⟨g, x0, x1⟩, y0⟩ := h.c4 (by rwa [ne (by decide)] at e); exact ⟨⟨g, Rin.put_ne x0 (by decide), x1⟩, Rin.set_self h0 false⟩),
    (fun e => by obtain ⟨g, x0, x1⟩ := h.c5 (by rwa [ne (by decide)] at e); exact ⟨g, Rin.put_ne x0 (by decide), x1⟩),
    (fun e => by obtain ⟨x0, y0⟩ := h.c6 (by rwa [ne (by decide)] at e); exact ⟨Rin.put_ne x0 (by decide), (by rw [ne (by decide)]; exact y0)⟩),
    (fun e => by obtain ⟨x0, y0⟩ := h.c7 (by rwa [ne (by decide)] at e); exact ⟨Rin.put_ne x0 (by decide), (by rw [ne (by decide)]; exact y0)⟩),
    (fun e => by have x0 := h.c8 (by rwa [ne (by decide)] at e); exact Rin.put_ne x0 (by decide)),
    (fun e => by obtain ⟨g, x0, x1⟩ := h.c9 (by rwa [ne (by decide)] at e); exact ⟨g, Rin.put_ne x0 (by decide), x1⟩),
    (fun e => by obtain ⟨⟨g, x0, x1⟩, y0⟩ := h.c10 (by rwa [ne (by decide)] at e); exact ⟨⟨g, Rin.put_ne x0 (by decide), x1⟩, (by rw [ne (by decide)]; exact y0)⟩),
    (fun e => by have x0 := h.c11 (by rwa [ne (by decide)] at e); exact Rin.put_ne x0 (by decide)),
    (fun e => by obtain ⟨⟨g, x0, x1⟩, y0⟩ := h.c12 (by rwa [ne (by decide)] at e); exact ⟨⟨g, Rin.put_ne x0 (by decide), x1⟩, (by rw [ne (by decide)]; exact y0)⟩),
    (fun e => by obtain ⟨⟨g, x0, x1⟩, y0⟩ := h.c13 (by rwa [ne (by decide)] at e); exact ⟨⟨g, Rin.put_ne x0 (by decide), x1⟩, (by rw [ne (by decide)]; exact y0)⟩),
    (fun e => by obtain ⟨⟨g, x0, x1⟩, y0, y1, y2, y3, y4⟩ := h.c14 (by rwa [ne (by decide)] at e); exact ⟨⟨g, Rin.put_ne x0 (by decide), x1⟩, (by rw [ne (by decide)]; exact y0), (by rw [ne (by decide)]; exact y1), (by rw [ne (by decide)]; exact y2), (by rw [ne (by decide)]; exact y3), (by rw [ne (by decide)]; exact y4)⟩),
    (fun e => by have x0 := h.c15 (by rwa [ne (by decide)] at e); exact Rin.put_ne x0 (by decide)),
    (fun e => by obtain ⟨⟨k, x0, x1⟩, y0⟩ := h.c16 (by rwa [ne (by decide)] at e); exact ⟨⟨k, Rin.put_ne x0 (by decide), x1⟩, (by rw [ne (by decide)]; exact y0)⟩),
    (fun e => by obtain ⟨⟨g, k, x0, x1, x2⟩, y0, y1⟩ := h.c17 (by rwa [ne (by decide)] at e); exact ⟨⟨g, k, Rin.put_ne x0 (by decide), x1, x2⟩, (by rw [ne (by decide)]; exact y0), (by rw [ne (by decide)]; exact y1)⟩),
    (fun e => by obtain ⟨⟨m, t, a, a', c, c', L, N, x0, x1⟩, y0⟩ := h.c18 (by rwa [ne (by decide)] at e); exact ⟨⟨m, t, a, a', c, c', L, N, Rin.put_ne x0 (by decide), x1⟩, (by rw [ne (by decide)]; exact y0)⟩),
    (fun e => by obtain ⟨⟨g, x0, x1⟩, y0⟩ := h.c19 (by rwa [ne (by decide)] at e); exact ⟨⟨g, Rin.put_ne x0 (by decide), x1⟩, (by rw [ne (by decide)]; exact y0)⟩)⟩
theorem CC.set4 {R q lo : Nat} {vW u : Value} {n : Int} {w0 w : World} {l : Array Bool} {A : Act} (h : CC R q lo vW n w0 l A w) (h0 : l.getD 4 true = false) (d3 : l.getD 3 false = true) (hu : ∃ g, (A.put (some 81) u).tmps[81]? = some (tgt true ⟨#[]⟩ (.slice none 0 0) (.slice (some ⟨g, 0, none⟩) 1 1)) ∧ I1 w lo g n) : CC R q lo vW n w0 (l.setIfInBounds 4 true) (A.put (some 81) u) w := by
  have hs := h.s
  have ne : ∀ {j : Nat}, j ≠ 4 → (l.setIfInBounds 4 true).getD j false = l.getD j false := fun hj => getD_set_ne false (fun e => hj e.symm)
  refine ⟨by simpa using h.ls, by rw [Rin.put_size]; exact h.s, h.d, Rin.put_ne h.r (by decide), Rin.put_ne h.v (by decide), fun e => h.q0 (by rwa [ne (by decide)] at e), fun e => h.q1 (by rwa [ne (by decide)] at e), h.g, (by rw [ne (by decide)]; exact h.e20), (fun e => by rw [ne (by decide)] at e ⊢; exact h.e21 e),
    (fun e => by have x0 := h.c0 (by rwa [ne (by decide)] at e); exact Rin.put_ne x0 (by decide)),
    (fun e => by have x0 := h.c1 (by rwa [ne (by decide)] at e); exact Rin.put_ne x0 (by decide)),
    (fun e => by obtain ⟨x0, y0⟩ := h.c2 (by rwa [ne (by decide)] at e); exact ⟨Rin.put_ne x0 (by decide), (by rw [ne (by decide)]; exact y0)⟩),
    (fun e => by obtain ⟨⟨g, x0, x1⟩, y0⟩ := h.c3 (by rwa [ne (by decide)] at e); exact ⟨⟨g, Rin.put_ne x0 (by decide), x1⟩, (by rw [ne (by decide)]; exact y0)⟩),
    (fun _ => ⟨hu, by rw [ne (by decide)]; exact d3⟩),
    (fun e => by obtain ⟨g, x0, x1⟩ := h.c5 (by rwa [ne (by decide)] at e); exact ⟨g, Rin.put_ne x0 (by decide), x1⟩),
    (fun e => by obtain ⟨x0, y0⟩ := h.c6 (by rwa [ne (by decide)] at e); exact ⟨Rin.put_ne x0 (by decide), (by rw [ne (by decide)]; exact y0)⟩),
    (fun e => by obtain ⟨x0, y0⟩ := h.c7 (by rwa [ne (by decide)] at e); exact ⟨Rin.put_ne x0 (by decide), (by rw [ne (by decide)]; exact y0)⟩),
    (fun e => by have x0 := h.c8 (by rwa [ne (by decide)] at e); exact Rin.put_ne x0 (by decide)),
    (fun e => by obtain ⟨g, x0, x1⟩ := h.c9 (by rwa [ne (by decide)] at e); exact ⟨g, Rin.put_ne x0 (by decide), x1⟩),
    (fun e => by obtain ⟨⟨g, x0, x1⟩, y0⟩ := h.c10 (by rwa [ne (by decide)] at e); exact ⟨⟨g, Rin.put_ne x0 (by decide), x1⟩, (by rw [ne (by decide)]; exact y0)⟩),
    (fun e => by have x0 := h.c11 (by rwa [ne (by decide)] at e); exact Rin.put_ne x0 (by decide)),
    (fun e => by obtain ⟨⟨g, x0, x1⟩, y0⟩ := h.c12 (by rwa [ne (by decide)] at e); exact ⟨⟨g, Rin.put_ne x0 (by decide), x1⟩, (by rw [ne (by decide)]; exact y0)⟩),
    (fun e => by obtain ⟨⟨g, x0, x1⟩, y0⟩ := h.c13 (by rwa [ne (by decide)] at e); exact ⟨⟨g, Rin.put_ne x0 (by decide), x1⟩, (by rw [ne (by decide)]; exact y0)⟩),
    (fun e => by obtain ⟨⟨g, x0, x1⟩, y0, y1, y2, y3, y4⟩ := h.c14 (by rwa [ne (by decide)] at e); exact ⟨⟨g, Rin.put_ne x0 (by decide), x1⟩, Rin.set_self h0 false, (by rw [ne (by decide)]; exact y1), (by rw [ne (by decide)]; exact y2), (by rw [ne (by decide)]; exact y3), (by rw [ne (by decide)]; exact y4)⟩),
    (fun e => by have x0 := h.c15 (by rwa [ne (by decide)] at e); exact Rin.put_ne x0 (by decide)),
    (fun e => by obtain ⟨⟨k, x0, x1⟩, y0⟩ := h.c16 (by rwa [ne (by decide)] at e); exact ⟨⟨k, Rin.put_ne x0 (by decide), x1⟩, (by rw [ne (by decide)]; exact y0)⟩),
    (fun e => by obtain ⟨⟨g, k, x0, x1, x2⟩, y0, y1⟩ := h.c17 (by rwa [ne (by decide)] at e); exact ⟨⟨g, k, Rin.put_ne x0 (by decide), x1, x2⟩, (by rw [ne (by decide)]; exact y0), (by rw [ne (by decide)]; exact y1)⟩),
    (fun e => by obtain ⟨⟨m, t, a, a', c, c', L, N, x0, x1⟩, y0⟩ := h.c18 (by rwa [ne (by decide)] at e); exact ⟨⟨m, t, a, a', c, c', L, N, Rin.put_ne x0 (by decide), x1⟩, (by rw [ne (by decide)]; exact y0)⟩),
    (fun e => by obtain ⟨⟨g, x0, x1⟩, y0⟩ := h.c19 (by rwa [ne (by decide)] at e); exact ⟨⟨g, Rin.put_ne x0 (by decide), x1⟩, (by rw [ne (by decide)]; exact y0)⟩)⟩
theorem CC.set5 {R q lo : Nat} {vW u : Value} {n : Int} {w0 w : World} {l : Array Bool} {A : Act} (h : CC R q lo vW n w0 l A w) (h0 : l.getD 5 true = false)  (hu : ∃ g, (A.put (some 82) u).tmps[82]? = some (.slice (some ⟨g, 0, none⟩) 41 41) ∧ U1 w lo g) : CC R q lo vW n w0 (l.setIfInBounds 5 true) (A.put (some 82) u) w := by
  have hs := h.s
  have ne : ∀ {j : Nat}, j ≠ 5 → (l.setIfInBounds 5 true).getD j false = l.getD j false := fun hj => getD_set_ne false (fun e => hj e.symm)
  refine ⟨by simpa using h.ls, by rw [Rin.put_size]; exact h.s, h.d, Rin.put_ne h.r (by decide), Rin.put_ne h.v (by decide), fun e => h.q0 (by rwa [ne (by decide)] at e), fun e => h.q1 (by rwa [ne (by decide)] at e), h.g, (by rw [ne (by decide)]; exact h.e20), (fun e => by rw [ne (by decide)] at e ⊢; exact h.e21 e),
    (fun e => by have x0 := h.c0 (by rwa [ne (by decide)] at e); exact Rin.put_ne x0 (by decide)),
    (fun e => by have x0 := h.c1 (by rwa [ne (by decide)] at e); exact Rin.put_ne x0 (by decide)),
    (fun e => by obtain ⟨x0, y0⟩ := h.c2 (by rwa [ne (by decide)] at e); exact ⟨Rin.put_ne x0 (by decide), (by rw [ne (by decide)]; exact y0)⟩),
    (fun e => by obtain ⟨⟨g, x0, x1⟩, y0⟩ := h.c3 (by rwa [ne (by decide)] at e); exact ⟨⟨g, Rin.put_ne x0 (by decide), x1⟩, (by rw [ne (by decide)]; exact y0)⟩),
    (fun e => by obtain ⟨⟨g, x0, x1⟩, y0⟩ := h.c4 (by rwa [ne (by decide)] at e); exact ⟨⟨g, Rin.put_ne x0 (by decide), x1⟩, (by rw [ne (by decide)]; exact y0)⟩),
    (fun _ => hu),
    (fun e => by obtain ⟨x0, y0⟩ := h.c6 (by rwa [ne (by decide)] at e); exact ⟨Rin.put_ne x0 (by decide), Rin.set_self h0 false⟩),
    (fun e => by obtain ⟨x0, y0⟩ := h.c7 (by rwa [ne (by decide)] at e); exact ⟨Rin.put_ne x0 (by decide), (by rw [ne (by decide)]; exact y0)⟩),
    (fun e => by have x0 := h.c8 (by rwa [ne (by decide)] at e); exact Rin.put_ne x0 (by decide)),
    (fun e => by obtain ⟨g, x0, x1⟩ := h.c9 (by rwa [ne (by decide)] at e); exact ⟨g, Rin.put_ne x0 (by decide), x1⟩),
    (fun e => by obtain ⟨⟨g, x0, x1⟩, y0⟩ := h.c10 (by rwa [ne (by decide)] at e); exact ⟨⟨g, Rin.put_ne x0 (by decide), x1⟩, (by rw [ne (by decide)]; exact y0)⟩),
    (fun e => by have x0 := h.c11 (by rwa [ne (by decide)] at e); exact Rin.put_ne x0 (by decide)),
    (fun e => by obtain ⟨⟨g, x0, x1⟩, y0⟩ := h.c12 (by rwa [ne (by decide)] at e); exact ⟨⟨g, Rin.put_ne x0 (by decide), x1⟩, (by rw [ne (by decide)]; exact y0)⟩),
    (fun e => by obtain ⟨⟨g, x0, x1⟩, y0⟩ := h.c13 (by rwa [ne (by decide)] at e); exact ⟨⟨g, Rin.put_ne x0 (by decide), x1⟩, (by rw [ne (by decide)]; exact y0)⟩),
    (fun e => by obtain ⟨⟨g, x0, x1⟩, y0, y1, y2, y3, y4⟩ := h.c14 (by rwa [ne (by decide)] at e); exact ⟨⟨g, Rin.put_ne x0 (by decide), x1⟩, (by rw [ne (by decide)]; exact y0), (by rw [ne (by decide)]; exact y1), (by rw [ne (by decide)]; exact y2), (by rw [ne (by decide)]; exact y3), (by rw [ne (by decide)]; exact y4)⟩),
    (fun e => by have x0 := h.c15 (by rwa [ne (by decide)] at e); exact Rin.put_ne x0 (by decide)),
    (fun e => by obtain ⟨⟨k, x0, x1⟩, y0⟩ := h.c16 (by rwa [ne (by decide)] at e); exact ⟨⟨k, Rin.put_ne x0 (by decide), x1⟩, (by rw [ne (by decide)]; exact y0)⟩),
    (fun e => by obtain ⟨⟨g, k, x0, x1, x2⟩, y0, y1⟩ := h.c17 (by rwa [ne (by decide)] at e); exact ⟨⟨g, k, Rin.put_ne x0 (by decide), x1, x2⟩, (by rw [ne (by decide)]; exact y0), (by rw [ne (by decide)]; exact y1)⟩),
    (fun e => by obtain ⟨⟨m, t, a, a', c, c', L, N, x0, x1⟩, y0⟩ := h.c18 (by rwa [ne (by decide)] at e); exact ⟨⟨m, t, a, a', c, c', L, N, Rin.put_ne x0 (by decide), x1⟩, (by rw [ne (by decide)]; exact y0)⟩),
    (fun e => by obtain ⟨⟨g, x0, x1⟩, y0⟩ := h.c19 (by rwa [ne (by decide)] at e); exact ⟨⟨g, Rin.put_ne x0 (by decide), x1⟩, (by rw [ne (by decide)]; exact y0)⟩)⟩
theorem CC.set6 {R q lo : Nat} {vW u : Value} {n : Int} {w0 w : World} {l : Array Bool} {A : Act} (h : CC R q lo vW n w0 l A w) (h0 : l.getD 6 true = false) (d5 : l.getD 5 false = true) (hu : (A.put (some 83) u).tmps[83]? = some (.string z41)) : CC R q lo vW n w0 (l.setIfInBounds 6 true) (A.put (some 83) u) w := by
  have hs := h.s
  have ne : ∀ {j : Nat}, j ≠ 6 → (l.setIfInBounds 6 true).getD j false = l.getD j false := fun hj => getD_set_ne false (fun e => hj e.symm)
  refine ⟨by simpa using h.ls, by rw [Rin.put_size]; exact h.s, h.d, Rin.put_ne h.r (by decide), Rin.put_ne h.v (by decide), fun e => h.q0 (by rwa [ne (by decide)] at e), fun e => h.q1 (by rwa [ne (by decide)] at e), h.g, (by rw [ne (by decide)]; exact h.e20), (fun e => by rw [ne (by decide)] at e ⊢; exact h.e21 e),
    (fun e => by have x0 := h.c0 (by rwa [ne (by decide)] at e); exact Rin.put_ne x0 (by decide)),
    (fun e => by have x0 := h.c1 (by rwa [ne (by decide)] at e); exact Rin.put_ne x0 (by decide)),
    (fun e => by obtain ⟨x0, y0⟩ := h.c2 (by rwa [ne (by decide)] at e); exact ⟨Rin.put_ne x0 (by decide), (by rw [ne (by decide)]; exact y0)⟩),
    (fun e => by obtain ⟨⟨g, x0, x1⟩, y0⟩ := h.c3 (by rwa [ne (by decide)] at e); exact ⟨⟨g, Rin.put_ne x0 (by decide), x1⟩, (by rw [ne (by decide)]; exact y0)⟩),
    (fun e => by obtain ⟨⟨g, x0, x1⟩, y0⟩ := h.c4 (by rwa [ne (by decide)] at e); exact ⟨⟨g, Rin.put_ne x0 (by decide), x1⟩, (by rw [ne (by decide)]; exact y0)⟩),
    (fun e => by obtain ⟨g, x0, x1⟩ := h.c5 (by rwa [ne (by decide)] at e); exact ⟨g, Rin.put_ne x0 (by decide), x1⟩),
    (fun _ => ⟨hu, by rw [ne (by decide)]; exact d5⟩),
    (fun e => by obtain ⟨x0, y0⟩ := h.c7 (by rwa [ne (by decide)] at e); exact ⟨Rin.put_ne x0 (by decide), Rin.set_self h0 false⟩),
    (fun e => by have x0 := h.c8 (by rwa [ne (by decide)] at e); exact Rin.put_ne x0 (by decide)),
    (fun e => by obtain ⟨g, x0, x1⟩ := h.c9 (by rwa [ne (by decide)] at e); exact ⟨g, Rin.put_ne x0 (by decide), x1⟩),
    (fun e => by obtain ⟨⟨g, x0, x1⟩, y0⟩ := h.c10 (by rwa [ne (by decide)] at e); exact ⟨⟨g, Rin.put_ne x0 (by decide), x1⟩, (by rw [ne (by decide)]; exact y0)⟩),
    (fun e => by have x0 := h.c11 (by rwa [ne (by decide)] at e); exact Rin.put_ne x0 (by decide)),
    (fun e => by obtain ⟨⟨g, x0, x1⟩, y0⟩ := h.c12 (by rwa [ne (by decide)] at e); exact ⟨⟨g, Rin.put_ne x0 (by decide), x1⟩, (by rw [ne (by decide)]; exact y0)⟩),
    (fun e => by obtain ⟨⟨g, x0, x1⟩, y0⟩ := h.c13 (by rwa [ne (by decide)] at e); exact ⟨⟨g, Rin.put_ne x0 (by decide), x1⟩, (by rw [ne (by decide)]; exact y0)⟩),
    (fun e => by obtain ⟨⟨g, x0, x1⟩, y0, y1, y2, y3, y4⟩ := h.c14 (by rwa [ne (by decide)] at e); exact ⟨⟨g, Rin.put_ne x0 (by decide), x1⟩, (by rw [ne (by decide)]; exact y0), (by rw [ne (by decide)]; exact y1), (by rw [ne (by decide)]; exact y2), (by rw [ne (by decide)]; exact y3), (by rw [ne (by decide)]; exact y4)⟩),
    (fun e => by have x0 := h.c15 (by rwa [ne (by decide)] at e); exact Rin.put_ne x0 (by decide)),
    (fun e => by obtain ⟨⟨k, x0, x1⟩, y0⟩ := h.c16 (by rwa [ne (by decide)] at e); exact ⟨⟨k, Rin.put_ne x0 (by decide), x1⟩, (by rw [ne (by decide)]; exact y0)⟩),
    (fun e => by obtain ⟨⟨g, k, x0, x1, x2⟩, y0, y1⟩ := h.c17 (by rwa [ne (by decide)] at e); exact ⟨⟨g, k, Rin.put_ne x0 (by decide), x1, x2⟩, (by rw [ne (by decide)]; exact y0), (by rw [ne (by decide)]; exact y1)⟩),
    (fun e => by obtain ⟨⟨m, t, a, a', c, c', L, N, x0, x1⟩, y0⟩ := h.c18 (by rwa [ne (by decide)] at e); exact ⟨⟨m, t, a, a', c, c', L, N, Rin.put_ne x0 (by decide), x1⟩, (by rw [ne (by decide)]; exact y0)⟩),
    (fun e => by obtain ⟨⟨g, x0, x1⟩, y0⟩ := h.c19 (by rwa [ne (by decide)] at e); exact ⟨⟨g, Rin.put_ne x0 (by decide), x1⟩, (by rw [ne (by decide)]; exact y0)⟩)⟩
theorem CC.set7 {R q lo : Nat} {vW u : Value} {n : Int} {w0 w : World} {l : Array Bool} {A : Act} (h : CC R q lo vW n w0 l A w) (h0 : l.getD 7 true = false) (d6 : l.getD 6 false = true) (hu : (A.put (some 84) u).tmps[84]? = some (tgt false z41 (.slice none 0 0) (.slice none 0 0))) : CC R q lo vW n w0 (l.setIfInBounds 7 true) (A.put (some 84) u) w := by
  have hs := h.s
  have ne : ∀ {j : Nat}, j ≠ 7 → (l.setIfInBounds 7 true).getD j false = l.getD j false := fun hj => getD_set_ne false (fun e => hj e.symm)
  refine ⟨by simpa using h.ls, by rw [Rin.put_size]; exact h.s, h.d, Rin.put_ne h.r (by decide), Rin.put_ne h.v (by decide), fun e => h.q0 (by rwa [ne (by decide)] at e), fun e => h.q1 (by rwa [ne (by decide)] at e), h.g, (by rw [ne (by decide)]; exact h.e20), (fun e => by rw [ne (by decide)] at e ⊢; exact h.e21 e),
    (fun e => by have x0 := h.c0 (by rwa [ne (by decide)] at e); exact Rin.put_ne x0 (by decide)),
    (fun e => by have x0 := h.c1 (by rwa [ne (by decide)] at e); exact Rin.put_ne x0 (by decide)),
    (fun e => by obtain ⟨x0, y0⟩ := h.c2 (by rwa [ne (by decide)] at e); exact ⟨Rin.put_ne x0 (by decide), (by rw [ne (by decide)]; exact y0)⟩),
    (fun e => by obtain ⟨⟨g, x0, x1⟩, y0⟩ := h.c3 (by rwa [ne (by decide)] at e); exact ⟨⟨g, Rin.put_ne x0 (by decide), x1⟩, (by rw [ne (by decide)]; exact y0)⟩),
    (fun e => by obtain ⟨⟨g, x0, x1⟩, y0⟩ := h.c4 (by rwa [ne (by decide)] at e); exact ⟨⟨g, Rin.put_ne x0 (by decide), x1⟩, (by rw [ne (by decide)]; exact y0)⟩),
    (fun e => by obtain ⟨g, x0, x1⟩ := h.c5 (by rwa [ne (by decide)] at e); exact ⟨g, Rin.put_ne x0 (by decide), x1⟩),
    (fun e => by obtain ⟨x0, y0⟩ := h.c6 (by rwa [ne (by decide)] at e); exact ⟨Rin.put_ne x0 (by decide), (by rw [ne (by decide)]; exact y0)⟩),
    (fun _ => ⟨hu, by rw [ne (by decide)]; exact d6⟩),
    (fun e => by have x0 := h.c8 (by rwa [ne (by decide)] at e); exact Rin.put_ne x0 (by decide)),
    (fun e => by obtain ⟨g, x0, x1⟩ := h.c9 (by rwa [ne (by decide)] at e); exact ⟨g, Rin.put_ne x0 (by decide), x1⟩),
    (fun e => by obtain ⟨⟨g, x0, x1⟩, y0⟩ := h.c10 (by rwa [ne (by decide)] at e); exact ⟨⟨g, Rin.put_ne x0 (by decide), x1⟩, (by rw [ne (by decide)]; exact y0)⟩),
    (fun e => by have x0 := h.c11 (by rwa [ne (by decide)] at e); exact Rin.put_ne x0 (by decide)),
    (fun e => by obtain ⟨⟨g, x0, x1⟩, y0⟩ := h.c12 (by rwa [ne (by decide)] at e); exact ⟨⟨g, Rin.put_ne x0 (by decide), x1⟩, (by rw [ne (by decide)]; exact y0)⟩),
    (fun e => by obtain ⟨⟨g, x0, x1⟩, y0⟩ := h.c13 (by rwa [ne (by decide)] at e); exact ⟨⟨g, Rin.put_ne x0 (by decide), x1⟩, (by rw [ne (by decide)]; exact y0)⟩),
    (fun e => by obtain ⟨⟨g, x0, x1⟩, y0, y1, y2, y3, y4⟩ := h.c14 (by rwa [ne (by decide)] at e); exact ⟨⟨g, Rin.put_ne x0 (by decide), x1⟩, (by rw [ne (by decide)]; exact y0), Rin.set_self h0 false, (by rw [ne (by decide)]; exact y2), (by rw [ne (by decide)]; exact y3), (by rw [ne (by decide)]; exact y4)⟩),
    (fun e => by have x0 := h.c15 (by rwa [ne (by decide)] at e); exact Rin.put_ne x0 (by decide)),
    (fun e => by obtain ⟨⟨k, x0, x1⟩, y0⟩ := h.c16 (by rwa [ne (by decide)] at e); exact ⟨⟨k, Rin.put_ne x0 (by decide), x1⟩, (by rw [ne (by decide)]; exact y0)⟩),
    (fun e => by obtain ⟨⟨g, k, x0, x1, x2⟩, y0, y1⟩ := h.c17 (by rwa [ne (by decide)] at e); exact ⟨⟨g, k, Rin.put_ne x0 (by decide), x1, x2⟩, (by rw [ne (by decide)]; exact y0), (by rw [ne (by decide)]; exact y1)⟩),
    (fun e => by obtain ⟨⟨m, t, a, a', c, c', L, N, x0, x1⟩, y0⟩ := h.c18 (by rwa [ne (by decide)] at e); exact ⟨⟨m, t, a, a', c, c', L, N, Rin.put_ne x0 (by decide), x1⟩, (by rw [ne (by decide)]; exact y0)⟩),
    (fun e => by obtain ⟨⟨g, x0, x1⟩, y0⟩ := h.c19 (by rwa [ne (by decide)] at e); exact ⟨⟨g, Rin.put_ne x0 (by decide), x1⟩, (by rw [ne (by decide)]; exact y0)⟩)⟩
theorem CC.set8 {R q lo : Nat} {vW u : Value} {n : Int} {w0 w : World} {l : Array Bool} {A : Act} (h : CC R q lo vW n w0 l A w) (h0 : l.getD 8 true = false)  (hu : (A.put (some 85) u).tmps[85]? = some (tgt true ⟨#[120]⟩ (.slice none 0 0) (.slice none 0 0))) : CC R q lo vW n w0 (l.setIfInBounds 8 true) (A.put (some 85) u) w := by
  have hs := h.s
  have ne : ∀ {j : Nat}, j ≠ 8 → (l.setIfInBounds 8 true).getD j false = l.getD j false := fun hj => getD_set_ne false (fun e => hj e.symm)
  refine ⟨by simpa using h.ls, by rw [Rin.put_size]; exact h.s, h.d, Rin.put_ne h.r (by decide), Rin.put_ne h.v (by decide), fun e => h.q0 (by rwa [ne (by decide)] at e), fun e => h.q1 (by rwa [ne (by decide)] at e), h.g, (by rw [ne (by decide)]; exact h.e20), (fun e => by rw [ne (by decide)] at e ⊢; exact h.e21 e),
    (fun e => by have x0 := h.c0 (by rwa [ne (by decide)] at e); exact Rin.put_ne x0 (by decide)),
    (fun e => by have x0 := h.c1 (by rwa [ne (by decide)] at e); exact Rin.put_ne x0 (by decide)),
    (fun e => by obtain ⟨x0, y0⟩ := h.c2 (by rwa [ne (by decide)] at e); exact ⟨Rin.put_ne x0 (by decide), (by rw [ne (by decide)]; exact y0)⟩),
    (fun e => by obtain ⟨⟨g, x0, x1⟩, y0⟩ := h.c3 (by rwa [ne (by decide)] at e); exact ⟨⟨g, Rin.put_ne x0 (by decide), x1⟩, (by rw [ne (by decide)]; exact y0)⟩),
    (fun e => by obtain ⟨⟨g, x0, x1⟩, y0⟩ := h.c4 (by rwa [ne (by decide)] at e); exact ⟨⟨g, Rin.put_ne x0 (by decide), x1⟩, (by rw [ne (by decide)]; exact y0)⟩),
    (fun e => by obtain ⟨g, x0, x1⟩ := h.c5 (by rwa [ne (by decide)] at e); exact ⟨g, Rin.put_ne x0 (by decide), x1⟩),
    (fun e => by obtain ⟨x0, y0⟩ := h.c6 (by rwa [ne (by decide)] at e); exact ⟨Rin.put_ne x0 (by decide), (by rw [ne (by decide)]; exact y0)⟩),
    (fun e => by obtain ⟨x0, y0⟩ := h.c7 (by rwa [ne (by decide)] at e); exact ⟨Rin.put_ne x0 (by decide), (by rw [ne (by decide)]; exact y0)⟩),
    (fun _ => hu),
    (fun e => by obtain ⟨g, x0, x1⟩ := h.c9 (by rwa [ne (by decide)] at e); exact ⟨g, Rin.put_ne x0 (by decide), x1⟩),
    (fun e => by obtain ⟨⟨g, x0, x1⟩, y0⟩ := h.c10 (by rwa [ne (by decide)] at e); exact ⟨⟨g, Rin.put_ne x0 (by decide), x1⟩, (by rw [ne (by decide)]; exact y0)⟩),
    (fun e => by have x0 := h.c11 (by rwa [ne (by decide)] at e); exact Rin.put_ne x0 (by decide)),
    (fun e => by obtain ⟨⟨g, x0, x1⟩, y0⟩ := h.c12 (by rwa [ne (by decide)] at e); exact ⟨⟨g, Rin.put_ne x0 (by decide), x1⟩, (by rw [ne (by decide)]; exact y0)⟩),
    (fun e => by obtain ⟨⟨g, x0, x1⟩, y0⟩ := h.c13 (by rwa [ne (by decide)] at e); exact ⟨⟨g, Rin.put_ne x0 (by decide), x1⟩, (by rw [ne (by decide)]; exact y0)⟩),
    (fun e => by obtain ⟨⟨g, x0, x1⟩, y0, y1, y2, y3, y4⟩ := h.c14 (by rwa [ne (by decide)] at e); exact ⟨⟨g, Rin.put_ne x0 (by decide), x1⟩, (by rw [ne (by decide)]; exact y0), (by rw [ne (by decide)]; exact y1), Rin.set_self h0 false, (by rw [ne (by decide)]; exact y3), (by rw [ne (by decide)]; exact y4)⟩),
    (fun e => by have x0 := h.c15 (by rwa [ne (by decide)] at e); exact Rin.put_ne x0 (by decide)),
    (fun e => by obtain ⟨⟨k, x0, x1⟩, y0⟩ := h.c16 (by rwa [ne (by decide)] at e); exact ⟨⟨k, Rin.put_ne x0 (by decide), x1⟩, (by rw [ne (by decide)]; exact y0)⟩),
    (fun e => by obtain ⟨⟨g, k, x0, x1, x2⟩, y0, y1⟩ := h.c17 (by rwa [ne (by decide)] at e); exact ⟨⟨g, k, Rin.put_ne x0 (by decide), x1, x2⟩, (by rw [ne (by decide)]; exact y0), (by rw [ne (by decide)]; exact y1)⟩),
    (fun e => by obtain ⟨⟨m, t, a, a', c, c', L, N, x0, x1⟩, y0⟩ := h.c18 (by rwa [ne (by decide)] at e); exact ⟨⟨m, t, a, a', c, c', L, N, Rin.put_ne x0 (by decide), x1⟩, (by rw [ne (by decide)]; exact y0)⟩),
    (fun e => by obtain ⟨⟨g, x0, x1⟩, y0⟩ := h.c19 (by rwa [ne (by decide)] at e); exact ⟨⟨g, Rin.put_ne x0 (by decide), x1⟩, (by rw [ne (by decide)]; exact y0)⟩)⟩
theorem CC.set9 {R q lo : Nat} {vW u : Value} {n : Int} {w0 w : World} {l : Array Bool} {A : Act} (h : CC R q lo vW n w0 l A w) (h0 : l.getD 9 true = false)  (hu : ∃ g, (A.put (some 86) u).tmps[86]? = some (.slice (some ⟨g, 0, none⟩) 1 1) ∧ I1 w lo g 0) : CC R q lo vW n w0 (l.setIfInBounds 9 true) (A.put (some 86) u) w := by
  have hs := h.s
  have ne : ∀ {j : Nat}, j ≠ 9 → (l.setIfInBounds 9 true).getD j false = l.getD j false := fun hj => getD_set_ne false (fun e => hj e.symm)
  refine ⟨by simpa using h.ls, by rw [Rin.put_size]; exact h.s, h.d, Rin.put_ne h.r (by decide), Rin.put_ne h.v (by decide), fun e => h.q0 (by rwa [ne (by decide)] at e), fun e => h.q1 (by rwa [ne (by decide)] at e), h.g, (by rw [ne (by decide)]; exact h.e20), (fun e => by rw [ne (by decide)] at e ⊢; exact h.e21 e),
    (fun e => by have x0 := h.c0 (by rwa [ne (by decide)] at e); exact Rin.put_ne x0 (by decide)),
    (fun e => by have x0 := h.c1 (by rwa [ne (by decide)] at e); exact Rin.put_ne x0 (by decide)),
    (fun e => by obtain ⟨x0, y0⟩ := h.c2 (by rwa [ne (by decide)] at e); exact ⟨Rin.put_ne x0 (by decide), (by rw [ne (by decide)]; exact y0)⟩),
    (fun e => by obtain ⟨⟨g, x0, x1⟩, y0⟩ := h.c3 (by rwa [ne (by decide)] at e); exact ⟨⟨g, Rin.put_ne x0 (by decide), x1⟩, (by rw [ne (by decide)]; exact y0)⟩),
    (fun e => by obtain ⟨⟨g, x0, x1⟩, y0⟩ := h.c4 (by rwa [ne (by decide)] at e); exact ⟨⟨g, Rin.put_ne x0 (by decide), x1⟩, (by rw [ne (by decide)]; exact y0)⟩),
    (fun e => by obtain ⟨g, x0, x1⟩ := h.c5 (by rwa [ne (by decide)] at e); exact ⟨g, Rin.put_ne x0 (by decide), x1⟩),
    (fun e => by obtain ⟨x0, y0⟩ := h.c6 (by rwa [ne (by decide)] at e); exact ⟨Rin.put_ne x0 (by decide), (by rw [ne (by decide)]; exact y0)⟩),
    (fun e => by obtain ⟨x0, y0⟩ := h.c7 (by rwa [ne (by decide)] at e); exact ⟨Rin.put_ne x0 (by decide), (by rw [ne (by decide)]; exact y0)⟩),
    (fun e => by have x0 := h.c8 (by rwa [ne (by decide)] at e); exact Rin.put_ne x0 (by decide)),
    (fun _ => hu),
    (fun e => by obtain ⟨⟨g, x0, x1⟩, y0⟩ := h.c10 (by rwa [ne (by decide)] at e); exact ⟨⟨g, Rin.put_ne x0 (by decide), x1⟩, Rin.set_self h0 false⟩),
    (fun e => by have x0 := h.c11 (by rwa [ne (by decide)] at e); exact Rin.put_ne x0 (by decide)),
    (fun e => by obtain ⟨⟨g, x0, x1⟩, y0⟩ := h.c12 (by rwa [ne (by decide)] at e); exact ⟨⟨g, Rin.put_ne x0 (by decide), x1⟩, (by rw [ne (by decide)]; exact y0)⟩),
    (fun e => by obtain ⟨⟨g, x0, x1⟩, y0⟩ := h.c13 (by rwa [ne (by decide)] at e); exact ⟨⟨g, Rin.put_ne x0 (by decide), x1⟩, (by rw [ne (by decide)]; exact y0)⟩),
    (fun e => by obtain ⟨⟨g, x0, x1⟩, y0, y1, y2, y3, y4⟩ := h.c14 (by rwa [ne (by decide)] at e); exact ⟨⟨g, Rin.put_ne x0 (by decide), x1⟩, (by rw [ne (by decide)]; exact y0), (by rw [ne (by decide)]; exact y1), (by rw [ne (by decide)]; exact y2), (by rw [ne (by decide)]; exact y3), (by rw [ne (by decide)]; exact y4)⟩),
    (fun e => by have x0 := h.c15 (by rwa [ne (by decide)] at e); exact Rin.put_ne x0 (by decide)),
    (fun e => by obtain ⟨⟨k, x0, x1⟩, y0⟩ := h.c16 (by rwa [ne (by decide)] at e); exact ⟨⟨k, Rin.put_ne x0 (by decide), x1⟩, (by rw [ne (by decide)]; exact y0)⟩),
    (fun e => by obtain ⟨⟨g, k, x0, x1, x2⟩, y0, y1⟩ := h.c17 (by rwa [ne (by decide)] at e); exact ⟨⟨g, k, Rin.put_ne x0 (by decide), x1, x2⟩, (by rw [ne (by decide)]; exact y0), (by rw [ne (by decide)]; exact y1)⟩),
    (fun e => by obtain ⟨⟨m, t, a, a', c, c', L, N, x0, x1⟩, y0⟩ := h.c18 (by rwa [ne (by decide)] at e); exact ⟨⟨m, t, a, a', c, c', L, N, Rin.put_ne x0 (by decide), x1⟩, (by rw [ne (by decide)]; exact y0)⟩),
    (fun e => by obtain ⟨⟨g, x0, x1⟩, y0⟩ := h.c19 (by rwa [ne (by decide)] at e); exact ⟨⟨g, Rin.put_ne x0 (by decide), x1⟩, (by rw [ne (by decide)]; exact y0)⟩)⟩
theorem CC.set10 {R q lo : Nat} {vW u : Value} {n : Int} {w0 w : World} {l : Array Bool} {A : Act} (h : CC R q lo vW n w0 l A w) (h0 : l.getD 10 true = false) (d9 : l.getD 9 false = true) (hu : ∃ g, (A.put (some 87) u).tmps[87]? = some (tgt false ⟨#[]⟩ (.slice none 0 0) (.slice (some ⟨g, 0, none⟩) 1 1)) ∧ I1 w lo g 0) : CC R q lo vW n w0 (l.setIfInBounds 10 true) (A.put (some 87) u) w := by
  have hs := h.s
  have ne : ∀ {j : Nat}, j ≠ 10 → (l.setIfInBounds 10 true).getD j false = l.getD j false := fun hj => getD_set_ne false (fun e => hj e.symm)
  refine ⟨by simpa using h.ls, by rw [Rin.put_size]; exact h.s, h.d, Rin.put_ne h.r (by decide), Rin.put_ne h.v (by decide), fun e => h.q0 (by rwa [ne (by decide)] at e), fun e => h.q1 (by rwa [ne (by decide)] at e), h.g, (by rw [ne (by decide)]; exact h.e20), (fun e => by rw [ne (by decide)] at e ⊢; exact h.e21 e),
    (fun e => by have x0 := h.c0 (by rwa [ne (by decide)] at e); exact Rin.put_ne x0 (by decide)),
    (fun e => by have x0 := h.c1 (by rwa [ne (by decide)] at e); exact Rin.put_ne x0 (by decide)),
    (fun e => by obtain ⟨x0, y0⟩ := h.c2 (by rwa [ne (by decide)] at e); exact ⟨Rin.put_ne x0 (by decide), (by rw [ne (by decide)]; exact y0)⟩),
    (fun e => by obtain ⟨⟨g, x0, x1⟩, y0⟩ := h.c3 (by rwa [ne (by decide)] at e); exact ⟨⟨g, Rin.put_ne x0 (by decide), x1⟩, (by rw [ne (by decide)]; exact y0)⟩),
    (fun e => by obtain ⟨⟨g, x0, x1⟩, y0⟩ := h.c4 (by rwa [ne (by decide)] at e); exact ⟨⟨g, Rin.put_ne x0 (by decide), x1⟩, (by rw [ne (by decide)]; exact y0)⟩),
    (fun e => by obtain ⟨g, x0, x1⟩ := h.c5 (by rwa [ne (by decide)] at e); exact ⟨g, Rin.put_ne x0 (by decide), x1⟩),
    (fun e => by obtain ⟨x0, y0⟩ := h.c6 (by rwa [ne (by decide)] at e); exact ⟨Rin.put_ne x0 (by decide), (by rw [ne (by decide)]; exact y0)⟩),
    (fun e => by obtain ⟨x0, y0⟩ := h.c7 (by rwa [ne (by decide)] at e); exact ⟨Rin.put_ne x0 (by decide), (by rw [ne (by decide)]; exact y0)⟩),
    (fun e => by have x0 := h.c8 (by rwa [ne (by decide)] at e); exact Rin.put_ne x0 (by decide)),
    (fun e => by obtain ⟨g, x0, x1⟩ := h.c9 (by rwa [ne (by decide)] at e); exact ⟨g, Rin.put_ne x0 (by decide), x1⟩),
    (fun _ => ⟨hu, by rw [ne (by decide)]; exact d9⟩),
    (fun e => by have x0 := h.c11 (by rwa [ne (by decide)] at e); exact Rin.put_ne x0 (by decide)),
    (fun e => by obtain ⟨⟨g, x0, x1⟩, y0⟩ := h.c12 (by rwa [ne (by decide)] at e); exact ⟨⟨g, Rin.put_ne x0 (by decide), x1⟩, (by rw [ne (by decide)]; exact y0)⟩),
    (fun e => by obtain ⟨⟨g, x0, x1⟩, y0⟩ := h.c13 (by rwa [ne (by decide)] at e); exact ⟨⟨g, Rin.put_ne x0 (by decide), x1⟩, (by rw [ne (by decide)]; exact y0)⟩),
    (fun e => by obtain ⟨⟨g, x0, x1⟩, y0, y1, y2, y3, y4⟩ := h.c14 (by rwa [ne (by decide)] at e); exact ⟨⟨g, Rin.put_ne x0 (by decide), x1⟩, (by rw [ne (by decide)]; exact y0), (by rw [ne (by decide)]; exact y1), (by rw [ne (by decide)]; exact y2), Rin.set_self h0 false, (by rw [ne (by decide)]; exact y4)⟩),
    (fun e => by have x0 := h.c15 (by rwa [ne (by decide)] at e); exact Rin.put_ne x0 (by decide)),
    (fun e => by obtain ⟨⟨k, x0, x1⟩, y0⟩ := h.c16 (by rwa [ne (by decide)] at e); exact ⟨⟨k, Rin.put_ne x0 (by decide), x1⟩, (by rw [ne (by decide)]; exact y0)⟩),
    (fun e => by obtain ⟨⟨g, k, x0, x1, x2⟩, y0, y1⟩ := h.c17 (by rwa [ne (by decide)] at e); exact ⟨⟨g, k, Rin.put_ne x0 (by decide), x1, x2⟩, (by rw [ne (by decide)]; exact y0), (by rw [ne (by decide)]; exact y1)⟩),
    (fun e => by obtain ⟨⟨m, t, a, a', c, c', L, N, x0, x1⟩, y0⟩ := h.c18 (by rwa [ne (by decide)] at e); exact ⟨⟨m, t, a, a', c, c', L, N, Rin.put_ne x0 (by decide), x1⟩, (by rw [ne (by decide)]; exact y0)⟩),
    (fun e => by obtain ⟨⟨g, x0, x1⟩, y0⟩ := h.c19 (by rwa [ne (by decide)] at e); exact ⟨⟨g, Rin.put_ne x0 (by decide), x1⟩, (by rw [ne (by decide)]; exact y0)⟩)⟩
theorem CC.set11 {R q lo : Nat} {vW u : Value} {n : Int} {w0 w : World} {l : Array Bool} {A : Act} (h : CC R q lo vW n w0 l A w) (h0 : l.getD 11 true = false)  (hu : (A.put (some 88) u).tmps[88]? = some (line 0 0 0 ⟨#[]⟩)) : CC R q lo vW n w0 (l.setIfInBounds 11 true) (A.put (some 88) u) w := by
  have hs := h.s
  have ne : ∀ {j : Nat}, j ≠ 11 → (l.setIfInBounds 11 true).getD j false = l.getD j false := fun hj => getD_set_ne false (fun e => hj e.symm)
  refine ⟨by simpa using h.ls, by rw [Rin.put_size]; exact h.s, h.d, Rin.put_ne h.r (by decide), Rin.put_ne h.v (by decide), fun e => h.q0 (by rwa [ne (by decide)] at e), fun e => h.q1 (by rwa [ne (by decide)] at e), h.g, (by rw [ne (by decide)]; exact h.e20), (fun e => by rw [ne (by decide)] at e ⊢; exact h.e21 e),
    (fun e => by have x0 := h.c0 (by rwa [ne (by decide)] at e); exact Rin.put_ne x0 (by decide)),
    (fun e => by have x0 := h.c1 (by rwa [ne (by decide)] at e); exact Rin.put_ne x0 (by decide)),
    (fun e => by obtain ⟨x0, y0⟩ := h.c2 (by rwa [ne (by decide)] at e); exact ⟨Rin.put_ne x0 (by decide), (by rw [ne (by decide)]; exact y0)⟩),
    (fun e => by obtain ⟨⟨g, x0, x1⟩, y0⟩ := h.c3 (by rwa [ne (by decide)] at e); exact ⟨⟨g, Rin.put_ne x0 (by decide), x1⟩, (by rw [ne (by decide)]; exact y0)⟩),
    (fun e => by obtain ⟨⟨g, x0, x1⟩, y0⟩ := h.c4 (by rwa [ne (by decide)] at e); exact ⟨⟨g, Rin.put_ne x0 (by decide), x1⟩, (by rw [ne (by decide)]; exact y0)⟩),
    (fun e => by obtain ⟨g, x0, x1⟩ := h.c5 (by rwa [ne (by decide)] at e); exact ⟨g, Rin.put_ne x0 (by decide), x1⟩),
    (fun e => by obtain ⟨x0, y0⟩ := h.c6 (by rwa [ne (by decide)] at e); exact ⟨Rin.put_ne x0 (by decide), (by rw [ne (by decide)]; exact y0)⟩),
    (fun e => by obtain ⟨x0, y0⟩ := h.c7 (by rwa [ne (by decide)] at e); exact ⟨Rin.put_ne x0 (by decide), (by rw [ne (by decide)]; exact y0)⟩),
    (fun e => by have x0 := h.c8 (by rwa [ne (by decide)] at e); exact Rin.put_ne x0 (by decide)),
    (fun e => by obtain ⟨g, x0, x1⟩ := h.c9 (by rwa [ne (by decide)] at e); exact ⟨g, Rin.put_ne x0 (by decide), x1⟩),
    (fun e => by obtain ⟨⟨g, x0, x1⟩, y0⟩ := h.c10 (by rwa [ne (by decide)] at e); exact ⟨⟨g, Rin.put_ne x0 (by decide), x1⟩, (by rw [ne (by decide)]; exact y0)⟩),
    (fun _ => hu),
    (fun e => by obtain ⟨⟨g, x0, x1⟩, y0⟩ := h.c12 (by rwa [ne (by decide)] at e); exact ⟨⟨g, Rin.put_ne x0 (by decide), x1⟩, Rin.set_self h0 false⟩),
    (fun e => by obtain ⟨⟨g, x0, x1⟩, y0⟩ := h.c13 (by rwa [ne (by decide)] at e); exact ⟨⟨g, Rin.put_ne x0 (by decide), x1⟩, (by rw [ne (by decide)]; exact y0)⟩),
    (fun e => by obtain ⟨⟨g, x0, x1⟩, y0, y1, y2, y3, y4⟩ := h.c14 (by rwa [ne (by decide)] at e); exact ⟨⟨g, Rin.put_ne x0 (by decide), x1⟩, (by rw [ne (by decide)]; exact y0), (by rw [ne (by decide)]; exact y1), (by rw [ne (by decide)]; exact y2), (by rw [ne (by decide)]; exact y3), (by rw [ne (by decide)]; exact y4)⟩),
    (fun e => by have x0 := h.c15 (by rwa [ne (by decide)] at e); exact Rin.put_ne x0 (by decide)),
    (fun e => by obtain ⟨⟨k, x0, x1⟩, y0⟩ := h.c16 (by rwa [ne (by decide)] at e); exact ⟨⟨k, Rin.put_ne x0 (by decide), x1⟩, (by rw [ne (by decide)]; exact y0)⟩),
    (fun e => by obtain ⟨⟨g, k, x0, x1, x2⟩, y0, y1⟩ := h.c17 (by rwa [ne (by decide)] at e); exact ⟨⟨g, k, Rin.put_ne x0 (by decide), x1, x2⟩, (by rw [ne (by decide)]; exact y0), (by rw [ne (by decide)]; exact y1)⟩),
    (fun e => by obtain ⟨⟨m, t, a, a', c, c', L, N, x0, x1⟩, y0⟩ := h.c18 (by rwa [ne (by decide)] at e); exact ⟨⟨m, t, a, a', c, c', L, N, Rin.put_ne x0 (by decide), x1⟩, (by rw [ne (by decide)]; exact y0)⟩),
    (fun e => by obtain ⟨⟨g, x0, x1⟩, y0⟩ := h.c19 (by rwa [ne (by decide)] at e); exact ⟨⟨g, Rin.put_ne x0 (by decide), x1⟩, (by rw [ne (by decide)]; exact y0)⟩)⟩
theorem CC.set12 {R q lo : Nat} {vW u : Value} {n : Int} {w0 w : World} {l : Array Bool} {A : Act} (h : CC R q lo vW n w0 l A w) (h0 : l.getD 12 true = false) (d11 : l.getD 11 false = true) (hu : ∃ g, (A.put (some 89) u).tmps[89]? = some (.slice (some ⟨g, 0, none⟩) 1 1) ∧ L1 w lo g) : CC R q lo vW n w0 (l.setIfInBounds 12 true) (A.put (some 89) u) w := by
  have hs := h.s
  have ne : ∀ {j : Nat}, j ≠ 12 → (l.setIfInBounds 12 true).getD j false = l.getD j false := fun hj => getD_set_ne false (fun e => hj e.symm)
  refine ⟨by simpa using h.ls, by rw [Rin.put_size]; exact h.s, h.d, Rin.put_ne h.r (by decide), Rin.put_ne h.v (by decide), fun e => h.q0 (by rwa [ne (by decide)] at e), fun e => h.q1 (by rwa [ne (by decide)] at e), h.g, (by rw [ne (by decide)]; exact h.e20), (fun e => by rw [ne (by decide)] at e ⊢; exact h.e21 e),
    (fun e => by have x0 := h.c0 (by rwa [ne (by decide)] at e); exact Rin.put_ne x0 (by decide)),
    (fun e => by have x0 := h.c1 (by rwa [ne (by decide)] at e); exact Rin.put_ne x0 (by decide)),
    (fun e => by obtain ⟨x0, y0⟩ := h.c2 (by rwa [ne (by decide)] at e); exact ⟨Rin.put_ne x0 (by decide), (by rw [ne (by decide)]; exact y0)⟩),
    (fun e => by obtain ⟨⟨g, x0, x1⟩, y0⟩ := h.c3 (by rwa [ne (by decide)] at e); exact ⟨⟨g, Rin.put_ne x0 (by decide), x1⟩, (by rw [ne (by decide)]; exact y0)⟩),
    (fun e => by obtain ⟨⟨g, x0, x1⟩, y0⟩ := h.c4 (by rwa [ne (by decide)] at e); exact ⟨⟨g, Rin.put_ne x0 (by decide), x1⟩, (by rw [ne (by decide)]; exact y0)⟩),
    (fun e => by obtain ⟨g, x0, x1⟩ := h.c5 (by rwa [ne (by decide)] at e); exact ⟨g, Rin.put_ne x0 (by decide), x1⟩),
    (fun e => by obtain ⟨x0, y0⟩ := h.c6 (by rwa [ne (by decide)] at e); exact ⟨Rin.put_ne x0 (by decide), (by rw [ne (by decide)]; exact y0)⟩),
    (fun e => by obtain ⟨x0, y0⟩ := h.c7 (by rwa [ne (by decide)] at e); exact ⟨Rin.put_ne x0 (by decide), (by rw [ne (by decide)]; exact y0)⟩),
    (fun e => by have x0 := h.c8 (by rwa [ne (by decide)] at e); exact Rin.put_ne x0 (by decide)),
    (fun e => by obtain ⟨g, x0, x1⟩ := h.c9 (by rwa [ne (by decide)] at e); exact ⟨g, Rin.put_ne x0 (by decide), x1⟩),
    (fun e => by obtain ⟨⟨g, x0, x1⟩, y0⟩ := h.c10 (by rwa [ne (by decide)] at e); exact ⟨⟨g, Rin.put_ne x0 (by decide), x1⟩, (by rw [ne (by decide)]; exact y0)⟩),
    (fun e => by have x0 := h.c11 (by rwa [ne (by decide)] at e); exact Rin.put_ne x0 (by decide)),
    (fun _ => ⟨hu, by rw [ne (by decide)]; exact d11⟩),
    (fun e => by obtain ⟨⟨g, x0, x1⟩, y0⟩ := h.c13 (by rwa [ne (by decide)] at e); exact ⟨⟨g, Rin.put_ne x0 (by decide), x1⟩, Rin.set_self h0 false⟩),
    (fun e => by obtain ⟨⟨g, x0, x1⟩, y0, y1, y2, y3, y4⟩ := h.c14 (by rwa [ne (by decide)] at e); exact ⟨⟨g, Rin.put_ne x0 (by decide), x1⟩, (by rw [ne (by decide)]; exact y0), (by rw [ne (by decide)]; exact y1), (by rw [ne (by decide)]; exact y2), (by rw [ne (by decide)]; exact y3), (by rw [ne (by decide)]; exact y4)⟩),
    (fun e => by have x0 := h.c15 (by rwa [ne (by decide)] at e); exact Rin.put_ne x0 (by decide)),
    (fun e => by obtain ⟨⟨k, x0, x1⟩, y0⟩ := h.c16 (by rwa [ne (by decide)] at e); exact ⟨⟨k, Rin.put_ne x0 (by decide), x1⟩, (by rw [ne (by decide)]; exact y0)⟩),
    (fun e => by obtain ⟨⟨g, k, x0, x1, x2⟩, y0, y1⟩ := h.c17 (by rwa [ne (by decide)] at e); exact ⟨⟨g, k, Rin.put_ne x0 (by decide), x1, x2⟩, (by rw [ne (by decide)]; exact y0), (by rw [ne (by decide)]; exact y1)⟩),
    (fun e => by obtain ⟨⟨m, t, a, a', c, c', L, N, x0, x1⟩, y0⟩ := h.c18 (by rwa [ne (by decide)] at e); exact ⟨⟨m, t, a, a', c, c', L, N, Rin.put_ne x0 (by decide), x1⟩, (by rw [ne (by decide)]; exact y0)⟩),
    (fun e => by obtain ⟨⟨g, x0, x1⟩, y0⟩ := h.c19 (by rwa [ne (by decide)] at e); exact ⟨⟨g, Rin.put_ne x0 (by decide), x1⟩, (by rw [ne (by decide)]; exact y0)⟩)⟩
theorem CC.set13 {R q lo : Nat} {vW u : Value} {n : Int} {w0 w : World} {l : Array Bool} {A : Act} (h : CC R q lo vW n w0 l A w) (h0 : l.getD 13 true = false) (d12 : l.getD 12 false = true) (hu : ∃ g, (A.put (some 90) u).tmps[90]? = some (tgt true ⟨#[]⟩ (.slice (some ⟨g, 0, none⟩) 1 1) (.slice none 0 0)) ∧ L1 w lo g) : CC R q lo vW n w0 (l.setIfInBounds 13 true) (A.put (some 90) u) w := by
  have hs := h.s
  have ne : ∀ {j : Nat}, j ≠ 13 → (l.setIfInBounds 13 true).getD j false = l.getD j false := fun hj => getD_set_ne false (fun e => hj e.symm)
  refine ⟨by simpa using h.ls, by rw [Rin.put_size]; exact h.s, h.d, Rin.put_ne h.r (by decide), Rin.put_ne h.v (by decide), fun e => h.q0 (by rwa [ne (by decide)] at e), fun e => h.q1 (by rwa [ne (by decide)] at e), h.g, (by rw [ne (by decide)]; exact h.e20), (fun e => by rw [ne (by decide)] at e ⊢; exact h.e21 e),
    (fun e => by have x0 := h.c0 (by rwa [ne (by decide)] at e); exact Rin.put_ne x0 (by decide)),
    (fun e => by have x0 := h.c1 (by rwa [ne (by decide)] at e); exact Rin.put_ne x0 (by decide)),
    (fun e => by obtain ⟨x0, y0⟩ := h.c2 (by rwa [ne (by decide)] at e); exact ⟨Rin.put_ne x0 (by decide), (by rw [ne (by decide)]; exact y0)⟩),
    (fun e => by obtain ⟨⟨g, x0, x1⟩, y0⟩ := h.c3 (by rwa [ne (by decide)] at e); exact ⟨⟨g, Rin.put_ne x0 (by decide), x1⟩, (by rw [ne (by decide)]; exact y0)⟩),
    (fun e => by obtain ⟨⟨g, x0, x1⟩, y0⟩ := h.c4 (by rwa [ne (by decide)] at e); exact ⟨⟨g, Rin.put_ne x0 (by decide), x1⟩, (by rw [ne (by decide)]; exact y0)⟩),
    (fun e => by obtain ⟨g, x0, x1⟩ := h.c5 (by rwa [ne (by decide)] at e); exact ⟨g, Rin.put_ne x0 (by decide), x1⟩),
    (fun e => by obtain ⟨x0, y0⟩ := h.c6 (by rwa [ne (by decide)] at e); exact ⟨Rin.put_ne x0 (by decide), (by rw [ne (by decide)]; exact y0)⟩),
    (fun e => by obtain ⟨x0, y0⟩ := h.c7 (by rwa [ne (by decide)] at e); exact ⟨Rin.put_ne x0 (by decide), (by rw [ne (by decide)]; exact y0)⟩),
    (fun e => by have x0 := h.c8 (by rwa [ne (by decide)] at e); exact Rin.put_ne x0 (by decide)),
    (fun e => by obtain ⟨g, x0, x1⟩ := h.c9 (by rwa [ne (by decide)] at e); exact ⟨g, Rin.put_ne x0 (by decide), x1⟩),
    (fun e => by obtain ⟨⟨g, x0, x1⟩, y0⟩ := h.c10 (by rwa [ne (by decide)] at e); exact ⟨⟨g, Rin.put_ne x0 (by decide), x1⟩, (by rw [ne (by decide)]; exact y0)⟩),
    (fun e => by have x0 := h.c11 (by rwa [ne (by decide)] at e); exact Rin.put_ne x0 (by decide)),
    (fun e => by obtain ⟨⟨g, x0, x1⟩, y0⟩ := h.c12 (by rwa [ne (by decide)] at e); exact ⟨⟨g, Rin.put_ne x0 (by decide), x1⟩, (by rw [ne (by decide)]; exact y0)⟩),
    (fun _ => ⟨hu, by rw [ne (by decide)]; exact d12⟩),
    (fun e => by obtain ⟨⟨g, x0, x1⟩, y0, y1, y2, y3, y4⟩ := h.c14 (by rwa [ne (by decide)] at e); exact ⟨⟨g, Rin.put_ne x0 (by decide), x1⟩, (by rw [ne (by decide)]; exact y0), (by rw [ne (by decide)]; exact y1), (by rw [ne (by decide)]; exact y2), (by rw [ne (by decide)]; exact y3), Rin.set_self h0 false⟩),
    (fun e => by have x0 := h.c15 (by rwa [ne (by decide)] at e); exact Rin.put_ne x0 (by decide)),
    (fun e => by obtain ⟨⟨k, x0, x1⟩, y0⟩ := h.c16 (by rwa [ne (by decide)] at e); exact ⟨⟨k, Rin.put_ne x0 (by decide), x1⟩, (by rw [ne (by decide)]; exact y0)⟩),
    (fun e => by obtain ⟨⟨g, k, x0, x1, x2⟩, y0, y1⟩ := h.c17 (by rwa [ne (by decide)] at e); exact ⟨⟨g, k, Rin.put_ne x0 (by decide), x1, x2⟩, (by rw [ne (by decide)]; exact y0), (by rw [ne (by decide)]; exact y1)⟩),
    (fun e => by obtain ⟨⟨m, t, a, a', c, c', L, N, x0, x1⟩, y0⟩ := h.c18 (by rwa [ne (by decide)] at e); exact ⟨⟨m, t, a, a', c, c', L, N, Rin.put_ne x0 (by decide), x1⟩, (by rw [ne (by decide)]; exact y0)⟩),
    (fun e => by obtain ⟨⟨g, x0, x1⟩, y0⟩ := h.c19 (by rwa [ne (by decide)] at e); exact ⟨⟨g, Rin.put_ne x0 (by decide), x1⟩, (by rw [ne (by decide)]; exact y0)⟩)⟩
theorem CC.set14 {R q lo : Nat} {vW u : Value} {n : Int} {w0 w : World} {l : Array Bool} {A : Act} (h : CC R q lo vW n w0 l A w) (h0 : l.getD 14 true = false) (d4 : l.getD 4 false = true) (d7 : l.getD 7 false = true) (d8 : l.getD 8 false = true) (d10 : l.getD 10 false = true) (d13 : l.getD 13 false = true) (hu : ∃ g, (A.put (some 91) u).tmps[91]? = some (.slice (some ⟨g, 0, none⟩) 5 5) ∧ Tb w lo g n) : CC R q lo vW n w0 (l.setIfInBounds 14 true) (A.put (some 91) u) w := by
  have hs := h.s
  have ne : ∀ {j : Nat}, j ≠ 14 → (l.setIfInBounds 14 true).getD j false = l.getD j false := fun hj => getD_set_ne false (fun e => hj e.symm)
  refine ⟨by simpa using h.ls, by rw [Rin.put_size]; exact h.s, h.d, Rin.put_ne h.r (by decide), Rin.put_ne h.v (by decide), fun e => h.q0 (by rwa [ne (by decide)] at e), fun e => h.q1 (by rwa [ne (by decide)] at e), h.g, (by rw [ne (by decide)]; exact h.e20), (fun e => by rw [ne (by decide)] at e ⊢; exact h.e21 e),
    (fun e => by have x0 := h.c0 (by rwa [ne (by decide)] at e); exact Rin.put_ne x0 (by decide)),
    (fun e => by have x0 := h.c1 (by rwa [ne (by decide)] at e); exact Rin.put_ne x0 (by decide)),
    (fun e => by obtain ⟨x0, y0⟩ := h.c2 (by rwa [ne (by decide)] at e); exact ⟨Rin.put_ne x0 (by decide), (by rw [ne (by decide)]; exact y0)⟩),
    (fun e => by obtain ⟨⟨g, x0, x1⟩, y0⟩ := h.c3 (by rwa [ne (by decide)] at e); exact ⟨⟨g, Rin.put_ne x0 (by decide), x1⟩, (by rw [ne (by decide)]; exact y0)⟩),
    (fun e => by obtain ⟨⟨g, x0, x1⟩, y0⟩ := h.c4 (by rwa [ne (by decide)] at e); exact ⟨⟨g, Rin.put_ne x0 (by decide), x1⟩, (by rw [ne (by decide)]; exact y0)⟩),
    (fun e => by obtain ⟨g, x0, x1⟩ := h.c5 (by rwa [ne (by decide)] at e); exact ⟨g, Rin.put_ne x0 (by decide), x1⟩),
    (fun e => by obtain ⟨x0, y0⟩ := h.c6 (by rwa [ne (by decide)] at e); exact ⟨Rin.put_ne x0 (by decide), (by rw [ne (by decide)]; exact y0)⟩),
    (fun e => by obtain ⟨x0, y0⟩ := h.c7 (by rwa [ne (by decide)] at e); exact ⟨Rin.put_ne x0 (by decide), (by rw [ne (by decide)]; exact y0)⟩),
    (fun e => by have x0 := h.c8 (by rwa [ne (by decide)] at e); exact Rin.put_ne x0 (by decide)),
    (fun e => by obtain ⟨g, x0, x1⟩ := h.c9 (by rwa [ne (by decide)] at e); exact ⟨g, Rin.put_ne x0 (by decide), x1⟩),
    (fun e => by obtain ⟨⟨g, x0, x1⟩, y0⟩ := h.c10 (by rwa [ne (by decide)] at e); exact ⟨⟨g, Rin.put_ne x0 (by decide), x1⟩, (by rw [ne (by decide)]; exact y0)⟩),
    (fun e => by have x0 := h.c11 (by rwa [ne (by decide)] at e); exact Rin.put_ne x0 (by decide)),
    (fun e => by obtain ⟨⟨g, x0, x1⟩, y0⟩ := h.c12 (by rwa [ne (by decide)] at e); exact ⟨⟨g, Rin.put_ne x0 (by decide), x1⟩, (by rw [ne (by decide)]; exact y0)⟩),
    (fun e => by obtain ⟨⟨g, x0, x1⟩, y0⟩ := h.c13 (by rwa [ne (by decide)] at e); exact ⟨⟨g, Rin.put_ne x0 (by decide), x1⟩, (by rw [ne (by decide)]; exact y0)⟩),
    (fun _ => ⟨hu, by rw [ne (by decide)]; exact d4, by rw [ne (by decide)]; exact d7, by rw [ne (by decide)]; exact d8, by rw [ne (by decide)]; exact d10, by rw [ne (by decide)]; exact d13⟩),
    (fun e => by have x0 := h.c15 (by rwa [ne (by decide)] at e); exact Rin.put_ne x0 (by decide)),
    (fun e => by obtain ⟨⟨k, x0, x1⟩, y0⟩ := h.c16 (by rwa [ne (by decide)] at e); exact ⟨⟨k, Rin.put_ne x0 (by decide), x1⟩, (by rw [ne (by decide)]; exact y0)⟩),
    (fun e => by obtain ⟨⟨g, k, x0, x1, x2⟩, y0, y1⟩ := h.c17 (by rwa [ne (by decide)] at e); exact ⟨⟨g, k, Rin.put_ne x0 (by decide), x1, x2⟩, Rin.set_self h0 false, (by rw [ne (by decide)]; exact y1)⟩),
    (fun e => by obtain ⟨⟨m, t, a, a', c, c', L, N, x0, x1⟩, y0⟩ := h.c18 (by rwa [ne (by decide)] at e); exact ⟨⟨m, t, a, a', c, c', L, N, Rin.put_ne x0 (by decide), x1⟩, (by rw [ne (by decide)]; exact y0)⟩),
    (fun e => by obtain ⟨⟨g, x0, x1⟩, y0⟩ := h.c19 (by rwa [ne (by decide)] at e); exact ⟨⟨g, Rin.put_ne x0 (by decide), x1⟩, (by rw [ne (by decide)]; exact y0)⟩)⟩
theorem CC.set15 {R q lo : Nat} {vW u : Value} {n : Int} {w0 w : World} {l : Array Bool} {A : Act} (h : CC R q lo vW n w0 l A w) (h0 : l.getD 15 true = false)  (hu : (A.put (some 92) u).tmps[92]? = some (.pointer (some ⟨R, 0, none⟩))) : CC R q lo vW n w0 (l.setIfInBounds 15 true) (A.put (some 92) u) w := by
  have hs := h.s
  have ne : ∀ {j : Nat}, j ≠ 15 → (l.setIfInBounds 15 true).getD j false = l.getD j false := fun hj => getD_set_ne false (fun e => hj e.symm)
  refine ⟨by simpa using h.ls, by rw [Rin.put_size]; exact h.s, h.d, Rin.put_ne h.r (by decide), Rin.put_ne h.v (by decide), fun e => h.q0 (by rwa [ne (by decide)] at e), fun e => h.q1 (by rwa [ne (by decide)] at e), h.g, (by rw [ne (by decide)]; exact h.e20), (fun e => by rw [ne (by decide)] at e ⊢; exact h.e21 e),
    (fun e => by have x0 := h.c0 (by rwa [ne (by decide)] at e); exact Rin.put_ne x0 (by decide)),
    (fun e => by have x0 := h.c1 (by rwa [ne (by decide)] at e); exact Rin.put_ne x0 (by decide)),
    (fun e => by obtain ⟨x0, y0⟩ := h.c2 (by rwa [ne (by decide)] at e); exact ⟨Rin.put_ne x0 (by decide), (by rw [ne (by decide)]; exact y0)⟩),
    (fun e => by obtain ⟨⟨g, x0, x1⟩, y0⟩ := h.c3 (by rwa [ne (by decide)] at e); exact ⟨⟨g, Rin.put_ne x0 (by decide), x1⟩, (by rw [ne (by decide)]; exact y0)⟩),
    (fun e => by obtain ⟨⟨g, x0, x1⟩, y0⟩ := h.c4 (by rwa [ne (by decide)] at e); exact ⟨⟨g, Rin.put_ne x0 (by decide), x1⟩, (by rw [ne (by decide)]; exact y0)⟩),
    (fun e => by obtain ⟨g, x0, x1⟩ := h.c5 (by rwa [ne (by decide)] at e); exact ⟨g, Rin.put_ne x0 (by decide), x1⟩),
    (fun e => by obtain ⟨x0, y0⟩ := h.c6 (by rwa [ne (by decide)] at e); exact ⟨Rin.put_ne x0 (by decide), (by rw [ne (by decide)]; exact y0)⟩),
    (fun e => by obtain ⟨x0, y0⟩ := h.c7 (by rwa [ne (by decide)] at e); exact ⟨Rin.put_ne x0 (by decide), (by rw [ne (by decide)]; exact y0)⟩),
    (fun e => by have x0 := h.c8 (by rwa [ne (by decide)] at e); exact Rin.put_ne x0 (by decide)),
    (fun e => by obtain ⟨g, x0, x1⟩ := h.c9 (by rwa [ne (by decide)] at e); exact ⟨g, Rin.put_ne x0 (by decide), x1⟩),
    (fun e => by obtain ⟨⟨g, x0, x1⟩, y0⟩ := h.c10 (by rwa [ne (by decide)] at e); exact ⟨⟨g, Rin.put_ne x0 (by decide), x1⟩, (by rw [ne (by decide)]; exact y0)⟩),
    (fun e => by have x0 := h.c11 (by rwa [ne (by decide)] at e); exact Rin.put_ne x0 (by decide)),
    (fun e => by obtain ⟨⟨g, x0, x1⟩, y0⟩ := h.c12 (by rwa [ne (by decide)] at e); exact ⟨⟨g, Rin.put_ne x0 (by decide), x1⟩, (by rw [ne (by decide)]; exact y0)⟩),
    (fun e => by obtain ⟨⟨g, x0, x1⟩, y0⟩ := h.c13 (by rwa [ne (by decide)] at e); exact ⟨⟨g, Rin.put_ne x0 (by decide), x1⟩, (by rw [ne (by decide)]; exact y0)⟩),
    (fun e => by obtain ⟨⟨g, x0, x1⟩, y0, y1, y2, y3, y4⟩ := h.c14 (by rwa [ne (by decide)] at e); exact ⟨⟨g, Rin.put_ne x0 (by decide), x1⟩, (by rw [ne (by decide)]; exact y0), (by rw [ne (by decide)]; exact y1), (by rw [ne (by decide)]; exact y2), (by rw [ne (by decide)]; exact y3), (by rw [ne (by decide)]; exact y4)⟩),
    (fun _ => hu),
    (fun e => by obtain ⟨⟨k, x0, x1⟩, y0⟩ := h.c16 (by rwa [ne (by decide)] at e); exact ⟨⟨k, Rin.put_ne x0 (by decide), x1⟩, Rin.set_self h0 false⟩),
    (fun e => by obtain ⟨⟨g, k, x0, x1, x2⟩, y0, y1⟩ := h.c17 (by rwa [ne (by decide)] at e); exact ⟨⟨g, k, Rin.put_ne x0 (by decide), x1, x2⟩, (by rw [ne (by decide)]; exact y0), (by rw [ne (by decide)]; exact y1)⟩),
    (fun e => by obtain ⟨⟨m, t, a, a', c, c', L, N, x0, x1⟩, y0⟩ := h.c18 (by rwa [ne (by decide)] at e); exact ⟨⟨m, t, a, a', c, c', L, N, Rin.put_ne x0 (by decide), x1⟩, (by rw [ne (by decide)]; exact y0)⟩),
    (fun e => by obtain ⟨⟨g, x0, x1⟩, y0⟩ := h.c19 (by rwa [ne (by decide)] at e); exact ⟨⟨g, Rin.put_ne x0 (by decide), x1⟩, (by rw [ne (by decide)]; exact y0)⟩)⟩
theorem CC.set17 {R q lo : Nat} {vW u : Value} {n : Int} {w0 w : World} {l : Array Bool} {A : Act} (h : CC R q lo vW n w0 l A w) (h0 : l.getD 17 true = false) (d14 : l.getD 14 false = true) (d16 : l.getD 16 false = true) (hu : ∃ g k : Nat, (A.put (some 94) u).tmps[94]? = some (.pointer (some ⟨g, k * 4, none⟩)) ∧ k < 5 ∧ Tb w lo g n) : CC R q lo vW n w0 (l.setIfInBounds 17 true) (A.put (some 94) u) w := by
  have hs := h.s
  have ne : ∀ {j : Nat}, j ≠ 17 → (l.setIfInBounds 17 true).getD j false = l.getD j false := fun hj => getD_set_ne false (fun e => hj e.symm)
  refine ⟨by simpa using h.ls, by rw [Rin.put_size]; exact h.s, h.d, Rin.put_ne h.r (by decide), Rin.put_ne h.v (by decide), fun e => h.q0 (by rwa [ne (by decide)] at e), fun e => h.q1 (by rwa [ne (by decide)] at e), h.g, (by rw [ne (by decide)]; exact h.e20), (fun e => by rw [ne (by decide)] at e ⊢; exact h.e21 e),
    (fun e => by have x0 := h.c0 (by rwa [ne (by decide)] at e); exact Rin.put_ne x0 (by decide)),
    (fun e => by have x0 := h.c1 (by rwa [ne (by decide)] at e); exact Rin.put_ne x0 (by decide)),
    (fun e => by obtain ⟨x0, y0⟩ := h.c2 (by rwa [ne (by decide)] at e); exact ⟨Rin.put_ne x0 (by decide), (by rw [ne (by decide)]; exact y0)⟩),
    (fun e => by obtain ⟨⟨g, x0, x1⟩, y0⟩ := h.c3 (by rwa [ne (by decide)] at e); exact ⟨⟨g, Rin.put_ne x0 (by decide), x1⟩, (by rw [ne (by decide)]; exact y0)⟩),
    (fun e => by obtain ⟨⟨g, x0, x1⟩, y0⟩ := h.c4 (by rwa [ne (by decide)] at e); exact ⟨⟨g, Rin.put_ne x0 (by decide), x1⟩, (by rw [ne (by decide)]; exact y0)⟩),
    (fun e => by obtain ⟨g, x0, x1⟩ := h.c5 (by rwa [ne (by decide)] at e); exact ⟨g, Rin.put_ne x0 (by decide), x1⟩),
    (fun e => by obtain ⟨x0, y0⟩ := h.c6 (by rwa [ne (by decide)] at e); exact ⟨Rin.put_ne x0 (by decide), (by rw [ne (by decide)]; exact y0)⟩),
    (fun e => by obtain ⟨x0, y0⟩ := h.c7 (by rwa [ne (by decide)] at e); exact ⟨Rin.put_ne x0 (by decide), (by rw [ne (by decide)]; exact y0)⟩),
    (fun e => by have x0 := h.c8 (by rwa [ne (by decide)] at e); exact Rin.put_ne x0 (by decide)),
    (fun e => by obtain ⟨g, x0, x1⟩ := h.c9 (by rwa [ne (by decide)] at e); exact ⟨g, Rin.put_ne x0 (by decide), x1⟩),
    (fun e => by obtain ⟨⟨g, x0, x1⟩, y0⟩ := h.c10 (by rwa [ne (by decide)] at e); exact ⟨⟨g, Rin.put_ne x0 (by decide), x1⟩, (by rw [ne (by decide)]; exact y0)⟩),
    (fun e => by have x0 := h.c11 (by rwa [ne (by decide)] at e); exact Rin.put_ne x0 (by decide)),
    (fun e => by obtain ⟨⟨g, x0, x1⟩, y0⟩ := h.c12 (by rwa [ne (by decide)] at e); exact ⟨⟨g, Rin.put_ne x0 (by decide), x1⟩, (by rw [ne (by decide)]; exact y0)⟩),
    (fun e => by obtain ⟨⟨g, x0, x1⟩, y0⟩ := h.c13 (by rwa [ne (by decide)] at e); exact ⟨⟨g, Rin.put_ne x0 (by decide), x1⟩, (by rw [ne (by decide)]; exact y0)⟩),
    (fun e => by obtain ⟨⟨g, x0, x1⟩, y0, y1, y2, y3, y4⟩ := h.c14 (by rwa [ne (by decide)] at e); exact ⟨⟨g, Rin.put_ne x0 (by decide), x1⟩, (by rw [ne (by decide)]; exact y0), (by rw [ne (by decide)]; exact y1), (by rw [ne (by decide)]; exact y2), (by rw [ne (by decide)]; exact y3), (by rw [ne (by decide)]; exact y4)⟩),
    (fun e => by have x0 := h.c15 (by rwa [ne (by decide)] at e); exact Rin.put_ne x0 (by decide)),
    (fun e => by obtain ⟨⟨k, x0, x1⟩, y0⟩ := h.c16 (by rwa [ne (by decide)] at e); exact ⟨⟨k, Rin.put_ne x0 (by decide), x1⟩, (by rw [ne (by decide)]; exact y0)⟩),
    (fun _ => ⟨hu, by rw [ne (by decide)]; exact d14, by rw [ne (by decide)]; exact d16⟩),
    (fun e => by obtain ⟨⟨m, t, a, a', c, c', L, N, x0, x1⟩, y0⟩ := h.c18 (by rwa [ne (by decide)] at e); exact ⟨⟨m, t, a, a', c, c', L, N, Rin.put_ne x0 (by decide), x1⟩, Rin.set_self h0 false⟩),
    (fun e => by obtain ⟨⟨g, x0, x1⟩, y0⟩ := h.c19 (by rwa [ne (by decide)] at e); exact ⟨⟨g, Rin.put_ne x0 (by decide), x1⟩, (by rw [ne (by decide)]; exact y0)⟩)⟩
theorem CC.set18 {R q lo : Nat} {vW u : Value} {n : Int} {w0 w : World} {l : Array Bool} {A : Act} (h : CC R q lo vW n w0 l A w) (h0 : l.getD 18 true = false) (d17 : l.getD 17 false = true) (hu : ∃ m t a a' c c' L N, (A.put (some 95) u).tmps[95]? = some (tgt m t (.slice a L.length c) (.slice a' N.length c')) ∧ Xv w lo m t a a' c c' L N) : CC R q lo vW n w0 (l.setIfInBounds 18 true) (A.put (some 95) u) w := by
  have hs := h.s
  have ne : ∀ {j : Nat}, j ≠ 18 → (l.setIfInBounds 18 true).getD j false = l.getD j false := fun hj => getD_set_ne false (fun e => hj e.symm)
  refine ⟨by simpa using h.ls, by rw [Rin.put_size]; exact h.s, h.d, Rin.put_ne h.r (by decide), Rin.put_ne h.v (by decide), fun e => h.q0 (by rwa [ne (by decide)] at e), fun e => h.q1 (by rwa [ne (by decide)] at e), h.g, (by rw [ne (by decide)]; exact h.e20), (fun e => by rw [ne (by decide)] at e ⊢; exact h.e21 e),
    (fun e => by have x0 := h.c0 (by rwa [ne (by decide)] at e); exact Rin.put_ne x0 (by decide)),
    (fun e => by have x0 := h.c1 (by rwa [ne (by decide)] at e); exact Rin.put_ne x0 (by decide)),
    (fun e => by obtain ⟨x0, y0⟩ := h.c2 (by rwa [ne (by decide)] at e); exact ⟨Rin.put_ne x0 (by decide), (by rw [ne (by decide)]; exact y0)⟩),
    (fun e => by obtain ⟨⟨g, x0, x1⟩, y0⟩ := h.c3 (by rwa [ne (by decide)] at e); exact ⟨⟨g, Rin.put_ne x0 (by decide), x1⟩, (by rw [ne (by decide)]; exact y0)⟩),
    (fun e => by obtain ⟨⟨g, x0, x1⟩, y0⟩ := h.c4 (by rwa [ne (by decide)] at e); exact ⟨⟨g, Rin.put_ne x0 (by decide), x1⟩, (by rw [ne (by decide)]; exact y0)⟩),
    (fun e => by obtain ⟨g, x0, x1⟩ := h.c5 (by rwa [ne (by decide)] at e); exact ⟨g, Rin.put_ne x0 (by decide), x1⟩),
    (fun e => by obtain ⟨x0, y0⟩ := h.c6 (by rwa [ne (by decide)] at e); exact ⟨Rin.put_ne x0 (by decide), (by rw [ne (by decide)]; exact y0)⟩),
    (fun e => by obtain ⟨x0, y0⟩ := h.c7 (by rwa [ne (by decide)] at e); exact ⟨Rin.put_ne x0 (by decide), (by rw [ne (by decide)]; exact y0)⟩),
    (fun e => by have x0 := h.c8 (by rwa [ne (by decide)] at e); exact Rin.put_ne x0 (by decide)),
    (fun e => by obtain ⟨g, x0, x1⟩ := h.c9 (by rwa [ne (by decide)] at e); exact ⟨g, Rin.put_ne x0 (by decide), x1⟩),
    (fun e => by obtain ⟨⟨g, x0, x1⟩, y0⟩ := h.c10 (by rwa [ne (by decide)] at e); exact ⟨⟨g, Rin.put_ne x0 (by decide), x1⟩, (by rw [ne (by decide)]; exact y0)⟩),
    (fun e => by have x0 := h.c11 (by rwa [ne (by decide)] at e); exact Rin.put_ne x0 (by decide)),
    (fun e => by obtain ⟨⟨g, x0, x1⟩, y0⟩ := h.c12 (by rwa [ne (by decide)] at e); exact ⟨⟨g, Rin.put_ne x0 (by decide), x1⟩, (by rw [ne (by decide)]; exact y0)⟩),
    (fun e => by obtain ⟨⟨g, x0, x1⟩, y0⟩ := h.c13 (by rwa [ne (by decide)] at e); exact ⟨⟨g, Rin.put_ne x0 (by decide), x1⟩, (by rw [ne (by decide)]; exact y0)⟩),
    (fun e => by obtain ⟨⟨g, x0, x1⟩, y0, y1, y2, y3, y4⟩ := h.c14 (by rwa [ne (by decide)] at e); exact ⟨⟨g, Rin.put_ne x0 (by decide), x1⟩, (by rw [ne (by decide)]; exact y0), (by rw [ne (by decide)]; exact y1), (by rw [ne (by decide)]; exact y2), (by rw [ne (by decide)]; exact y3), (by rw [ne (by decide)]; exact y4)⟩),
    (fun e => by have x0 := h.c15 (by rwa [ne (by decide)] at e); exact Rin.put_ne x0 (by decide)),
    (fun e => by obtain ⟨⟨k, x0, x1⟩, y0⟩ := h.c16 (by rwa [ne (by decide)] at e); exact ⟨⟨k, Rin.put_ne x0 (by decide), x1⟩, (by rw [ne (by decide)]; exact y0)⟩),
    (fun e => by obtain ⟨⟨g, k, x0, x1, x2⟩, y0, y1⟩ := h.c17 (by rwa [ne (by decide)] at e); exact ⟨⟨g, k, Rin.put_ne x0 (by decide), x1, x2⟩, (by rw [ne (by decide)]; exact y0), (by rw [ne (by decide)]; exact y1)⟩),
    (fun _ => ⟨hu, by rw [ne (by decide)]; exact d17⟩),
    (fun e => by obtain ⟨⟨g, x0, x1⟩, y0⟩ := h.c19 (by rwa [ne (by decide)] at e); exact ⟨⟨g, Rin.put_ne x0 (by decide), x1⟩, Rin.set_self h0 false⟩)⟩
theorem CC.set19 {R q lo : Nat} {vW u : Value} {n : Int} {w0 w : World} {l : Array Bool} {A : Act} (h : CC R q lo vW n w0 l A w) (_h0 : l.getD 19 true = false) (d18 : l.getD 18 false = true) (hu : ∃ g, (A.put (some 96) u).tmps[96]? = some (.slice (some ⟨g, 0, none⟩) 1 1) ∧ X1 w lo g) : CC R q lo vW n w0 (l.setIfInBounds 19 true) (A.put (some 96) u) w := by
  have hs := h.s
  have ne : ∀ {j : Nat}, j ≠ 19 → (l.setIfInBounds 19 true).getD j false = l.getD j false := fun hj => getD_set_ne false (fun e => hj e.symm)
  refine ⟨by simpa using h.ls, by rw [Rin.put_size]; exact h.s, h.d, Rin.put_ne h.r (by decide), Rin.put_ne h.v (by decide), fun e => h.q0 (by rwa [ne (by decide)] at e), fun e => h.q1 (by rwa [ne (by decide)] at e), h.g, (by rw [ne (by decide)]; exact h.e20), (fun e => by rw [ne (by decide)] at e ⊢; exact h.e21 e),
    (fun e => by have x0 := h.c0 (by rwa [ne (by decide)] at e); exact Rin.put_ne x0 (by decide)),
    (fun e => by have x0 := h.c1 (by rwa [ne (by decide)] at e); exact Rin.put_ne x0 (by decide)),
    (fun e => by obtain ⟨x0, y0⟩ := h.c2 (by rwa [ne (by decide)] at e); exact ⟨Rin.put_ne x0 (by decide), (by rw [ne (by decide)]; exact y0)⟩),
    (fun e => by obtain ⟨⟨g, x0, x1⟩, y0⟩ := h.c3 (by rwa [ne (by decide)] at e); exact ⟨⟨g, Rin.put_ne x0 (by decide), x1⟩, (by rw [ne (by decide)]; exact y0)⟩),
    (fun e => by obtain ⟨⟨g, x0, x1⟩, y0⟩ := h.c4 (by rwa [ne (by decide)] at e); exact ⟨⟨g, Rin.put_ne x0 (by decide), x1⟩, (by rw [ne (by decide)]; exact y0)⟩),
    (fun e => by obtain ⟨g, x0, x1⟩ := h.c5 (by rwa [ne (by decide)] at e); exact ⟨g, Rin.put_ne x0 (by decide), x1⟩),
    (fun e => by obtain ⟨x0, y0⟩ := h.c6 (by rwa [ne (by decide)] at e); exact ⟨Rin.put_ne x0 (by decide), (by rw [ne (by decide)]; exact y0)⟩),
    (fun e => by obtain ⟨x0, y0⟩ := h.c7 (by rwa [ne (by decide)] at e); exact ⟨Rin.put_ne x0 (by decide), (by rw [ne (by decide)]; exact y0)⟩),
    (fun e => by have x0 := h.c8 (by rwa [ne (by decide)] at e); exact Rin.put_ne x0 (by decide)),
    (fun e => by obtain ⟨g, x0, x1⟩ := h.c9 (by rwa [ne (by decide)] at e); exact ⟨g, Rin.put_ne x0 (by decide), x1⟩),
    (fun e => by obtain ⟨⟨g, x0, x1⟩, y0⟩ := h.c10 (by rwa [ne (by decide)] at e); exact ⟨⟨g, Rin.put_ne x0 (by decide), x1⟩, (by rw [ne (by decide)]; exact y0)⟩),
    (fun e => by have x0 := h.c11 (by rwa [ne (by decide)] at e); exact Rin.put_ne x0 (by decide)),
    (fun e => by obtain ⟨⟨g, x0, x1⟩, y0⟩ := h.c12 (by rwa [ne (by decide)] at e); exact ⟨⟨g, Rin.put_ne x0 (by decide), x1⟩, (by rw [ne (by decide)]; exact y0)⟩),
    (fun e => by obtain ⟨⟨g, x0, x1⟩, y0⟩ := h.c13 (by rwa [ne (by decide)] at e); exact ⟨⟨g, Rin.put_ne x0 (by decide), x1⟩, (by rw [ne (by decide)]; exact y0)⟩),
    (fun e => by obtain ⟨⟨g, x0, x1⟩, y0, y1, y2, y3, y4⟩ := h.c14 (by rwa [ne (by decide)] at e); exact ⟨⟨g, Rin.put_ne x0 (by decide), x1⟩, (by rw [ne (by decide)]; exact y0), (by rw [ne (by decide)]; exact y1), (by rw [ne (by decide)]; exact y2), (by rw [ne (by decide)]; exact y3), (by rw [ne (by decide)]; exact y4)⟩),
    (fun e => by have x0 := h.c15 (by rwa [ne (by decide)] at e); exact Rin.put_ne x0 (by decide)),
    (fun e => by obtain ⟨⟨k, x0, x1⟩, y0⟩ := h.c16 (by rwa [ne (by decide)] at e); exact ⟨⟨k, Rin.put_ne x0 (by decide), x1⟩, (by rw [ne (by decide)]; exact y0)⟩),
    (fun e => by obtain ⟨⟨g, k, x0, x1, x2⟩, y0, y1⟩ := h.c17 (by rwa [ne (by decide)] at e); exact ⟨⟨g, k, Rin.put_ne x0 (by decide), x1, x2⟩, (by rw [ne (by decide)]; exact y0), (by rw [ne (by decide)]; exact y1)⟩),
    (fun e => by obtain ⟨⟨m, t, a, a', c, c', L, N, x0, x1⟩, y0⟩ := h.c18 (by rwa [ne (by decide)] at e); exact ⟨⟨m, t, a, a', c, c', L, N, Rin.put_ne x0 (by decide), x1⟩, (by rw [ne (by decide)]; exact y0)⟩),
    (fun _ => ⟨hu, by rw [ne (by decide)]; exact d18⟩)⟩
theorem stepMove {A : Act} {W : World} {K' : Act → World → Prop} {Q : Exit → Act → World → Prop} {o : Oper} {v' : Value} {d k : Nat} (h : A.tmps[k]? = some v') (o1 : o.dst = some d) (o2 : o.op = .move (.tmp k)) (hK : K' (A.put (some d) v') W) : Oper.wp Try.prog o A W K' Q := by
  obtain ⟨dst, op, type, pos, after, guard⟩ := o
  simp only at o1 o2
  subst o1
  subst o2
  have HKK := Lib.hid hK
  clear hK
  go_simp
  exact HKK.out
theorem stepAssign {A : Act} {W : World} {K' : Act → World → Prop} {Q : Exit → Act → World → Prop} {o : Oper} {v' : Value} {d k : Nat} (h : A.tmps[k]? = some v') (o1 : o.dst = some d) (o2 : o.op = .assign (.tmp k)) (hK : K' (A.put (some d) v') W) : Oper.wp Try.prog o A W K' Q := by
  obtain ⟨dst, op, type, pos, after, guard⟩ := o
  simp only at o1 o2
  subst o1
  subst o2
  have HKK := Lib.hid hK
  clear hK
  go_simp
  exact HKK.out
set_option maxRecDepth 100000 in
set_option maxHeartbeats 1000000 in
theorem step0 {R qa : Nat} {va : Option Addr} {n vc : Nat} {w2 W : World} {l : Array Bool} {A : Act} {o : Oper} {K' : Act → World → Prop} {Q : Exit → Act → World → Prop} (hw : R < w2.heap.size ∧ qa ≤ 900000000) (HC : CC R qa w2.heap.size (.slice va n vc) (n : Int) w2 l A W) (h0 : l.getD 0 true = false)  (o1 : o.dst = some 77) (o2 : o.op = .move (.tmp 7)) (o3 : o.type = 46) (hK : ∀ A' W', CC R qa w2.heap.size (.slice va n vc) (n : Int) w2 (l.setIfInBounds 0 true) A' W' → K' A' W') : Oper.wp Try.prog o A W K' Q := by
  have hlo := hw.1
  have hqa := hw.2
  obtain ⟨dst, op, type, pos, after, guard⟩ := o
  simp only at o1 o2 o3
  subst o1
  subst o2
  subst o3
  have v7 := HC.v
  have HKK := Lib.hid hK
  have HCC := Lib.hid HC
  clear hK HC
  go_simp
  have hK := HKK.out
  have HC := HCC.out
  have hs := HC.s
  exact hK _ _ ((HC.set0 h0 (Rin.put_eq (by omega))))
set_option maxRecDepth 100000 in
set_option maxHeartbeats 1000000 in
theorem step1 {R qa : Nat} {va : Option Addr} {n vc : Nat} {w2 W : World} {l : Array Bool} {A : Act} {o : Oper} {K' : Act → World → Prop} {Q : Exit → Act → World → Prop} (hw : R < w2.heap.size ∧ qa ≤ 900000000) (HC : CC R qa w2.heap.size (.slice va n vc) (n : Int) w2 l A W) (h0 : l.getD 1 true = false)  (o1 : o.dst = some 78) (o2 : o.op = .move (.tmp 7)) (o3 : o.type = 46) (hK : ∀ A' W', CC R qa w2.heap.size (.slice va n vc) (n : Int) w2 (l.setIfInBounds 1 true) A' W' → K' A' W') : Oper.wp Try.prog o A W K' Q := by
  have hlo := hw.1
  have hqa := hw.2
  obtain ⟨dst, op, type, pos, after, guard⟩ := o
  simp only at o1 o2 o3
  subst o1
  subst o2
  subst o3
  have v7 := HC.v
  have HKK := Lib.hid hK
  have HCC := Lib.hid HC
  clear hK HC
  go_simp
  have hK := HKK.out
  have HC := HCC.out
  have hs := HC.s
  exact hK _ _ ((HC.set1 h0 (Rin.put_eq (by omega))))
set_option maxRecDepth 100000 in
set_option maxHeartbeats 1000000 in
theorem step2 {R qa : Nat} {va : Option Addr} {n vc : Nat} {w2 W : World} {l : Array Bool} {A : Act} {o : Oper} {K' : Act → World → Prop} {Q : Exit → Act → World → Prop} (hw : R < w2.heap.size ∧ qa ≤ 900000000) (HC : CC R qa w2.heap.size (.slice va n vc) (n : Int) w2 l A W) (h0 : l.getD 2 true = false) (d1 : l.getD 1 false = true) (o1 : o.dst = some 79) (o2 : o.op = .call { callee := .builtin .len, args := #[.tmp 78], argTypes := #[46] }) (o3 : o.type = 3) (hK : ∀ A' W', CC R qa w2.heap.size (.slice va n vc) (n : Int) w2 (l.setIfInBounds 2 true) A' W' → K' A' W') : Oper.wp Try.prog o A W K' Q := by
  have hlo := hw.1
  have hqa := hw.2
  obtain ⟨dst, op, type, pos, after, guard⟩ := o
  simp only at o1 o2 o3
  subst o1
  subst o2
  subst o3
  have v1 := (HC.c1 d1)
  have HKK := Lib.hid hK
  have HCC := Lib.hid HC
  clear hK HC
  go_simp
  have hK := HKK.out
  have HC := HCC.out
  have hs := HC.s
  exact hK _ _ ((HC.set2 h0 d1 (Rin.put_eq (by omega))))
set_option maxRecDepth 100000 in
set_option maxHeartbeats 1000000 in
theorem step3 {R qa : Nat} {va : Option Addr} {n vc : Nat} {w2 W : World} {l : Array Bool} {A : Act} {o : Oper} {K' : Act → World → Prop} {Q : Exit → Act → World → Prop} (hw : R < w2.heap.size ∧ qa ≤ 900000000) (HC : CC R qa w2.heap.size (.slice va n vc) (n : Int) w2 l A W) (h0 : l.getD 3 true = false) (d2 : l.getD 2 false = true) (o1 : o.dst = some 80) (o2 : o.op = .buildSlice 43 1 #[(0, .tmp 79)]) (o3 : o.type = 43) (hK : ∀ A' W', CC R qa w2.heap.size (.slice va n vc) (n : Int) w2 (l.setIfInBounds 3 true) A' W' → K' A' W') : Oper.wp Try.prog o A W K' Q := by
  have hlo := hw.1
  have hqa := hw.2
  obtain ⟨dst, op, type, pos, after, guard⟩ := o
  simp only at o1 o2 o3
  subst o1
  subst o2
  subst o3
  have v2 := (HC.c2 d2).1
  have zW : w2.heap.size ≤ W.heap.size := HC.g.size
  have HKK := Lib.hid hK
  have HCC := Lib.hid HC
  clear hK HC
  go_simp
  have hK := HKK.out
  have HC := HCC.out
  have hs := HC.s
  exact hK _ _ (((HC.keep ((Below.refl _ _).alloc (Nat.le_refl _) _)).set3 h0 d2 ⟨W.heap.size, (Rin.put_eq (by omega)), i1_new _ zW⟩))
set_option maxRecDepth 100000 in
set_option maxHeartbeats 1000000 in
theorem step4 {R qa : Nat} {va : Option Addr} {n vc : Nat} {w2 W : World} {l : Array Bool} {A : Act} {o : Oper} {K' : Act → World → Prop} {Q : Exit → Act → World → Prop} (hw : R < w2.heap.size ∧ qa ≤ 900000000) (HC : CC R qa w2.heap.size (.slice va n vc) (n : Int) w2 l A W) (h0 : l.getD 4 true = false) (d3 : l.getD 3 false = true) (o1 : o.dst = some 81) (o2 : o.op = .build 79 #[(0, .const (.bool true)), (3, .tmp 80)]) (o3 : o.type = 79) (hK : ∀ A' W', CC R qa w2.heap.size (.slice va n vc) (n : Int) w2 (l.setIfInBounds 4 true) A' W' → K' A' W') : Oper.wp Try.prog o A W K' Q := by
  have hlo := hw.1
  have hqa := hw.2
  obtain ⟨dst, op, type, pos, after, guard⟩ := o
  simp only at o1 o2 o3
  subst o1
  subst o2
  subst o3
  obtain ⟨⟨g, x0, x1⟩, _⟩ := HC.c3 d3
  have v3 := x0
  have HKK := Lib.hid hK
  have HCC := Lib.hid HC
  clear hK HC
  go_simp
  have hK := HKK.out
  have HC := HCC.out
  have hs := HC.s
  exact hK _ _ ((HC.set4 h0 d3 ⟨g, (Rin.put_eq (by omega)), x1⟩))
set_option maxRecDepth 100000 in
set_option maxHeartbeats 1000000 in
theorem step5 {R qa : Nat} {va : Option Addr} {n vc : Nat} {w2 W : World} {l : Array Bool} {A : Act} {o : Oper} {K' : Act → World → Prop} {Q : Exit → Act → World → Prop} (hw : R < w2.heap.size ∧ qa ≤ 900000000) (HC : CC R qa w2.heap.size (.slice va n vc) (n : Int) w2 l A W) (h0 : l.getD 5 true = false)  (o1 : o.dst = some 82) (o2 : o.op = .makeSlice 66 (.const (.int .i64 41)) (.const (.int .i64 41))) (o3 : o.type = 66) (hK : ∀ A' W', CC R qa w2.heap.size (.slice va n vc) (n : Int) w2 (l.setIfInBounds 5 true) A' W' → K' A' W') : Oper.wp Try.prog o A W K' Q := by
  have hlo := hw.1
  have hqa := hw.2
  obtain ⟨dst, op, type, pos, after, guard⟩ := o
  simp only at o1 o2 o3
  subst o1
  subst o2
  subst o3
  have hmk := make41 W
  have zW : w2.heap.size ≤ W.heap.size := HC.g.size
  have HKK := Lib.hid hK
  have HCC := Lib.hid HC
  clear hK HC
  go_simp
  have hK := HKK.out
  have HC := HCC.out
  have hs := HC.s
  exact hK _ _ (((HC.keep ((Below.refl _ _).alloc (Nat.le_refl _) _)).set5 h0 ⟨W.heap.size, (Rin.put_eq (by omega)), u1_new zW⟩))
set_option maxRecDepth 100000 in
set_option maxHeartbeats 1000000 in
theorem step6 {R qa : Nat} {va : Option Addr} {n vc : Nat} {w2 W : World} {l : Array Bool} {A : Act} {o : Oper} {K' : Act → World → Prop} {Q : Exit → Act → World → Prop} (hw : R < w2.heap.size ∧ qa ≤ 900000000) (HC : CC R qa w2.heap.size (.slice va n vc) (n : Int) w2 l A W) (h0 : l.getD 6 true = false) (d5 : l.getD 5 false = true) (o1 : o.dst = some 83) (o2 : o.op = .convert 66 9 (.tmp 82)) (o3 : o.type = 9) (hK : ∀ A' W', CC R qa w2.heap.size (.slice va n vc) (n : Int) w2 (l.setIfInBounds 6 true) A' W' → K' A' W') : Oper.wp Try.prog o A W K' Q := by
  have hlo := hw.1
  have hqa := hw.2
  obtain ⟨dst, op, type, pos, after, guard⟩ := o
  simp only at o1 o2 o3
  subst o1
  subst o2
  subst o3
  obtain ⟨g, x0, x1⟩ := HC.c5 d5
  have v5 := x0
  have hv := conv_u1 x1
  have HKK := Lib.hid hK
  have HCC := Lib.hid HC
  clear hK HC
  go_simp
  have hK := HKK.out
  have HC := HCC.out
  have hs := HC.s
  exact hK _ _ ((HC.set6 h0 d5 (Rin.put_eq (by omega))))
set_option maxRecDepth 100000 in
set_option maxHeartbeats 1000000 in
theorem step7 {R qa : Nat} {va : Option Addr} {n vc : Nat} {w2 W : World} {l : Array Bool} {A : Act} {o : Oper} {K' : Act → World → Prop} {Q : Exit → Act → World → Prop} (hw : R < w2.heap.size ∧ qa ≤ 900000000) (HC : CC R qa w2.heap.size (.slice va n vc) (n : Int) w2 l A W) (h0 : l.getD 7 true = false) (d6 : l.getD 6 false = true) (o1 : o.dst = some 84) (o2 : o.op = .build 79 #[(1, .tmp 83)]) (o3 : o.type = 79) (hK : ∀ A' W', CC R qa w2.heap.size (.slice va n vc) (n : Int) w2 (l.setIfInBounds 7 true) A' W' → K' A' W') : Oper.wp Try.prog o A W K' Q := by
  have hlo := hw.1
  have hqa := hw.2
  obtain ⟨dst, op, type, pos, after, guard⟩ := o
  simp only at o1 o2 o3
  subst o1
  subst o2
  subst o3
  have v6 := (HC.c6 d6).1
  have HKK := Lib.hid hK
  have HCC := Lib.hid HC
  clear hK HC
  go_simp
  have hK := HKK.out
  have HC := HCC.out
  have hs := HC.s
  exact hK _ _ ((HC.set7 h0 d6 (Rin.put_eq (by omega))))
set_option maxRecDepth 100000 in
set_option maxHeartbeats 1000000 in
theorem step8 {R qa : Nat} {va : Option Addr} {n vc : Nat} {w2 W : World} {l : Array Bool} {A : Act} {o : Oper} {K' : Act → World → Prop} {Q : Exit → Act → World → Prop} (hw : R < w2.heap.size ∧ qa ≤ 900000000) (HC : CC R qa w2.heap.size (.slice va n vc) (n : Int) w2 l A W) (h0 : l.getD 8 true = false)  (o1 : o.dst = some 85) (o2 : o.op = .build 79 #[(0, .const (.bool true)), (1, .const (.string { data := #[120] }))]) (o3 : o.type = 79) (hK : ∀ A' W', CC R qa w2.heap.size (.slice va n vc) (n : Int) w2 (l.setIfInBounds 8 true) A' W' → K' A' W') : Oper.wp Try.prog o A W K' Q := by
  have hlo := hw.1
  have hqa := hw.2
  obtain ⟨dst, op, type, pos, after, guard⟩ := o
  simp only at o1 o2 o3
  subst o1
  subst o2
  subst o3
  skip
  have HKK := Lib.hid hK
  have HCC := Lib.hid HC
  clear hK HC
  go_simp
  have hK := HKK.out
  have HC := HCC.out
  have hs := HC.s
  exact hK _ _ ((HC.set8 h0 (Rin.put_eq (by omega))))
set_option maxRecDepth 100000 in
set_option maxHeartbeats 1000000 in
theorem step9 {R qa : Nat} {va : Option Addr} {n vc : Nat} {w2 W : World} {l : Array Bool} {A : Act} {o : Oper} {K' : Act → World → Prop} {Q : Exit → Act → World → Prop} (hw : R < w2.heap.size ∧ qa ≤ 900000000) (HC : CC R qa w2.heap.size (.slice va n vc) (n : Int) w2 l A W) (h0 : l.getD 9 true = false)  (o1 : o.dst = some 86) (o2 : o.op = .buildSlice 43 1 #[(0, .const (.int .i64 0))]) (o3 : o.type = 43) (hK : ∀ A' W', CC R qa w2.heap.size (.slice va n vc) (n : Int) w2 (l.setIfInBounds 9 true) A' W' → K' A' W') : Oper.wp Try.prog o A W K' Q := by
  have hlo := hw.1
  have hqa := hw.2
  obtain ⟨dst, op, type, pos, after, guard⟩ := o
  simp only at o1 o2 o3
  subst o1
  subst o2
  subst o3
  have zW : w2.heap.size ≤ W.heap.size := HC.g.size
  have HKK := Lib.hid hK
  have HCC := Lib.hid HC
  clear hK HC
  go_simp
  have hK := HKK.out
  have HC := HCC.out
  have hs := HC.s
  exact hK _ _ (((HC.keep ((Below.refl _ _).alloc (Nat.le_refl _) _)).set9 h0 ⟨W.heap.size, (Rin.put_eq (by omega)), i1_new _ zW⟩))
set_option maxRecDepth 100000 in
set_option maxHeartbeats 1000000 in
theorem step10 {R qa : Nat} {va : Option Addr} {n vc : Nat} {w2 W : World} {l : Array Bool} {A : Act} {o : Oper} {K' : Act → World → Prop} {Q : Exit → Act → World → Prop} (hw : R < w2.heap.size ∧ qa ≤ 900000000) (HC : CC R qa w2.heap.size (.slice va n vc) (n : Int) w2 l A W) (h0 : l.getD 10 true = false) (d9 : l.getD 9 false = true) (o1 : o.dst = some 87) (o2 : o.op = .build 79 #[(3, .tmp 86)]) (o3 : o.type = 79) (hK : ∀ A' W', CC R qa w2.heap.size (.slice va n vc) (n : Int) w2 (l.setIfInBounds 10 true) A' W' → K' A' W') : Oper.wp Try.prog o A W K' Q := by
  have hlo := hw.1
  have hqa := hw.2
  obtain ⟨dst, op, type, pos, after, guard⟩ := o
  simp only at o1 o2 o3
  subst o1
  subst o2
  subst o3
  obtain ⟨g, x0, x1⟩ := HC.c9 d9
  have v9 := x0
  have HKK := Lib.hid hK
  have HCC := Lib.hid HC
  clear hK HC
  go_simp
  have hK := HKK.out
  have HC := HCC.out
  have hs := HC.s
  exact hK _ _ ((HC.set10 h0 d9 ⟨g, (Rin.put_eq (by omega)), x1⟩))
set_option maxRecDepth 100000 in
set_option maxHeartbeats 1000000 in
theorem step11 {R qa : Nat} {va : Option Addr} {n vc : Nat} {w2 W : World} {l : Array Bool} {A : Act} {o : Oper} {K' : Act → World → Prop} {Q : Exit → Act → World → Prop} (hw : R < w2.heap.size ∧ qa ≤ 900000000) (HC : CC R qa w2.heap.size (.slice va n vc) (n : Int) w2 l A W) (h0 : l.getD 11 true = false)  (o1 : o.dst = some 88) (o2 : o.op = .build 99 #[(0, .const (.int .i64 0))]) (o3 : o.type = 99) (hK : ∀ A' W', CC R qa w2.heap.size (.slice va n vc) (n : Int) w2 (l.setIfInBounds 11 true) A' W' → K' A' W') : Oper.wp Try.prog o A W K' Q := by
  have hlo := hw.1
  have hqa := hw.2
  obtain ⟨dst, op, type, pos, after, guard⟩ := o
  simp only at o1 o2 o3
  subst o1
  subst o2
  subst o3
  skip
  have HKK := Lib.hid hK
  have HCC := Lib.hid HC
  clear hK HC
  go_simp
  have hK := HKK.out
  have HC := HCC.out
  have hs := HC.s
  exact hK _ _ ((HC.set11 h0 (Rin.put_eq (by omega))))
set_option maxRecDepth 100000 in
set_option maxHeartbeats 1000000 in
theorem step12 {R qa : Nat} {va : Option Addr} {n vc : Nat} {w2 W : World} {l : Array Bool} {A : Act} {o : Oper} {K' : Act → World → Prop} {Q : Exit → Act → World → Prop} (hw : R < w2.heap.size ∧ qa ≤ 900000000) (HC : CC R qa w2.heap.size (.slice va n vc) (n : Int) w2 l A W) (h0 : l.getD 12 true = false) (d11 : l.getD 11 false = true) (o1 : o.dst = some 89) (o2 : o.op = .buildSlice 31 1 #[(0, .tmp 88)]) (o3 : o.type = 31) (hK : ∀ A' W', CC R qa w2.heap.size (.slice va n vc) (n : Int) w2 (l.setIfInBounds 12 true) A' W' → K' A' W') : Oper.wp Try.prog o A W K' Q := by
  have hlo := hw.1
  have hqa := hw.2
  obtain ⟨dst, op, type, pos, after, guard⟩ := o
  simp only at o1 o2 o3
  subst o1
  subst o2
  subst o3
  have v11 := (HC.c11 d11)
  have zW : w2.heap.size ≤ W.heap.size := HC.g.size
  have HKK := Lib.hid hK
  have HCC := Lib.hid HC
  clear hK HC
  go_simp
  have hK := HKK.out
  have HC := HCC.out
  have hs := HC.s
  exact hK _ _ (((HC.keep ((Below.refl _ _).alloc (Nat.le_refl _) _)).set12 h0 d11 ⟨W.heap.size, (Rin.put_eq (by omega)), l1_new zW⟩))
set_option maxRecDepth 100000 in
set_option maxHeartbeats 1000000 in
theorem step13 {R qa : Nat} {va : Option Addr} {n vc : Nat} {w2 W : World} {l : Array Bool} {A : Act} {o : Oper} {K' : Act → World → Prop} {Q : Exit → Act → World → Prop} (hw : R < w2.heap.size ∧ qa ≤ 900000000) (HC : CC R qa w2.heap.size (.slice va n vc) (n : Int) w2 l A W) (h0 : l.getD 13 true = false) (d12 : l.getD 12 false = true) (o1 : o.dst = some 90) (o2 : o.op = .build 79 #[(0, .const (.bool true)), (2, .tmp 89)]) (o3 : o.type = 79) (hK : ∀ A' W', CC R qa w2.heap.size (.slice va n vc) (n : Int) w2 (l.setIfInBounds 13 true) A' W' → K' A' W') : Oper.wp Try.prog o A W K' Q := by
  have hlo := hw.1
  have hqa := hw.2
  obtain ⟨dst, op, type, pos, after, guard⟩ := o
  simp only at o1 o2 o3
  subst o1
  subst o2
  subst o3
  obtain ⟨⟨g, x0, x1⟩, _⟩ := HC.c12 d12
  have v12 := x0
  have HKK := Lib.hid hK
  have HCC := Lib.hid HC
  clear hK HC
  go_simp
  have hK := HKK.out
  have HC := HCC.out
  have hs := HC.s
  exact hK _ _ ((HC.set13 h0 d12 ⟨g, (Rin.put_eq (by omega)), x1⟩))
set_option maxRecDepth 100000 in
set_option maxHeartbeats 1000000 in
theorem step14 {R qa : Nat} {va : Option Addr} {n vc : Nat} {w2 W : World} {l : Array Bool} {A : Act} {o : Oper} {K' : Act → World → Prop} {Q : Exit → Act → World → Prop} (hw : R < w2.heap.size ∧ qa ≤ 900000000) (HC : CC R qa w2.heap.size (.slice va n vc) (n : Int) w2 l A W) (h0 : l.getD 14 true = false) (d4 : l.getD 4 false = true) (d7 : l.getD 7 false = true) (d8 : l.getD 8 false = true) (d10 : l.getD 10 false = true) (d13 : l.getD 13 false = true) (o1 : o.dst = some 91) (o2 : o.op = .buildSlice 46 5 #[(0, .tmp 81), (1, .tmp 84), (2, .tmp 85), (3, .tmp 87), (4, .tmp 90)]) (o3 : o.type = 46) (hK : ∀ A' W', CC R qa w2.heap.size (.slice va n vc) (n : Int) w2 (l.setIfInBounds 14 true) A' W' → K' A' W') : Oper.wp Try.prog o A W K' Q := by
  have hlo := hw.1
  have hqa := hw.2
  obtain ⟨dst, op, type, pos, after, guard⟩ := o
  simp only at o1 o2 o3
  subst o1
  subst o2
  subst o3
  obtain ⟨⟨g1, x0, x1⟩, _⟩ := HC.c4 d4
  have v4 := x0
  have v7 := (HC.c7 d7).1
  have v8 := (HC.c8 d8)
  obtain ⟨⟨g2, y0, y1⟩, _⟩ := HC.c10 d10
  have v10 := y0
  obtain ⟨⟨g3, z0, z1⟩, _⟩ := HC.c13 d13
  have v13 := z0
  have zW : w2.heap.size ≤ W.heap.size := HC.g.size
  have HKK := Lib.hid hK
  have HCC := Lib.hid HC
  clear hK HC
  go_simp
  have hK := HKK.out
  have HC := HCC.out
  have hs := HC.s
  exact hK _ _ (((HC.keep ((Below.refl _ _).alloc (Nat.le_refl _) _)).set14 h0 d4 d7 d8 d10 d13 ⟨W.heap.size, (Rin.put_eq (by omega)), tb_new zW x1 y1 z1⟩))
set_option maxRecDepth 100000 in
set_option maxHeartbeats 1000000 in
theorem step15 {R qa : Nat} {va : Option Addr} {n vc : Nat} {w2 W : World} {l : Array Bool} {A : Act} {o : Oper} {K' : Act → World → Prop} {Q : Exit → Act → World → Prop} {ty : TypeId} (hw : R < w2.heap.size ∧ qa ≤ 900000000) (HC : CC R qa w2.heap.size (.slice va n vc) (n : Int) w2 l A W) (h0 : l.getD 15 true = false)  (o1 : o.dst = some 92) (o2 : o.op = .move (.tmp 0)) (o3 : o.type = ty) (hK : ∀ A' W', CC R qa w2.heap.size (.slice va n vc) (n : Int) w2 (l.setIfInBounds 15 true) A' W' → K' A' W') : Oper.wp Try.prog o A W K' Q := by
  have hlo := hw.1
  have hqa := hw.2
  obtain ⟨dst, op, type, pos, after, guard⟩ := o
  simp only at o1 o2 o3
  subst o1
  subst o2
  subst o3
  have v0 := HC.r
  have HKK := Lib.hid hK
  have HCC := Lib.hid HC
  clear hK HC
  go_simp
  have hK := HKK.out
  have HC := HCC.out
  have hs := HC.s
  exact hK _ _ ((HC.set15 h0 (Rin.put_eq (by omega))))
set_option maxRecDepth 100000 in
set_option maxHeartbeats 1000000 in
theorem step16 {R qa : Nat} {va : Option Addr} {n vc : Nat} {w2 W : World} {l : Array Bool} {A : Act} {o : Oper} {K' : Act → World → Prop} {Q : Exit → Act → World → Prop} {at16 : Array TypeId} (hw : R < w2.heap.size ∧ qa ≤ 900000000) (HC : CC R qa w2.heap.size (.slice va n vc) (n : Int) w2 l A W) (h0 : l.getD 16 true = false) (d15 : l.getD 15 false = true) (o1 : o.dst = some 93) (o2 : o.op = .call { callee := .value (.func 115), args := #[.tmp 92, .const (.int .i64 5)], argTypes := at16 }) (o3 : o.type = 3) (hK : ∀ A' W', CC R qa w2.heap.size (.slice va n vc) (n : Int) w2 (l.setIfInBounds 16 true) A' W' → K' A' W') : Oper.wp Try.prog o A W K' Q := by
  have hlo := hw.1
  have hqa := hw.2
  obtain ⟨dst, op, type, pos, after, guard⟩ := o
  simp only at o1 o2 o3
  subst o1
  subst o2
  subst o3
  have v15 := (HC.c15 d15)
  have h16 : l.getD 16 false = false := by have hx := HC.ls; simpa [Array.getD, hx] using h0
  have hrW := HC.q0 h16
  have HKK := Lib.hid hK
  have HCC := Lib.hid HC
  clear hK HC
  go_simp
  have hK := HKK.out
  have HC := HCC.out
  have hs := HC.s
  go_at_call 115
  refine (pick_any R qa 5 W hrW (by omega)).mono ?_
  rintro e w4 ⟨k4, rfl, k40, k41, _, hr4, hg4⟩
  have k42 : k4 < 5 := k41 (by omega)
  obtain ⟨kt, rfl⟩ := Int.eq_ofNat_of_zero_le k40
  exact hK _ _ ((HC.drawn hg4 hr4 hlo (by omega) d15 h0))
set_option maxRecDepth 100000 in
set_option maxHeartbeats 1000000 in
theorem step17 {R qa : Nat} {va : Option Addr} {n vc : Nat} {w2 W : World} {l : Array Bool} {A : Act} {o : Oper} {K' : Act → World → Prop} {Q : Exit → Act → World → Prop} {ty : TypeId} (hw : R < w2.heap.size ∧ qa ≤ 900000000) (HC : CC R qa w2.heap.size (.slice va n vc) (n : Int) w2 l A W) (h0 : l.getD 17 true = false) (d14 : l.getD 14 false = true) (d16 : l.getD 16 false = true) (o1 : o.dst = some 94) (o2 : o.op = .indexAddr 46 (.tmp 91) (.tmp 93)) (o3 : o.type = ty) (hK : ∀ A' W', CC R qa w2.heap.size (.slice va n vc) (n : Int) w2 (l.setIfInBounds 17 true) A' W' → K' A' W') : Oper.wp Try.prog o A W K' Q := by
  have hlo := hw.1
  have hqa := hw.2
  obtain ⟨dst, op, type, pos, after, guard⟩ := o
  simp only at o1 o2 o3
  subst o1
  subst o2
  subst o3
  obtain ⟨⟨g, x0, x1⟩, _⟩ := HC.c14 d14
  have v14 := x0
  obtain ⟨⟨k, y0, y1⟩, _⟩ := HC.c16 d16
  have v16 := y0
  have i1 : (k : Int) < 5 := by omega
  have i2 : (0 : Int) ≤ (k : Int) := by omega
  have HKK := Lib.hid hK
  have HCC := Lib.hid HC
  clear hK HC
  go_simp
  have hK := HKK.out
  have HC := HCC.out
  have hs := HC.s
  exact hK _ _ ((HC.set17 h0 d14 d16 ⟨g, k, (Rin.put_eq (by omega)), y1, x1⟩))
set_option maxRecDepth 100000 in
set_option maxHeartbeats 1000000 in
theorem step18 {R qa : Nat} {va : Option Addr} {n vc : Nat} {w2 W : World} {l : Array Bool} {A : Act} {o : Oper} {K' : Act → World → Prop} {Q : Exit → Act → World → Prop} (hw : R < w2.heap.size ∧ qa ≤ 900000000) (HC : CC R qa w2.heap.size (.slice va n vc) (n : Int) w2 l A W) (h0 : l.getD 18 true = false) (d17 : l.getD 17 false = true) (o1 : o.dst = some 95) (o2 : o.op = .load 79 (.tmp 94)) (o3 : o.type = 79) (hK : ∀ A' W', CC R qa w2.heap.size (.slice va n vc) (n : Int) w2 (l.setIfInBounds 18 true) A' W' → K' A' W') : Oper.wp Try.prog o A W K' Q := by
  have hlo := hw.1
  have hqa := hw.2
  obtain ⟨dst, op, type, pos, after, guard⟩ := o
  simp only at o1 o2 o3
  subst o1
  subst o2
  subst o3
  obtain ⟨⟨g, k, x0, x1, x2⟩, _⟩ := HC.c17 d17
  have v17 := x0
  obtain ⟨m1, t1, a1, a2, c1, c2, L1, N1, ⟨e0, e1, e2, e3⟩, hx⟩ := tb_at x2 x1
  have HKK := Lib.hid hK
  have HCC := Lib.hid HC
  clear hK HC
  go_simp
  have hK := HKK.out
  have HC := HCC.out
  have hs := HC.s
  exact hK _ _ ((HC.set18 h0 d17 ⟨m1, t1, a1, a2, c1, c2, L1, N1, (Rin.put_eq (by omega)), hx⟩))
set_option maxRecDepth 100000 in
set_option maxHeartbeats 1000000 in
theorem step19 {R qa : Nat} {va : Option Addr} {n vc : Nat} {w2 W : World} {l : Array Bool} {A : Act} {o : Oper} {K' : Act → World → Prop} {Q : Exit → Act → World → Prop} (hw : R < w2.heap.size ∧ qa ≤ 900000000) (HC : CC R qa w2.heap.size (.slice va n vc) (n : Int) w2 l A W) (h0 : l.getD 19 true = false) (d18 : l.getD 18 false = true) (o1 : o.dst = some 96) (o2 : o.op = .buildSlice 46 1 #[(0, .tmp 95)]) (o3 : o.type = 46) (hK : ∀ A' W', CC R qa w2.heap.size (.slice va n vc) (n : Int) w2 (l.setIfInBounds 19 true) A' W' → K' A' W') : Oper.wp Try.prog o A W K' Q := by
  have hlo := hw.1
  have hqa := hw.2
  obtain ⟨dst, op, type, pos, after, guard⟩ := o
  simp only at o1 o2 o3
  subst o1
  subst o2
  subst o3
  obtain ⟨⟨m1, t1, a1, a2, c1, c2, L1, N1, x0, x1⟩, _⟩ := HC.c18 d18
  have v18 := x0
  have zW : w2.heap.size ≤ W.heap.size := HC.g.size
  have HKK := Lib.hid hK
  have HCC := Lib.hid HC
  clear hK HC
  go_simp
  have hK := HKK.out
  have HC := HCC.out
  have hs := HC.s
  exact hK _ _ (((HC.keep ((Below.refl _ _).alloc (Nat.le_refl _) _)).set19 h0 d18 ⟨W.heap.size, (Rin.put_eq (by omega)), x1_new zW x1⟩))
set_option maxRecDepth 100000 in
set_option maxHeartbeats 32000000 in
theorem l20World_any (R p m : Nat) (nn : Int) (w : World) (h : RdAt w R p) (hp : p ≤ 600000000) (hm : m ≤ 9) (hn0 : 0 ≤ nn) (hn1 : nn ≤ 1000) :
    Calls Try.prog 114 #[.pointer (some ⟨R, 0, none⟩), .int .i64 (m : Int), .int .i64 nn] w (WorldPost R p m w) := by
  have hR := rdAt_lt h
  obtain ⟨i0, hi, hz0, hz1, hz2⟩ := info_parts infoTg
  obtain ⟨ii, hii, hiz0, hiz1, hiz2⟩ := info_parts infoInt
  have HRA := Lib.hid (rdAt_alloc h (.cells #[] 79))
  have HOA := Lib.hid (td_made (w := w) (B := w.heap.size) (Nat.le_refl _))
  clear h
  go_enter Try.func114, Try.ntmps114
  go_wp2_with fail
  refine (pick_any R p _ _ HRA.out (by omega)).mono ?_
  rintro e w1 ⟨k1, rfl, k10, k11, _, hr1, hg1⟩
  have k12 : k1 < (m : Int) + 1 := k11 (by omega)
  obtain ⟨kn, rfl⟩ := Int.eq_ofNat_of_zero_le k10
  have hd1 : Drawn w R p 1 w1 := ⟨p + 1, by omega, by omega, hr1, grown_trans (grown_start w _ R) hg1⟩
  have HST := Lib.hid (show WlRel R p m w (.slice (some ⟨w.heap.size, 0, none⟩) 0 0) (.int .i64 (kn : Int)) w1 from
    ⟨kn, [], by omega, rfl, by simp; omega, HOA.out.keep hg1.size (fun k k1 k2 => hg1.block k k2 (fun e => by injection e with e; omega)), by simp, dr_more hd1 (by omega)⟩)
  clear hr1 hg1 k11 hd1
  go_wp2_with fail
  go_loopw [7, 8] (fun s7 s8 wr => WlRel R p m w s7 s8 wr) (fun _ s8 _ => (intOf s8).toNat)
  case atStart => exact HST.out
  case round =>
    obtain ⟨k, S, hk, rfl, hlen, htd, hsm, hd⟩ := hrel
    have HT2 := Lib.hid htd
    have HSM := Lib.hid hsm
    have HD2 := Lib.hid hd
    obtain ⟨cs0, ho0, he0⟩ := htd
    obtain ⟨va, vc, hv⟩ := row_form ho0
    obtain ⟨n, hn⟩ : ∃ n, S.length = n := ⟨_, rfl⟩
    rw [hn] at hv
    have HN := Lib.hid hn
    subst hv
    clear ho0 he0 hsm
    have z0 : w.heap.size ≤ wr.heap.size := by obtain ⟨_, _, _, _, hg⟩ := hd; exact hg.size
    have hn9 : n + k ≤ 9 := by omega
    clear hn
    obtain ⟨q2, q21, q22, hr2, hgq⟩ := hd
    clear hgq
    rcases k with _ | k
    · go_wp2_with fail
      refine (odd_any R q2 nn _ hr2 (by omega) (by omega) (by omega)).mono ?_
      rintro e w2 ⟨o, rfl, hno, hd2⟩
      have HT3 := Lib.hid (HT2.out.drawn hd2 hR)
      obtain ⟨qa, qa1, qa2, hra, gra⟩ := hd2
      have HD3 := Lib.hid (show w.grownBy w2 (some R) by
        obtain ⟨q'', _, _, _, gq⟩ := HD2.out
        exact grown_trans gq gra)
      have HRA2 := Lib.hid hra
      have z2 : w.heap.size ≤ w2.heap.size := HD3.out.size
      clear gra hr2
      rcases o
      · go_wp2_with fail
        go_ret
        exact ⟨S, _, rfl, HT3.out, by omega, HSM.out, ⟨qa, by omega, by omega, HRA2.out, HD3.out⟩⟩
      · go_upto_region 16 with fail
        refine wp_region_any (by kernel_rfl) ?_
        refine Rin.wpAny_inv (fun l A W => CC R qa w2.heap.size (.slice va n vc) (n : Int) w2 l A W ∨ ((∀ j, j ≤ 20 → l.getD j false = true) ∧ l.size = 22 ∧ A.tmps.size = 99 ∧ A.defers = [] ∧ ∃ v' S', A.tmps[97]? = some v' ∧ (l.getD 21 false = true → A.tmps[7]? = some v') ∧ TD W w.heap.size v' S' ∧ S'.length ≤ m + 1 ∧ (∀ q ∈ S', Sm q) ∧ Drawn w R p 800 W)) ?_ ?_ _ _ _ _ ?_ ?_
        · intro l A W hI hall
          have hls : l.size = 22 := by rcases hI with h | h; exact h.ls; exact h.2.1
          have listed : ∀ k i, i < k → i < 22 → l.getD i false = true := by
            intro k
            induction k with
            | zero => intro i h; omega
            | succ k ih =>
              intro i hik hi
              have up : ∀ j, j < 22 → l.getD j true = true → l.getD j false = true := fun j hj h => by simpa [Array.getD, hls, hj] using h
              rcases hall i (by simpa using hi) with h | ⟨o, e, ho, he, hl⟩
              · exact up i hi h
              · exfalso
                have hlt : e.on < i := Rin.edges_lt (by kernel_rfl) ho he
                rw [ih e.on (by omega) (by omega)] at hl
                cases hl
          rcases hI with h | ⟨_, _, hs, hdf, v', S', h97, h7, hTD, hl', hsm', hdr⟩
          · have := listed 22 20 (by omega) (by omega)
            rw [h.e20] at this
            cases this
          · have h7' := h7 (listed 22 21 (by omega) (by omega))
            obtain ⟨a1, c1, hv'⟩ := (show ∃ a c, v' = .slice a S'.length c by obtain ⟨cs', ho', _⟩ := hTD; exact row_form ho')
            subst hv'
            have HT9 := Lib.hid hTD
            have HS9 := Lib.hid hsm'
            have HD9 := Lib.hid hdr
            have HS0 := Lib.hid hs
            clear hTD hsm' hdr hall listed h7 h97
            refine ‹∀ (a : Act) (w : World), Code.wp _ _ _ a w → _› _ _ ?_
            refine wp_seq (wp_region ?_)
            show wpOps _ _ _ [0, 1] A W
            rw [wpOps_cons]
            refine wpOp_step rfl fun K1 hK1 => ?_
            rw [if_pos (by rfl)]
            refine stepMove h7' rfl rfl (hK1 _ _ ?_)
            rw [wpOps_cons]
            refine wpOp_step rfl fun K2 hK2 => ?_
            rw [if_pos (by rfl)]
            have h98 : (A.put (some 98) (.slice a1 S'.length c1)).tmps[98]? = some (.slice a1 S'.length c1) := Rin.put_eq (by omega)
            refine stepAssign h98 rfl rfl (hK2 _ _ ?_)
            refine wp_ret ?_
            have h6 : ((A.put (some 98) (.slice a1 S'.length c1)).put (some 6) (.slice a1 S'.length c1)).tmps[6]? = some (.slice a1 S'.length c1) := Rin.put_eq (by rw [Rin.put_size]; omega)
            refine bodyPost_ret (results_tmp rfl _ _ _) hdf ?_
            rw [Array.getD_eq_getD_getElem?, h6]
            exact ⟨S', _, rfl, HT9.out, hl', HS9.out, HD9.out⟩
        · intro l A W i o hI ho h0 hd K' hK
          have hi22 : i < 22 := by simpa using (Array.getElem?_eq_some_iff.1 ho).1
          rcases hI with HC | ⟨hB, hls, hs, hdf, v', S', h97, h7, hTD, hl', hsm', hdr⟩
          rotate_left
          · have hi : i = 21 := by
              refine Classical.byContradiction fun hne => ?_
              have hx := hB i (by omega)
              simp [Array.getD, hls, hi22] at hx h0
              rw [hx] at h0
              cases h0
            subst hi
            have e := Option.some.inj ((rfl : _ = some _).symm.trans ho)
            subst e
            rw [if_pos (by rfl)]
            refine stepAssign h97 rfl rfl (hK _ _ (.inr ⟨fun j hj => by rw [getD_set_ne false (by omega)]; exact hB j hj, by simpa using hls, by rw [Rin.put_size]; exact hs, hdf, v', S', Rin.put_ne h97 (by decide), fun _ => Rin.put_eq (by omega), hTD, hl', hsm', hdr⟩))
          have hs := HC.s
          have hlo : R < w2.heap.size := by omega
          rcases i with _ | _ | _ | _ | _ | _ | _ | _ | _ | _ | _ | _ | _ | _ | _ | _ | _ | _ | _ | _ | _ | _ | i
          · have e := Option.some.inj ((rfl : _ = some _).symm.trans ho)
            subst e
            rw [if_pos (by rfl)]
            exact step0 (by omega) HC h0  rfl rfl rfl fun A' W' h => hK A' W' (.inl h)
          · have e := Option.some.inj ((rfl : _ = some _).symm.trans ho)
            subst e
            rw [if_pos (by rfl)]
            exact step1 (by omega) HC h0  rfl rfl rfl fun A' W' h => hK A' W' (.inl h)
          · have e := Option.some.inj ((rfl : _ = some _).symm.trans ho)
            subst e
            rw [if_pos (by rfl)]
            exact step2 (by omega) HC h0 (hd ⟨1, .data⟩ (by simp) rfl) rfl rfl rfl fun A' W' h => hK A' W' (.inl h)
          · have e := Option.some.inj ((rfl : _ = some _).symm.trans ho)
            subst e
            rw [if_pos (by rfl)]
            exact step3 (by omega) HC h0 (hd ⟨2, .data⟩ (by simp) rfl) rfl rfl rfl fun A' W' h => hK A' W' (.inl h)
          · have e := Option.some.inj ((rfl : _ = some _).symm.trans ho)
            subst e
            rw [if_pos (by rfl)]
            exact step4 (by omega) HC h0 (hd ⟨3, .data⟩ (by simp) rfl) rfl rfl rfl fun A' W' h => hK A' W' (.inl h)
          · have e := Option.some.inj ((rfl : _ = some _).symm.trans ho)
            subst e
            rw [if_pos (by rfl)]
            exact step5 (by omega) HC h0  rfl rfl rfl fun A' W' h => hK A' W' (.inl h)
          · have e := Option.some.inj ((rfl : _ = some _).symm.trans ho)
            subst e
            rw [if_pos (by rfl)]
            exact step6 (by omega) HC h0 (hd ⟨5, .data⟩ (by simp) rfl) rfl rfl rfl fun A' W' h => hK A' W' (.inl h)
          · have e := Option.some.inj ((rfl : _ = some _).symm.trans ho)
            subst e
            rw [if_pos (by rfl)]
            exact step7 (by omega) HC h0 (hd ⟨6, .data⟩ (by simp) rfl) rfl rfl rfl fun A' W' h => hK A' W' (.inl h)
          · have e := Option.some.inj ((rfl : _ = some _).symm.trans ho)
            subst e
            rw [if_pos (by rfl)]
            exact step8 (by omega) HC h0  rfl rfl rfl fun A' W' h => hK A' W' (.inl h)
          · have e := Option.some.inj ((rfl : _ = some _).symm.trans ho)
            subst e
            rw [if_pos (by rfl)]
            exact step9 (by omega) HC h0  rfl rfl rfl fun A' W' h => hK A' W' (.inl h)
          · have e := Option.some.inj ((rfl : _ = some _).symm.trans ho)
            subst e
            rw [if_pos (by rfl)]
            exact step10 (by omega) HC h0 (hd ⟨9, .data⟩ (by simp) rfl) rfl rfl rfl fun A' W' h => hK A' W' (.inl h)
          · have e := Option.some.inj ((rfl : _ = some _).symm.trans ho)
            subst e
            rw [if_pos (by rfl)]
            exact step11 (by omega) HC h0  rfl rfl rfl fun A' W' h => hK A' W' (.inl h)
          · have e := Option.some.inj ((rfl : _ = some _).symm.trans ho)
            subst e
            rw [if_pos (by rfl)]
            exact step12 (by omega) HC h0 (hd ⟨11, .data⟩ (by simp) rfl) rfl rfl rfl fun A' W' h => hK A' W' (.inl h)
          · have e := Option.some.inj ((rfl : _ = some _).symm.trans ho)
            subst e
            rw [if_pos (by rfl)]
            exact step13 (by omega) HC h0 (hd ⟨12, .data⟩ (by simp) rfl) rfl rfl rfl fun A' W' h => hK A' W' (.inl h)
          · have e := Option.some.inj ((rfl : _ = some _).symm.trans ho)
            subst e
            rw [if_pos (by rfl)]
            exact step14 (by omega) HC h0 (hd ⟨4, .data⟩ (by simp) rfl) (hd ⟨7, .data⟩ (by simp) rfl) (hd ⟨8, .data⟩ (by simp) rfl) (hd ⟨10, .data⟩ (by simp) rfl) (hd ⟨13, .data⟩ (by simp) rfl) rfl rfl rfl fun A' W' h => hK A' W' (.inl h)
          · have e := Option.some.inj ((rfl : _ = some _).symm.trans ho)
            subst e
            rw [if_pos (by rfl)]
            exact step15 (by omega) HC h0  rfl rfl rfl fun A' W' h => hK A' W' (.inl h)
          · have e := Option.some.inj ((rfl : _ = some _).symm.trans ho)
            subst e
            rw [if_pos (by rfl)]
            exact step16 (by omega) HC h0 (hd ⟨15, .data⟩ (by simp) rfl) rfl rfl rfl fun A' W' h => hK A' W' (.inl h)
          · have e := Option.some.inj ((rfl : _ = some _).symm.trans ho)
            subst e
            rw [if_pos (by rfl)]
            exact step17 (by omega) HC h0 (hd ⟨14, .data⟩ (by simp) rfl) (hd ⟨16, .data⟩ (by simp) rfl) rfl rfl rfl fun A' W' h => hK A' W' (.inl h)
          · have e := Option.some.inj ((rfl : _ = some _).symm.trans ho)
            subst e
            rw [if_pos (by rfl)]
            exact step18 (by omega) HC h0 (hd ⟨17, .data⟩ (by simp) rfl) rfl rfl rfl fun A' W' h => hK A' W' (.inl h)
          · have e := Option.some.inj ((rfl : _ = some _).symm.trans ho)
            subst e
            rw [if_pos (by rfl)]
            exact step19 (by omega) HC h0 (hd ⟨18, .data⟩ (by simp) rfl) rfl rfl rfl fun A' W' h => hK A' W' (.inl h)
          · have e := Option.some.inj ((rfl : _ = some _).symm.trans ho)
            subst e
            rw [if_pos (by rfl)]
            have l21 : l.getD 21 false = false := by
              have hx := HC.ls
              rcases e : l.getD 21 false with _ | _
              · rfl
              · exact absurd (HC.e21 e) (by rw [HC.e20]; decide)
            have v0 := Rin.eval_of (HC.c0 (hd ⟨0, .data⟩ (by simp) rfl))
            obtain ⟨⟨g, x0, x1⟩, l18⟩ := HC.c19 (hd ⟨19, .data⟩ (by simp) rfl)
            have v19 := Rin.eval_of x0
            obtain ⟨m1, t1, a1, a2, c1, c2, L1, N1, hx, hnews⟩ := x1_news x1
            obtain ⟨_, l17⟩ := HC.c18 l18
            obtain ⟨_, l14, l16⟩ := HC.c17 l17
            obtain ⟨_, l15⟩ := HC.c16 l16
            obtain ⟨_, l4, l7, l8, l10, l13⟩ := HC.c14 l14
            obtain ⟨_, l3⟩ := HC.c4 l4
            obtain ⟨_, l2⟩ := HC.c3 l3
            obtain ⟨_, l1⟩ := HC.c2 l2
            obtain ⟨_, l6⟩ := HC.c7 l7
            obtain ⟨_, l5⟩ := HC.c6 l6
            obtain ⟨_, l9⟩ := HC.c10 l10
            obtain ⟨_, l12⟩ := HC.c13 l13
            obtain ⟨_, l11⟩ := HC.c12 l12
            have l0 := (hd ⟨0, .data⟩ (by simp) rfl)
            have l19 := (hd ⟨19, .data⟩ (by simp) rfl)
            have hrW := HC.q1 l16
            obtain ⟨cs, ho, he⟩ := HT3.out.keep HC.g.size (fun k k1 k2 => HC.g.block k k2 (fun e => by injection e with e; omega))
            rw [HN.out] at ho
            have hdW : Drawn w R p 799 W := ⟨qa + 1, by omega, by omega, hrW, grown_trans HD3.out HC.g⟩
            have zW : w.heap.size ≤ W.heap.size := Nat.le_trans z2 HC.g.size
            refine wp_append_own _ (.tmp 77) (.tmp 96) 46 rfl w.heap.size 79 i0 (.agg #[.bool false, .string ByteArray.empty, .slice none 0 0, .slice none 0 0]) 4 72 Try.underlying46 hi hz0 hz1 hz2 rfl (by decide) (.slice va n vc) n cs v0 ho ⟨g, 0, none⟩ 1 1 [.bool m1, .string t1, .slice a1 L1.length c1, .slice a2 N1.length c2] v19 rfl hnews (four_one rfl rfl rfl rfl) (by unfold maxLen; omega) (by omega) zW ?_
            intro v' w5 hown' hgrow hnn
            refine hK _ _ (.inr ⟨fun j hj => ?_, by simpa using HC.ls, (show (A.tmps.setIfInBounds 97 v').size = 99 by simpa using hs), HC.d, v', S ++ [(m1, t1, L1, N1)], Rin.put_eq (by omega), fun e => ?_, TD.push (by rw [HN.out]; exact ho) he (Below.refl _ _) (lnb_grow hx.2.1 z2 (Nat.le_refl _)) (ib_grow hx.2.2 z2 (Nat.le_refl _)) (by rw [HN.out]; exact hown') hgrow, by have := HN.out; simp; omega, sm_push HSM.out hx.1, dr_more (dr_push hdW hR (Nat.le_refl _) (Below.refl _ _) ho hgrow) (by omega)⟩)
            · by_cases ej : j = 20
              · subst ej
                exact Rin.set_self h0 false
              · rw [getD_set_ne false (fun e => ej e.symm)]
                have : j = 0 ∨ j = 1 ∨ j = 2 ∨ j = 3 ∨ j = 4 ∨ j = 5 ∨ j = 6 ∨ j = 7 ∨ j = 8 ∨ j = 9 ∨ j = 10 ∨ j = 11 ∨ j = 12 ∨ j = 13 ∨ j = 14 ∨ j = 15 ∨ j = 16 ∨ j = 17 ∨ j = 18 ∨ j = 19 := by omega
                rcases this with rfl | rfl | rfl | rfl | rfl | rfl | rfl | rfl | rfl | rfl | rfl | rfl | rfl | rfl | rfl | rfl | rfl | rfl | rfl | rfl <;> assumption
            · rw [getD_set_ne false (by decide)] at e
              exact absurd e (by rw [l21]; decide)
          · have e := Option.some.inj ((rfl : _ = some _).symm.trans ho)
            subst e
            rw [if_pos (by rfl)]
            exact absurd (hd ⟨20, .data⟩ (by simp) rfl) (by rw [HC.e20]; decide)
          · omega
        · have nol : ∀ i, (Array.replicate 22 false).getD i false = true → False := fun i h => by simp [Array.getD] at h
          have bW : Below w2.heap.size w2 { w2 with drawn := w2.drawn + 1 } := ⟨rfl, rfl, rfl, Nat.le_refl _, fun _ _ => rfl⟩
          exact .inl ⟨rfl, rfl, rfl, rfl, rfl, fun _ => rdAt_below HRA2.out bW (by omega), fun h => (nol _ h).elim, ⟨rfl, rfl, rfl, Nat.le_refl _, fun _ _ _ => rfl⟩, rfl, fun h => (nol _ h).elim, fun h => (nol _ h).elim, fun h => (nol _ h).elim, fun h => (nol _ h).elim, fun h => (nol _ h).elim, fun h => (nol _ h).elim, fun h => (nol _ h).elim, fun h => (nol _ h).elim, fun h => (nol _ h).elim, fun h => (nol _ h).elim, fun h => (nol _ h).elim, fun h => (nol _ h).elim, fun h => (nol _ h).elim, fun h => (nol _ h).elim, fun h => (nol _ h).elim, fun h => (nol _ h).elim, fun h => (nol _ h).elim, fun h => (nol _ h).elim, fun h => (nol _ h).elim, fun h => (nol _ h).elim, fun h => (nol _ h).elim⟩
        · exact Nat.le_trans List.countP_le_length (by simp)
    have kpos : (0 : Int) < ((k + 1 : Nat) : Int) := by omega
    have ek : ((k + 1 : Nat) : Int) - 1 = (k : Int) := by omega
    rcases n with _ | n
    · have KT := Lib.hid (l20Thing_any R q2 (wr.alloc (.cells #[.bool false, .string ⟨#[]⟩, .slice none 0 0, .slice none 0 0] 79)) (rdAt_alloc hr2 _) (by omega))
      have HB := Lib.hid ((Below.refl wr.heap.size wr).alloc (Nat.le_refl _) (.cells #[.bool false, .string ⟨#[]⟩, .slice none 0 0, .slice none 0 0] 79))
      clear hr2
      go_wp2_with fail
      refine KT.out.mono ?_
      rintro e w3 ⟨t, rfl, ht, q3, q31, q32, hr3, hg3⟩
      have hx3 := (hg3.block wr.heap.size (by simp) (fun e => by injection e with e; omega)).trans (heap_alloc_new wr _)
      obtain ⟨c0, c1, c2, c3, fz⟩ := box_cells hx3
      have f1 := fz 1
      have z3 : wr.heap.size + 1 ≤ w3.heap.size := by have := hg3.size; simpa using this
      have HD3 := Lib.hid (show Drawn w R p (1 + 70 * (m - (k + 1)) + 1) w3 by
        obtain ⟨q', s1, s2, s3, s4⟩ := HD2.out
        exact ⟨q3, by omega, by omega, hr3, grown_trans s4 (grown_trans (grown_start wr _ R) hg3)⟩)
      obtain ⟨cs, ho, he⟩ := (HT2.out.below HB.out).keep hg3.size (fun k k1 k2 => hg3.block k k2 (fun e => by injection e with e; omega))
      have hne := Lib.hid (show ∀ k, (Value.slice va (0) vc).ownBlock = some k → k ≠ wr.heap.size from fun k e => by
        obtain ⟨cs', ho', _⟩ := HT2.out
        have := ((World.ownsRow.lt ho') k e).2
        omega)
      rw [HN.out] at ho
      have HO4 := Lib.hid (own_set (o := 1) (u := .string t) ho hne.out)
      have HE4 := Lib.hid (tel_set (o := 1) (u := .string t) he hx3)
      have HD4 := Lib.hid (dr_set (g := wr.heap.size) (o := 1) (u := .string t) HD3.out hR (by omega))
      clear hx3 hr3 hg3 ho he fz KT
      go_wp2_with (at_builtin; refine wpList_append_own _ rfl _ _ 46 rfl w.heap.size 79 i0 (.agg #[.bool false, .string ByteArray.empty, .slice none 0 0, .slice none 0 0]) 4 72 Try.underlying46 hi hz0 hz1 hz2 rfl (by decide) _ _ _ rfl (World.ownsRow.alloc HO4.out (.cells #[.bool false, .string t, .slice none 0 0, .slice none 0 0] 79)) ⟨w3.heap.size, 0, none⟩ 1 1 [.bool false, .string t, .slice none 0 0, .slice none 0 0] (by first | rfl | simp) rfl (by have := four_news (w := w3.setCell ⟨wr.heap.size, 1, none⟩ (.string t)) (x := .bool false) (y := .string t) (z := .slice none 0 0) (u' := .slice none 0 0) (t := 79); simpa [World.setCell] using this) (four_one rfl rfl rfl rfl) (by unfold maxLen; omega) (by omega) (by simp; omega) ?_)
      intro v' w5 hown' hgrow hnn
      have HR := Lib.hid (show WlRel R p m w v' (.int .i64 (k : Int)) w5 from ⟨k, S ++ [(false, t, [], [])], by omega, rfl, by have := HN.out; simp; omega,
        TD.push (by rw [HN.out]; exact HO4.out) HE4.out ((Below.refl _ _).alloc (Nat.le_refl _) _) (lnb_no _ _ _) (ib_no _ _ _) (by rw [HN.out]; exact hown') hgrow,
        sm_push HSM.out ⟨by show t.size ≤ 41; omega, Nat.zero_le _, (fun p hp => by cases hp), Nat.zero_le _⟩,
        dr_more (dr_push HD4.out hR (Nat.le_refl _) ((Below.refl _ _).alloc (Nat.le_refl _) _) HO4.out hgrow) (by omega)⟩)
      clear hown' hgrow hnn
      go_wp2_with fail
      go_roundw
      case rel => exact HR.out
      case measure => simp [intOf] <;> omega
    have npos : (0 : Int) < (n : Int) + 1 := by omega
    go_wp2_with fail
    refine (pick_any R q2 3 _ hr2 (by omega)).mono ?_
    rintro e w2 ⟨k3, rfl, k30, k31, _, hr3, hg3⟩
    have HD1 := Lib.hid (show Drawn w R p (1 + 70 * (m - (k + 1)) + 1) w2 by
      obtain ⟨q', s1, s2, s3, s4⟩ := HD2.out
      exact ⟨q2 + 1, by omega, by omega, hr3, grown_trans s4 hg3⟩)
    have HT1 := Lib.hid (HT2.out.keep hg3.size (fun k k1 k2 => hg3.block k k2 (fun e => by injection e with e; omega)))
    have z1 : w.heap.size ≤ w2.heap.size := by have := hg3.size; omega
    have q21' : p ≤ q2 + 1 := by omega
    have q22' : q2 + 1 ≤ p + (1 + 70 * (m - (k + 1))) + 1 := by omega
    clear HD2 HT2 hr2 hg3 k31 q21 q22 z0
    have HD2 := HD1
    have HT2 := HT1
    have z0 := z1
    have hr2 := hr3
    clear HD1 HT1 hr3
    generalize q2 + 1 = q2 at *
    have q21 := q21'
    have q22 := q22'
    clear q21' q22'
    by_cases g0 : k3 = 0
    · subst g0
      have KT := Lib.hid (l20Thing_any R q2 (w2.alloc (.cells #[.bool false, .string ⟨#[]⟩, .slice none 0 0, .slice none 0 0] 79)) (rdAt_alloc hr2 _) (by omega))
      have HB := Lib.hid ((Below.refl w2.heap.size w2).alloc (Nat.le_refl _) (.cells #[.bool false, .string ⟨#[]⟩, .slice none 0 0, .slice none 0 0] 79))
      clear hr2
      go_wp2_with fail
      refine KT.out.mono ?_
      rintro e w3 ⟨t, rfl, ht, q3, q31, q32, hr3, hg3⟩
      have hx3 := (hg3.block w2.heap.size (by simp) (fun e => by injection e with e; omega)).trans (heap_alloc_new w2 _)
      obtain ⟨c0, c1, c2, c3, fz⟩ := box_cells hx3
      have f1 := fz 1
      have z3 : w2.heap.size + 1 ≤ w3.heap.size := by have := hg3.size; simpa using this
      have HD3 := Lib.hid (show Drawn w R p (1 + 70 * (m - (k + 1)) + 1 + 1) w3 by
        obtain ⟨q', s1, s2, s3, s4⟩ := HD2.out
        exact ⟨q3, by omega, by omega, hr3, grown_trans s4 (grown_trans (grown_start w2 _ R) hg3)⟩)
      obtain ⟨cs, ho, he⟩ := (HT2.out.below HB.out).keep hg3.size (fun k k1 k2 => hg3.block k k2 (fun e => by injection e with e; omega))
      have hne := Lib.hid (show ∀ k, (Value.slice va (n + 1) vc).ownBlock = some k → k ≠ w2.heap.size from fun k e => by
        obtain ⟨cs', ho', _⟩ := HT2.out
        have := ((World.ownsRow.lt ho') k e).2
        omega)
      rw [HN.out] at ho
      have HO4 := Lib.hid (own_set (o := 1) (u := .string t) ho hne.out)
      have HE4 := Lib.hid (tel_set (o := 1) (u := .string t) he hx3)
      have HD4 := Lib.hid (dr_set (g := w2.heap.size) (o := 1) (u := .string t) HD3.out hR (by omega))
      clear hx3 hr3 hg3 ho he fz KT
      go_wp2_with (at_builtin; refine wpList_append_own _ rfl _ _ 46 rfl w.heap.size 79 i0 (.agg #[.bool false, .string ByteArray.empty, .slice none 0 0, .slice none 0 0]) 4 72 Try.underlying46 hi hz0 hz1 hz2 rfl (by decide) _ _ _ rfl (World.ownsRow.alloc HO4.out (.cells #[.bool false, .string t, .slice none 0 0, .slice none 0 0] 79)) ⟨w3.heap.size, 0, none⟩ 1 1 [.bool false, .string t, .slice none 0 0, .slice none 0 0] (by first | rfl | simp) rfl (by have := four_news (w := w3.setCell ⟨w2.heap.size, 1, none⟩ (.string t)) (x := .bool false) (y := .string t) (z := .slice none 0 0) (u' := .slice none 0 0) (t := 79); simpa [World.setCell] using this) (four_one rfl rfl rfl rfl) (by unfold maxLen; omega) (by omega) (by simp; omega) ?_)
      intro v' w5 hown' hgrow hnn
      have HR := Lib.hid (show WlRel R p m w v' (.int .i64 (k : Int)) w5 from ⟨k, S ++ [(false, t, [], [])], by omega, rfl, by have := HN.out; simp; omega,
        TD.push (by rw [HN.out]; exact HO4.out) HE4.out ((Below.refl _ _).alloc (Nat.le_refl _) _) (lnb_no _ _ _) (ib_no _ _ _) (by rw [HN.out]; exact hown') hgrow,
        sm_push HSM.out ⟨by show t.size ≤ 41; omega, Nat.zero_le _, (fun p hp => by cases hp), Nat.zero_le _⟩,
        dr_more (dr_push HD4.out hR (Nat.le_refl _) ((Below.refl _ _).alloc (Nat.le_refl _) _) HO4.out hgrow) (by omega)⟩)
      clear hown' hgrow hnn
      go_wp2_with fail
      go_roundw
      case rel => exact HR.out
      case measure => simp [intOf] <;> omega
    have g0' : 0 < k3 := by omega
    have HST2 := Lib.hid (show InRel R q2 (n + 1) w2.heap.size w2 (.int .i64 0) (w2.alloc (.cells #[.bool true, .string ⟨#[]⟩, .slice none 0 0, .slice none 0 0] 79)) from
      ⟨0, [], none, 0, Nat.zero_le _, rfl, Nat.zero_le _, heap_alloc_new w2 _, World.ownsRow_nil _ _ _ _, ⟨q2, Nat.le_refl _, Nat.le_refl _, rdAt_alloc hr2 _, grown_start w2 _ R⟩⟩)
    have z2 : w.heap.size ≤ w2.heap.size := by obtain ⟨_, _, _, _, g⟩ := HD2.out; exact g.size
    clear hr2
    go_wp2_with fail
    go_loopw [10] (fun s10 wr => InRel R q2 (n + 1) w2.heap.size w2 s10 wr) (fun s10 _ => n + 1 - (intOf s10).toNat)
    case atStart => exact HST2.out
    case round =>
      obtain ⟨j, N, ia, ic, hj, rfl, hN3, hx, hio, hd3⟩ := hrel
      obtain ⟨c0, c1, c2, c3, fz⟩ := box_cells hx
      have HIO := Lib.hid hio
      have HX := Lib.hid hx
      have HD3 := Lib.hid hd3
      obtain ⟨q4, q41, q42, hr4, gr4⟩ := hd3
      have HGR := Lib.hid gr4
      have zx : w2.heap.size < wr.heap.size := (Array.getElem?_eq_some_iff.1 hx).1
      clear hio gr4
      by_cases hjl : j < n + 1
      · have j1 : (j : Int) < (n : Int) + 1 := by omega
        go_wp2_with fail
        refine (pick_any R q4 _ wr hr4 (by omega)).mono ?_
        rintro e w4 ⟨k4, rfl, k40, k41, _, hr5, hg5⟩
        have D4 := Lib.hid (drawn_one9 hr5 hg5)
        by_cases g3 : k4 < 3
        rotate_left
        · clear hr4 hr5 hg5 k41 c0 c1 c2 c3 fz
          have HR := Lib.hid (in_next hjl hN3 hx HIO.out q41 q42 HGR.out (dr_more D4.out (by omega)) (by omega))
          clear hx
          go_wp2_with fail
          go_roundw
          case rel => exact HR.out
          case measure => simp [intOf] <;> omega
        go_wp2_with fail
        refine (pick_any R (q4 + 1) _ w4 hr5 (by omega)).mono ?_
        rintro e w5 ⟨k5, rfl, k50, k51, _, hr6, hg6⟩
        have D5 := Lib.hid (show Drawn wr R q4 2 w5 from ⟨q4 + 1 + 1, by omega, by omega, hr6, grown_trans hg5 hg6⟩)
        have hx5 := ((grown_trans hg5 hg6).block w2.heap.size zx (fun e => by injection e with e; omega)).trans hx
        have HIO5 := Lib.hid (row_drawn HIO.out (grown_trans hg5 hg6) (show R < w2.heap.size + 1 by omega))
        have z5 : wr.heap.size ≤ w5.heap.size := (grown_trans hg5 hg6).size
        clear hr4 hr5 hg5 hr6 hg6 k41 k51 c0 c1 c2 c3 fz
        obtain ⟨c0, c1, c2, c3, fz⟩ := box_cells hx5
        have f3 := fz 3
        by_cases g5 : k5 = 0
        rotate_left
        · have g5' : (k5 == 0) = false := by rw [beq_eq_false_iff_ne]; exact g5
          clear hx5 fz
          have HR := Lib.hid (in_next hjl hN3 hx HIO.out q41 q42 HGR.out D5.out (by omega))
          clear hx
          go_wp2_with fail
          go_roundw
          case rel => exact HR.out
          case measure => simp [intOf] <;> omega
        subst g5
        by_cases gN : N.length < 3
        rotate_left
        · have gN' : ¬ (N.length : Int) < 3 := by omega
          clear hx5 fz
          have HR := Lib.hid (in_next hjl hN3 hx HIO.out q41 q42 HGR.out D5.out (by omega))
          clear hx
          go_wp2_with fail
          go_roundw
          case rel => exact HR.out
          case measure => simp [intOf] <;> omega
        have gN' : (N.length : Int) < 3 := by omega
        clear hx5 fz
        go_wp2_with (at_builtin; refine wpList_append_own _ rfl _ _ 43 rfl (w2.heap.size + 1) 3 ii (.int .i64 0) 1 8 Try.underlying43 hii hiz0 hiz1 hiz2 rfl (by decide) _ _ _ rfl (World.ownsRow.alloc HIO5.out (.cells #[.int .i64 (j : Int)] 3)) ⟨w5.heap.size, 0, none⟩ 1 1 [.int .i64 (j : Int)] rfl rfl (one_new w5 (j : Int)) (one_one _) (by unfold maxLen; omega) (by omega) (by simp; omega) ?_)
        intro v' w6 hown' hgrow hnn
        obtain ⟨na, nc, rfl⟩ := row_form hown'
        have HR := Lib.hid (in_push hjl gN HX.out HIO.out q41 q42 HGR.out D5.out (by omega) (Nat.le_refl _) hown' hgrow)
        have ne6 : ∀ k, (Value.slice ia N.length ic).ownBlock = some k → k ≠ w2.heap.size := fun k e => by have := ((World.ownsRow.lt HIO5.out) k e).1; omega
        have d3 : w6.cell? ⟨w2.heap.size, 3, none⟩ = some (.slice ia N.length ic) := (World.cell?_of_block (a := ⟨w2.heap.size, 3, none⟩) ((hgrow.block w2.heap.size (by simp; omega) (fun e => ne6 _ e.symm rfl)).trans (Below.heap_alloc _ _ _ (by omega)))).trans c3
        have e3 : w6.frozen? ⟨w2.heap.size, 3, none⟩ = false := (World.frozen?_of_block (a := ⟨w2.heap.size, 3, none⟩) ((hgrow.block w2.heap.size (by simp; omega) (fun e => ne6 _ e.symm rfl)).trans (Below.heap_alloc _ _ _ (by omega)))).trans f3
        clear hown' hgrow hnn ne6 hx
        go_wp2_with fail
        go_roundw
        case rel => exact HR.out
        case measure => simp [intOf] <;> omega
      · obtain rfl : j = n + 1 := by omega
        have j1 : ¬ ((n + 1 : Nat) : Int) < (n : Int) + 1 := by omega
        have KS := Lib.hid (l20Script_any R q4 (N.length : Int) 0 wr hr4 (by omega) (by omega) (by omega))
        clear hr4
        go_wp2_with fail
        refine KS.out.mono ?_
        rintro e w4 ⟨L, vL, rfl, hlo, hL6, hLq, hd5⟩
        obtain ⟨la, lc, rfl⟩ := row_form hlo
        have hd5' := hd5
        obtain ⟨q5, q51, q52, hr5, hg5⟩ := hd5'
        have hx4 := (hg5.block w2.heap.size zx (fun e => by injection e with e; omega)).trans hx
        have z4 : wr.heap.size ≤ w4.heap.size := hg5.size
        have HIO4 := Lib.hid (row_drawn HIO.out hg5 (show R < w2.heap.size + 1 by omega))
        have HLO := Lib.hid hlo
        have HLX := Lib.hid (And.intro hL6 hLq)
        have HD4 := Lib.hid (show Drawn w R p (1 + 70 * (m - (k + 1)) + 1 + 60) w4 by
          obtain ⟨q', s1, s2, s3, s4⟩ := HD2.out
          exact ⟨q5, by omega, by omega, hr5, grown_trans s4 (grown_trans HGR.out hg5)⟩)
        obtain ⟨cs, ho, he⟩ := HT2.out.keep (Nat.le_trans HGR.out.size hg5.size) (fun q k1 k2 => ((grown_trans HGR.out hg5).block q k2 (fun e => by injection e with e; omega)))
        have hne := Lib.hid (show ∀ k, (Value.slice va (n + 1) vc).ownBlock = some k → k ≠ w2.heap.size from fun k e => by
          obtain ⟨cs', ho', _⟩ := HT2.out
          have := ((World.ownsRow.lt ho') k e).2
          omega)
        rw [HN.out] at ho
        have hneL := Lib.hid (show ∀ k, (Value.slice la L.length lc).ownBlock = some k → k ≠ w2.heap.size from fun k e => by have := ((World.ownsRow.lt hlo) k e).1; omega)
        have hneN := Lib.hid (show ∀ k, (Value.slice ia N.length ic).ownBlock = some k → k ≠ w2.heap.size from fun k e => by have := ((World.ownsRow.lt HIO4.out) k e).1; omega)
        have HO6 := Lib.hid (own_set (o := 2) (u := .slice la L.length lc) ho hne.out)
        have HE6 := Lib.hid (tel_set (o := 2) (u := .slice la L.length lc) he hx4)
        have HL6 := Lib.hid (LOwn.lb (show LOwn (w4.setCell ⟨w2.heap.size, 2, none⟩ (.slice la L.length lc)) wr.heap.size (.slice la L.length lc) L from own_set hlo hneL.out))
        have HN6 := Lib.hid (IOwn.ib (show IOwn (w4.setCell ⟨w2.heap.size, 2, none⟩ (.slice la L.length lc)) (w2.heap.size + 1) (.slice ia N.length ic) N from own_set HIO4.out hneN.out))
        have HD6 := Lib.hid (dr_set (g := w2.heap.size) (o := 2) (u := .slice la L.length lc) HD4.out hR (by omega))
        clear c0 c1 c2 c3 fz
        obtain ⟨c0, c1, c2, c3, fz⟩ := box_cells hx4
        have f2 := fz 2
        clear hx4 hr5 hg5 hd5 ho he fz KS hlo hL6 hLq hx
        go_wp2_with (at_builtin; refine wpList_append_own _ rfl _ _ 46 rfl w.heap.size 79 i0 (.agg #[.bool false, .string ByteArray.empty, .slice none 0 0, .slice none 0 0]) 4 72 Try.underlying46 hi hz0 hz1 hz2 rfl (by decide) _ _ _ rfl (World.ownsRow.alloc HO6.out (.cells #[.bool true, .string ⟨#[]⟩, .slice la L.length lc, .slice ia N.length ic] 79)) ⟨w4.heap.size, 0, none⟩ 1 1 [.bool true, .string ⟨#[]⟩, .slice la L.length lc, .slice ia N.length ic] (by first | rfl | simp) rfl (by have := four_news (w := w4.setCell ⟨w2.heap.size, 2, none⟩ (.slice la L.length lc)) (x := .bool true) (y := .string ⟨#[]⟩) (z := .slice la L.length lc) (u' := .slice ia N.length ic) (t := 79); simpa [World.setCell] using this) (four_one rfl rfl rfl rfl) (by unfold maxLen; omega) (by omega) (by simp; omega) ?_)
        intro v' w5 hown' hgrow hnn
        have HR := Lib.hid (show WlRel R p m w v' (.int .i64 (k : Int)) w5 from ⟨k, S ++ [(true, ⟨#[]⟩, L, N)], by omega, rfl, by have := HN.out; simp; omega,
          TD.push (by rw [HN.out]; exact HO6.out) HE6.out ((Below.refl _ _).alloc (Nat.le_refl _) _) ((lnb_grow HL6.out (show w.heap.size ≤ wr.heap.size by omega) (Nat.le_refl _)).below ((Below.refl _ _).alloc (Nat.le_refl _) _) |> fun z => lnb_grow z (Nat.le_refl _) (by simp)) ((ib_grow HN6.out (show w.heap.size ≤ w2.heap.size + 1 by omega) (Nat.le_refl _)).below ((Below.refl _ _).alloc (Nat.le_refl _) _) |> fun z => ib_grow z (Nat.le_refl _) (by simp)) (by rw [HN.out]; exact hown') hgrow,
          sm_push HSM.out ⟨Nat.zero_le _, HLX.out.1, HLX.out.2, hN3⟩,
          dr_more (dr_push HD6.out hR (Nat.le_refl _) ((Below.refl _ _).alloc (Nat.le_refl _) _) HO6.out hgrow) (by omega)⟩)
        clear hown' hgrow hnn
        go_wp2_with fail
        go_roundw
        case rel => exact HR.out
        case measure => simp [intOf] <;> omega
end Dtg
end Go.Proofs.Ytopplljilmjjgaa
