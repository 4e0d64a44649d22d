/- Contracts of the program's termUnmet and clashOfNeed, over this seat's translation, and rows of one and of two terms that are made at once. Nothing that was there before a call has changed. Condition: at most 1048576 spans. -/
import Derived.Test.YtgjmgclgokgobaaGn
import Derived.Test.YtgjmgclgokgobaaImset
import Derived.Test.YtgjmgclgokgobaaImone
namespace Go.Proofs.Ytgjmgclgokgobaa
open Go.RowKit Go.Sort

namespace Tmc
open Foot
/-- The term that holds just if a need is not met. -/
def unm (n : Nd) : Option Tm := if notOk n.2 = true then some (n.1, notR n.2, true) else none

theorem made_one {w : World} {x : Int} {f : Bool} {L : Sps} {u : Value} {B cap : Nat} (h : SRes L B u w) (hB : B ≤ w.heap.size) :
    TmB [(x, L, f)] B (w.heap.size + 1) (.slice (some ⟨w.heap.size, 0, none⟩) 1 cap) (w.alloc (.cells #[.int .i64 x, u, .bool f] 85)) := by
  obtain ⟨F, hF, hlo⟩ := SpF.of h
  obtain ⟨a, c, rfl, _⟩ := id hF
  have hlt := hF.lt
  have hal : ∀ b ∈ F, (w.alloc (.cells #[.int .i64 x, .slice a L.length c, .bool f] 85)).heap[b]? = w.heap[b]? := fun b hb => ((Below.refl w.heap.size w).alloc (Nat.le_refl _) _).block b (hlt b hb)
  have e1 : TEl (w.alloc (.cells #[.int .i64 x, .slice a L.length c, .bool f] 85)) [.int .i64 x, .slice a L.length c, .bool f] [(x, L, f)] [F] :=
    (TEl.nil _ []).push rfl (hF.kept hal)
  refine ⟨w.heap.size :: [F].flatten, ⟨_, cap, rfl, .inr ⟨w.heap.size, 1, [F], rfl, ⟨_, heap_alloc_new w _, rfl, Nat.le_refl _, e1⟩, rfl⟩⟩, ?_, fun b hb => ?_⟩
  · simp only [List.flatten_cons, List.flatten_nil, List.append_nil]
    exact List.nodup_cons.2 ⟨fun k => Nat.lt_irrefl _ (hlt _ k), hF.nodup⟩
  · simp only [List.flatten_cons, List.flatten_nil, List.append_nil] at hb
    rcases List.mem_cons.1 hb with rfl | hb
    · exact ⟨hB, by omega⟩
    · exact ⟨hlo b hb, by have := hlt b hb; omega⟩
theorem made_two {w : World} {x y : Int} {f g : Bool} {L M : Sps} {u v : Value} {B cap : Nat} {F G : List Nat} (hF : SpF w u L F) (hG : SpF w v M G) (hlo : ∀ b ∈ F, B ≤ b) (hlo2 : ∀ b ∈ G, B ≤ b) (hd : ∀ b ∈ F, b ∉ G) (hB : B ≤ w.heap.size) :
    TmB [(x, L, f), (y, M, g)] B (w.heap.size + 1) (.slice (some ⟨w.heap.size, 0, none⟩) 2 cap) (w.alloc (.cells #[.int .i64 x, u, .bool f, .int .i64 y, v, .bool g] 85)) := by
  have hd' : ∀ k, k ∈ F → k ∈ G → False := fun k h1 h2 => hd k h1 h2
  obtain ⟨a, c, rfl, _⟩ := id hF
  obtain ⟨a2, c2, rfl, _⟩ := id hG
  have hlt := hF.lt
  have hlt2 := hG.lt
  obtain ⟨V, hV⟩ : ∃ V : World, V = w.alloc (.cells #[.int .i64 x, .slice a L.length c, .bool f, .int .i64 y, .slice a2 M.length c2, .bool g] 85) := ⟨_, rfl⟩
  have hal : ∀ b, b < w.heap.size → V.heap[b]? = w.heap[b]? := fun b hb => by rw [hV]; exact ((Below.refl w.heap.size w).alloc (Nat.le_refl _) _).block b hb
  have e1 : TEl V [.int .i64 x, .slice a L.length c, .bool f, .int .i64 y, .slice a2 M.length c2, .bool g] [(x, L, f), (y, M, g)] [F, G] :=
    ((TEl.nil V []).push rfl (hF.kept fun b hb => hal b (hlt b hb))).push rfl (hG.kept fun b hb => hal b (hlt2 b hb))
  rw [← hV]
  refine ⟨w.heap.size :: [F, G].flatten, ⟨_, cap, rfl, .inr ⟨w.heap.size, 2, [F, G], rfl, ⟨_, by rw [hV]; exact heap_alloc_new w _, rfl, Nat.le_refl _, e1⟩, rfl⟩⟩, ?_, fun b hb => ?_⟩
  · simp only [List.flatten_cons, List.flatten_nil, List.append_nil]
    refine List.nodup_cons.2 ⟨fun k => ?_, List.nodup_append.2 ⟨hF.nodup, hG.nodup, fun p h1 q h2 e => hd' p h1 (e ▸ h2)⟩⟩
    rcases List.mem_append.1 k with k | k
    · exact Nat.lt_irrefl _ (hlt _ k)
    · exact Nat.lt_irrefl _ (hlt2 _ k)
  · simp only [List.flatten_cons, List.flatten_nil, List.append_nil] at hb
    rcases List.mem_cons.1 hb with rfl | hb
    · exact ⟨hB, by omega⟩
    · rcases List.mem_append.1 hb with hb | hb
      · exact ⟨hlo b hb, by have := hlt b hb; omega⟩
      · exact ⟨hlo2 b hb, by have := hlt2 b hb; omega⟩

set_option maxRecDepth 100000 in
set_option maxHeartbeats 2000000 in
theorem unmet_yes (x : Int) (u : Value) (L : Sps) (w : World) (hl : L.length ≤ 1048576) (hok : notOk L = true) (h : SpAt w w.heap.size u L) :
    Calls Try.prog 115 #[.agg #[.int .i64 x, u]] w fun e w' => ∃ v, e = .returned (.tuple #[term x v true, .bool true]) ∧ SRes (notR L) w.heap.size v w' ∧ Below w.heap.size w w' := by
  obtain ⟨a, cap, rfl, hx⟩ := id h
  clear hx
  have K : Hid (∀ V, SpAt V V.heap.size (.slice a L.length cap) L → Calls Try.prog 133 #[.agg #[.slice a L.length cap]] V (TPost true (notR L) V)) := Lib.hid fun V g => by rw [← hok]; exact implNot_any _ L V hl g
  have b0 := ((Below.refl w.heap.size w).alloc (Nat.le_refl _) (.cells #[.int .i64 x, .slice a L.length cap] 83)).alloc (by simp) (.cells #[.int .i64 0, .slice none 0 0, .bool false] 85)
  have hB : w.heap.size + 2 ≤ ((w.alloc (.cells #[.int .i64 x, .slice a L.length cap] 83)).alloc (.cells #[.int .i64 0, .slice none 0 0, .bool false] 85)).heap.size := by simp
  have hb := Below.refl (w.heap.size + 2) ((w.alloc (.cells #[.int .i64 x, .slice a L.length cap] 83)).alloc (.cells #[.int .i64 0, .slice none 0 0, .bool false] 85))
  have hs := (h.below b0).mono b0.size
  clear h hok
  go_enter Try.func115, Try.ntmps115
  go_wp2_with fail
  refine (K.out _ hs).mono ?_
  rintro e w2 ⟨v, rfl, r, hb2⟩
  have hbb := hb.trans (hb2.mono hB)
  have c0 : w2.cell? ⟨w.heap.size, 0, none⟩ = some (.int .i64 x) := (hbb.cell (p := ⟨w.heap.size, 0, none⟩) (by show w.heap.size < w.heap.size + 2; omega)).trans (by go_simp)
  have d0 : w2.cell? ⟨w.heap.size + 1, 0, none⟩ = some (.int .i64 0) := (hbb.cell (p := ⟨w.heap.size + 1, 0, none⟩) (by show w.heap.size + 1 < w.heap.size + 2; omega)).trans (by go_simp)
  have d1 : w2.cell? ⟨w.heap.size + 1, 1, none⟩ = some (.slice none 0 0) := (hbb.cell (p := ⟨w.heap.size + 1, 1, none⟩) (by show w.heap.size + 1 < w.heap.size + 2; omega)).trans (by go_simp)
  have d2 : w2.cell? ⟨w.heap.size + 1, 2, none⟩ = some (.bool false) := (hbb.cell (p := ⟨w.heap.size + 1, 2, none⟩) (by show w.heap.size + 1 < w.heap.size + 2; omega)).trans (by go_simp)
  have f0 : w2.frozen? ⟨w.heap.size + 1, 0, none⟩ = false := (hbb.frozen (p := ⟨w.heap.size + 1, 0, none⟩) (by show w.heap.size + 1 < w.heap.size + 2; omega)).trans (by go_simp)
  have f1 : w2.frozen? ⟨w.heap.size + 1, 1, none⟩ = false := (hbb.frozen (p := ⟨w.heap.size + 1, 1, none⟩) (by show w.heap.size + 1 < w.heap.size + 2; omega)).trans (by go_simp)
  have f2 : w2.frozen? ⟨w.heap.size + 1, 2, none⟩ = false := (hbb.frozen (p := ⟨w.heap.size + 1, 2, none⟩) (by show w.heap.size + 1 < w.heap.size + 2; omega)).trans (by go_simp)
  have b2 := b0.trans (hb2.mono b0.size)
  obtain ⟨a3, cap3, rfl, _⟩ := id r
  have HR := Lib.hid (show SRes (notR L) w.heap.size (.slice a3 (notR L).length cap3) ((((w2.setCell ⟨w.heap.size + 1, 0, none⟩ (.int .i64 x)).setCell ⟨w.heap.size + 1, 1, none⟩ (.slice a3 (notR L).length cap3)).setCell ⟨w.heap.size + 1, 2, none⟩ (.bool true)).alloc (.cells #[.slice a3 (notR L).length cap3] 79)) from
    (r.kept fun g hg hg2 => by
      rw [((Below.refl _ (((w2.setCell ⟨w.heap.size + 1, 0, none⟩ (.int .i64 x)).setCell ⟨w.heap.size + 1, 1, none⟩ (.slice a3 (notR L).length cap3)).setCell ⟨w.heap.size + 1, 2, none⟩ (.bool true))).alloc (Nat.le_refl _) (.cells #[.slice a3 (notR L).length cap3] 79)).block g (by simpa [World.setCell] using hg2),
        Below.heap_setCell _ _ _ _ (by show g ≠ w.heap.size + 1; omega), Below.heap_setCell _ _ _ _ (by show g ≠ w.heap.size + 1; omega), Below.heap_setCell _ _ _ _ (by show g ≠ w.heap.size + 1; omega)]).mono (by omega))
  have hlt : w.heap.size + 1 < (((w2.setCell ⟨w.heap.size + 1, 0, none⟩ (.int .i64 x)).setCell ⟨w.heap.size + 1, 1, none⟩ (.slice a3 (notR L).length cap3)).setCell ⟨w.heap.size + 1, 2, none⟩ (.bool true)).heap.size := by have := hbb.size; simp [World.setCell]; omega
  have e0 : ((((w2.setCell ⟨w.heap.size + 1, 0, none⟩ (.int .i64 x)).setCell ⟨w.heap.size + 1, 1, none⟩ (.slice a3 (notR L).length cap3)).setCell ⟨w.heap.size + 1, 2, none⟩ (.bool true)).alloc (.cells #[.slice a3 (notR L).length cap3] 79)).cell? ⟨w.heap.size + 1, 0, none⟩ = some (.int .i64 x) := (((Below.refl _ (((w2.setCell ⟨w.heap.size + 1, 0, none⟩ (.int .i64 x)).setCell ⟨w.heap.size + 1, 1, none⟩ (.slice a3 (notR L).length cap3)).setCell ⟨w.heap.size + 1, 2, none⟩ (.bool true))).alloc (Nat.le_refl _) (.cells #[.slice a3 (notR L).length cap3] 79)).cell (p := ⟨w.heap.size + 1, 0, none⟩) hlt).trans (by go_simp)
  have e1 : ((((w2.setCell ⟨w.heap.size + 1, 0, none⟩ (.int .i64 x)).setCell ⟨w.heap.size + 1, 1, none⟩ (.slice a3 (notR L).length cap3)).setCell ⟨w.heap.size + 1, 2, none⟩ (.bool true)).alloc (.cells #[.slice a3 (notR L).length cap3] 79)).cell? ⟨w.heap.size + 1, 1, none⟩ = some (.slice a3 (notR L).length cap3) := (((Below.refl _ (((w2.setCell ⟨w.heap.size + 1, 0, none⟩ (.int .i64 x)).setCell ⟨w.heap.size + 1, 1, none⟩ (.slice a3 (notR L).length cap3)).setCell ⟨w.heap.size + 1, 2, none⟩ (.bool true))).alloc (Nat.le_refl _) (.cells #[.slice a3 (notR L).length cap3] 79)).cell (p := ⟨w.heap.size + 1, 1, none⟩) hlt).trans (by go_simp)
  have e2 : ((((w2.setCell ⟨w.heap.size + 1, 0, none⟩ (.int .i64 x)).setCell ⟨w.heap.size + 1, 1, none⟩ (.slice a3 (notR L).length cap3)).setCell ⟨w.heap.size + 1, 2, none⟩ (.bool true)).alloc (.cells #[.slice a3 (notR L).length cap3] 79)).cell? ⟨w.heap.size + 1, 2, none⟩ = some (.bool true) := (((Below.refl _ (((w2.setCell ⟨w.heap.size + 1, 0, none⟩ (.int .i64 x)).setCell ⟨w.heap.size + 1, 1, none⟩ (.slice a3 (notR L).length cap3)).setCell ⟨w.heap.size + 1, 2, none⟩ (.bool true))).alloc (Nat.le_refl _) (.cells #[.slice a3 (notR L).length cap3] 79)).cell (p := ⟨w.heap.size + 1, 2, none⟩) hlt).trans (by go_simp)
  have HE := Lib.hid (And.intro e0 (And.intro e1 e2))
  clear e0 e1 e2 hlt
  have z2 : w.heap.size < w2.heap.size := by have := hbb.size; omega
  have z3 : w.heap.size + 1 < w2.heap.size := by have := hbb.size; omega
  clear hb hb2 hbb b0 hs r
  go_wp2_with fail
  exact bodyPost_ret (v := .tuple #[term x (.slice a3 (notR L).length cap3) true, .bool true]) (by simp [results, Try.results115, go_sem, HE.out.1, HE.out.2.1, HE.out.2.2]) rfl ⟨_, rfl, HR.out, by go_grown⟩

set_option maxRecDepth 100000 in
set_option maxHeartbeats 2000000 in
theorem unmet_no (x : Int) (u : Value) (L : Sps) (w : World) (hl : L.length ≤ 1048576) (hok : notOk L = false) (h : SpAt w w.heap.size u L) :
    Calls Try.prog 115 #[.agg #[.int .i64 x, u]] w fun e w' => e = .returned (.tuple #[term 0 (.slice none 0 0) false, .bool false]) ∧ Below w.heap.size w w' := by
  obtain ⟨a, cap, rfl, hx⟩ := id h
  clear hx
  have K : Hid (∀ V, SpAt V V.heap.size (.slice a L.length cap) L → Calls Try.prog 133 #[.agg #[.slice a L.length cap]] V (TPost false (notR L) V)) := Lib.hid fun V g => by rw [← hok]; exact implNot_any _ L V hl g
  have b0 := ((Below.refl w.heap.size w).alloc (Nat.le_refl _) (.cells #[.int .i64 x, .slice a L.length cap] 83)).alloc (by simp) (.cells #[.int .i64 0, .slice none 0 0, .bool false] 85)
  have hB : w.heap.size + 2 ≤ ((w.alloc (.cells #[.int .i64 x, .slice a L.length cap] 83)).alloc (.cells #[.int .i64 0, .slice none 0 0, .bool false] 85)).heap.size := by simp
  have hb := Below.refl (w.heap.size + 2) ((w.alloc (.cells #[.int .i64 x, .slice a L.length cap] 83)).alloc (.cells #[.int .i64 0, .slice none 0 0, .bool false] 85))
  have hs := (h.below b0).mono b0.size
  clear h hok
  go_enter Try.func115, Try.ntmps115
  go_wp2_with fail
  refine (K.out _ hs).mono ?_
  rintro e w2 ⟨v, rfl, r, hb2⟩
  have hbb := hb.trans (hb2.mono hB)
  have c0 : w2.cell? ⟨w.heap.size, 0, none⟩ = some (.int .i64 x) := (hbb.cell (p := ⟨w.heap.size, 0, none⟩) (by show w.heap.size < w.heap.size + 2; omega)).trans (by go_simp)
  have d0 : w2.cell? ⟨w.heap.size + 1, 0, none⟩ = some (.int .i64 0) := (hbb.cell (p := ⟨w.heap.size + 1, 0, none⟩) (by show w.heap.size + 1 < w.heap.size + 2; omega)).trans (by go_simp)
  have d1 : w2.cell? ⟨w.heap.size + 1, 1, none⟩ = some (.slice none 0 0) := (hbb.cell (p := ⟨w.heap.size + 1, 1, none⟩) (by show w.heap.size + 1 < w.heap.size + 2; omega)).trans (by go_simp)
  have d2 : w2.cell? ⟨w.heap.size + 1, 2, none⟩ = some (.bool false) := (hbb.cell (p := ⟨w.heap.size + 1, 2, none⟩) (by show w.heap.size + 1 < w.heap.size + 2; omega)).trans (by go_simp)
  have f0 : w2.frozen? ⟨w.heap.size + 1, 0, none⟩ = false := (hbb.frozen (p := ⟨w.heap.size + 1, 0, none⟩) (by show w.heap.size + 1 < w.heap.size + 2; omega)).trans (by go_simp)
  have f1 : w2.frozen? ⟨w.heap.size + 1, 1, none⟩ = false := (hbb.frozen (p := ⟨w.heap.size + 1, 1, none⟩) (by show w.heap.size + 1 < w.heap.size + 2; omega)).trans (by go_simp)
  have f2 : w2.frozen? ⟨w.heap.size + 1, 2, none⟩ = false := (hbb.frozen (p := ⟨w.heap.size + 1, 2, none⟩) (by show w.heap.size + 1 < w.heap.size + 2; omega)).trans (by go_simp)
  have b2 := b0.trans (hb2.mono b0.size)
  obtain ⟨a3, cap3, rfl, _⟩ := id r
  have hlt : w.heap.size + 1 < (((w2.setCell ⟨w.heap.size + 1, 0, none⟩ (.int .i64 0)).setCell ⟨w.heap.size + 1, 1, none⟩ (.slice none 0 0)).setCell ⟨w.heap.size + 1, 2, none⟩ (.bool false)).heap.size := by have := hbb.size; simp [World.setCell]; omega
  have e0 : ((((w2.setCell ⟨w.heap.size + 1, 0, none⟩ (.int .i64 0)).setCell ⟨w.heap.size + 1, 1, none⟩ (.slice none 0 0)).setCell ⟨w.heap.size + 1, 2, none⟩ (.bool false)).alloc (.cells #[.slice a3 (notR L).length cap3] 79)).cell? ⟨w.heap.size + 1, 0, none⟩ = some (.int .i64 0) := (((Below.refl _ (((w2.setCell ⟨w.heap.size + 1, 0, none⟩ (.int .i64 0)).setCell ⟨w.heap.size + 1, 1, none⟩ (.slice none 0 0)).setCell ⟨w.heap.size + 1, 2, none⟩ (.bool false))).alloc (Nat.le_refl _) (.cells #[.slice a3 (notR L).length cap3] 79)).cell (p := ⟨w.heap.size + 1, 0, none⟩) hlt).trans (by go_simp)
  have e1 : ((((w2.setCell ⟨w.heap.size + 1, 0, none⟩ (.int .i64 0)).setCell ⟨w.heap.size + 1, 1, none⟩ (.slice none 0 0)).setCell ⟨w.heap.size + 1, 2, none⟩ (.bool false)).alloc (.cells #[.slice a3 (notR L).length cap3] 79)).cell? ⟨w.heap.size + 1, 1, none⟩ = some (.slice none 0 0) := (((Below.refl _ (((w2.setCell ⟨w.heap.size + 1, 0, none⟩ (.int .i64 0)).setCell ⟨w.heap.size + 1, 1, none⟩ (.slice none 0 0)).setCell ⟨w.heap.size + 1, 2, none⟩ (.bool false))).alloc (Nat.le_refl _) (.cells #[.slice a3 (notR L).length cap3] 79)).cell (p := ⟨w.heap.size + 1, 1, none⟩) hlt).trans (by go_simp)
  have e2 : ((((w2.setCell ⟨w.heap.size + 1, 0, none⟩ (.int .i64 0)).setCell ⟨w.heap.size + 1, 1, none⟩ (.slice none 0 0)).setCell ⟨w.heap.size + 1, 2, none⟩ (.bool false)).alloc (.cells #[.slice a3 (notR L).length cap3] 79)).cell? ⟨w.heap.size + 1, 2, none⟩ = some (.bool false) := (((Below.refl _ (((w2.setCell ⟨w.heap.size + 1, 0, none⟩ (.int .i64 0)).setCell ⟨w.heap.size + 1, 1, none⟩ (.slice none 0 0)).setCell ⟨w.heap.size + 1, 2, none⟩ (.bool false))).alloc (Nat.le_refl _) (.cells #[.slice a3 (notR L).length cap3] 79)).cell (p := ⟨w.heap.size + 1, 2, none⟩) hlt).trans (by go_simp)
  have HE := Lib.hid (And.intro e0 (And.intro e1 e2))
  clear e0 e1 e2 hlt
  have z2 : w.heap.size < w2.heap.size := by have := hbb.size; omega
  have z3 : w.heap.size + 1 < w2.heap.size := by have := hbb.size; omega
  clear hb hb2 hbb b0 hs r
  go_wp2_with fail
  exact bodyPost_ret (v := .tuple #[term 0 (.slice none 0 0) false, .bool false]) (by simp [results, Try.results115, go_sem, HE.out.1, HE.out.2.1, HE.out.2.2]) rfl ⟨rfl, by go_grown⟩

/-- The clash of a need, by its place. -/
def cofN (M : List Nd) (A B N : Int) : Option (List Tm) :=
  if 0 ≤ A ∧ A < (M.length : Int) ∧ B = 0 ∧ N = 0 then (M[A.toNat]?).bind fun n => (unm n).map fun t => [t] else none
abbrev stepV (K A B N : Int) : Value := .agg #[.int .i64 K, .int .i64 A, .int .i64 B, .int .i64 N]
end Tmc
end Go.Proofs.Ytgjmgclgokgobaa
