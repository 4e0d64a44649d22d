/- Groundwork over this seat's translation: Cua, Cub, Cuc in one text; the conditions stand at each part. -/
import Derived.Test.YtdhbjjolgmodjaaGn
import Derived.Test.YtdhbjjolgmodjaaImset
import Derived.Test.YtdhbjjolgmodjaaImone
import Derived.Test.YtdhbjjolgmodjaaImor2
import Derived.Test.YtdhbjjolgmodjaaRlaw

/- Contracts of the program's termUnmet and clashOfNeed, over this seat's translation, and rows of one and of two terms that are made at once. Nothing that was there before a call has changed. Condition: at most 1048576 spans. -/
namespace Go.Proofs.Ytdhbjjolgmodjaa
open Go.RowKit Go.Sort

namespace Tmc
open Foot
/-- The term that holds just if a need is not met. -/
def unm (n : Nd) : Option Tm := if notOk n.2 = true then some (n.1, notR n.2, true) else none

theorem made_one {w : World} {x : Int} {f : Bool} {L : Sps} {u : Value} {B cap : Nat} (h : SRes L B u w) (hB : B ≤ w.heap.size) :
    TmB [(x, L, f)] B (w.heap.size + 1) (.slice (some ⟨w.heap.size, 0, none⟩) 1 cap) (w.alloc (.cells #[.int .i64 x, u, .bool f] 83)) := by
  obtain ⟨F, hF, hlo⟩ := SpF.of h
  obtain ⟨a, c, rfl, _⟩ := id hF
  have hlt := hF.lt
  have hal : ∀ b ∈ F, (w.alloc (.cells #[.int .i64 x, .slice a L.length c, .bool f] 83)).heap[b]? = w.heap[b]? := fun b hb => ((Below.refl w.heap.size w).alloc (Nat.le_refl _) _).block b (hlt b hb)
  have e1 : TEl (w.alloc (.cells #[.int .i64 x, .slice a L.length c, .bool f] 83)) [.int .i64 x, .slice a L.length c, .bool f] [(x, L, f)] [F] :=
    (TEl.nil _ []).push rfl (hF.kept hal)
  refine ⟨w.heap.size :: [F].flatten, ⟨_, cap, rfl, .inr ⟨w.heap.size, 1, [F], rfl, ⟨_, heap_alloc_new w _, rfl, Nat.le_refl _, e1⟩, rfl⟩⟩, ?_, fun b hb => ?_⟩
  · simp only [List.flatten_cons, List.flatten_nil, List.append_nil]
    exact List.nodup_cons.2 ⟨fun k => Nat.lt_irrefl _ (hlt _ k), hF.nodup⟩
  · simp only [List.flatten_cons, List.flatten_nil, List.append_nil] at hb
    rcases List.mem_cons.1 hb with rfl | hb
    · exact ⟨hB, by omega⟩
    · exact ⟨hlo b hb, by have := hlt b hb; omega⟩
theorem made_two {w : World} {x y : Int} {f g : Bool} {L M : Sps} {u v : Value} {B cap : Nat} {F G : List Nat} (hF : SpF w u L F) (hG : SpF w v M G) (hlo : ∀ b ∈ F, B ≤ b) (hlo2 : ∀ b ∈ G, B ≤ b) (hd : ∀ b ∈ F, b ∉ G) (hB : B ≤ w.heap.size) :
    TmB [(x, L, f), (y, M, g)] B (w.heap.size + 1) (.slice (some ⟨w.heap.size, 0, none⟩) 2 cap) (w.alloc (.cells #[.int .i64 x, u, .bool f, .int .i64 y, v, .bool g] 83)) := by
  have hd' : ∀ k, k ∈ F → k ∈ G → False := fun k h1 h2 => hd k h1 h2
  obtain ⟨a, c, rfl, _⟩ := id hF
  obtain ⟨a2, c2, rfl, _⟩ := id hG
  have hlt := hF.lt
  have hlt2 := hG.lt
  obtain ⟨V, hV⟩ : ∃ V : World, V = w.alloc (.cells #[.int .i64 x, .slice a L.length c, .bool f, .int .i64 y, .slice a2 M.length c2, .bool g] 83) := ⟨_, rfl⟩
  have hal : ∀ b, b < w.heap.size → V.heap[b]? = w.heap[b]? := fun b hb => by rw [hV]; exact ((Below.refl w.heap.size w).alloc (Nat.le_refl _) _).block b hb
  have e1 : TEl V [.int .i64 x, .slice a L.length c, .bool f, .int .i64 y, .slice a2 M.length c2, .bool g] [(x, L, f), (y, M, g)] [F, G] :=
    ((TEl.nil V []).push rfl (hF.kept fun b hb => hal b (hlt b hb))).push rfl (hG.kept fun b hb => hal b (hlt2 b hb))
  rw [← hV]
  refine ⟨w.heap.size :: [F, G].flatten, ⟨_, cap, rfl, .inr ⟨w.heap.size, 2, [F, G], rfl, ⟨_, by rw [hV]; exact heap_alloc_new w _, rfl, Nat.le_refl _, e1⟩, rfl⟩⟩, ?_, fun b hb => ?_⟩
  · simp only [List.flatten_cons, List.flatten_nil, List.append_nil]
    refine List.nodup_cons.2 ⟨fun k => ?_, List.nodup_append.2 ⟨hF.nodup, hG.nodup, fun p h1 q h2 e => hd' p h1 (e ▸ h2)⟩⟩
    rcases List.mem_append.1 k with k | k
    · exact Nat.lt_irrefl _ (hlt _ k)
    · exact Nat.lt_irrefl _ (hlt2 _ k)
  · simp only [List.flatten_cons, List.flatten_nil, List.append_nil] at hb
    rcases List.mem_cons.1 hb with rfl | hb
    · exact ⟨hB, by omega⟩
    · rcases List.mem_append.1 hb with hb | hb
      · exact ⟨hlo b hb, by have := hlt b hb; omega⟩
      · exact ⟨hlo2 b hb, by have := hlt2 b hb; omega⟩

set_option maxRecDepth 100000 in
set_option maxHeartbeats 2000000 in
theorem unmet_yes (x : Int) (u : Value) (L : Sps) (w : World) (hl : L.length ≤ 1048576) (hok : notOk L = true) (h : SpAt w w.heap.size u L) :
    Calls Try.prog 135 #[.agg #[.int .i64 x, u]] w fun e w' => ∃ v, e = .returned (.tuple #[term x v true, .bool true]) ∧ SRes (notR L) w.heap.size v w' ∧ Below w.heap.size w w' := by
  obtain ⟨a, cap, rfl, hx⟩ := id h
  clear hx
  have K : Hid (∀ V, SpAt V V.heap.size (.slice a L.length cap) L → Calls Try.prog 157 #[.agg #[.slice a L.length cap]] V (TPost true (notR L) V)) := Lib.hid fun V g => by rw [← hok]; exact implNot_any _ L V hl g
  have b0 := ((Below.refl w.heap.size w).alloc (Nat.le_refl _) (.cells #[.int .i64 x, .slice a L.length cap] 115)).alloc (by simp) (.cells #[.int .i64 0, .slice none 0 0, .bool false] 83)
  have hB : w.heap.size + 2 ≤ ((w.alloc (.cells #[.int .i64 x, .slice a L.length cap] 115)).alloc (.cells #[.int .i64 0, .slice none 0 0, .bool false] 83)).heap.size := by simp
  have hb := Below.refl (w.heap.size + 2) ((w.alloc (.cells #[.int .i64 x, .slice a L.length cap] 115)).alloc (.cells #[.int .i64 0, .slice none 0 0, .bool false] 83))
  have hs := (h.below b0).mono b0.size
  clear h hok
  go_enter Try.func135, Try.ntmps135
  go_wp2_with fail
  refine (K.out _ hs).mono ?_
  rintro e w2 ⟨v, rfl, r, hb2⟩
  have hbb := hb.trans (hb2.mono hB)
  have c0 : w2.cell? ⟨w.heap.size, 0, none⟩ = some (.int .i64 x) := (hbb.cell (p := ⟨w.heap.size, 0, none⟩) (by show w.heap.size < w.heap.size + 2; omega)).trans (by go_simp)
  have d0 : w2.cell? ⟨w.heap.size + 1, 0, none⟩ = some (.int .i64 0) := (hbb.cell (p := ⟨w.heap.size + 1, 0, none⟩) (by show w.heap.size + 1 < w.heap.size + 2; omega)).trans (by go_simp)
  have d1 : w2.cell? ⟨w.heap.size + 1, 1, none⟩ = some (.slice none 0 0) := (hbb.cell (p := ⟨w.heap.size + 1, 1, none⟩) (by show w.heap.size + 1 < w.heap.size + 2; omega)).trans (by go_simp)
  have d2 : w2.cell? ⟨w.heap.size + 1, 2, none⟩ = some (.bool false) := (hbb.cell (p := ⟨w.heap.size + 1, 2, none⟩) (by show w.heap.size + 1 < w.heap.size + 2; omega)).trans (by go_simp)
  have f0 : w2.frozen? ⟨w.heap.size + 1, 0, none⟩ = false := (hbb.frozen (p := ⟨w.heap.size + 1, 0, none⟩) (by show w.heap.size + 1 < w.heap.size + 2; omega)).trans (by go_simp)
  have f1 : w2.frozen? ⟨w.heap.size + 1, 1, none⟩ = false := (hbb.frozen (p := ⟨w.heap.size + 1, 1, none⟩) (by show w.heap.size + 1 < w.heap.size + 2; omega)).trans (by go_simp)
  have f2 : w2.frozen? ⟨w.heap.size + 1, 2, none⟩ = false := (hbb.frozen (p := ⟨w.heap.size + 1, 2, none⟩) (by show w.heap.size + 1 < w.heap.size + 2; omega)).trans (by go_simp)
  have b2 := b0.trans (hb2.mono b0.size)
  obtain ⟨a3, cap3, rfl, _⟩ := id r
  have HR := Lib.hid (show SRes (notR L) w.heap.size (.slice a3 (notR L).length cap3) ((((w2.setCell ⟨w.heap.size + 1, 0, none⟩ (.int .i64 x)).setCell ⟨w.heap.size + 1, 1, none⟩ (.slice a3 (notR L).length cap3)).setCell ⟨w.heap.size + 1, 2, none⟩ (.bool true)).alloc (.cells #[.slice a3 (notR L).length cap3] 81)) from
    (r.kept fun g hg hg2 => by
      rw [((Below.refl _ (((w2.setCell ⟨w.heap.size + 1, 0, none⟩ (.int .i64 x)).setCell ⟨w.heap.size + 1, 1, none⟩ (.slice a3 (notR L).length cap3)).setCell ⟨w.heap.size + 1, 2, none⟩ (.bool true))).alloc (Nat.le_refl _) (.cells #[.slice a3 (notR L).length cap3] 81)).block g (by simpa [World.setCell] using hg2),
        Below.heap_setCell _ _ _ _ (by show g ≠ w.heap.size + 1; omega), Below.heap_setCell _ _ _ _ (by show g ≠ w.heap.size + 1; omega), Below.heap_setCell _ _ _ _ (by show g ≠ w.heap.size + 1; omega)]).mono (by omega))
  have hlt : w.heap.size + 1 < (((w2.setCell ⟨w.heap.size + 1, 0, none⟩ (.int .i64 x)).setCell ⟨w.heap.size + 1, 1, none⟩ (.slice a3 (notR L).length cap3)).setCell ⟨w.heap.size + 1, 2, none⟩ (.bool true)).heap.size := by have := hbb.size; simp [World.setCell]; omega
  have e0 : ((((w2.setCell ⟨w.heap.size + 1, 0, none⟩ (.int .i64 x)).setCell ⟨w.heap.size + 1, 1, none⟩ (.slice a3 (notR L).length cap3)).setCell ⟨w.heap.size + 1, 2, none⟩ (.bool true)).alloc (.cells #[.slice a3 (notR L).length cap3] 81)).cell? ⟨w.heap.size + 1, 0, none⟩ = some (.int .i64 x) := (((Below.refl _ (((w2.setCell ⟨w.heap.size + 1, 0, none⟩ (.int .i64 x)).setCell ⟨w.heap.size + 1, 1, none⟩ (.slice a3 (notR L).length cap3)).setCell ⟨w.heap.size + 1, 2, none⟩ (.bool true))).alloc (Nat.le_refl _) (.cells #[.slice a3 (notR L).length cap3] 81)).cell (p := ⟨w.heap.size + 1, 0, none⟩) hlt).trans (by go_simp)
  have e1 : ((((w2.setCell ⟨w.heap.size + 1, 0, none⟩ (.int .i64 x)).setCell ⟨w.heap.size + 1, 1, none⟩ (.slice a3 (notR L).length cap3)).setCell ⟨w.heap.size + 1, 2, none⟩ (.bool true)).alloc (.cells #[.slice a3 (notR L).length cap3] 81)).cell? ⟨w.heap.size + 1, 1, none⟩ = some (.slice a3 (notR L).length cap3) := (((Below.refl _ (((w2.setCell ⟨w.heap.size + 1, 0, none⟩ (.int .i64 x)).setCell ⟨w.heap.size + 1, 1, none⟩ (.slice a3 (notR L).length cap3)).setCell ⟨w.heap.size + 1, 2, none⟩ (.bool true))).alloc (Nat.le_refl _) (.cells #[.slice a3 (notR L).length cap3] 81)).cell (p := ⟨w.heap.size + 1, 1, none⟩) hlt).trans (by go_simp)
  have e2 : ((((w2.setCell ⟨w.heap.size + 1, 0, none⟩ (.int .i64 x)).setCell ⟨w.heap.size + 1, 1, none⟩ (.slice a3 (notR L).length cap3)).setCell ⟨w.heap.size + 1, 2, none⟩ (.bool true)).alloc (.cells #[.slice a3 (notR L).length cap3] 81)).cell? ⟨w.heap.size + 1, 2, none⟩ = some (.bool true) := (((Below.refl _ (((w2.setCell ⟨w.heap.size + 1, 0, none⟩ (.int .i64 x)).setCell ⟨w.heap.size + 1, 1, none⟩ (.slice a3 (notR L).length cap3)).setCell ⟨w.heap.size + 1, 2, none⟩ (.bool true))).alloc (Nat.le_refl _) (.cells #[.slice a3 (notR L).length cap3] 81)).cell (p := ⟨w.heap.size + 1, 2, none⟩) hlt).trans (by go_simp)
  have HE := Lib.hid (And.intro e0 (And.intro e1 e2))
  clear e0 e1 e2 hlt
  have z2 : w.heap.size < w2.heap.size := by have := hbb.size; omega
  have z3 : w.heap.size + 1 < w2.heap.size := by have := hbb.size; omega
  clear hb hb2 hbb b0 hs r
  go_wp2_with fail
  exact bodyPost_ret (v := .tuple #[term x (.slice a3 (notR L).length cap3) true, .bool true]) (by simp [results, Try.results135, go_sem, HE.out.1, HE.out.2.1, HE.out.2.2]) rfl ⟨_, rfl, HR.out, by go_grown⟩

set_option maxRecDepth 100000 in
set_option maxHeartbeats 2000000 in
theorem unmet_no (x : Int) (u : Value) (L : Sps) (w : World) (hl : L.length ≤ 1048576) (hok : notOk L = false) (h : SpAt w w.heap.size u L) :
    Calls Try.prog 135 #[.agg #[.int .i64 x, u]] w fun e w' => e = .returned (.tuple #[term 0 (.slice none 0 0) false, .bool false]) ∧ Below w.heap.size w w' := by
  obtain ⟨a, cap, rfl, hx⟩ := id h
  clear hx
  have K : Hid (∀ V, SpAt V V.heap.size (.slice a L.length cap) L → Calls Try.prog 157 #[.agg #[.slice a L.length cap]] V (TPost false (notR L) V)) := Lib.hid fun V g => by rw [← hok]; exact implNot_any _ L V hl g
  have b0 := ((Below.refl w.heap.size w).alloc (Nat.le_refl _) (.cells #[.int .i64 x, .slice a L.length cap] 115)).alloc (by simp) (.cells #[.int .i64 0, .slice none 0 0, .bool false] 83)
  have hB : w.heap.size + 2 ≤ ((w.alloc (.cells #[.int .i64 x, .slice a L.length cap] 115)).alloc (.cells #[.int .i64 0, .slice none 0 0, .bool false] 83)).heap.size := by simp
  have hb := Below.refl (w.heap.size + 2) ((w.alloc (.cells #[.int .i64 x, .slice a L.length cap] 115)).alloc (.cells #[.int .i64 0, .slice none 0 0, .bool false] 83))
  have hs := (h.below b0).mono b0.size
  clear h hok
  go_enter Try.func135, Try.ntmps135
  go_wp2_with fail
  refine (K.out _ hs).mono ?_
  rintro e w2 ⟨v, rfl, r, hb2⟩
  have hbb := hb.trans (hb2.mono hB)
  have c0 : w2.cell? ⟨w.heap.size, 0, none⟩ = some (.int .i64 x) := (hbb.cell (p := ⟨w.heap.size, 0, none⟩) (by show w.heap.size < w.heap.size + 2; omega)).trans (by go_simp)
  have d0 : w2.cell? ⟨w.heap.size + 1, 0, none⟩ = some (.int .i64 0) := (hbb.cell (p := ⟨w.heap.size + 1, 0, none⟩) (by show w.heap.size + 1 < w.heap.size + 2; omega)).trans (by go_simp)
  have d1 : w2.cell? ⟨w.heap.size + 1, 1, none⟩ = some (.slice none 0 0) := (hbb.cell (p := ⟨w.heap.size + 1, 1, none⟩) (by show w.heap.size + 1 < w.heap.size + 2; omega)).trans (by go_simp)
  have d2 : w2.cell? ⟨w.heap.size + 1, 2, none⟩ = some (.bool false) := (hbb.cell (p := ⟨w.heap.size + 1, 2, none⟩) (by show w.heap.size + 1 < w.heap.size + 2; omega)).trans (by go_simp)
  have f0 : w2.frozen? ⟨w.heap.size + 1, 0, none⟩ = false := (hbb.frozen (p := ⟨w.heap.size + 1, 0, none⟩) (by show w.heap.size + 1 < w.heap.size + 2; omega)).trans (by go_simp)
  have f1 : w2.frozen? ⟨w.heap.size + 1, 1, none⟩ = false := (hbb.frozen (p := ⟨w.heap.size + 1, 1, none⟩) (by show w.heap.size + 1 < w.heap.size + 2; omega)).trans (by go_simp)
  have f2 : w2.frozen? ⟨w.heap.size + 1, 2, none⟩ = false := (hbb.frozen (p := ⟨w.heap.size + 1, 2, none⟩) (by show w.heap.size + 1 < w.heap.size + 2; omega)).trans (by go_simp)
  have b2 := b0.trans (hb2.mono b0.size)
  obtain ⟨a3, cap3, rfl, _⟩ := id r
  have hlt : w.heap.size + 1 < (((w2.setCell ⟨w.heap.size + 1, 0, none⟩ (.int .i64 0)).setCell ⟨w.heap.size + 1, 1, none⟩ (.slice none 0 0)).setCell ⟨w.heap.size + 1, 2, none⟩ (.bool false)).heap.size := by have := hbb.size; simp [World.setCell]; omega
  have e0 : ((((w2.setCell ⟨w.heap.size + 1, 0, none⟩ (.int .i64 0)).setCell ⟨w.heap.size + 1, 1, none⟩ (.slice none 0 0)).setCell ⟨w.heap.size + 1, 2, none⟩ (.bool false)).alloc (.cells #[.slice a3 (notR L).length cap3] 81)).cell? ⟨w.heap.size + 1, 0, none⟩ = some (.int .i64 0) := (((Below.refl _ (((w2.setCell ⟨w.heap.size + 1, 0, none⟩ (.int .i64 0)).setCell ⟨w.heap.size + 1, 1, none⟩ (.slice none 0 0)).setCell ⟨w.heap.size + 1, 2, none⟩ (.bool false))).alloc (Nat.le_refl _) (.cells #[.slice a3 (notR L).length cap3] 81)).cell (p := ⟨w.heap.size + 1, 0, none⟩) hlt).trans (by go_simp)
  have e1 : ((((w2.setCell ⟨w.heap.size + 1, 0, none⟩ (.int .i64 0)).setCell ⟨w.heap.size + 1, 1, none⟩ (.slice none 0 0)).setCell ⟨w.heap.size + 1, 2, none⟩ (.bool false)).alloc (.cells #[.slice a3 (notR L).length cap3] 81)).cell? ⟨w.heap.size + 1, 1, none⟩ = some (.slice none 0 0) := (((Below.refl _ (((w2.setCell ⟨w.heap.size + 1, 0, none⟩ (.int .i64 0)).setCell ⟨w.heap.size + 1, 1, none⟩ (.slice none 0 0)).setCell ⟨w.heap.size + 1, 2, none⟩ (.bool false))).alloc (Nat.le_refl _) (.cells #[.slice a3 (notR L).length cap3] 81)).cell (p := ⟨w.heap.size + 1, 1, none⟩) hlt).trans (by go_simp)
  have e2 : ((((w2.setCell ⟨w.heap.size + 1, 0, none⟩ (.int .i64 0)).setCell ⟨w.heap.size + 1, 1, none⟩ (.slice none 0 0)).setCell ⟨w.heap.size + 1, 2, none⟩ (.bool false)).alloc (.cells #[.slice a3 (notR L).length cap3] 81)).cell? ⟨w.heap.size + 1, 2, none⟩ = some (.bool false) := (((Below.refl _ (((w2.setCell ⟨w.heap.size + 1, 0, none⟩ (.int .i64 0)).setCell ⟨w.heap.size + 1, 1, none⟩ (.slice none 0 0)).setCell ⟨w.heap.size + 1, 2, none⟩ (.bool false))).alloc (Nat.le_refl _) (.cells #[.slice a3 (notR L).length cap3] 81)).cell (p := ⟨w.heap.size + 1, 2, none⟩) hlt).trans (by go_simp)
  have HE := Lib.hid (And.intro e0 (And.intro e1 e2))
  clear e0 e1 e2 hlt
  have z2 : w.heap.size < w2.heap.size := by have := hbb.size; omega
  have z3 : w.heap.size + 1 < w2.heap.size := by have := hbb.size; omega
  clear hb hb2 hbb b0 hs r
  go_wp2_with fail
  exact bodyPost_ret (v := .tuple #[term 0 (.slice none 0 0) false, .bool false]) (by simp [results, Try.results135, go_sem, HE.out.1, HE.out.2.1, HE.out.2.2]) rfl ⟨rfl, by go_grown⟩

/-- The clash of a need, by its place. -/
def cofN (M : List Nd) (A B N : Int) : Option (List Tm) :=
  if 0 ≤ A ∧ A < (M.length : Int) ∧ B = 0 ∧ N = 0 then (M[A.toNat]?).bind fun n => (unm n).map fun t => [t] else none
abbrev stepV (K A B N : Int) : Value := .agg #[.int .i64 K, .int .i64 A, .int .i64 B, .int .i64 N]
end Tmc
end Go.Proofs.Ytdhbjjolgmodjaa

/- The contract of the program's clashOfNeed, over this seat's translation. Nothing that was there before a call has changed. Condition: at most 1048576 needs, and spans of each. -/
namespace Go.Proofs.Ytdhbjjolgmodjaa
open Go.RowKit Go.Sort

namespace Tmc
open Foot
theorem cofN_none {M : List Nd} {A B N : Int} (h : ¬ (0 ≤ A ∧ A < (M.length : Int) ∧ B = 0 ∧ N = 0)) : cofN M A B N = none := if_neg h
theorem cofN_at {M : List Nd} {k : Nat} {x : Nd} (h : M[k]? = some x) : cofN M (k : Int) 0 0 = (unm x).map fun t => [t] := by
  have hk := (List.getElem?_eq_some_iff.1 h).1
  unfold cofN
  rw [if_pos ⟨by omega, by omega, rfl, rfl⟩, show ((k : Int)).toNat = k by omega, h]
  rfl
theorem TmB.more {M : List Tm} {lo hi lo' : Nat} {v : Value} {w w' : World} (h : TmB M lo hi v w) (hb : Below w.heap.size w w') (hl : lo' ≤ lo) (hh : hi ≤ w'.heap.size) : TmB M lo' w'.heap.size v w' := ((h.below hb).mono hl).wide hh

set_option maxRecDepth 100000 in
set_option maxHeartbeats 2000000 in
theorem clashOfNeed_any (u : Value) (M : List Nd) (K A B N : Int) (w : World) (hM : M.length ≤ 1048576) (hq : ∀ q ∈ M, q.2.length ≤ 1048576) (h : NdAt w w.heap.size u M) :
    Calls Try.prog 108 #[u, stepV K A B N] w (TbPost (cofN M A B N) w) := by
  obtain ⟨a, cap, rfl, h⟩ := h
  by_cases hc : 0 ≤ A ∧ A < (M.length : Int) ∧ B = 0 ∧ N = 0
  · obtain ⟨hA0, hA1, rfl, rfl⟩ := hc
    obtain ⟨k, rfl⟩ : ∃ k : Nat, A = (k : Int) := ⟨A.toNat, by omega⟩
    have hk : k < M.length := by omega
    rcases h with h | ⟨b, o, rfl, hB, hc⟩
    · subst h
      simp at hk
    obtain ⟨c0, na, nc, c1, hs⟩ := hc k hk
    have hx : M[k]? = some M[k] := List.getElem?_eq_getElem hk
    have hql := hq _ (List.getElem_mem hk)
    have HO := Lib.hid (cofN_at hx)
    obtain ⟨x, hxe⟩ : ∃ x, M[k].1 = x := ⟨_, rfl⟩
    obtain ⟨L, hL⟩ : ∃ L, M[k].2 = L := ⟨_, rfl⟩
    have HM := Lib.hid (And.intro hxe hL)
    rw [hxe] at c0
    rw [hL] at c1 hs hql
    have hz := (Below.refl w.heap.size w).alloc (Nat.le_refl _) (.cells #[.int .i64 K, .int .i64 (k : Int), .int .i64 0, .int .i64 0] 48)
    have hs1 := (hs.below hz).mono hz.size
    have i0 : ¬ (k : Int) < 0 := by omega
    have i1 : ¬ (M.length : Int) ≤ (k : Int) := by omega
    clear hxe hL hc hs hz
    rcases hok : notOk L
    · have HU := Lib.hid (show cofN M (k : Int) 0 0 = none by rw [HO.out]; unfold unm; rw [HM.out.2, hok]; rfl)
      go_enter Try.func108, Try.ntmps108
      go_wp2_with fail
      refine (unmet_no x _ L _ hql hok hs1).mono ?_
      rintro e w2 ⟨rfl, hb⟩
      have hb0 := ((Below.refl w.heap.size w).alloc (Nat.le_refl _) (.cells #[.int .i64 K, .int .i64 (k : Int), .int .i64 0, .int .i64 0] 48)).trans (hb.mono (by simp))
      have z0 : w.heap.size ≤ w2.heap.size := hb0.size
      clear hok hb hs1
      go_wp2_with fail
      exact bodyPost_ret (v := .tuple #[.slice none 0 0, .bool false]) (by simp [results, Try.results108, go_sem]) rfl ⟨_, by rw [HU.out]; rfl, by rw [HU.out]; exact TmB.nil _ _ _ _ _, by go_grown⟩
    · have HU := Lib.hid (show cofN M (k : Int) 0 0 = some [(x, notR L, true)] by rw [HO.out]; unfold unm; rw [HM.out.1, HM.out.2, hok]; rfl)
      go_enter Try.func108, Try.ntmps108
      go_wp2_with fail
      refine (unmet_yes x _ L _ hql hok hs1).mono ?_
      rintro e w2 ⟨v, rfl, r, hb⟩
      have hb0 := ((Below.refl w.heap.size w).alloc (Nat.le_refl _) (.cells #[.int .i64 K, .int .i64 (k : Int), .int .i64 0, .int .i64 0] 48)).trans (hb.mono (by simp))
      have z2 : w.heap.size + 1 ≤ w2.heap.size := by have := hb.size; simp at this; omega
      have HT := Lib.hid (made_one (x := x) (f := true) (cap := 1) (r.kept (w' := w2.alloc (.cells #[.int .i64 x, v, .bool true] 83)) fun g _ hg => ((Below.refl w2.heap.size w2).alloc (Nat.le_refl _) _).block g hg) (by have := hb.size; simp at this ⊢; omega))
      obtain ⟨va, vc, rfl, _⟩ := id r
      have z0 : w.heap.size ≤ w2.heap.size := hb0.size
      clear hok hb hs1 r
      go_wp2_with fail
      exact bodyPost_ret (v := .tuple #[.slice (some ⟨w2.heap.size + 1, 0, none⟩) 1 1, .bool true]) (by simp [results, Try.results108, go_sem]) rfl ⟨_, by rw [HU.out]; rfl, by
        rw [HU.out]
        have hsz : ∀ ob : Obj, (w2.alloc ob).heap.size = w2.heap.size + 1 := fun ob => by simp
        have := HT.out
        rw [hsz] at this
        exact (this.mono (by simp)).wide (by simp), by go_grown⟩
  · have HO := Lib.hid (cofN_none hc)
    clear h hq hM
    by_cases h1 : A < 0
    · go_enter Try.func108, Try.ntmps108
      go_wp2_with fail
      exact bodyPost_ret (v := .tuple #[.slice none 0 0, .bool false]) (by simp [results, Try.results108, go_sem]) rfl ⟨_, by rw [HO.out]; rfl, by rw [HO.out]; exact TmB.nil _ _ _ _ _, by go_grown⟩
    by_cases h2 : (M.length : Int) ≤ A
    · go_enter Try.func108, Try.ntmps108
      go_wp2_with fail
      exact bodyPost_ret (v := .tuple #[.slice none 0 0, .bool false]) (by simp [results, Try.results108, go_sem]) rfl ⟨_, by rw [HO.out]; rfl, by rw [HO.out]; exact TmB.nil _ _ _ _ _, by go_grown⟩
    by_cases h3 : B = 0
    · subst h3
      have h4 : N ≠ 0 := fun e => hc ⟨by omega, by omega, rfl, e⟩
      have h5 : (N == 0) = false := beq_eq_false_iff_ne.2 h4
      clear h4 hc
      go_enter Try.func108, Try.ntmps108
      go_wp2_with fail
      exact bodyPost_ret (v := .tuple #[.slice none 0 0, .bool false]) (by simp [results, Try.results108, go_sem]) rfl ⟨_, by rw [HO.out]; rfl, by rw [HO.out]; exact TmB.nil _ _ _ _ _, by go_grown⟩
    · have h5 : (B == 0) = false := beq_eq_false_iff_ne.2 h3
      clear h3 hc
      go_enter Try.func108, Try.ntmps108
      go_wp2_with fail
      exact bodyPost_ret (v := .tuple #[.slice none 0 0, .bool false]) (by simp [results, Try.results108, go_sem]) rfl ⟨_, by rw [HO.out]; rfl, by rw [HO.out]; exact TmB.nil _ _ _ _ _, by go_grown⟩
end Tmc
end Go.Proofs.Ytdhbjjolgmodjaa

/- The contract of the program's rangeAbsent, over this seat's translation: the range of what is of no release of a name that is not withdrawn. Nothing that was there before a call has changed. Condition: at most 30 releases. -/
namespace Go.Proofs.Ytdhbjjolgmodjaa
open Go.RowKit Go.Sort

namespace Tmc
open Foot
theorem orPush_len (out : Sps) (x : Int × Int) : (orPush out x).length ≤ out.length + 1 := by
  unfold orPush
  split
  · simp
  · split
    · first | (simp; done) | (simp; omega)
    · simp
theorem orGo_len (n : Nat) : ∀ {A B out : Sps}, A.length + B.length ≤ n → (orGo A B out).length ≤ A.length + B.length + out.length := by
  induction n with
  | zero =>
    intro A B out h
    obtain rfl : A = [] := List.eq_nil_of_length_eq_zero (by omega)
    obtain rfl : B = [] := List.eq_nil_of_length_eq_zero (by omega)
    simp [orGo]
  | succ n ih =>
    intro A B out h
    match A, B with
    | [], [] => simp [orGo]
    | a :: s, [] =>
      rw [orGo]
      have := ih (A := s) (B := []) (out := orPush out a) (by simp at h ⊢; omega)
      have := orPush_len out a
      simp at *
      omega
    | [], b :: t =>
      rw [orGo]
      have := ih (A := []) (B := t) (out := orPush out b) (by simp at h ⊢; omega)
      have := orPush_len out b
      simp at *
      omega
    | a :: s, b :: t =>
      rw [orGo]
      split
      · have := ih (A := s) (B := b :: t) (out := orPush out a) (by simp at h ⊢; omega)
        have := orPush_len out a
        simp at *
        omega
      · have := ih (A := a :: s) (B := t) (out := orPush out b) (by simp at h ⊢; omega)
        have := orPush_len out b
        simp at *
        omega
theorem one_wf (a b c d : Int) : Wf 0 (oneL a b c d) := by
  unfold oneL
  split
  · rename_i h
    have := rk_in h
    exact ⟨this.1, Int.le_refl _, this.2, trivial⟩
  · simp [Wf]
theorem one_len (a b c d : Int) : (oneL a b c d).length ≤ 1 := by
  unfold oneL
  split <;> simp
theorem one_ok (a b c d : Int) : spOk (oneL a b c d) = true := spOk_iff.2 ⟨one_wf a b c d, by have := one_len a b c d; omega⟩
theorem or_one {T : Sps} (hT : spOk T = true) {k : Nat} (hl : T.length ≤ k) (hk : k ≤ 30) (a b c d : Int) :
    orOk T (oneL a b c d) = true ∧ spOk (orR T (oneL a b c d)) = true ∧ (orR T (oneL a b c d)).length ≤ k + 1 := by
  have hw := (spOk_iff.1 hT).1
  have e := or_same hw (one_wf a b c d)
  have h1 := one_len a b c d
  have hlen : (orI T (oneL a b c d)).length ≤ k + 1 := by
    rw [← e]
    have := orGo_len (T.length + (oneL a b c d).length) (A := T) (B := oneL a b c d) (out := []) (Nat.le_refl _)
    unfold orS
    simp at this
    omega
  have hr : orR T (oneL a b c d) = orI T (oneL a b c d) := by
    unfold orR fitR
    rw [hT, one_ok]
    simp only [Bool.and_self, if_true]
    rw [if_pos (by omega)]
  refine ⟨?_, ?_, by rw [hr]; exact hlen⟩
  · unfold orOk fitOk
    rw [hT, one_ok, decide_eq_true (by omega)]
    rfl
  · rw [hr]
    exact spOk_iff.2 ⟨orI_wf hw (one_wf a b c d), by omega⟩

def BxI (V : World) (g : Nat) : Prop := V.cell? ⟨g, 0, none⟩ = some (.slice none 0 0) ∧ V.frozen? ⟨g, 0, none⟩ = false
theorem BxI.new (V : World) : BxI (V.alloc (.cells #[.slice none 0 0] 81)) V.heap.size := ⟨by go_simp, by go_simp⟩
theorem BxI.kept {V W : World} {g : Nat} (h : BxI V g) (hb : Below V.heap.size V W) (hg : g < V.heap.size) : BxI W g :=
  ⟨(hb.cell (p := ⟨g, 0, none⟩) hg).trans h.1, (hb.frozen (p := ⟨g, 0, none⟩) hg).trans h.2⟩
theorem resSet {L : Sps} {base b o : Nat} {v x : Value} {w : World} (h : SRes L base v w) (hb : b < base) : SRes L base v (w.setCell ⟨b, o, none⟩ x) :=
  h.kept fun g hg _ => Below.heap_setCell _ _ _ _ (by show g ≠ b; omega)
theorem resNew {L : Sps} {base : Nat} {v : Value} {w : World} {ob : Obj} (h : SRes L base v w) : SRes L base v (w.alloc ob) := h.below ((Below.refl _ _).alloc (Nat.le_refl _) _)
theorem spStep {L : Sps} {u : Value} {w V : World} (h : SpAt w w.heap.size u L) (hb : Below w.heap.size w V) : SpAt V V.heap.size u L := (h.below hb).mono hb.size
/-- The versions of a name that can be picked. -/
def absGo (nm : Int) : List Rel → Sps → Sps
  | [], T => T
  | x :: t, T => absGo nm t (if x.1 = nm ∧ x.2.2.1 = false then orR T (oneL x.2.1.1 x.2.1.2.1 x.2.1.2.2.1 x.2.1.2.2.2) else T)
def absL (nm : Int) (S : List Rel) : Option Sps := if notOk (absGo nm S []) = true then some (notR (absGo nm S [])) else none
theorem abs_step {nm x a b c d : Int} {g : Bool} {Q : List Nd} {S : List Rel} {k : Nat} {T : Sps} (h : S[k]? = some (x, (a, b, c, d), g, Q)) :
    absGo nm (S.drop k) T = absGo nm (S.drop (k + 1)) (if x = nm ∧ g = false then orR T (oneL a b c d) else T) := by
  have hk := (List.getElem?_eq_some_iff.1 h).1
  rw [List.drop_eq_getElem_cons hk, (List.getElem?_eq_some_iff.1 h).2]
  rfl

structure AbR (nm : Int) (S : List Rel) (w : World) (i : Value) (wr : World) : Prop where
  out : ∃ (k : Nat) (T : Sps) (a : Option Addr) (c : Nat), k ≤ S.length ∧ i = .int .i64 (k : Int) ∧ absGo nm S [] = absGo nm (S.drop k) T ∧ spOk T = true ∧ T.length ≤ k ∧
    wr.cell? ⟨w.heap.size + 1, 0, none⟩ = some (.slice a T.length c) ∧ wr.frozen? ⟨w.heap.size + 1, 0, none⟩ = false ∧ wr.cell? ⟨w.heap.size, 0, none⟩ = some (.slice none 0 0) ∧ wr.frozen? ⟨w.heap.size, 0, none⟩ = false ∧
    SRes T (w.heap.size + 2) (.slice a T.length c) wr ∧ w.heap.size + 2 ≤ wr.heap.size ∧ Below w.heap.size w wr

set_option maxRecDepth 100000 in
set_option maxHeartbeats 4000000 in
theorem rangeAbsent_any (u : Value) (S : List Rel) (nm : Int) (w : World) (hS : S.length ≤ 30) (h : RlAt w w.heap.size u S) :
    Calls Try.prog 137 #[u, .int .i64 nm] w (TPost (absL nm S).isSome ((absL nm S).getD []) w) := by
  obtain ⟨sa, sc, rfl, h0⟩ := h
  have HS := Lib.hid (show AbR nm S w (.int .i64 0) ((w.alloc (.cells #[.slice none 0 0] 81)).alloc (.cells #[.slice none 0 0] 81)) from
    ⟨0, [], none, 0, Nat.zero_le _, rfl, rfl, nil_ok, Nat.le_refl _, by go_simp, by go_simp, by go_simp, by go_simp, none_res _ _, by simp, ((Below.refl _ _).alloc (Nat.le_refl _) _).alloc (by simp) _⟩)
  go_enter Try.func137, Try.ntmps137
  go_wp2_with fail
  go_loopw [13] (fun i wr => AbR nm S w i wr) (fun i _ => S.length - (intOf i).toNat)
  case atStart => exact HS.out
  case round =>
    obtain ⟨k, T, ta, tc, hk, rfl, he, ho, hT, b0, b1, r0, r1, hr, hz, hb⟩ := hrel.out
    have HE := Lib.hid he
    have HT := Lib.hid (And.intro ho hT)
    clear he ho hT hrel HS
    by_cases hlt : k < S.length
    · rcases h0 with h0 | ⟨b, o, rfl, hB, hc⟩
      · subst h0
        exact absurd hlt (by simp)
      obtain ⟨x, va, vb, vc, vd, g, Q, hxy⟩ : ∃ x va vb vc vd g Q, S[k] = (x, (va, vb, vc, vd), g, Q) := ⟨_, _, _, _, _, _, _, rfl⟩
      obtain ⟨⟨c0, c1, c2, c3, c4, c5⟩, ad, cp, c6, _⟩ := (hc k hlt).below hb hB
      rw [hxy] at c0 c1 c2 c3 c4 c5 c6
      simp only at c0 c1 c2 c3 c4 c5 c6
      have HXY := Lib.hid (show S[k]? = some (x, (va, vb, vc, vd), g, Q) by rw [List.getElem?_eq_getElem hlt, hxy])
      have HST := Lib.hid (abs_step (nm := nm) (T := T) HXY.out)
      have bB : b < wr.heap.size := by omega
      have i0 : (0 : Int) ≤ (k : Int) := by omega
      have i1 : (k : Int) < (S.length : Int) := by omega
      have HR := Lib.hid hr
      have HB := Lib.hid hb
      have z1 : w.heap.size < wr.heap.size := by omega
      have z2 : w.heap.size + 1 < wr.heap.size := by omega
      clear hxy hc hr hb
      obtain ⟨w4, hw4⟩ : ∃ V : World, V = wr.alloc (.cells #[.int .i64 x, .int .i64 va, .int .i64 vb, .int .i64 vc, .int .i64 vd, .bool g, .slice ad Q.length cp] 117) := ⟨_, rfl⟩
      have n4 : Below wr.heap.size wr w4 := by rw [hw4]; exact (Below.refl _ _).alloc (Nat.le_refl _) _
      have z4 : wr.heap.size < w4.heap.size := by rw [hw4]; simp
      have x0 : w4.cell? ⟨wr.heap.size, 0, none⟩ = some (.int .i64 x) := by rw [hw4]; go_simp
      have x1 : w4.cell? ⟨wr.heap.size, 1, none⟩ = some (.int .i64 va) := by rw [hw4]; go_simp
      have x2 : w4.cell? ⟨wr.heap.size, 2, none⟩ = some (.int .i64 vb) := by rw [hw4]; go_simp
      have x3 : w4.cell? ⟨wr.heap.size, 3, none⟩ = some (.int .i64 vc) := by rw [hw4]; go_simp
      have x4 : w4.cell? ⟨wr.heap.size, 4, none⟩ = some (.int .i64 vd) := by rw [hw4]; go_simp
      have x5 : w4.cell? ⟨wr.heap.size, 5, none⟩ = some (.bool g) := by rw [hw4]; go_simp
      have d0 := (n4.cell (p := ⟨w.heap.size + 1, 0, none⟩) z2).trans b0
      have d1 := (n4.frozen (p := ⟨w.heap.size + 1, 0, none⟩) z2).trans b1
      have e0 := (n4.cell (p := ⟨w.heap.size, 0, none⟩) z1).trans r0
      have e1 := (n4.frozen (p := ⟨w.heap.size, 0, none⟩) z1).trans r1
      have HR4 := Lib.hid (HR.out.below n4)
      have HB4 := Lib.hid (HB.out.trans (n4.mono HB.out.size))
      clear b0 b1 r0 r1
      by_cases hin : x = nm ∧ g = false
      · have HG := Lib.hid (HE.out.trans (HST.out.trans (congrArg _ (if_pos hin))))
        have hxb : (x == nm) = true := by simp [hin.1]
        have hxc : (x != nm) = false := by simp [hin.1]
        obtain ⟨oo, os, ol⟩ := or_one HT.out.1 HT.out.2 (show k ≤ 30 by omega) va vb vc vd
        have HO := Lib.hid (And.intro os ol)
        have KO : Hid (∀ v V, SpAt V V.heap.size (.slice ta T.length tc) T → SpAt V V.heap.size v (oneL va vb vc vd) → Calls Try.prog 127 #[.agg #[.slice ta T.length tc], .agg #[v]] V (TPost true (orR T (oneL va vb vc vd)) V)) := Lib.hid fun v V g1 g2 => by
          rw [← oo]; exact implOr_any _ v T _ V (by have := HT.out.2; omega) (by have := one_len va vb vc vd; omega) g1 g2
        obtain ⟨rfl⟩ : g = false := hin.2
        clear hin oo os ol
        go_upto_region 5 with fail
        rw [← hw4]
        clear c0 c1 c2 c3 c4 c5 c6
        clear hw4
        go_upto_region 6 with fail
        have u42 : w.heap.size + 1 < w4.heap.size := by omega
        have u43 : w.heap.size < w4.heap.size := by omega
        have n41a := Nat.ne_of_lt z4
        have n41b := (Nat.ne_of_lt z4).symm
        have n42a := Nat.ne_of_lt u42
        have n42b := (Nat.ne_of_lt u42).symm
        have n43a := Nat.ne_of_lt u43
        have n43b := (Nat.ne_of_lt u43).symm
        go_region_held3 (fun V => V.cell? ⟨w.heap.size + 1, 0, none⟩ = some (.slice ta T.length tc) ∧ V.cell? ⟨wr.heap.size, 1, none⟩ = some (.int .i64 va) ∧ V.cell? ⟨wr.heap.size, 2, none⟩ = some (.int .i64 vb) ∧ V.cell? ⟨wr.heap.size, 3, none⟩ = some (.int .i64 vc) ∧ V.cell? ⟨wr.heap.size, 4, none⟩ = some (.int .i64 vd)) (go_keep)
          (first
            | (go_at_call 136; refine (implOne_any va vb vc vd _).mono ?_; rintro e w5 ⟨v5, rfl, q5, hb5⟩; obtain ⟨oa, oc, rfl, _⟩ := id q5; have n5 : Below w4.heap.size w4 w5 := Below.step (by go_grown) hb5; have y0 := (n5.cell (p := ⟨w.heap.size + 1, 0, none⟩) (by show w.heap.size + 1 < w4.heap.size; omega)).trans d0; have y1 := (n5.cell (p := ⟨wr.heap.size, 1, none⟩) (by show wr.heap.size < w4.heap.size; omega)).trans x1; have y2 := (n5.cell (p := ⟨wr.heap.size, 2, none⟩) (by show wr.heap.size < w4.heap.size; omega)).trans x2; have y3 := (n5.cell (p := ⟨wr.heap.size, 3, none⟩) (by show wr.heap.size < w4.heap.size; omega)).trans x3; have y4 := (n5.cell (p := ⟨wr.heap.size, 4, none⟩) (by show wr.heap.size < w4.heap.size; omega)).trans x4; have z5 := n5.size; have u51 : wr.heap.size < w5.heap.size := (by omega); have u52 : w.heap.size + 1 < w5.heap.size := (by omega); have u53 : w.heap.size < w5.heap.size := (by omega); have n51a := Nat.ne_of_lt u51; have n51b := (Nat.ne_of_lt u51).symm; have n52a := Nat.ne_of_lt u52; have n52b := (Nat.ne_of_lt u52).symm; have n53a := Nat.ne_of_lt u53; have n53b := (Nat.ne_of_lt u53).symm; have z5b := hb5.size; (try simp at z5b); have g0 := (n5.frozen (p := ⟨w.heap.size + 1, 0, none⟩) (by show w.heap.size + 1 < w4.heap.size; omega)).trans d1; have h0 := (n5.cell (p := ⟨w.heap.size, 0, none⟩) (by show w.heap.size < w4.heap.size; omega)).trans e0; have h1 := (n5.frozen (p := ⟨w.heap.size, 0, none⟩) (by show w.heap.size < w4.heap.size; omega)).trans e1; (try (have T5 : BxI w5 w4.heap.size := BxI.kept (by first | exact BxI.new w4 | exact BxI.new w4.drew) hb5 (by first | (simp; done) | (simp; omega)))); have HR5 := Lib.hid (HR4.out.below n5); have HQ5 := Lib.hid q5.at)
            | (go_at_call 127; refine (KO.out _ _ (spStep HR5.out.at (by go_grown)) (spStep HQ5.out (by go_grown))).mono ?_; rintro e w6 ⟨v6, rfl, q6, hb6⟩; obtain ⟨pa, pc, rfl, _⟩ := id q6; have n6 : Below w5.heap.size w5 w6 := Below.step (by go_grown) hb6; have z6 := n6.size; have m0 := (n6.cell (p := ⟨w.heap.size + 1, 0, none⟩) (by show w.heap.size + 1 < w5.heap.size; omega)).trans y0; have m1 := (n6.cell (p := ⟨wr.heap.size, 1, none⟩) (by show wr.heap.size < w5.heap.size; omega)).trans y1; have m2 := (n6.cell (p := ⟨wr.heap.size, 2, none⟩) (by show wr.heap.size < w5.heap.size; omega)).trans y2; have m3 := (n6.cell (p := ⟨wr.heap.size, 3, none⟩) (by show wr.heap.size < w5.heap.size; omega)).trans y3; have m4 := (n6.cell (p := ⟨wr.heap.size, 4, none⟩) (by show wr.heap.size < w5.heap.size; omega)).trans y4; have u61 : wr.heap.size < w6.heap.size := (by omega); have u62 : w.heap.size + 1 < w6.heap.size := (by omega); have u63 : w.heap.size < w6.heap.size := (by omega); have n61a := Nat.ne_of_lt u61; have n61b := (Nat.ne_of_lt u61).symm; have n62a := Nat.ne_of_lt u62; have n62b := (Nat.ne_of_lt u62).symm; have n63a := Nat.ne_of_lt u63; have n63b := (Nat.ne_of_lt u63).symm; have z6b := hb6.size; (try simp at z6b); have k0 := (n6.frozen (p := ⟨w.heap.size + 1, 0, none⟩) (by show w.heap.size + 1 < w5.heap.size; omega)).trans g0; have l0 := (n6.cell (p := ⟨w.heap.size, 0, none⟩) (by show w.heap.size < w5.heap.size; omega)).trans h0; have l1 := (n6.frozen (p := ⟨w.heap.size, 0, none⟩) (by show w.heap.size < w5.heap.size; omega)).trans h1; (try (have T6 : BxI w6 w4.heap.size := BxI.kept (by first | exact T5 | exact T5) hb6 (by omega))); (try (have T6 : BxI w6 w5.heap.size := BxI.kept (by first | exact BxI.new w5 | exact BxI.new w5.drew) hb6 (by first | (simp; done) | (simp; omega)))); (try (obtain ⟨t0, t1⟩ := T6)); have HQ6 := Lib.hid q6; have HN6 := Lib.hid (HB4.out.trans ((n5.trans (n6.mono n5.size)).mono HB4.out.size)); clear q6 q5 hb6 hb5 n6 n5))
        all_goals
          have hbs := HN6.out
          go_wp2_with fail
          go_roundw
          case rel =>
            exact ⟨k + 1, _, pa, pc, by omega, by go_num, HG.out, HO.out.1, HO.out.2, by go_simp, by go_simp, by go_simp, by go_simp,
              by first
                | exact (resSet (resSet HQ6.out (by first | omega | (simp; done) | (simp; omega))) (by first | omega | (simp; done) | (simp; omega))).mono (by first | omega | (simp; done) | (simp; omega))
                | exact (resSet (resNew HQ6.out) (by first | omega | (simp; done) | (simp; omega))).mono (by first | omega | (simp; done) | (simp; omega))
                | exact (resNew (resSet HQ6.out (by first | omega | (simp; done) | (simp; omega)))).mono (by first | omega | (simp; done) | (simp; omega)), by first | omega | (simp; done) | (simp; omega), by go_grown⟩
          case measure => simp [intOf]; omega
      · have HG := Lib.hid (HE.out.trans (HST.out.trans (congrArg _ (if_neg hin))))
        have HP := Lib.hid (show AbR nm S w (.int .i64 ((k : Int) + 1)) w4 from ⟨k + 1, T, ta, tc, by omega, by go_num, HG.out, HT.out.1, by have := HT.out.2; omega, d0, d1, e0, e1, HR4.out, by omega, HB4.out⟩)
        by_cases hx : x = nm
        · have hxb : (x == nm) = true := by simp [hx]
          have hxc : (x != nm) = false := by simp [hx]
          obtain ⟨rfl⟩ : g = true := by
            cases g
            · exact absurd ⟨hx, rfl⟩ hin
            · rfl
          clear hx hin
          go_upto_region 5 with fail
          rw [← hw4]
          clear c0 c1 c2 c3 c4 c5 c6
          clear hw4
          go_wp2_with fail
          go_roundw
          case rel => exact HP.out
          case measure => simp [intOf]; omega
        · have hxb : (x == nm) = false := beq_eq_false_iff_ne.2 hx
          have hxc : (x != nm) = true := bne_iff_ne.2 hx
          clear hx hin
          go_upto_region 5 with fail
          rw [← hw4]
          clear c0 c1 c2 c3 c4 c5 c6
          clear hw4
          go_wp2_with fail
          go_roundw
          case rel => exact HP.out
          case measure => simp [intOf]; omega
    · obtain rfl : k = S.length := by omega
      have hT := HT.out
      have HR := Lib.hid hr
      have HB := Lib.hid hb
      have HG := Lib.hid (show absGo nm S [] = T by rw [HE.out, List.drop_length]; rfl)
      have K : Hid (∀ V, SpAt V V.heap.size (.slice ta T.length tc) T → Calls Try.prog 157 #[.agg #[.slice ta T.length tc]] V (TPost (notOk T) (notR T) V)) := Lib.hid fun V g => implNot_any _ T V (by have := HT.out.2; omega) g
      clear hT hr hb
      go_wp2_with fail
      refine (K.out _ HR.out.at).mono ?_
      rintro e w6 ⟨v6, rfl, q6, hb6⟩
      obtain ⟨pa, pc, rfl, _⟩ := id q6
      have m0 := (hb6.cell (p := ⟨w.heap.size, 0, none⟩) (by show w.heap.size < wr.heap.size; omega)).trans r0
      have m1 := (hb6.frozen (p := ⟨w.heap.size, 0, none⟩) (by show w.heap.size < wr.heap.size; omega)).trans r1
      have HQ := Lib.hid (show SRes (notR T) w.heap.size (.slice pa (notR T).length pc) (w6.setCell ⟨w.heap.size, 0, none⟩ (.slice pa (notR T).length pc)) from (q6.kept fun g hg _ => Below.heap_setCell _ _ _ _ (by show g ≠ w.heap.size; omega)).mono (by omega))
      have HN := Lib.hid (HB.out.trans (hb6.mono HB.out.size))
      have z6 : w.heap.size < w6.heap.size := by have := hb6.size; omega
      have HV := Lib.hid (show (w6.setCell ⟨w.heap.size, 0, none⟩ (.slice pa (notR T).length pc)).cell? ⟨w.heap.size, 0, none⟩ = some (.slice pa (notR T).length pc) by go_simp)
      clear q6 hb6 b0 b1 r0 r1
      go_wp2_with fail
      have hn := HN.out
      rcases ht : notOk T
      · have e1 : notR T = [] := by
          unfold notOk at ht
          unfold notR fitR
          unfold fitOk at ht
          split
          · rename_i h
            rw [h] at ht
            simp at ht
            rw [if_neg (by omega)]
          · rfl
        have e2 : absL nm S = none := by unfold absL; rw [HG.out, ht]; rfl
        exact bodyPost_ret (v := .tuple #[.agg #[.slice pa (notR T).length pc], .bool false]) (by simp [results, Try.results137, go_sem, HV.out]) rfl ⟨_, by rw [e2]; rfl, by rw [e2, Option.getD_none, ← e1]; exact HQ.out, by go_grown⟩
      · have e2 : absL nm S = some (notR T) := by unfold absL; rw [HG.out, if_pos ht]
        exact bodyPost_ret (v := .tuple #[.agg #[.slice pa (notR T).length pc], .bool true]) (by simp [results, Try.results137, go_sem, HV.out]) rfl ⟨_, by rw [e2]; rfl, by rw [e2, Option.getD_some]; exact HQ.out, by go_grown⟩
end Tmc
end Go.Proofs.Ytdhbjjolgmodjaa
