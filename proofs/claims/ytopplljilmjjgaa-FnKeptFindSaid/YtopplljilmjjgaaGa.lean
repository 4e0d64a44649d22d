/- Groundwork over this seat's translation: Frame, Ver, OpenVer, Veq, Vexact, Vless in one text; the conditions stand at each part. -/
import Derived.Test.YtopplljilmjjgaaRows
import Derived.ProofKit
import Derived.Below
import Derived.Lib.SmallJoins
import Derived.WalkKit
import Derived.WalkSpells
import Derived.WalkLawsBesides
import Derived.Lib.QuietBelow
import Derived.BigQuiet
import Derived.Lib.Hide

/- The step from the walk of a law to its row, for whatever law of this template over whatever program: where each call returns true and changes nothing that was there, the row's own form of 'returns' holds. Conditions: the law has no named variables, its parameters can be read, its result is one bool. -/
namespace Go.Proofs.Ytopplljilmjjgaa
open Go.ChangeShapes Go.WideShapes Go.ChangeAt Go.RowKit Go.Joins

section
variable {H : Type} {enc : TypeId × Value → H} {P : Program}

/-- All arguments read as they did, if nothing below the heap's old size has changed. -/
theorem all_stay (laid : laidOutB P = true) {W W' : World} (hb : Below W.heap.size W W') : ∀ {ts : List TypeId} {vs : List Value} {ds : List (DataW H)} {ps : List MemPlace},
    (ts.all fun t => P.readableRec t && decide (t < P.types.size)) = true → (∀ x ∈ ps, x.block < W.heap.size) →
    DataW.TrodAll enc P W 0 (fun _ => true) true ts vs ds ps → DataW.TrodAll enc P W' 0 (fun b => decide (b < W.heap.size)) true ts vs ds ps
  | [], [], [], _, _, _, h => h
  | [], [], _ :: _, _, _, _, h => h.elim
  | [], _ :: _, _, _, _, _, h => h.elim
  | _ :: _, [], _, _, _, _, h => h.elim
  | _ :: _, _ :: _, [], _, _, _, h => h.elim
  | t :: ts, v :: vs, d :: ds, ps, hr, hlt, h => by
    obtain ⟨p, q, h1, h2, rfl⟩ := h
    rw [List.all_cons, Bool.and_eq_true, Bool.and_eq_true] at hr
    exact ⟨p, q, Below.trod laid hr.1.1 (of_decide_eq_true hr.1.2) h1 hb (fun x hx => hlt x (List.mem_append_left _ hx)),
      all_stay laid hb hr.2 (fun x hx => hlt x (List.mem_append_right _ hx)) h2, rfl⟩

theorem trodAll_len {w : World} {base : Nat} {spare : Nat → Bool} {held : Bool} : ∀ {ts : List TypeId} {vs : List Value} {ds : List (DataW H)} {ps : List MemPlace},
    DataW.TrodAll enc P w base spare held ts vs ds ps → ds.length = ts.length
  | [], [], [], _, _ => rfl
  | [], [], _ :: _, _, h => h.elim
  | [], _ :: _, _, _, h => h.elim
  | _ :: _, [], _, _, h => h.elim
  | _ :: _, _ :: _, [], _, h => h.elim
  | _ :: _, _ :: _, _ :: _, _, h => by
    obtain ⟨_, _, _, h2, _⟩ := h
    simp [trodAll_len h2]
end

/-- The walk of a law: every call with values that read as data returns true and leaves all that was there. -/
def LawWalk (P : Program) (F : FuncId) (fn : Func) : Prop :=
  ∀ (H : Type) (enc : TypeId × Value → H) (W : World) (base : Nat) (args : Array Value) (ds : List (DataW H)) (ps : List MemPlace),
    (∀ (j : Nat) t v, fn.params[j]? = some t → args[j]? = some v → Value.okWide P W .any base t v) →
    DataW.TrodAll enc P W 0 (fun _ => true) true fn.params.toList args.toList ds ps →
    Calls P F args W fun e w' => e = .returned (.bool true) ∧ Below W.heap.size W w'

theorem law_lifted {C : Checked} {os : Os} {F : FuncId} {fn : Func} {s : ChangeSpec} {H : Type} {enc : TypeId × Value → H} {tb : TypeId}
    (own : ownKnob C.prog.godebug = none) (started : os.Started) (laid : laidOutB C.prog = true) (noInit : C.prog.inits.idxOf? F = none) (hfn : C.prog.funcs[F]? = some fn)
    (hvars : s.vars = []) (hres : fn.resultTypes = #[tb]) (htb : C.prog.underlying tb = some .bool)
    (hrd : (fn.params.toList.all fun t => C.prog.readableRec t && decide (t < C.prog.types.size)) = true)
    (hspec : ∀ ds : List (DataW H), ds.length = fn.params.toList.length → s.fn H (ds ++ []) = { results := [.lit (.bool true)], args := ds })
    (witness : ∃ (w : World) (tape : Tape) (i : Input), w.os = os ∧ (w.forCall tape i).Shaped C.prog ∧ i.vars = [] ∧ Input.okWide C.prog (w.forCall tape i) .any w.heap.size F i ∧
      s.pre6 enc C.prog fn [] false (w.forCall tape i).memory i.args ∧ ({} : Assume).holds C.prog (lone (Frame.enter C.prog F i.args .normal) [] (w.forCall tape i)))
    (walk : LawWalk C.prog F fn) :
    ReturnsInHanded {} C os F .any (s.pre6 enc C.prog fn [] false) (s.post enc C.prog fn false true false false) := by
  refine returnsInHanded_of_change own started noInit hfn witness ?_
  intro W base args ds gs before hval hW _ _
  have hW' := hW
  obtain ⟨p, q, hA, hV, rfl, _, _⟩ := hW
  rw [hvars] at hV
  obtain ⟨rfl, rfl⟩ := trodVars_none hV
  have hlt : ∀ x ∈ p, x.block < W.heap.size := fun x hx => hW'.lt x (by simpa using hx)
  refine (walk H enc W base args ds p hval hA).mono fun e W' ⟨he, hb⟩ => ?_
  subst he
  have hs := hspec ds (trodAll_len hA)
  refine ⟨_, rfl, ds, [], p ++ [], [], p, [], hW', ?_, ?_, ?_, hb.frame _, fun h => by cases h⟩
  · rw [hs, hres]
    exact trodAll_mk1 (shut_bool htb _)
  · rw [hs]
    exact all_stay laid hb hrd hlt hA
  · rw [hs, hvars]
    rfl
end Go.Proofs.Ytopplljilmjjgaa

/- Contracts of the functions on versions and ranks that compute with numbers alone, over this seat's translation: each call ends as a plain function of the numbers says, and nothing that was there before the call has changed. -/
namespace Go.Proofs.Ytopplljilmjjgaa
open Go.RowKit Go.Sort

def inB (n lo hi : Int) : Bool := decide (lo ≤ n) && decide (n ≤ hi)
def vOk (a b c d : Int) : Bool := inB a 0 99 && (inB b 0 99 && (inB c 0 99 && inB d 0 9))
theorem inB_iff {n lo hi : Int} : inB n lo hi = true ↔ lo ≤ n ∧ n ≤ hi := by simp [inB]
theorem vOk_iff {a b c d : Int} : vOk a b c d = true ↔ (0 ≤ a ∧ a ≤ 99) ∧ (0 ≤ b ∧ b ≤ 99) ∧ (0 ≤ c ∧ c ≤ 99) ∧ 0 ≤ d ∧ d ≤ 9 := by
  simp [vOk, inB_iff]
def rk (a b c d : Int) : Int := ((a * 100 + b) * 100 + c) * 10 + (d + 9) % 10
def vRank (a b c d : Int) : Int := if vOk a b c d = true then rk a b c d else -1
/-- A version as the machine holds it by value. -/
abbrev ver (a b c d : Int) : Value := .agg #[.int .i64 a, .int .i64 b, .int .i64 c, .int .i64 d]

set_option maxHeartbeats 400000 in
theorem l1In_any (n lo hi : Int) (w : World) :
    Calls Try.prog 122 #[.int .i64 n, .int .i64 lo, .int .i64 hi] w fun e w' => e = .returned (.bool (inB n lo hi)) ∧ w = w' := by
  unfold inB
  by_cases h1 : lo ≤ n <;> by_cases h2 : n ≤ hi
  all_goals
    go_enter Try.func122, Try.ntmps122
    go_wp2
    go_ret
    exact ⟨by simp [h1, h2], rfl⟩

set_option maxHeartbeats 400000 in
theorem numberOk_any (n : Int) (w : World) :
    Calls Try.prog 134 #[.int .i64 n] w fun e w' => e = .returned (.bool (inB n 0 99)) ∧ w = w' := by
  unfold inB
  by_cases h1 : 0 ≤ n <;> by_cases h2 : n ≤ 99
  all_goals
    go_enter Try.func134, Try.ntmps134
    go_wp2
    go_ret
    exact ⟨by simp [h1, h2], rfl⟩

set_option maxHeartbeats 400000 in
theorem implOk_any (a b c d : Int) (w : World) :
    Calls Try.prog 109 #[ver a b c d] w fun e w' => e = .returned (.bool (vOk a b c d)) ∧ Below w.heap.size w w' := by
  unfold vOk
  have fin : ∀ o, Below w.heap.size w (w.alloc o) := fun o => (Below.refl _ _).alloc (Nat.le_refl _) o
  have hd : inB d 0 9 = (decide (0 ≤ d) && decide (d ≤ 9)) := rfl
  rw [hd]
  clear hd
  rcases ha : inB a 0 99 <;> rcases hb : inB b 0 99 <;> rcases hc : inB c 0 99 <;> by_cases h1 : 0 ≤ d <;> by_cases h2 : d ≤ 9
  all_goals first
   | (exfalso; omega)
   | skip
  all_goals
    go_enter Try.func109, Try.ntmps109
    go_wp2_with (go_at_call 134; refine (numberOk_any _ _).mono ?_; rintro e w' ⟨rfl, rfl⟩)
    go_ret
    exact ⟨by simp [h1, h2], fin _⟩

/-- What the walk needs of a world that a callee has left: all old cells read as before. -/
theorem old_cells {W w1 : World} (hb : Below W.heap.size W w1) : ∀ b o, b < W.heap.size → w1.cell? ⟨b, o, none⟩ = W.cell? ⟨b, o, none⟩ :=
  fun b o h => hb.cell (p := ⟨b, o, none⟩) h

end Go.Proofs.Ytopplljilmjjgaa

/- What a walk needs of a world of which only 'Below' is known: calls in it, its old cells, a boxed version, and two closed facts on the program. -/
namespace Go.Proofs.Ytopplljilmjjgaa
open Go.ChangeShapes Go.WideShapes Go.ChangeAt Go.RowKit Go.Joins

/-- A callee that changes nothing that was there, met in a world that is, below B, as W was. -/
theorem rel {P : Program} {f : FuncId} {args : Array Value} {v : Value} {B : Nat} {W V : World} (hB : B ≤ W.heap.size) (hb : Below B W V)
    (h : Calls P f args V fun e w' => e = .returned v ∧ Below V.heap.size V w') : Calls P f args V fun e w' => e = .returned v ∧ Below B W w' :=
  h.mono fun _ _ ⟨he, h2⟩ => ⟨he, hb.trans (h2.mono (Nat.le_trans hB hb.size))⟩
theorem cells_of {B : Nat} {W V : World} (hb : Below B W V) : ∀ b o, b < B → V.cell? ⟨b, o, none⟩ = W.cell? ⟨b, o, none⟩ := fun b o h => hb.cell (p := ⟨b, o, none⟩) h

/-- Behind a region that only reads and calls what leaves all old memory: the world is one of which 'Below' alone is known. -/
theorem quiet_end {W W' : World} (h : ∃ p : Regrown, W' = Go.Sort.grow (redrawn W p.d) p.os) : Below W.heap.size W W' := by
  obtain ⟨p, rfl⟩ := h
  exact below_regrown _ _ _

/-- Block p of the world holds a version's four numbers. -/
def VerAt (W : World) (p : Nat) (a b c d : Int) : Prop :=
  W.cell? ⟨p, 0, none⟩ = some (.int .i64 a) ∧ W.cell? ⟨p, 1, none⟩ = some (.int .i64 b) ∧ W.cell? ⟨p, 2, none⟩ = some (.int .i64 c) ∧ W.cell? ⟨p, 3, none⟩ = some (.int .i64 d)
theorem VerAt.below {W V : World} {p B : Nat} {a b c d : Int} (h : VerAt W p a b c d) (hb : Below B W V) (hp : p < B) : VerAt V p a b c d := by
  obtain ⟨h0, h1, h2, h3⟩ := h
  have k := cells_of hb
  exact ⟨(k _ _ hp).trans h0, (k _ _ hp).trans h1, (k _ _ hp).trans h2, (k _ _ hp).trans h3⟩
theorem VerAt.grown {W : World} {p : Nat} {a b c d : Int} (h : VerAt W p a b c d) :
    (∀ n os, (Go.Sort.grow (redrawn W n) os).cell? ⟨p, 0, none⟩ = some (.int .i64 a)) ∧ (∀ n os, (Go.Sort.grow (redrawn W n) os).cell? ⟨p, 1, none⟩ = some (.int .i64 b)) ∧
    (∀ n os, (Go.Sort.grow (redrawn W n) os).cell? ⟨p, 2, none⟩ = some (.int .i64 c)) ∧ (∀ n os, (Go.Sort.grow (redrawn W n) os).cell? ⟨p, 3, none⟩ = some (.int .i64 d)) :=
  ⟨cell_regrown h.1, cell_regrown h.2.1, cell_regrown h.2.2.1, cell_regrown h.2.2.2⟩
theorem verAt_new (w : World) (a b c d : Int) (t : TypeId) : VerAt (w.alloc (.cells #[.int .i64 a, .int .i64 b, .int .i64 c, .int .i64 d] t)) w.heap.size a b c d := by
  refine ⟨?_, ?_, ?_, ?_⟩ <;> go_simp

theorem own : ownKnob Try.prog.godebug = none := by kernel_rfl
theorem laid : laidOutB Try.prog = true := by kernel_rfl
end Go.Proofs.Ytopplljilmjjgaa

/- Contracts of the functions that turn ranks into versions, compare versions and copy them, over this seat's translation: each call ends as a plain function of the numbers says, and nothing that was there before the call has changed. -/
namespace Go.Proofs.Ytopplljilmjjgaa
open Go.RowKit Go.Sort

def atV (r : Int) : Value := ver (r / 10 / 10000) (r / 10 / 100 % 100) (r / 10 % 100) ((r % 10 + 1) % 10)
/-- What VersionAt answers at a rank: the version and true, or the zero value and false. -/
def atR (r : Int) : Value := if inB r 0 9999999 = true then .tuple #[atV r, .bool true] else .tuple #[ver 0 0 0 0, .bool false]

end Go.Proofs.Ytopplljilmjjgaa

/- A version that comes in by value is four whole numbers; the laws copy it and compare it field by field; nothing that was there before such a call has changed. -/
namespace Go.Proofs.Ytopplljilmjjgaa
open Go.ChangeShapes Go.WideShapes Go.ChangeAt Go.RowKit Go.Joins

end Go.Proofs.Ytopplljilmjjgaa

/- Contracts of VersionLess, of the model and of the program, over this seat's translation: each call answers whether both are versions and the first one's rank is the lesser one, and nothing that was there before the call has changed. -/
namespace Go.Proofs.Ytopplljilmjjgaa
open Go.RowKit Go.Sort

def vLess (a b c d a' b' c' d' : Int) : Bool := vOk a b c d && (vOk a' b' c' d' && decide (vRank a b c d < vRank a' b' c' d'))

theorem box_cell (w : World) (a b c d a' b' c' d' : Int) (W0 : World) (hW : W0 = (w.alloc (.cells #[.int .i64 a, .int .i64 b, .int .i64 c, .int .i64 d] 128)).alloc (.cells #[.int .i64 a', .int .i64 b', .int .i64 c', .int .i64 d'] 128)) :
    W0.cell? ⟨w.heap.size, 0, none⟩ = some (.int .i64 a) ∧ W0.cell? ⟨w.heap.size, 1, none⟩ = some (.int .i64 b) ∧ W0.cell? ⟨w.heap.size, 2, none⟩ = some (.int .i64 c) ∧ W0.cell? ⟨w.heap.size, 3, none⟩ = some (.int .i64 d) ∧
    W0.cell? ⟨w.heap.size + 1, 0, none⟩ = some (.int .i64 a') ∧ W0.cell? ⟨w.heap.size + 1, 1, none⟩ = some (.int .i64 b') ∧ W0.cell? ⟨w.heap.size + 1, 2, none⟩ = some (.int .i64 c') ∧ W0.cell? ⟨w.heap.size + 1, 3, none⟩ = some (.int .i64 d') := by
  subst hW
  refine ⟨?_, ?_, ?_, ?_, ?_, ?_, ?_, ?_⟩ <;> go_simp

end Go.Proofs.Ytopplljilmjjgaa
