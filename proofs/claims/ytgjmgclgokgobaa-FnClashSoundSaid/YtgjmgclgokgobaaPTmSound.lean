/- At every code the law FnClashSound returns true: picks that hit the clash that two drawn clashes come to hit one of the two. No condition. -/
import Derived.BigFrame
import Derived.Test.YtgjmgclgokgobaaGm
import Derived.Test.YtgjmgclgokgobaaGo
namespace Go.Proofs.Ytgjmgclgokgobaa
open Go.ChangeShapes Go.WideShapes Go.ChangeAt Go.RowKit Go.Joins Go.Sort

namespace Tmj
open Foot Dsh Dpk Tmo Cfa Cpu Tmh Tmc
theorem piece_spans {A B : List Tm} {m : Int} {at' : Bool} {U : List Tm} (hA : ∀ q ∈ A, q.2.1.length ≤ 1048576) (hB : ∀ q ∈ B, q.2.1.length ≤ 1048576) (h : tJoin A B m at' = some U) : ∀ u ∈ U, u.2.1.length ≤ 1048576 := by
  unfold tJoin at h
  split at h
  · injection h with h; subst h; simp
  · rename_i y e1 e2
    injection h with h; subst h
    intro u hu
    obtain rfl : u = y := by simpa using hu
    exact hB _ (first_mem e2).1
  · rename_i x e1 e2
    injection h with h; subst h
    intro u hu
    obtain rfl : u = x := by simpa using hu
    exact hA _ (first_mem e1).1
  · split at h
    · unfold tOr at h
      split at h
      · split at h
        · injection h with h; subst h; simp
        · injection h with h; subst h
          intro u hu
          rw [List.mem_singleton.1 hu]
          exact orR_len _ _
      · cases h
    · unfold tAnd at h
      split at h
      · injection h with h; subst h
        intro u hu
        rw [List.mem_singleton.1 hu]
        exact andR_len _ _
      · cases h
theorem go_spans {A B : List Tm} {n : Int} (hA : ∀ q ∈ A, q.2.1.length ≤ 1048576) (hB : ∀ q ∈ B, q.2.1.length ≤ 1048576) : ∀ {k : Nat} {U : List Tm}, joinGo A B n k = some U → ∀ u ∈ U, u.2.1.length ≤ 1048576
  | 0, U, h => by simp only [joinGo, Option.some.injEq] at h; subst h; simp
  | k + 1, U, h => by
    unfold joinGo at h
    split at h
    · cases h
    rename_i T hT
    split at h
    · cases h
    rename_i V hV
    injection h with h
    subst h
    intro u hu
    rcases List.mem_append.1 hu with hu | hu
    · exact go_spans hA hB hT u hu
    · exact piece_spans hA hB hV u hu
theorem join_some {A B : List Tm} {n : Int} {O : List Tm} (h : joinL A B n = some O) : joinGo A B n 8 = some O := by
  unfold joinL at h
  split at h
  · exact h
  · cases h
def AnySound (w : World) (e : Ending) (w' : World) : Prop := ∃ A va vc B vb vd n C pa pc, e = .returned (.tuple #[.slice va A.length vc, .slice vb B.length vd, .int .i64 n, .slice pa C.length pc]) ∧ TmAt w' w'.heap.size (.slice va A.length vc) A ∧ TmAt w' w'.heap.size (.slice vb B.length vd) B ∧ PkAt w' w'.heap.size (.slice pa C.length pc) C ∧ (A.length ≤ 6 ∧ (∀ q ∈ A, q.2.1.length ≤ 41) ∧ A.length ≤ vc) ∧ (B.length ≤ 6 ∧ (∀ q ∈ B, q.2.1.length ≤ 41) ∧ B.length ≤ vd) ∧ C.length ≤ 30 ∧ Below w.heap.size w w'
set_option maxRecDepth 100000 in
set_option maxHeartbeats 4000000 in
theorem DrawClashSound_any (a : Option Addr) (len cap : Nat) (w : World) (h : CodeIn w a len cap) : Calls Try.prog 33 #[.slice a len cap] w (AnySound w) := by
  go_enter Try.func33, Try.ntmps33
  go_wp2_with fail
  refine (open_any a len cap _ h).mono ?_
  rintro e w2 ⟨rfl, hr2, hb2⟩
  have hz2 := rdAt_lt hr2
  go_wp2_with fail
  refine (l20Clash_any _ 0 0 w2 hr2 (by omega) (by omega) (by omega)).mono ?_
  rintro e w3 ⟨A, v, rfl, hown, hA, hqA, hd⟩
  have b3 := drawn_below hd hb2 (by omega)
  obtain ⟨q, hq0, hq1, hr3, hg3⟩ := hd
  have z23 := hg3.size
  obtain ⟨va, vc, rfl, hx⟩ := id hown.at
  have hvc : A.length ≤ vc := by obtain ⟨cs, ho, _⟩ := hown; exact own_cap ho
  have HN := Lib.hid hown
  clear hx hown hr2 hg3 hb2
  go_wp2_with fail
  refine (l20Clash_any _ q 0 w3 hr3 (by omega) (by omega) (by omega)).mono ?_
  rintro e w4 ⟨B, v, rfl, hown, hB, hqB, hd⟩
  have b4 := drawn_below hd b3 (by omega)
  obtain ⟨q4, hq40, hq41, hr4, hg4⟩ := hd
  have z34 := hg4.size
  obtain ⟨vb, vd, rfl, hx⟩ := id hown.at
  have hvd : B.length ≤ vd := by obtain ⟨cs, ho, _⟩ := hown; exact own_cap ho
  have HN4 := Lib.hid (HN.out.drawn hg4 hz2 hz2)
  have HM4 := Lib.hid (TOwn.mono (B' := w2.heap.size) (lo' := w2.heap.size) hown z23 z23)
  clear hx hown hr3 hg4 b3 HN
  go_wp2_with fail
  refine (pick_any _ q4 5 w4 hr4 (by omega)).mono ?_
  rintro e w5 ⟨n, rfl, _, _, _, hr5, hg5⟩
  have hd : Drawn w4 w.heap.size q4 1 w5 := ⟨q4 + 1, by omega, by omega, hr5, hg5⟩
  clear hr5 hg5
  have b5 := drawn_below hd b4 (by omega)
  obtain ⟨q5, hq50, hq51, hr5, hg5⟩ := hd
  have z45 := hg5.size
  have HN5 := Lib.hid (HN4.out.drawn hg5 hz2 hz2)
  have HM5 := Lib.hid (HM4.out.drawn hg5 hz2 hz2)
  clear hr4 hg5 b4 HN4 HM4
  go_wp2_with fail
  refine (l20Shelf_any _ q5 4 0 w5 (by omega) hr5 (by omega) (by omega) (by omega)).mono ?_
  rintro e w6 ⟨S, v, fs, rfl, hg, hl, hsz, hd⟩
  have b6 := drawn_below hd b5 (by omega)
  obtain ⟨sa, caps, rfl, hform, hcap⟩ := hg.form
  obtain ⟨q6, hq60, hq61, hr6, hg6⟩ := hd
  have z56 := hg6.size
  have HN6 := Lib.hid (HN5.out.drawn hg6 hz2 hz2)
  have HM6 := Lib.hid (HM5.out.drawn hg6 hz2 hz2)
  have HG6 := Lib.hid hg
  clear hg hform hcap hr5 hg6 b5 HN5 HM5
  go_wp2_with fail
  refine (l20Picks_any _ q6 _ 0 sa caps S fs w6 hr6 (by omega) (by omega) (by omega) HG6.out (by omega) hl).mono ?_
  rintro e w7 ⟨C, v, rfl, ho, hC, hd⟩
  have b7 := drawn_below hd b6 (by omega)
  obtain ⟨q7, _, _, _, hg7⟩ := hd
  have HN7 := Lib.hid (HN6.out.drawn hg7 hz2 hz2).at
  have HM7 := Lib.hid (HM6.out.drawn hg7 hz2 hz2).at
  have HP := Lib.hid ho.at
  obtain ⟨pa, pc, rfl⟩ := ho.form
  clear hg7 ho
  go_wp2_with fail
  exact bodyPost_ret (v := .tuple #[.slice va A.length vc, .slice vb B.length vd, .int .i64 n, .slice pa C.length pc]) (by simp [results, Try.results33, go_sem]) rfl ⟨A, va, vc, B, vb, vd, _, C, pa, pc, rfl, HN7.out, HM7.out, HP.out, ⟨hA, hqA, hvc⟩, ⟨hB, hqB, hvd⟩, by omega, b7⟩
set_option maxRecDepth 100000 in
set_option maxHeartbeats 8000000 in
theorem sound_short (a : Option Addr) (len cap : Nat) (w : World) (h : CodeIn w a len cap) (hl : len ≤ 1048576) :
    Calls Try.prog 7 #[.slice a len cap] w fun e w' => e = .returned (.bool true) ∧ Below w.heap.size w w' := by
  go_enter Try.func7, Try.ntmps7
  go_wp2_with fail
  refine (DrawClashSound_any a len cap w h).mono ?_
  rintro e w1 ⟨A, va, vc, B, vb, vd, n, C, pa, pc, rfl, hA1, hB1, hC1, ⟨hA, hqA, hvc⟩, ⟨hB, hqB, hvd⟩, hC, b1⟩
  have hA' : A.length ≤ 1048576 := by omega
  have hB' : B.length ≤ 1048576 := by omega
  have hC' : C.length ≤ 1048576 := by omega
  have hqA' : ∀ q ∈ A, q.2.1.length ≤ 1048576 := fun q hq => by have := hqA q hq; omega
  have hqB' : ∀ q ∈ B, q.2.1.length ≤ 1048576 := fun q hq => by have := hqB q hq; omega
  have K1 : Hid (Calls Try.prog 25 #[.slice va A.length vc, .slice vb B.length vd, .int .i64 n] w1 (TjPost (joinL A B n) w1)) := Lib.hid (implClashJoin_any _ _ _ _ A B n w1 hA' hqA' hvc hB' hqB' hvd hA1 hB1)
  have KA : Hid (∀ V, Below w1.heap.size w1 V → Calls Try.prog 30 #[.slice va A.length vc, .slice pa C.length pc] V fun e w' => e = .returned (.bool (hitsP A C)) ∧ Below V.heap.size V w') := Lib.hid fun V g => implHits_any _ _ A C V hA' hqA' hC' (hA1.stepAt g) (hC1.stepAt g)
  have KB : Hid (∀ V, Below w1.heap.size w1 V → Calls Try.prog 30 #[.slice vb B.length vd, .slice pa C.length pc] V fun e w' => e = .returned (.bool (hitsP B C)) ∧ Below V.heap.size V w') := Lib.hid fun V g => implHits_any _ _ B C V hB' hqB' hC' (hB1.stepAt g) (hC1.stepAt g)
  obtain ⟨o, ho⟩ : ∃ o, joinL A B n = o := ⟨_, rfl⟩
  rw [ho] at K1
  rcases o with _ | O
  · clear ho KA KB hA1 hB1 hC1 hqA hqB hqA' hqB'
    go_wp2_with fail
    refine K1.out.mono ?_
    rintro e w2 ⟨a2, c2, rfl, _, _, hb⟩
    have b2 := b1.trans (hb.mono b1.size)
    simp only [Option.getD_none, List.length_nil, Option.isSome_none]
    go_wp2_with fail
    refine (alive_any w2).mono ?_
    rintro e w3 ⟨rfl, hb3⟩
    go_wp2_with fail
    go_ret
    exact ⟨rfl, b2.trans (hb3.mono b2.size)⟩
  have hO := go_len (join_some ho)
  have hqO := go_spans hqA' hqB' (join_some ho)
  have KO : Hid (∀ V ao co, Below w1.heap.size w1 V → TmAt V V.heap.size (.slice ao O.length co) O → Calls Try.prog 30 #[.slice ao O.length co, .slice pa C.length pc] V fun e w' => e = .returned (.bool (hitsP O C)) ∧ Below V.heap.size V w') := Lib.hid fun V ao co g g' => implHits_any _ _ O C V (by omega) hqO hC' g' (hC1.stepAt g)
  have HS := Lib.hid (fun hh : hitsP O C = true => join_sound ho hh)
  clear ho hA1 hB1 hC1 hqA hqB hqA' hqB' hqO hO
  go_wp2_with fail
  refine K1.out.mono ?_
  rintro e w2 ⟨a2, c2, rfl, _, t2, hb⟩
  have b2 := b1.trans (hb.mono b1.size)
  have n2 := hb
  have T2 := Lib.hid t2.at
  simp only [Option.getD_some, Option.isSome_some] at T2 ⊢
  clear t2 hb K1
  go_wp2_with fail
  refine (KO.out _ _ _ n2 T2.out).mono ?_
  rintro e w3 ⟨rfl, hb⟩
  have b3 := b2.trans (hb.mono b2.size)
  have n3 := n2.trans (hb.mono n2.size)
  clear hb
  rcases h1 : hitsP O C
  · go_wp2_with fail
    refine (alive_any w3).mono ?_
    rintro e w4 ⟨rfl, hb4⟩
    go_wp2_with fail
    go_ret
    exact ⟨rfl, b3.trans (hb4.mono b3.size)⟩
  have hs := HS.out h1
  clear HS h1
  go_wp2_with fail
  refine (KA.out _ n3).mono ?_
  rintro e w4 ⟨rfl, hb⟩
  have b4 := b3.trans (hb.mono b3.size)
  have n4 := n3.trans (hb.mono n3.size)
  clear hb
  rcases h2 : hitsP A C
  · have h3 : hitsP B C = true := by
      rcases hs with k | k
      · rw [h2] at k; cases k
      · exact k
    rw [h3] at KB
    clear hs h2 h3
    go_wp2_with fail
    refine (KB.out _ n4).mono ?_
    rintro e w5 ⟨rfl, hb⟩
    have b5 := b4.trans (hb.mono b4.size)
    clear hb
    go_wp2_with fail
    refine (alive_any w5).mono ?_
    rintro e w6 ⟨rfl, hb6⟩
    go_wp2_with fail
    go_ret
    exact ⟨rfl, b5.trans (hb6.mono b5.size)⟩
  · clear hs h2
    go_wp2_with fail
    refine (alive_any w4).mono ?_
    rintro e w6 ⟨rfl, hb6⟩
    go_wp2_with fail
    go_ret
    exact ⟨rfl, b4.trans (hb6.mono b4.size)⟩
set_option maxRecDepth 100000 in
set_option maxHeartbeats 1000000 in
theorem sound_long (a : Option Addr) (len cap : Nat) (w : World) (hl : 1048576 < len) :
    Calls Try.prog 7 #[.slice a len cap] w fun e w' => e = .returned (.bool true) ∧ Below w.heap.size w w' := by
  go_enter Try.func7, Try.ntmps7
  go_wp2
  go_ret
  exact ⟨rfl, Below.refl _ _⟩

theorem sound_walk (a : Option Addr) (len cap : Nat) (w : World) (h : CodeIn w a len cap) :
    Calls Try.prog 7 #[.slice a len cap] w fun e w' => e = .returned (.bool true) ∧ Below w.heap.size w w' := by
  by_cases hl : len ≤ 1048576
  · exact sound_short a len cap w h hl
  · exact sound_long a len cap w (by omega)
end Tmj

set_option maxRecDepth 100000 in
theorem clashSound_holds : Rows.FnClashSoundSaid :=
  OpenClaim.holds_of_wide 7 Try.f7 rfl rfl rfl rfl rfl rfl rfl ⟨rfl, rfl, rfl, rfl, rfl⟩ rfl rfl rfl rfl rfl (by kernel_rfl) Try.func7 (by kernel_rfl)
    (of_decide_eq_true (by kernel_rfl)) (by unfold Func.isWrapper; rw [if_neg (by decide +kernel)]; exact ⟨rfl, rfl⟩)
    (fun os started H enc _ => law_lifted (s := Rows.fnClashSoundSpec) (tb := 4) own started laid (by kernel_rfl) Try.func7 rfl (by kernel_rfl) Try.underlying4 (by kernel_rfl)
      (fun ds h => by rw [Try.params7] at h; match ds, h with | [_], _ => rfl)
      (ChangeSpec.witness6 (enc := enc) (C := Try.checked) false ⟨#[], #[.slice none 0 0], []⟩ 8 (by kernel_rfl) (by kernel_rfl) (by kernel_rfl) (by kernel_rfl))
      (law_code Try.params7 Tmj.sound_walk))
#print axioms clashSound_holds

end Go.Proofs.Ytgjmgclgokgobaa
