/- The contract of the model's l1Cut over this seat's translation: it makes a new row of the pieces of a text between signs; nothing that was there before the call has changed. Condition: the text has at most 1048576 bytes. -/
import Derived.Test.YtenfdbikgpppdaaVread
import Derived.Test.YtenfdbikgpppdaaGa
import Derived.Lib.Strings
import Derived.Lib.SmallJoins
namespace Go.Proofs.Ytenfdbikgpppdaa
open Go.RowKit Go.Sort

/-- A text as a value. -/
def strV (x : List UInt8) : Value := .string ⟨x.toArray⟩

/-- How far a text has been cut: d holds the pieces that are done, the next one begins at f, and from there to k no sign stands. -/
def CutInv (sign : UInt8) (l : List UInt8) (d : List (List UInt8)) (f k : Nat) : Prop :=
  d ++ Parse.cut sign (l.drop f) = Parse.cut sign l ∧ f ≤ k ∧ sign ∉ (l.drop f).take (k - f) ∧ d.length ≤ k

theorem cutInv_zero (sign : UInt8) (l : List UInt8) : CutInv sign l [] 0 0 := by simp [CutInv]

theorem take_more (l : List UInt8) (f k : Nat) (hf : f ≤ k) (hk : k < l.length) : (l.drop f).take (k + 1 - f) = (l.drop f).take (k - f) ++ [l[k]] := by
  rw [show k + 1 - f = (k - f) + 1 from by omega, List.take_succ_eq_append_getElem (by simp; omega)]
  simp [show f + (k - f) = k from by omega]

theorem split_at (l : List UInt8) (f k : Nat) (hf : f ≤ k) (hk : k < l.length) : l.drop f = (l.drop f).take (k - f) ++ l[k] :: l.drop (k + 1) := by
  have h := (List.take_append_drop (k - f) (l.drop f)).symm
  rw [List.drop_drop, show f + (k - f) = k from by omega, List.drop_eq_getElem_cons hk] at h
  exact h

theorem cutInv_no {sign : UInt8} {l : List UInt8} {d : List (List UInt8)} {f k : Nat} (h : CutInv sign l d f k) (hk : k < l.length) (hn : l[k] ≠ sign) : CutInv sign l d f (k + 1) := by
  obtain ⟨h1, h2, h3, h4⟩ := h
  refine ⟨h1, by omega, ?_, by omega⟩
  rw [take_more l f k h2 hk]
  simp only [List.mem_append, List.mem_singleton, not_or]
  exact ⟨h3, fun e => hn e.symm⟩

theorem cutInv_yes {sign : UInt8} {l : List UInt8} {d : List (List UInt8)} {f k : Nat} (h : CutInv sign l d f k) (hk : k < l.length) (hn : l[k] = sign) : CutInv sign l (d ++ [(l.drop f).take (k - f)]) (k + 1) (k + 1) := by
  obtain ⟨h1, h2, h3, h4⟩ := h
  refine ⟨?_, Nat.le_refl _, by simp, by simp; omega⟩
  have e := split_at l f k h2 hk
  rw [hn] at e
  rw [e, Parse.cut_at h3] at h1
  rw [List.append_assoc]
  exact h1

theorem cutInv_end {sign : UInt8} {l : List UInt8} {d : List (List UInt8)} {f k : Nat} (h : CutInv sign l d f k) (hk : k = l.length) : Parse.cut sign l = d ++ [l.drop f] := by
  obtain ⟨h1, h2, h3, _⟩ := h
  rw [List.take_of_length_le (by simp; omega)] at h3
  rw [← h1, Parse.cut_none h3]

theorem piece (s : ByteArray) (f k : Nat) : Value.string (s.extract f k) = strV ((s.data.toList.drop f).take (k - f)) := by
  unfold strV
  congr 1
  apply ByteArray.ext
  apply Array.toList_inj.1
  rw [Lib.extract_data]

theorem piece_end (s : ByteArray) (f : Nat) : Value.string (s.extract f s.size) = strV (s.data.toList.drop f) := by
  rw [piece, List.take_of_length_le (by simp)]

theorem infoString : (Try.prog.info? 9).map (fun i => (i.zero, i.size, i.bytes)) = some (some (.string ByteArray.empty), 1, 16) := by kernel_rfl

/-- What the loop of l1Cut keeps: the pieces that are done lie in a row of the call's own. -/
def CutRel (s : ByteArray) (sign : UInt8) (w : World) (v f i : Value) (wr : World) : Prop :=
  ∃ (k fr : Nat) (d : List (List UInt8)), k ≤ s.size ∧ i = .int .i64 (k : Int) ∧ f = .int .i64 (fr : Int) ∧ CutInv sign s.data.toList d fr k ∧
    wr.ownsRow w.heap.size 9 1 v d.length (d.map strV) ∧ Below w.heap.size w wr

theorem cutRel_push {s : ByteArray} {sign : UInt8} {w wr w1 : World} {v v' : Value} {k fr : Nat} {d : List (List UInt8)} {o : Obj} (hk : k < s.size) (hv : CutInv sign s.data.toList d fr k)
    (he : s[k] = sign) (hown : wr.ownsRow w.heap.size 9 1 v d.length (d.map strV)) (hb : Below w.heap.size w wr)
    (hown' : w1.ownsRow w.heap.size 9 1 v' (d.length + 1) (d.map strV ++ [.string (s.extract fr k)])) (hg : (wr.alloc o).grownBy w1 v.ownBlock) :
    CutRel s sign w v' (.int .i64 ((k : Int) + 1)) (.int .i64 ((k : Int) + 1)) w1 := by
  have hkl : k < s.data.toList.length := by simpa using hk
  have hget : s.data.toList[k] = s[k] := by rw [Array.getElem_toList]; rfl
  refine ⟨k + 1, k + 1, d ++ [(s.data.toList.drop fr).take (k - fr)], by omega, by go_num, by go_num, cutInv_yes hv hkl (by rw [hget, he]), ?_, ?_⟩
  · rw [piece] at hown'
    simpa using hown'
  · refine (hb.alloc hb.size _).grown hg (by have := hb.size; simp; omega) fun j hj => ?_
    exact (hown.lt j hj).1

set_option maxHeartbeats 2000000 in
theorem cut_any (s : ByteArray) (sign : UInt8) (w : World) (hs : s.size ≤ 1048576) :
    Calls Try.prog 43 #[.string s, .int .u8 (sign.toNat : Int)] w fun e w' => ∃ g cap, e = .returned (.slice (some ⟨g, 0, none⟩) (Parse.cut sign s.data.toList).length cap) ∧
      w'.ownsRow w.heap.size 9 1 (.slice (some ⟨g, 0, none⟩) (Parse.cut sign s.data.toList).length cap) (Parse.cut sign s.data.toList).length ((Parse.cut sign s.data.toList).map strV) ∧ Below w.heap.size w w' := by
  obtain ⟨i0, hi, hz0, hz1, hz2⟩ := info_parts infoString
  go_enter Try.func43, Try.ntmps43
  go_wp2
  go_loopw [5, 6, 7] (fun v f i wr => CutRel s sign w v f i wr) (fun _ _ i _ => s.size - (intOf i).toNat)
  case atStart =>
    exact ⟨0, 0, [], Nat.zero_le _, rfl, rfl, cutInv_zero _ _, World.ownsRow_made w #[] 0 (Nat.le_refl _) (by decide) rfl, (Below.refl _ _).alloc (Nat.le_refl _) _⟩
  case round =>
    obtain ⟨k, fr, d, hk, rfl, rfl, hinv, hown, hb⟩ := hrel
    have hfr : fr ≤ k := hinv.2.1
    have hdl : d.length ≤ k := hinv.2.2.2
    have HI := Lib.hid hinv
    clear hinv
    by_cases hlt : k < s.size
    · by_cases he : s[k] = sign
      · have hq : ((s[k].toNat : Int) == (sign.toNat : Int)) = true := by rw [he]; simp
        have HE := Lib.hid he
        clear he
        go_wp2_with (at_builtin; refine wpList_append_own _ rfl _ _ 68 rfl w.heap.size 9 i0 (.string ByteArray.empty) 1 16 Try.underlying68 hi hz0 hz1 hz2 rfl (by decide) _ _ _ rfl (hown.alloc _) ⟨wr.heap.size, 0, none⟩ 1 1 [.string (s.extract fr k)] rfl rfl ?c1 ?c2 ?c3 ?c4 ?c5 ?_)
        case c1 => exact cell_one_new _ _ _
        case c2 => intro u hu; simp at hu; subst hu; rfl
        case c3 => unfold maxLen; omega
        case c4 => omega
        case c5 => have := hb.size; simp; omega
        intro v' w1 hown' hgrow' _
        have hr := cutRel_push hlt HI.out HE.out hown hb hown' hgrow'
        clear hown' hgrow' hown
        go_wp2
        go_roundw
        case rel => exact hr
        case measure => simp [intOf]; omega
      · have hq : ((s[k].toNat : Int) == (sign.toNat : Int)) = false := by
          rw [beq_eq_false_iff_ne]
          exact fun e => he (UInt8.toNat_inj.1 (by omega))
        have HE := Lib.hid he
        clear he
        go_wp2
        go_roundw
        case rel => exact ⟨k + 1, fr, d, by omega, by go_num, rfl, cutInv_no HI.out (by simpa using hlt) (by rw [Array.getElem_toList]; exact HE.out), hown, hb⟩
        case measure => simp [intOf]; omega
    · have hkl : k = s.data.toList.length := by simp; omega
      have HK := Lib.hid hkl
      clear hkl
      have hfs : fr ≤ s.size := by omega
      go_wp2_with (at_builtin; refine wpList_append_own _ rfl _ _ 68 rfl w.heap.size 9 i0 (.string ByteArray.empty) 1 16 Try.underlying68 hi hz0 hz1 hz2 rfl (by decide) _ _ _ rfl (hown.alloc _) ⟨wr.heap.size, 0, none⟩ 1 1 [.string (s.extract fr s.size)] rfl rfl ?d1 ?d2 ?d3 ?d4 ?d5 ?_)
      case d1 => exact cell_one_new _ _ _
      case d2 => intro u hu; simp at hu; subst hu; rfl
      case d3 => unfold maxLen; omega
      case d4 => omega
      case d5 => have := hb.size; simp; omega
      intro v' w1 hown' hgrow' _
      have hbel : Below w.heap.size w w1 := (hb.alloc hb.size _).grown hgrow' (by have := hb.size; simp; omega) fun j hj => (hown.lt j hj).1
      have hcut := Lib.hid (cutInv_end HI.out HK.out)
      obtain ⟨g, cap, rfl⟩ := Go.Joins.ownsRow_form hown' (by omega)
      have hown2 : w1.ownsRow w.heap.size 9 1 (.slice (some ⟨g, 0, none⟩) (d.length + 1) cap) (d.length + 1) ((d ++ [s.data.toList.drop fr]).map strV) := by
        rw [piece_end] at hown'
        simpa using hown'
      clear hown' hgrow' hown
      go_wp2
      go_ret
      exact ⟨g, cap, by rw [hcut.out]; simp, by rw [hcut.out]; simpa using hown2, hbel⟩

end Go.Proofs.Ytenfdbikgpppdaa
