/-
  CONTRACTS: what package name calls of package strings, in lists of bytes; what may stand in a name, on both sides.
-/
import Derived.Test.YtobkddekfcgclaaDoorShelf2
import Derived.Test.YtobkddekfcgclaaDoorNmPure
import Derived.Test.YtobkddekfcgclaaDoorTxS
import Derived.Test.YtobkddekfcgclaaDoorOwnB
import Derived.Laws.Strings3
import Derived.Lib.IndexBytes
namespace Go.Proofs.YtobkddekfcgclaaDoor
open Go.RowKit
open Me

namespace Nm
theorem splitK_pt (s : List UInt8) : Lib.splitK [46] 0 (Lib.count s [46]) s = pt s := by
  induction s with
  | nil => rfl
  | cons b r ih =>
    by_cases hb : b = 46
    · subst hb
      have hi : Lib.index (46 :: r) [46] = 0 := by unfold Lib.index; simp
      rw [Lib.count_cons_eq, Nat.add_comm, Lib.splitK, hi, if_neg (by decide), pt_dot]
      show (46 :: r).take 0 :: Lib.splitK [46] 0 (Lib.count r [46]) r = _
      rw [ih]; rfl
    · rw [Lib.count_cons_ne _ _ _ hb]
      cases hk : Lib.count r [46] with
      | zero => rw [hk] at ih; rw [pt_cons hb ih.symm]; rfl
      | succ k =>
        obtain ⟨i, hi⟩ := Lib.index_of_count (s := r) (old := [46]) (by omega)
        have hi2 : Lib.index (b :: r) [46] = ((i + 1 : Nat) : Int) := by
          unfold Lib.index
          rw [if_neg (by simpa using fun e => hb e.symm), hi, if_neg (by first | (simp; done) | (simp; omega))]
          omega
        rw [hk, Lib.splitK, hi, if_neg (by first | (simp; done) | (simp; omega))] at ih
        rw [Lib.splitK, hi2, if_neg (by first | (simp; done) | (simp; omega)), pt_cons hb ih.symm]
        simp
theorem replace_turn (a c : UInt8) (s : List UInt8) : Lib.replaceK [a] [c] (Lib.count s [a]) s = turn a c s := by
  induction s with
  | nil => rfl
  | cons b r ih =>
    by_cases hb : b = a
    · subst hb
      have hi : Lib.index (b :: r) [b] = 0 := by unfold Lib.index; simp
      rw [Lib.count_cons_eq, Nat.add_comm, Lib.replaceK, hi, if_neg (by decide)]
      show [] ++ [c] ++ Lib.replaceK [b] [c] (Lib.count r [b]) r = _
      rw [ih]; unfold turn; simp
    · rw [Lib.count_cons_ne _ _ _ hb]
      have ht : turn a c (b :: r) = b :: turn a c r := by unfold turn; simp [hb]
      rw [ht]
      cases hk : Lib.count r [a] with
      | zero => rw [hk] at ih; rw [← ih]; rfl
      | succ k =>
        obtain ⟨i, hi⟩ := Lib.index_of_count (s := r) (old := [a]) (by omega)
        have hi2 : Lib.index (b :: r) [a] = ((i + 1 : Nat) : Int) := by
          unfold Lib.index
          rw [if_neg (by simpa using fun e => hb e.symm), hi, if_neg (by first | (simp; done) | (simp; omega))]
          omega
        rw [hk, Lib.replaceK, hi, if_neg (by first | (simp; done) | (simp; omega))] at ih
        rw [Lib.replaceK, hi2, if_neg (by first | (simp; done) | (simp; omega)), ← ih]
        simp
theorem replaceAll_turn (a c : UInt8) (h : a ≠ c) (s : List UInt8) : Lib.replaceAll s [a] [c] = turn a c s := by
  unfold Lib.replaceAll Lib.replace
  rw [if_neg (by simpa using h)]
  unfold Lib.replaceNum
  rw [if_pos (.inl (by decide)), replace_turn]
theorem index_neg (l : List UInt8) : decide (0 ≤ Lib.indexByte l 46) = !noDot l := by
  induction l with
  | nil => rfl
  | cons b r ih =>
    unfold Lib.indexByte
    by_cases hb : b = 46
    · subst hb; rfl
    · have h1 : (b == 46) = false := by simpa using hb
      have e1 : noDot (b :: r) = noDot r := by unfold noDot; rw [List.all_cons]; simp [hb]
      rw [h1, e1, ← ih]
      simp only [Bool.false_eq_true, if_false]
      have hg := Lib.indexByte_ge r 46
      by_cases h2 : Lib.indexByte r 46 = -1
      · rw [h2]; rfl
      · rw [if_neg (by simpa using h2), decide_eq_true (by omega), decide_eq_true (by omega)]
theorem cut_dot (l : List UInt8) : Lib.cut l [46] = (if dotted l then (ahead l, behind l, true) else (l, [], false)) := by
  unfold Lib.cut
  rw [Lib.index_one]
  have key : Lib.indexByte l 46 = if dotted l then ((ahead l).length : Int) else -1 := by
    induction l with
    | nil => rfl
    | cons b r ih =>
      unfold Lib.indexByte
      by_cases hb : b = 46
      · subst hb; rfl
      · have h1 : (b == 46) = false := by simpa using hb
        have h2 : (b != 46) = true := by simpa using hb
        have e1 : dotted (b :: r) = dotted r := by unfold dotted; rw [List.dropWhile_cons, h2]; rfl
        have e2 : (ahead (b :: r)).length = (ahead r).length + 1 := by unfold ahead; rw [List.takeWhile_cons, h2]; rfl
        rw [h1, ih, e1, e2]
        simp only [Bool.false_eq_true, if_false]
        by_cases hd : dotted r = true
        · rw [if_pos hd, if_pos hd, if_neg (by first | (simp; done) | (simp; omega))]; omega
        · rw [if_neg hd, if_neg hd]; rfl
  rw [key]
  by_cases hd : dotted l = true
  · rw [if_pos hd, if_pos hd, if_pos (by omega)]
    have e := whole l hd
    have e1 : l.take (ahead l).length = ahead l := by conv => lhs; arg 2; rw [e]
                                                      simp
    have e2 : l.drop ((ahead l).length + 1) = behind l := by conv => lhs; arg 2; rw [e]
                                                             simp
    show (l.take (ahead l).length, l.drop ((ahead l).length + 1), true) = _
    rw [e1, e2]
  · rw [if_neg hd, if_neg hd, if_neg (by omega)]
theorem suffix_ends (l : List UInt8) : Lib.hasSuffix l wsp = ends l := by
  unfold Lib.hasSuffix ends
  by_cases h : 4 ≤ l.length
  · rw [decide_eq_true h, Bool.true_and]
    by_cases e : l.drop (l.length - 4) = wsp
    · rw [e, beq_self_eq_true]
      rw [List.isSuffixOf_iff_suffix]
      exact ⟨l.take (l.length - 4), by rw [← e, List.take_append_drop]⟩
    · rw [beq_eq_false_iff_ne.2 e]
      cases hs : wsp.isSuffixOf l with
      | false => rfl
      | true =>
        obtain ⟨t, ht⟩ := List.isSuffixOf_iff_suffix.1 hs
        exfalso; apply e; rw [← ht]; simp [wsp]
  · rw [decide_eq_false h, Bool.false_and]
    cases hs : wsp.isSuffixOf l with
    | false => rfl
    | true =>
      obtain ⟨t, ht⟩ := List.isSuffixOf_iff_suffix.1 hs
      exfalso; apply h; rw [← ht]; simp [wsp]
theorem suffix_stem (l : List UInt8) : Lib.trimSuffix l wsp = if ends l then stem l else l := by
  unfold Lib.trimSuffix
  rw [suffix_ends]
  rfl
end Nm

/-- What package strings asks of the world: a variable of its own holds some number. -/
def Mx (w : World) : Prop := ∃ m, w.cell? ⟨0, 0, none⟩ = some (.int .i64 m)
theorem Mx.lt {w : World} (h : Mx w) : 0 < w.heap.size := by
  obtain ⟨m, hm⟩ := h
  exact World.block_lt_of_cell? _ _ hm
theorem Mx.below {w w' : World} (h : Mx w) (hb : Below w.heap.size w w') : Mx w' := by
  obtain ⟨m, hm⟩ := h
  exact ⟨m, (hb.cell (World.block_lt_of_cell? _ _ hm)).trans hm⟩

theorem len_lt {l : List UInt8} (h : l.length ≤ 4294967280) : (⟨l.toArray⟩ : ByteArray).size < 4294967281 := by show l.toArray.size < _; simp; omega

theorem split46 (l : List UInt8) (hl : l.length ≤ 4294967280) (w : World) (hm : Mx w) :
    Calls Tryd.prog 63 #[.string ⟨l.toArray⟩, .string ⟨#[46]⟩] w fun e w' => e = .returned (.slice (some ⟨w.heap.size, 0, none⟩) (Nm.pt l).length (Nm.pt l).length) ∧ w' = w.alloc (.cells (byS (Nm.pt l)).toArray 9) := by
  obtain ⟨m, hm⟩ := hm
  have e2 : (Lib.splitB ⟨#[46]⟩ 0 (Lib.countB ⟨l.toArray⟩ ⟨#[46]⟩) ⟨l.toArray⟩).map (·.data.toList) = Nm.pt l := by rw [Lib.splitB_data]; exact Nm.splitK_pt l
  have e1 : Lib.countB ⟨l.toArray⟩ ⟨#[46]⟩ + 1 = (Nm.pt l).length := by
    rw [← e2, List.length_map, Lib.splitB_all _ (by decide) 0 _ _ rfl]
  have e3 : (Lib.splitB ⟨#[46]⟩ 0 (Lib.countB ⟨l.toArray⟩ ⟨#[46]⟩) ⟨l.toArray⟩).map Value.string = byS (Nm.pt l) := by
    rw [← e2]; unfold byS; rw [List.map_map]; apply List.map_congr_left; intro x _; show Value.string x = Value.string ⟨x.data.toList.toArray⟩; rw [Array.toArray_toList]
  refine (Tryd.strings_Split ⟨l.toArray⟩ ⟨#[46]⟩ m w (len_lt hl) hm (by decide)).mono ?_
  rintro e w' ⟨rfl, rfl⟩
  rw [e1, e3]
  exact ⟨rfl, rfl⟩
theorem replace_any (a c : UInt8) (h : a ≠ c) (l : List UInt8) (hl : l.length ≤ 4294967280) (w : World) (hm : Mx w) :
    Calls Tryd.prog 35 #[.string ⟨l.toArray⟩, .string ⟨#[a]⟩, .string ⟨#[c]⟩] w fun e w' => e = .returned (.string ⟨(Nm.turn a c l).toArray⟩) ∧ Below w.heap.size w w' := by
  obtain ⟨m, hm⟩ := hm
  have h0 : (⟨l.toArray⟩ : ByteArray).size = l.length := by show l.toArray.size = _; simp
  have hc : Lib.countB ⟨l.toArray⟩ ⟨#[a]⟩ ≤ l.length := h0 ▸ Lib.countB_le (⟨#[a]⟩ : ByteArray) (Nat.le_refl 1) l.length ⟨l.toArray⟩ (by rw [h0]; exact Nat.le_refl _)
  refine (Tryd.strings_ReplaceAll ⟨l.toArray⟩ ⟨#[a]⟩ ⟨#[c]⟩ m w (len_lt hl) hm (Nat.le_refl 1) (by rw [h0]; show l.length + _ * 1 ≤ _; omega)).mono ?_
  rintro e w' ⟨rfl, hb⟩
  refine ⟨?_, hb⟩
  show Ending.returned (.string ⟨(Lib.replaceAll l.toArray.toList [a] [c]).toArray⟩) = _
  rw [List.toList_toArray, Nm.replaceAll_turn a c h]
theorem contains46 (l : List UInt8) (w : World) :
    Calls Tryd.prog 57 #[.string ⟨l.toArray⟩, .string ⟨#[46]⟩] w fun e w' => e = .returned (.bool (!Nm.noDot l)) ∧ w' = w := by
  refine (Tryd.strings_Contains_one ⟨l.toArray⟩ 46 w).mono ?_
  rintro e w' ⟨rfl, hw⟩
  refine ⟨?_, hw⟩
  show Ending.returned (.bool (decide (0 ≤ Lib.indexByte l.toArray.toList 46))) = _
  rw [List.toList_toArray, Nm.index_neg]
theorem count46 (l : List UInt8) (w : World) :
    Calls Tryd.prog 37 #[.string ⟨l.toArray⟩, .string ⟨#[46]⟩] w fun e w' => e = .returned (.int .i64 (((Nm.pt l).length : Int) - 1)) ∧ w' = w := by
  refine (Tryd.strings_Count_one ⟨l.toArray⟩ 46 w).mono ?_
  rintro e w' ⟨rfl, hw⟩
  refine ⟨?_, hw⟩
  show Ending.returned (.int .i64 ((l.toArray.toList.count 46 : Nat) : Int)) = _
  rw [List.toList_toArray, Nm.pt_length]
  congr 2
  omega
theorem cutDot (l : List UInt8) (hl : l.length ≤ 4294967280) (w : World) (hm : Mx w) :
    Calls Tryd.prog 45 #[.string ⟨l.toArray⟩, .string ⟨#[46]⟩] w fun e w' => e = .returned (.tuple #[.string ⟨(if Nm.dotted l then Nm.ahead l else l).toArray⟩, .string ⟨(if Nm.dotted l then Nm.behind l else []).toArray⟩, .bool (Nm.dotted l)]) ∧ Below w.heap.size w w' := by
  obtain ⟨m, hm⟩ := hm
  refine (Tryd.strings_Cut ⟨l.toArray⟩ ⟨#[46]⟩ m w (len_lt hl) hm).mono ?_
  rintro e w' ⟨rfl, n, rfl⟩
  refine ⟨?_, ⟨rfl, rfl, rfl, Nat.le_refl _, fun _ _ => rfl⟩⟩
  show Ending.returned (.tuple #[.string ⟨(Lib.cut l.toArray.toList [46]).1.toArray⟩, .string ⟨(Lib.cut l.toArray.toList [46]).2.1.toArray⟩, .bool (Lib.cut l.toArray.toList [46]).2.2]) = _
  rw [List.toList_toArray, Nm.cut_dot]
  cases Nm.dotted l <;> rfl

set_option maxHeartbeats 400000 in
theorem clone_str (l : List UInt8) (hl : l.length ≤ 4294967280) (w : World) :
    Calls Tryd.prog 64 #[.string ⟨l.toArray⟩] w fun e w' => e = .returned (.string ⟨l.toArray⟩) ∧ Below w.heap.size w w' := by
  have H := Lib.hid (fun W => Tryd.stringslite_Clone ⟨l.toArray⟩ W (by show l.toArray.size ≤ _; simp; omega))
  go_enter Tryd.func64, Tryd.ntmps64
  go_wp2_with (go_at_call 79; go_must (refine (H.out _).mono ?_; rintro e w' ⟨rfl, hb⟩))
  go_ret
  exact ⟨rfl, hb⟩

/-! ## a Builder of the call's own -/
/-- It holds these bytes. -/
def Bld (base : Nat) (b : Nat) (l : List UInt8) (w : World) : Prop := Lib.IsBuilder 43 5 base b (Lib.byteCells l) w
theorem Bld.new (w : World) : Bld w.heap.size w.heap.size [] (w.alloc (.cells #[.pointer none, .slice none 0 0] 43)) := Lib.fresh_isBuilder _ _ _
theorem Bld.below {base b : Nat} {l : List UInt8} {w w' : World} (h : Bld base b l w) (hb : Below w.heap.size w w') : Bld base b l w' := by
  have key : ∀ p, Lib.BuilderAt 43 5 base b p (Lib.byteCells l) w → Lib.BuilderAt 43 5 base b p (Lib.byteCells l) w' := fun p hp => by
    have hlt := hp.lt
    obtain ⟨h1, v, h2, h3, h4⟩ := hp
    refine ⟨h1, v, (hb.block b hlt).trans h2, owns_keep h3 fun g hg => hb.block g ?_, h4⟩
    rcases h3.2 with ⟨rfl, _⟩ | ⟨g', cap, cur, rfl, _, hh, _⟩
    · cases hg
    · have : g' = g := by simpa [Value.ownBlock] using hg
      subst this
      exact (Array.getElem?_eq_some_iff.1 hh).1
  rcases h with h | h
  · exact .inl (key _ h)
  · exact .inr (key _ h)
theorem write_str {base b : Nat} {l : List UInt8} {w : World} (h : Bld base b l w) (s : List UInt8) (hl : l.length + s.length ≤ 140737488355328) (hB : base ≤ w.heap.size) :
    Calls Tryd.prog 69 #[.pointer (some ⟨b, 0, none⟩), .string ⟨s.toArray⟩] w fun e w' => e = .returned (.tuple #[.int .i64 s.length, .nilIface]) ∧ Bld base b (l ++ s) w' ∧ Below base w w' := by
  refine (Tryd.Builder_WriteString base b _ ⟨s.toArray⟩ w h (by rw [Lib.byteCells_length]; show l.length + s.toArray.size ≤ _; simpa using hl) hB).mono ?_
  rintro e w' ⟨rfl, h1, h2⟩
  refine ⟨?_, .inr ?_, h2⟩
  · show Ending.returned (.tuple #[.int .i64 ((s.toArray.size : Nat) : Int), .nilIface]) = _
    rw [List.size_toArray]
  · rw [Lib.byteCells_append]; exact h1
theorem string_str {base b : Nat} {l : List UInt8} {w : World} (h : Bld base b l w) (hB : base ≤ w.heap.size) :
    Calls Tryd.prog 23 #[.pointer (some ⟨b, 0, none⟩)] w fun e w' => e = .returned (.string ⟨l.toArray⟩) ∧ Below base w w' :=
  Tryd.Builder_String_any base b l w h hB
end Go.Proofs.YtobkddekfcgclaaDoor
