/-
  CONTRACTS: what package lex calls of package strings, in lists of bytes.
-/
import Derived.Test.YtojmcndiooiehaaDoorShelf5
import Derived.Test.YtojmcndiooiehaaDoorLxP
import Derived.Test.YtojmcndiooiehaaDoorOwnB
import Derived.Laws.Strings3
import Derived.Lib.IndexBytes
namespace Go.Proofs.YtojmcndiooiehaaDoor
open Go.RowKit
open Me

namespace Lx
theorem ret_bool {a b : Bool} (h : a = b) : Ending.returned (.bool a) = .returned (.bool b) := by rw [h]
theorem index_idx (q : UInt8) (l : List UInt8) : Lib.indexByte l q = if idx q l < l.length then (idx q l : Int) else -1 := by
  induction l with
  | nil => rfl
  | cons a t ih =>
    have h1 : Lib.indexByte (a :: t) q = if (a == q) = true then 0 else if (Lib.indexByte t q == -1) = true then -1 else Lib.indexByte t q + 1 := rfl
    have h2 : idx q (a :: t) = if (a == q) = true then 0 else idx q t + 1 := by
      unfold idx
      rw [List.takeWhile_cons]
      by_cases h : a = q
      · subst h; simp
      · simp [h]
    rw [h1, h2, ih]
    have hl : (a :: t).length = t.length + 1 := rfl
    rw [hl]
    by_cases h : (a == q) = true
    · simp only [h, if_true]
      simp
    · rw [if_neg h, if_neg h]
      by_cases h3 : idx q t < t.length
      · have h4 : ¬ (((idx q t : Int) == -1) = true) := by simp
        rw [if_pos h3, if_neg h4, if_pos (Nat.succ_lt_succ h3)]
        simp
      · rw [if_neg h3, if_pos (show ((-1 : Int) == -1) = true from rfl), if_neg (fun e => h3 (Nat.lt_of_succ_lt_succ e))]
theorem index_has (l : List UInt8) (c : UInt8) : decide (0 ≤ Lib.indexByte l c) = l.contains c := by
  induction l with
  | nil => rfl
  | cons a t ih =>
    have h1 : Lib.indexByte (a :: t) c = if (a == c) = true then 0 else if (Lib.indexByte t c == -1) = true then -1 else Lib.indexByte t c + 1 := rfl
    rw [h1]
    have h0 := Lib.indexByte_ge t c
    by_cases h : (a == c) = true
    · rw [if_pos h]
      have : a = c := by simpa using h
      subst this
      simp
    · rw [if_neg h]
      have h5 : (a :: t).contains c = t.contains c := by
        rw [List.contains_cons]
        have : (c == a) = false := by
          rw [Bool.eq_false_iff]; intro e; exact h (by simpa using (by simpa using e : c = a).symm)
        rw [this, Bool.false_or]
      rw [h5, ← ih]
      by_cases h3 : (Lib.indexByte t c == -1) = true
      · rw [if_pos h3]
        have : Lib.indexByte t c = -1 := by simpa using h3
        rw [this]
      · rw [if_neg h3]
        have : ¬ Lib.indexByte t c = -1 := by simpa using h3
        have e1 : 0 ≤ Lib.indexByte t c := by omega
        rw [decide_eq_true e1, decide_eq_true (show 0 ≤ Lib.indexByte t c + 1 by omega)]
theorem trim_skip (l : List UInt8) : Lib.trimLeftS l [32, 9] = skipB l := by
  unfold Lib.trimLeftS skipB
  congr 1
  funext c
  unfold blank
  simp [List.contains_cons]
  rfl
end Lx

theorem trimLeft_blanks (l : List UInt8) (w : World) :
    Calls Tryd.prog 23 #[.string ⟨l.toArray⟩, .string ⟨#[32, 9]⟩] w fun e w' => e = .returned (.string ⟨(Lx.skipB l).toArray⟩) ∧ Below w.heap.size w w' := by
  refine (Tryd.strings_TrimLeft_laid ⟨l.toArray⟩ ⟨#[32, 9]⟩ w (by decide) (ascii_of_all (by decide))).mono ?_
  rintro e w' ⟨rfl, hb⟩
  refine ⟨?_, hb⟩
  show Ending.returned (.string ⟨(Lib.trimLeftS l.toArray.toList [32, 9]).toArray⟩) = _
  rw [List.toList_toArray, Lx.trim_skip]
theorem cutPrefix_one (l : List UInt8) (c : UInt8) (w : World) :
    Calls Tryd.prog 43 #[.string ⟨l.toArray⟩, .string ⟨#[c]⟩] w fun e w' => e = .returned (.tuple #[.string ⟨(Lx.cutH c l).toArray⟩, .bool (Lx.hdIs c l)]) ∧ w' = w := by
  refine (Tryd.strings_CutPrefix ⟨l.toArray⟩ ⟨#[c]⟩ w).mono ?_
  rintro e w' ⟨rfl, hw⟩
  refine ⟨?_, hw⟩
  show Ending.returned (.tuple #[.string ⟨(Lib.trimPrefix l.toArray.toList [c]).toArray⟩, .bool (Lib.hasPrefix l.toArray.toList [c])]) = _
  rw [List.toList_toArray]
  have h1 : Lib.hasPrefix l [c] = Lx.hdIs c l := by
    cases l with
    | nil => rfl
    | cons b r =>
      show (c == b && List.isPrefixOf [] r) = decide (b = c)
      rw [List.isPrefixOf_nil_left, Bool.and_true]
      by_cases h : b = c
      · subst h; simp
      · rw [decide_eq_false h]; simpa using fun e => h e.symm
  have h2 : Lib.trimPrefix l [c] = Lx.cutH c l := by
    unfold Lib.trimPrefix Lx.cutH
    rw [h1]
    rfl
  rw [h1, h2]
theorem index_one (l : List UInt8) (q : UInt8) (w : World) :
    Calls Tryd.prog 44 #[.string ⟨l.toArray⟩, .string ⟨#[q]⟩] w fun e w' => e = .returned (.int .i64 (if Lx.idx q l < l.length then (Lx.idx q l : Int) else -1)) ∧ w' = w := by
  refine (Tryd.strings_Index_one ⟨l.toArray⟩ q w).mono ?_
  rintro e w' ⟨rfl, hw⟩
  refine ⟨?_, hw⟩
  show Ending.returned (.int .i64 (Lib.indexByte l.toArray.toList q)) = _
  rw [List.toList_toArray, Lx.index_idx]
theorem contains_one (l : List UInt8) (q : UInt8) (w : World) :
    Calls Tryd.prog 38 #[.string ⟨l.toArray⟩, .string ⟨#[q]⟩] w fun e w' => e = .returned (.bool (l.contains q)) ∧ w' = w := by
  refine (Tryd.strings_Contains_one ⟨l.toArray⟩ q w).mono ?_
  rintro e w' ⟨rfl, hw⟩
  refine ⟨?_, hw⟩
  show Ending.returned (.bool (decide (0 ≤ Lib.indexByte l.toArray.toList q))) = _
  rw [List.toList_toArray, Lx.index_has]
theorem indexByte_at (l : List UInt8) (c : UInt8) (w : World) :
    Calls Tryd.prog 61 #[.string ⟨l.toArray⟩, .int .u8 (c.toNat : Int)] w fun e w' => e = .returned (.int .i64 (Lib.indexByte l c)) ∧ w' = w := by
  refine (Tryd.strings_IndexByte ⟨l.toArray⟩ (c.toNat : Int) w).mono ?_
  rintro e w' ⟨rfl, hw⟩
  refine ⟨?_, hw⟩
  show Ending.returned (.int .i64 (Lib.indexByte l.toArray.toList (c.toNat : Int).toNat.toUInt8)) = _
  rw [List.toList_toArray, Int.toNat_natCast]
  have : c.toNat.toUInt8 = c := by simp
  rw [this]

set_option maxHeartbeats 400000 in
theorem lclone_str (l : List UInt8) (hl : l.length ≤ 4294967280) (w : World) :
    Calls Tryd.prog 60 #[.string ⟨l.toArray⟩] w fun e w' => e = .returned (.string ⟨l.toArray⟩) ∧ Below w.heap.size w w' := by
  have H := Lib.hid (fun W => Tryd.stringslite_Clone ⟨l.toArray⟩ W (by show l.toArray.size ≤ _; simp; omega))
  go_enter Tryd.func60, Tryd.ntmps60
  go_wp2_with (go_at_call 77; go_must (refine (H.out _).mono ?_; rintro e w' ⟨rfl, hb⟩))
  go_ret
  exact ⟨rfl, hb⟩
end Go.Proofs.YtojmcndiooiehaaDoor
