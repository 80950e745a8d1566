/-
  WALKS: chapter 8's laws of files and of parts from the end.
-/
import Derived.Test.YtfaekckenlkhnaaDoorNmLaw
namespace Go.Proofs.YtfaekckenlkhnaaDoor
open Go.RowKit
open Me

namespace Nm
theorem fl_len (s : List UInt8) : (fl s).length = s.length + 4 := by unfold fl wsp; rw [List.length_append, turn_len]; rfl
theorem stem_fl (s : List UInt8) : stem (fl s) = turn 46 47 s := stem_app _
theorem ends_fl (s : List UInt8) : ends (fl s) = true := ends_app _
theorem noDot_turn (s : List UInt8) : noDot (turn 46 47 s) = true := by
  unfold noDot turn
  rw [List.all_map, List.all_eq_true]
  intro b _
  show (if b = 46 then (47 : UInt8) else b) != 46
  by_cases h : b = 46
  · rw [if_pos h]; rfl
  · rw [if_neg h]; simpa using h
theorem turn_there {s : List UInt8} (h : ∀ b ∈ s, b ≠ 47) : turn 47 46 (turn 46 47 s) = s := by
  unfold turn
  rw [List.map_map]
  conv => rhs; rw [← List.map_id s]
  apply List.map_congr_left
  intro b hb
  have := h b hb
  by_cases e : b = 46
  · subst e; rfl
  · show (if (if b = 46 then (47 : UInt8) else b) = 47 then (46 : UInt8) else (if b = 46 then 47 else b)) = b
    rw [if_neg e, if_neg this]
theorem file_own {s : List UInt8} (h : is s = true) : fOk (fl s) = true ∧ fOf (fl s) = s := by
  have e := turn_there (no_slash h)
  have h1 : fOk (fl s) = true := by unfold fOk; rw [ends_fl, stem_fl, noDot_turn, e, h]; rfl
  exact ⟨h1, by unfold fOf; rw [h1, stem_fl, e]; rfl⟩
theorem file_back {s : List UInt8} (h : fOk (fl s) = true) : fl (fOf (fl s)) = fl s := by
  have hd : noDot (stem (fl s)) = true := by rw [stem_fl]; exact noDot_turn s
  have := (fl_back (ends_fl s)).2 hd
  unfold fOf
  rw [h]
  exact this
theorem fOf_len (s : List UInt8) : (fOf (fl s)).length ≤ s.length := by
  unfold fOf
  split
  · rw [stem_fl, turn_len, turn_len]; exact Nat.le_refl _
  · exact Nat.zero_le _
end Nm
/-- Of, its result written out. -/
theorem of_out (f : List UInt8) (hl : f.length ≤ 4294967270) (w : World) (hm : Mx w) :
    Calls Tryd.prog 17 #[.string ⟨f.toArray⟩] w fun e w' => e = .returned (.tuple #[.string ⟨(Nm.fOf f).toArray⟩, .bool (Nm.fOk f)]) ∧ Below w.heap.size w w' := of_any f hl w hm
theorem refOf_out (f : List UInt8) (hl : f.length ≤ 4294967270) (w : World) :
    Calls Tryd.prog 18 #[.string ⟨f.toArray⟩] w fun e w' => e = .returned (.tuple #[.string ⟨(Nm.fOf f).toArray⟩, .bool (Nm.fOk f)]) ∧ Below w.heap.size w w' := refOf_any f hl w

set_option maxHeartbeats 2000000 in
theorem lawFiles8 (s : List UInt8) (w : World) (hm : Mx w) :
    Calls Tryd.prog 5 #[.string ⟨s.toArray⟩] w fun e w' => e = .returned (.bool true) ∧ Below w.heap.size w w' := by
  have hs : (⟨s.toArray⟩ : ByteArray).size = s.length := by show s.toArray.size = _; simp
  by_cases h4 : 400 < s.length
  · have h4' : (400 : Int) < (s.length : Int) := by omega
    clear h4
    go_enter Tryd.func5, Tryd.ntmps5
    go_wp2_with fail
    go_ret
    exact ⟨rfl, Below.refl _ _⟩
  · have h4' : ¬ (400 : Int) < (s.length : Int) := by omega
    have HM : Hid (∀ W, Below w.heap.size w W → Mx W) := Lib.hid fun W h => hm.below h
    have HO := Lib.hid (of_out s (by omega) w hm)
    have HRO := Lib.hid (fun W => refOf_out s (by omega) W)
    have HF := Lib.hid (fun W (h : Mx W) => file_any s (by omega) W h)
    have HRF := Lib.hid (fun W => refFile_any s (by omega) W)
    have HO2 := Lib.hid (fun W (h : Mx W) => of_out (Nm.fl s) (by rw [Nm.fl_len]; omega) W h)
    have HF2 := Lib.hid (fun W (h : Mx W) => file_any (Nm.fOf (Nm.fl s)) (by have := Nm.fOf_len s; omega) W h)
    have HRI := Lib.hid (fun W => refIs_any s (by omega) W)
    have HBk := Lib.hid (@Nm.file_back s)
    have HOw := Lib.hid (@Nm.file_own s)
    have hself : (s == s) = true := by simp
    clear h4 hm
    generalize Nm.fOf (Nm.fl s) = c at *
    generalize Nm.fOk (Nm.fl s) = has at *
    generalize Nm.fOf s = a at *
    generalize Nm.fOk s = ok at *
    have hselfa : (a == a) = true := by simp
    have hselfok : (ok == ok) = true := by simp
    cases has
    · have hi : Nm.is s = false := by
        cases h : Nm.is s
        · rfl
        · have := (HOw.out h).1; cases this
      rw [hi] at HRI
      clear hi HF2 HBk HOw
      generalize Nm.fl s = fs at *
      have hselff : (fs == fs) = true := by simp
      go_enter Tryd.func5, Tryd.ntmps5
      go_wp2_with first
        | (go_at_call 17; ((with_reducible refine (HO.out).mono ?_); rintro e w1 ⟨rfl, hb1⟩))
        | (go_at_call 18; go_must (refine (HRO.out _).mono ?_; rintro e w2 ⟨rfl, hb2⟩; have hB2 := hb1.trans (hb2.mono hb1.size)))
        | (go_at_call 19; ((with_reducible refine (HF.out w2 (HM.out _ hB2)).mono ?_); rintro e w3 ⟨rfl, hb3⟩; have hB3 := hB2.trans (hb3.mono hB2.size)))
        | (go_at_call 17; go_must (refine (HO2.out _ (HM.out _ hB3)).mono ?_; rintro e w4 ⟨rfl, hb4⟩; have hB4 := hB3.trans (hb4.mono hB3.size)))
        | (go_at_call 19; ((with_reducible refine (HF.out w4 (HM.out _ hB4)).mono ?_); rintro e w5 ⟨rfl, hb5⟩; have hB5 := hB4.trans (hb5.mono hB4.size)))
        | (go_at_call 20; go_must (refine (HRF.out _).mono ?_; rintro e w6 ⟨rfl, hb6⟩; have hB6 := hB5.trans (hb6.mono hB5.size)))
        | (go_at_call 9; go_must (refine (HRI.out _).mono ?_; rintro e w9 ⟨rfl, hb9⟩; have hB9 := hB6.trans (hb9.mono hB6.size)))
        | (go_at_call 15; go_must (refine (known8_any _ (HM.out _ hB9)).mono ?_; rintro e wk ⟨rfl, hbk⟩; have hBk := hB9.trans (hbk.mono hB9.size)))
      go_ret
      exact ⟨rfl, hBk⟩
    · have hbk := HBk.out rfl
      rw [hbk] at HF2
      cases hi : Nm.is s
      · rw [hi] at HRI
        clear hi hbk HBk HOw
        generalize Nm.fl s = fs at *
        have hselff : (fs == fs) = true := by simp
        go_enter Tryd.func5, Tryd.ntmps5
        go_wp2_with first
          | (go_at_call 17; ((with_reducible refine (HO.out).mono ?_); rintro e w1 ⟨rfl, hb1⟩))
          | (go_at_call 18; go_must (refine (HRO.out _).mono ?_; rintro e w2 ⟨rfl, hb2⟩; have hB2 := hb1.trans (hb2.mono hb1.size)))
          | (go_at_call 19; ((with_reducible refine (HF.out w2 (HM.out _ hB2)).mono ?_); rintro e w3 ⟨rfl, hb3⟩; have hB3 := hB2.trans (hb3.mono hB2.size)))
          | (go_at_call 17; go_must (refine (HO2.out _ (HM.out _ hB3)).mono ?_; rintro e w4 ⟨rfl, hb4⟩; have hB4 := hB3.trans (hb4.mono hB3.size)))
          | (go_at_call 19; ((with_reducible refine (HF.out w4 (HM.out _ hB4)).mono ?_); rintro e w5 ⟨rfl, hb5⟩; have hB5 := hB4.trans (hb5.mono hB4.size)))
          | (go_at_call 20; go_must (refine (HRF.out _).mono ?_; rintro e w6 ⟨rfl, hb6⟩; have hB6 := hB5.trans (hb6.mono hB5.size)))
          | (go_at_call 19; ((with_reducible refine (HF2.out w6 (HM.out _ hB6)).mono ?_); rintro e w7 ⟨rfl, hb7⟩; have hB7 := hB6.trans (hb7.mono hB6.size)))
          | (go_at_call 19; ((with_reducible refine (HF.out w7 (HM.out _ hB7)).mono ?_); rintro e w8 ⟨rfl, hb8⟩; have hB8 := hB7.trans (hb8.mono hB7.size)))
          | (go_at_call 9; go_must (refine (HRI.out _).mono ?_; rintro e w9 ⟨rfl, hb9⟩; have hB9 := hB8.trans (hb9.mono hB8.size)))
          | (go_at_call 15; go_must (refine (known8_any _ (HM.out _ hB9)).mono ?_; rintro e wk ⟨rfl, hbk⟩; have hBk := hB9.trans (hbk.mono hB9.size)))
        go_ret
        exact ⟨rfl, hBk⟩
      · have hcs := (HOw.out hi).2
        subst hcs
        rw [hi] at HRI
        clear hi hbk HBk HOw
        generalize Nm.fl c = fs at *
        have hselff : (fs == fs) = true := by simp
        go_enter Tryd.func5, Tryd.ntmps5
        go_wp2_with first
          | (go_at_call 17; ((with_reducible refine (HO.out).mono ?_); rintro e w1 ⟨rfl, hb1⟩))
          | (go_at_call 18; go_must (refine (HRO.out _).mono ?_; rintro e w2 ⟨rfl, hb2⟩; have hB2 := hb1.trans (hb2.mono hb1.size)))
          | (go_at_call 19; ((with_reducible refine (HF.out w2 (HM.out _ hB2)).mono ?_); rintro e w3 ⟨rfl, hb3⟩; have hB3 := hB2.trans (hb3.mono hB2.size)))
          | (go_at_call 17; go_must (refine (HO2.out _ (HM.out _ hB3)).mono ?_; rintro e w4 ⟨rfl, hb4⟩; have hB4 := hB3.trans (hb4.mono hB3.size)))
          | (go_at_call 19; ((with_reducible refine (HF.out w4 (HM.out _ hB4)).mono ?_); rintro e w5 ⟨rfl, hb5⟩; have hB5 := hB4.trans (hb5.mono hB4.size)))
          | (go_at_call 20; go_must (refine (HRF.out _).mono ?_; rintro e w6 ⟨rfl, hb6⟩; have hB6 := hB5.trans (hb6.mono hB5.size)))
          | (go_at_call 19; ((with_reducible refine (HF2.out w6 (HM.out _ hB6)).mono ?_); rintro e w7 ⟨rfl, hb7⟩; have hB7 := hB6.trans (hb7.mono hB6.size)))
          | (go_at_call 19; ((with_reducible refine (HF.out w7 (HM.out _ hB7)).mono ?_); rintro e w8 ⟨rfl, hb8⟩; have hB8 := hB7.trans (hb8.mono hB7.size)))
          | (go_at_call 9; go_must (refine (HRI.out _).mono ?_; rintro e w9 ⟨rfl, hb9⟩; have hB9 := hB8.trans (hb9.mono hB8.size)))
          | (go_at_call 15; go_must (refine (known8_any _ (HM.out _ hB9)).mono ?_; rintro e wk ⟨rfl, hbk⟩; have hBk := hB9.trans (hbk.mono hB9.size)))
        go_ret
        exact ⟨rfl, hBk⟩

set_option maxHeartbeats 2000000 in
theorem lawNodes8 (s : List UInt8) (i : Int) (w : World) (hm : Mx w) :
    Calls Tryd.prog 6 #[.string ⟨s.toArray⟩, .int .i64 i] w fun e w' => e = .returned (.bool true) ∧ Below w.heap.size w w' := by
  have hs : (⟨s.toArray⟩ : ByteArray).size = s.length := by show s.toArray.size = _; simp
  have early : (400 < s.length ∨ i < 0 ∨ 500 < i) → Calls Tryd.prog 6 #[.string ⟨s.toArray⟩, .int .i64 i] w fun e w' => e = .returned (.bool true) ∧ Below w.heap.size w w' := by
    intro h
    by_cases h1 : 400 < s.length
    · have h1' : (400 : Int) < (s.length : Int) := by omega
      clear h h1
      go_enter Tryd.func6, Tryd.ntmps6
      go_wp2_with fail
      go_ret
      exact ⟨rfl, Below.refl _ _⟩
    · have h1' : ¬ (400 : Int) < (s.length : Int) := by omega
      by_cases h2 : i < 0
      · clear h h1
        go_enter Tryd.func6, Tryd.ntmps6
        go_wp2_with fail
        go_ret
        exact ⟨rfl, Below.refl _ _⟩
      · have h3 : 500 < i := by omega
        clear h h1
        go_enter Tryd.func6, Tryd.ntmps6
        go_wp2_with fail
        go_ret
        exact ⟨rfl, Below.refl _ _⟩
  by_cases he : 400 < s.length ∨ i < 0 ∨ 500 < i
  · exact early he
  · clear early
    have h1' : ¬ (400 : Int) < (s.length : Int) := by omega
    have h2' : ¬ i < 0 := by omega
    have h3' : ¬ 500 < i := by omega
    have hsl : s.length ≤ 400 := by omega
    have HM : Hid (∀ W, Below w.heap.size w W → Mx W) := Lib.hid fun W h => hm.below h
    have HRP := Lib.hid (refParts_any s (by omega) w)
    have hNb : ((Nm.pt s).length : Int) ≤ 401 := by have := Nm.pt_len s; omega
    have hpos : 0 < (Nm.pt s).length := List.length_pos_iff.2 (Nm.pt_ne s)
    have HN := Lib.hid (fun q (a : -9223372036854775808 ≤ q) (b : q ≤ 9223372036854775807) W (h : Mx W) => node_any s (by omega) q a b W h)
    have HRd := Lib.hid (fun base W v => @rd_own base W v (Nm.pt s))
    clear he hm
    by_cases hn : ((Nm.pt s).length : Int) ≤ i
    · have e1 := Nm.nd_far s i hn
      have e2 := Nm.nd_ahead s (-i - 1) (by omega)
      have HN1 := Lib.hid (HN.out i (by omega) (by omega))
      have HN2 := Lib.hid (HN.out (-i - 1) (by omega) (by omega))
      rw [e1] at HN1
      rw [e2] at HN2
      clear e1 e2 HN
      generalize Nm.pt s = L at *
      go_enter Tryd.func6, Tryd.ntmps6
      go_wp2_with (go_at_call 11; go_must (refine (HRP.out).mono ?_; rintro e w1 ⟨v, rfl, ho1, hb1⟩; obtain ⟨A, c, rfl, hr1⟩ := HRd.out _ _ _ ho1))
      clear ho1 hr1
      go_wp2_with first
        | (go_at_call 13; ((with_reducible refine (HN1.out w1 (HM.out _ hb1)).mono ?_); rintro e w2 ⟨rfl, hb2⟩; have hB2 := hb1.trans (hb2.mono hb1.size)))
        | (go_at_call 13; ((with_reducible refine (HN2.out w2 (HM.out _ hB2)).mono ?_); rintro e w3 ⟨rfl, hb3⟩; have hB3 := hB2.trans (hb3.mono hB2.size)))
        | (go_at_call 15; go_must (refine (known8_any _ (HM.out _ hB3)).mono ?_; rintro e wk ⟨rfl, hbk⟩; have hBk := hB3.trans (hbk.mono hB3.size)))
      go_ret
      exact ⟨rfl, hBk⟩
    · have e2 := Nm.nd_neg s (i - (Nm.pt s).length) (by omega) (by omega)
      rw [Int.sub_add_cancel] at e2
      have HN1 := Lib.hid (HN.out i (by omega) (by omega))
      have HN2 := Lib.hid (HN.out (i - (Nm.pt s).length) (by omega) (by omega))
      rw [e2] at HN2
      clear e2 HN
      generalize Nm.nd s i = nd at *
      have hself : (nd == nd) = true := by simp
      generalize Nm.pt s = L at *
      go_enter Tryd.func6, Tryd.ntmps6
      go_wp2_with (go_at_call 11; go_must (refine (HRP.out).mono ?_; rintro e w1 ⟨v, rfl, ho1, hb1⟩; obtain ⟨A, c, rfl, hr1⟩ := HRd.out _ _ _ ho1))
      clear ho1 hr1
      go_wp2_with first
        | (go_at_call 13; ((with_reducible refine (HN1.out w1 (HM.out _ hb1)).mono ?_); rintro e w2 ⟨rfl, hb2⟩; have hB2 := hb1.trans (hb2.mono hb1.size)))
        | (go_at_call 13; ((with_reducible refine (HN2.out w2 (HM.out _ hB2)).mono ?_); rintro e w3 ⟨rfl, hb3⟩; have hB3 := hB2.trans (hb3.mono hB2.size)))
        | (go_at_call 15; go_must (refine (known8_any _ (HM.out _ hB3)).mono ?_; rintro e wk ⟨rfl, hbk⟩; have hBk := hB3.trans (hbk.mono hB3.size)))
      go_ret
      exact ⟨rfl, hBk⟩
end Go.Proofs.YtfaekckenlkhnaaDoor
