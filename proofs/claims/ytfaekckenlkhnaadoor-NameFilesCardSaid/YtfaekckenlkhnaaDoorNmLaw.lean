/-
  WALKS: chapter 8's laws: texts, known, and the four statements behind their conditions.
-/
import Derived.Test.YtfaekckenlkhnaaDoorNmRef2
import Derived.RegionTactic
namespace Go.Proofs.YtfaekckenlkhnaaDoor
open Go.RowKit
open Me

theorem rd_own {base : Nat} {w : World} {v : Value} {l : List (List UInt8)} (h : OwnS base w v l) : ∃ A c, v = .slice A l.length c ∧ Rd w (fun _ => True) A (byS l) := by
  obtain ⟨A, c, rfl⟩ := h.slice
  exact ⟨A, c, rfl, (Rd.own h).mono fun _ _ _ => trivial⟩

set_option maxHeartbeats 1000000 in
theorem texts_same (l : List (List UInt8)) (A A' : Option Addr) (c c' : Nat) (hn : l.length ≤ 4294967296) (w : World) (h : Rd w (fun _ => True) A (byS l)) (h' : Rd w (fun _ => True) A' (byS l)) :
    Calls Tryd.prog 10 #[.slice A l.length c, .slice A' l.length c'] w fun e w' => e = .returned (.bool true) ∧ Below w.heap.size w w' := by
  have HR := Lib.hid h
  have HR' := Lib.hid h'
  clear h h'
  have hnl : (l.length : Int) ≤ 4294967296 := by omega
  go_enter Tryd.func10, Tryd.ntmps10
  go_wp2_with fail
  go_loopw [5] (fun i wr => ∃ k : Nat, k ≤ l.length ∧ i = .int .i64 k ∧ Below w.heap.size w wr) (fun i _ => l.length - (intOf i).toNat)
  case atStart => exact ⟨0, Nat.zero_le _, rfl, Below.refl _ _⟩
  case round =>
    obtain ⟨k, hk, rfl, hbel⟩ := hrel
    by_cases hlt : k < l.length
    · obtain ⟨lb, lo, rfl, hlb, _, hx⟩ := HR.out.lit k (by rw [byS_len]; omega)
      obtain ⟨lb', lo', rfl, hlb', _, hx'⟩ := HR'.out.lit k (by rw [byS_len]; omega)
      have ec := (hbel.cell (p := ⟨lb, lo + k, none⟩) hlb).trans (hx k _ (byS_get l k hlt))
      have ec' := (hbel.cell (p := ⟨lb', lo' + k, none⟩) hlb').trans (hx' k _ (byS_get l k hlt))
      clear hx hx'
      have hkl : (k : Int) < (l.length : Int) := by omega
      have hk0 : (0 : Int) ≤ (k : Int) := by omega
      generalize l[k] = p at *
      have hself : (p == p) = true := by simp
      go_wp2_with fail
      go_region
      all_goals
        go_wp2_with fail
        go_roundw
        case rel => exact ⟨k + 1, by omega, by go_num, hbel.drew⟩
        case measure => simp [intOf]; omega
    · obtain rfl : k = l.length := by omega
      go_wp2
      go_ret
      exact ⟨rfl, hbel⟩

set_option maxHeartbeats 1000000 in
theorem known8_any (w : World) (hm : Mx w) :
    Calls Tryd.prog 15 #[] w fun e w' => e = .returned (.bool true) ∧ Below w.heap.size w w' := by
  have HM := Lib.hid hm
  have HF : Hid (Calls Tryd.prog 19 #[.string ⟨#[97, 46, 98]⟩] w fun e w' => e = .returned (.string ⟨#[97, 47, 98, 46, 119, 115, 112]⟩) ∧ Below w.heap.size w w') := Lib.hid (by
    have := file_any [97, 46, 98] (by simp) w hm
    rw [show Nm.fl [97, 46, 98] = [97, 47, 98, 46, 119, 115, 112] by decide] at this
    exact this)
  have HN : Hid (∀ W, Mx W → Calls Tryd.prog 13 #[.string ⟨#[97, 46, 98, 46, 99]⟩, .int .i64 (-1)] W fun e w' => e = .returned (.string ⟨#[99]⟩) ∧ Below W.heap.size W w') := Lib.hid fun W h => by
    have := node_any [97, 46, 98, 46, 99] (by simp) (-1) (by omega) (by omega) W h
    rw [show Nm.nd [97, 46, 98, 46, 99] (-1) = [99] by decide] at this
    exact this
  clear hm
  go_enter Tryd.func15, Tryd.ntmps15
  go_wp2_with first
    | (go_at_call 19; go_must (refine (HF.out).mono ?_; rintro e w1 ⟨rfl, hb1⟩))
    | (go_at_call 13; go_must (refine (HN.out _ (HM.out.below hb1)).mono ?_; rintro e w2 ⟨rfl, hb2⟩))
  go_ret
  exact ⟨rfl, hb1.trans (hb2.mono hb1.size)⟩

set_option maxHeartbeats 2000000 in
theorem lawParts8 (s : List UInt8) (i : Int) (h0 : -9223372036854775808 ≤ i) (h1 : i ≤ 9223372036854775807) (w : World) (hm : Mx w) :
    Calls Tryd.prog 3 #[.string ⟨s.toArray⟩, .int .i64 i] w fun e w' => e = .returned (.bool true) ∧ Below w.heap.size w w' := by
  have hs : (⟨s.toArray⟩ : ByteArray).size = s.length := by show s.toArray.size = _; simp
  by_cases h4 : 400 < s.length
  · have h4' : (400 : Int) < (s.length : Int) := by omega
    clear h4
    go_enter Tryd.func3, Tryd.ntmps3
    go_wp2_with fail
    go_ret
    exact ⟨rfl, Below.refl _ _⟩
  · have h4' : ¬ (400 : Int) < (s.length : Int) := by omega
    have HM : Hid (∀ W, Below w.heap.size w W → Mx W) := Lib.hid fun W h => hm.below h
    have HP := Lib.hid (parts_any s (by omega) w hm)
    have HRP := Lib.hid (fun W => refParts_any s (by omega) W)
    have HI := Lib.hid (fun W (h : Mx W) => is_any s (by omega) W h)
    have HRI := Lib.hid (fun W => refIs_any s (by omega) W)
    have HN := Lib.hid (fun W (h : Mx W) => node_any s (by omega) i h0 h1 W h)
    have HRN := Lib.hid (fun W => refNode_any s (by omega) i h0 h1 W)
    have HT := Lib.hid (fun A A' c c' => texts_same (Nm.pt s) A A' c c' (by have := Nm.pt_len s; omega))
    have HJ := Lib.hid (fun A c w h => join_any (Nm.pt s) A c w h (by rw [Nm.jn_pt]; omega) (by have := Nm.pt_len s; omega))
    rw [Nm.jn_pt] at HJ
    have HRd := Lib.hid (fun base W v => @rd_own base W v (Nm.pt s))
    have hself : (s == s) = true := by simp
    clear h4 hm
    generalize Nm.is s = R at *
    generalize Nm.nd s i = nd at *
    generalize Nm.pt s = L at *
    have hselfn : (nd == nd) = true := by simp
    have hselfR : (R == R) = true := by simp
    go_enter Tryd.func3, Tryd.ntmps3
    go_wp2_with (go_at_call 7; go_must (refine (HP.out).mono ?_; rintro e w1 ⟨v, rfl, ho1, hb1⟩; obtain ⟨A, c, rfl, hr1⟩ := HRd.out _ _ _ ho1))
    have HR1 := Lib.hid hr1
    clear ho1 hr1
    go_wp2_with first
      | (go_at_call 8; go_must (refine (HI.out _ (HM.out _ hb1)).mono ?_; rintro e w2 ⟨rfl, hb2⟩; have hB2 := hb1.trans (hb2.mono hb1.size)))
      | (go_at_call 9; go_must (refine (HRI.out _).mono ?_; rintro e w3 ⟨rfl, hb3⟩; have hB3 := hB2.trans (hb3.mono hB2.size); have HR3 := Lib.hid ((HR1.out.below hb2).below hb3)))
      | (go_at_call 11; go_must (refine (HRP.out _).mono ?_; rintro e w4 ⟨v4, rfl, ho4, hb4⟩; obtain ⟨A4, c4, rfl, hr4⟩ := HRd.out _ _ _ ho4; have hB4 := hB3.trans (hb4.mono hB3.size); have HR4 := Lib.hid (HR3.out.below hb4); have HR4' := Lib.hid hr4; clear ho4 hr4))
      | (go_at_call 10; go_must (refine (HT.out _ _ _ _ _ HR4.out HR4'.out).mono ?_; rintro e w5 ⟨rfl, hb5⟩; have hB5 := hB4.trans (hb5.mono hB4.size); have HR5 := Lib.hid (HR4.out.below hb5)))
      | (go_at_call 12; go_must (refine (HJ.out _ _ _ HR5.out).mono ?_; rintro e w6 ⟨rfl, hb6⟩; have hB6 := hB5.trans (hb6.mono hB5.size)))
      | (go_at_call 13; go_must (refine (HN.out _ (HM.out _ hB6)).mono ?_; rintro e w7 ⟨rfl, hb7⟩; have hB7 := hB6.trans (hb7.mono hB6.size)))
      | (go_at_call 14; go_must (refine (HRN.out _).mono ?_; rintro e w8 ⟨rfl, hb8⟩; have hB8 := hB7.trans (hb8.mono hB7.size)))
      | (go_at_call 15; go_must (refine (known8_any _ (HM.out _ hB8)).mono ?_; rintro e w9 ⟨rfl, hb9⟩; have hB9 := hB8.trans (hb9.mono hB8.size)))
    go_ret
    exact ⟨rfl, hB9⟩
end Go.Proofs.YtfaekckenlkhnaaDoor
