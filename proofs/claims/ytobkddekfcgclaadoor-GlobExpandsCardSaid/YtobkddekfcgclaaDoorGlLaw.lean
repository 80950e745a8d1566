/-
  WALKS: chapter 9's laws: texts, known, and the statements on parts and on matching.
-/
import Derived.Test.YtobkddekfcgclaaDoorGlLawP
import Derived.Test.YtobkddekfcgclaaDoorGlRMt
import Derived.RegionTactic
namespace Go.Proofs.YtobkddekfcgclaaDoor
open Go.RowKit
open Me

theorem rd_own {base : Nat} {w : World} {v : Value} {l : List (List UInt8)} (h : OwnS base w v l) : ∃ A c, v = .slice A l.length c ∧ Rd w (fun _ => True) A (byS l) := by
  obtain ⟨A, c, rfl⟩ := h.slice
  exact ⟨A, c, rfl, (Rd.own h).mono fun _ _ _ => trivial⟩

set_option maxHeartbeats 1000000 in
theorem texts_same (l : List (List UInt8)) (A A' : Option Addr) (c c' : Nat) (hn : l.length ≤ 4294967296) (w : World) (h : Rd w (fun _ => True) A (byS l)) (h' : Rd w (fun _ => True) A' (byS l)) :
    Calls Tryd.prog 11 #[.slice A l.length c, .slice A' l.length c'] w fun e w' => e = .returned (.bool true) ∧ Below w.heap.size w w' := by
  have HR := Lib.hid h
  have HR' := Lib.hid h'
  clear h h'
  have hnl : (l.length : Int) ≤ 4294967296 := by omega
  go_enter Tryd.func11, Tryd.ntmps11
  go_wp2_with fail
  go_loopw [5] (fun i wr => ∃ k : Nat, k ≤ l.length ∧ i = .int .i64 k ∧ Below w.heap.size w wr) (fun i _ => l.length - (intOf i).toNat)
  case atStart => exact ⟨0, Nat.zero_le _, rfl, Below.refl _ _⟩
  case round =>
    obtain ⟨k, hk, rfl, hbel⟩ := hrel
    by_cases hlt : k < l.length
    · obtain ⟨lb, lo, rfl, hlb, _, hx⟩ := HR.out.lit k (by rw [byS_len]; omega)
      obtain ⟨lb', lo', rfl, hlb', _, hx'⟩ := HR'.out.lit k (by rw [byS_len]; omega)
      have ec := (hbel.cell (p := ⟨lb, lo + k, none⟩) hlb).trans (hx k _ (byS_get l k hlt))
      have ec' := (hbel.cell (p := ⟨lb', lo' + k, none⟩) hlb').trans (hx' k _ (byS_get l k hlt))
      clear hx hx'
      have hkl : (k : Int) < (l.length : Int) := by omega
      have hk0 : (0 : Int) ≤ (k : Int) := by omega
      generalize l[k] = p at *
      have hself : (p == p) = true := by simp
      go_wp2_with fail
      go_region
      all_goals
        go_wp2_with fail
        go_roundw
        case rel => exact ⟨k + 1, by omega, by go_num, hbel.drew⟩
        case measure => simp [intOf]; omega
    · obtain rfl : k = l.length := by omega
      go_wp2
      go_ret
      exact ⟨rfl, hbel⟩

set_option maxHeartbeats 2000000 in
theorem known9_any (w : World) (hm : Mx w) :
    Calls Tryd.prog 12 #[] w fun e w' => e = .returned (.bool true) ∧ Below w.heap.size w w' := by
  have HM : Hid (∀ W, Below w.heap.size w W → Mx W) := Lib.hid fun W h => hm.below h
  have HE : Hid (Calls Tryd.prog 9 #[.string ⟨#[97, 46, 123, 98, 44, 99, 123, 100, 44, 125, 125]⟩] w fun e w' => ∃ v, e = .returned (.tuple #[v, .int .i64 0]) ∧ OwnS w.heap.size w' v [[97, 46, 98], [97, 46, 99, 100], [97, 46, 99]] ∧ Below w.heap.size w w') := Lib.hid (by
    have := expand_any _ _ (fun _ => Gl.gr_known) (by decide) w hm
    refine this.mono fun e w' h => ?_
    have h := h.both
    rw [Gl.err_known, if_pos rfl] at h
    exact h)
  have HG : Hid (∀ W, Mx W → Calls Tryd.prog 13 #[.string ⟨#[115, 63, 91, 48, 45, 50, 93, 42]⟩, .string ⟨#[115, 118, 49]⟩] W fun e w' => e = .returned (.bool true) ∧ Below W.heap.size W w') := Lib.hid fun W h => by
    have := match_any [115, 63, 91, 48, 45, 50, 93, 42] [115, 118, 49] (by decide) (by decide) W h
    rw [Gl.gm_known] at this
    exact this
  have HT : Hid (∀ A A' c c' W, Rd W (fun _ => True) A (byS [[97, 46, 98], [97, 46, 99, 100], [97, 46, 99]]) → Rd W (fun _ => True) A' (byS [[97, 46, 98], [97, 46, 99, 100], [97, 46, 99]]) → Calls Tryd.prog 11 #[.slice A 3 c, .slice A' 3 c'] W fun e w' => e = .returned (.bool true) ∧ Below W.heap.size W w') := Lib.hid fun A A' c c' W h h' => texts_same [[97, 46, 98], [97, 46, 99, 100], [97, 46, 99]] A A' c c' (by decide) W h h'
  have HRd := Lib.hid (fun base W v => @rd_own base W v [[97, 46, 98], [97, 46, 99, 100], [97, 46, 99]])
  have HF := Lib.hid (fun (W : World) => Rd.fresh W (byS [[97, 46, 98], [97, 46, 99, 100], [97, 46, 99]]) 9 _ rfl)
  clear hm
  go_enter Tryd.func12, Tryd.ntmps12
  go_wp2_with (go_at_call 9; go_must (refine (HE.out).mono ?_; rintro e w1 ⟨v, rfl, ho, hb1⟩; obtain ⟨A, c, rfl, hr⟩ := HRd.out _ _ _ ho))
  have HR := Lib.hid hr
  clear ho hr
  go_wp2_with first
    | (go_at_call 11; go_must (refine (HT.out _ _ _ _ _ (HR.out.below ((Below.refl _ _).alloc (Nat.le_refl _) _)) ((HF.out _).mono fun _ _ _ => trivial)).mono ?_; rintro e w3 ⟨rfl, hb3⟩; have hb2 := hb1.alloc hb1.size (.cells (byS [[97, 46, 98], [97, 46, 99, 100], [97, 46, 99]]).toArray 9); have hB3 := hb2.trans (hb3.mono hb2.size)))
    | (go_at_call 13; go_must (refine (HG.out _ (HM.out _ hB3)).mono ?_; rintro e w4 ⟨rfl, hb4⟩; have hB4 := hB3.trans (hb4.mono hB3.size)))
  go_ret
  exact ⟨rfl, hB4⟩

set_option maxHeartbeats 2000000 in
theorem lawParts9 (s : List UInt8) (w : World) (hm : Mx w) :
    Calls Tryd.prog 5 #[.string ⟨s.toArray⟩] w fun e w' => e = .returned (.bool true) ∧ Below w.heap.size w w' := by
  have hs : (⟨s.toArray⟩ : ByteArray).size = s.length := by show s.toArray.size = _; simp
  by_cases h4 : 200 < s.length
  · have h4' : (200 : Int) < (s.length : Int) := by omega
    clear h4
    go_enter Tryd.func5, Tryd.ntmps5
    go_wp2_with fail
    go_ret
    exact ⟨rfl, Below.refl _ _⟩
  · have h4' : ¬ (200 : Int) < (s.length : Int) := by omega
    have HM : Hid (∀ W, Below w.heap.size w W → Mx W) := Lib.hid fun W h => hm.below h
    have HP := Lib.hid ((gParts_any s (by omega) w hm).mono fun e w' h => h.both)
    have HRP := Lib.hid (fun W => (ref9Parts_any s (by omega) W).mono fun e w' h => h.both)
    have hL : (if Gl.partsOk s then Nm.pt s else []).length ≤ 4294967296 := by
      have := Nm.pt_len s
      split
      · omega
      · exact Nat.zero_le _
    have HT := Lib.hid (fun A A' c c' => texts_same (if Gl.partsOk s then Nm.pt s else []) A A' c c' hL)
    have HRd := Lib.hid (fun base W v => @rd_own base W v (if Gl.partsOk s then Nm.pt s else []))
    clear h4 hm hL
    generalize (if Gl.partsOk s then Nm.pt s else []) = L at *
    generalize (if Gl.partsOk s then (0 : Int) else 8) = er at *
    have hself : (er == er) = true := by simp
    go_enter Tryd.func5, Tryd.ntmps5
    go_wp2_with (go_at_call 17; go_must (refine (HP.out).mono ?_; rintro e w1 ⟨v, rfl, ho1, hb1⟩; obtain ⟨A, c, rfl, hr1⟩ := HRd.out _ _ _ ho1))
    have HR1 := Lib.hid hr1
    clear ho1 hr1
    go_wp2_with first
      | (go_at_call 18; go_must (refine (HRP.out _).mono ?_; rintro e w4 ⟨v4, rfl, ho4, hb4⟩; obtain ⟨A4, c4, rfl, hr4⟩ := HRd.out _ _ _ ho4; have hB4 := hb1.trans (hb4.mono hb1.size); have HR4 := Lib.hid (HR1.out.below hb4); have HR4' := Lib.hid hr4; clear ho4 hr4))
      | (go_at_call 11; go_must (refine (HT.out _ _ _ _ _ HR4.out HR4'.out).mono ?_; rintro e w5 ⟨rfl, hb5⟩; have hB5 := hB4.trans (hb5.mono hB4.size)))
      | (go_at_call 12; go_must (refine (known9_any _ (HM.out _ hB5)).mono ?_; rintro e w9 ⟨rfl, hb9⟩; have hB9 := hB5.trans (hb9.mono hB5.size)))
    go_ret
    exact ⟨rfl, hB9⟩

set_option maxHeartbeats 2000000 in
theorem lawMatches9 (p s : List UInt8) (w : World) (hm : Mx w) :
    Calls Tryd.prog 4 #[.string ⟨p.toArray⟩, .string ⟨s.toArray⟩] w fun e w' => e = .returned (.bool true) ∧ Below w.heap.size w w' := by
  have hs : (⟨s.toArray⟩ : ByteArray).size = s.length := by show s.toArray.size = _; simp
  have hp : (⟨p.toArray⟩ : ByteArray).size = p.length := by show p.toArray.size = _; simp
  by_cases h4 : 200 < p.length
  · have h4' : (200 : Int) < (p.length : Int) := by omega
    clear h4
    go_enter Tryd.func4, Tryd.ntmps4
    go_wp2_with fail
    go_ret
    exact ⟨rfl, Below.refl _ _⟩
  have h4' : ¬ (200 : Int) < (p.length : Int) := by omega
  by_cases h5 : 200 < s.length
  · have h5' : (200 : Int) < (s.length : Int) := by omega
    clear h4 h5
    go_enter Tryd.func4, Tryd.ntmps4
    go_wp2_with fail
    go_ret
    exact ⟨rfl, Below.refl _ _⟩
  have h5' : ¬ (200 : Int) < (s.length : Int) := by omega
  have HM : Hid (∀ W, Below w.heap.size w W → Mx W) := Lib.hid fun W h => hm.below h
  have H1 := Lib.hid (match_any p s (by omega) (by omega) w hm)
  have H2 := Lib.hid (fun W => refMatch_any p s (by omega) (by omega) W)
  have H3 := Lib.hid (fun W (h : Mx W) => plain_any p (by omega) W h)
  have H4 := Lib.hid (fun W => refPlain_any p (by omega) W)
  clear h4 h5 hm
  generalize Gl.gm p s = R at *
  generalize Gl.plainB p = Q at *
  have hR : (R == R) = true := by simp
  have hQ : (Q == Q) = true := by simp
  go_enter Tryd.func4, Tryd.ntmps4
  go_wp2_with first
    | (go_at_call 13; go_must (refine (H1.out).mono ?_; rintro e w1 ⟨rfl, hb1⟩))
    | (go_at_call 14; go_must (refine (H2.out _).mono ?_; rintro e w2 ⟨rfl, hb2⟩; have hB2 := hb1.trans (hb2.mono hb1.size)))
    | (go_at_call 15; go_must (refine (H3.out _ (HM.out _ hB2)).mono ?_; rintro e w3 ⟨rfl, hb3⟩; have hB3 := hB2.trans (hb3.mono hB2.size)))
    | (go_at_call 16; go_must (refine (H4.out _).mono ?_; rintro e w4 ⟨rfl, hw4⟩; subst hw4))
    | (go_at_call 12; go_must (refine (known9_any _ (HM.out _ hB3)).mono ?_; rintro e w9 ⟨rfl, hb9⟩; have hB9 := hB3.trans (hb9.mono hB3.size)))
  go_ret
  exact ⟨rfl, hB9⟩
end Go.Proofs.YtobkddekfcgclaaDoor
