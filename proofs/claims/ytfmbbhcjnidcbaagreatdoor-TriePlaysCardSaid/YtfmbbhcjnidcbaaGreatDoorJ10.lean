/-
  GlTwo: CONTRACTS: chapter 9, classes: the program's cutRange, isClass, lists.
-/
import Derived.Test.YtfmbbhcjnidcbaaGreatDoorJ9

namespace Go.Proofs.YtfmbbhcjnidcbaaGreatDoor
open Go.RowKit
open Me

namespace Gl
theorem dropB (s : List UInt8) (k : Nat) : (⟨s.toArray⟩ : ByteArray).extract k s.length = ⟨(s.drop k).toArray⟩ := by
  apply ByteArray.ext
  rw [ByteArray.data_extract]
  apply Array.toList_inj.1
  simp [List.take_of_length_le]
theorem takeB (s : List UInt8) (k : Nat) : (⟨s.toArray⟩ : ByteArray).extract 0 k = ⟨(s.take k).toArray⟩ := by
  apply ByteArray.ext
  rw [ByteArray.data_extract]
  apply Array.toList_inj.1
  simp
/-- A text's length, in a slot. -/
def strLen (v : Value) : Nat := match v with
  | .string b => b.size
  | _ => 0
theorem strLen_mk (l : List UInt8) : strLen (.string ⟨l.toArray⟩) = l.length := by show l.toArray.size = _; simp
theorem ranged_len {s : List UInt8} (h : ranged s = true) : 2 < s.length := by
  match s, h with
  | a :: d :: b :: r, _ => simp
theorem ranged_iff (s : List UInt8) (h : 2 < s.length) : ranged s = decide (s[1] = 45) := by
  match s, h with
  | a :: d :: b :: r, _ => rfl
theorem ranged_short (s : List UInt8) (h : ¬ 2 < s.length) : ranged s = false := by
  match s, h with
  | [], _ => rfl
  | [a], _ => rfl
  | [a, b], _ => rfl
  | a :: d :: b :: r, h => simp at h
theorem lo_eq (s : List UInt8) (h : 0 < s.length) : lo s = s[0] := by
  match s, h with
  | a :: r, _ => rfl
theorem hi_yes (s : List UInt8) (h : 2 < s.length) (hr : ranged s = true) : hi s = s[2] := by
  match s, h with
  | a :: d :: b :: r, _ =>
    have : d = 45 := by simpa [ranged] using hr
    show (if d = 45 then b else a) = _; rw [if_pos this]; rfl
theorem hi_no (s : List UInt8) (h : 0 < s.length) (hr : ranged s = false) : hi s = s[0] := by
  match s, h with
  | [a], _ => rfl
  | [a, b], _ => rfl
  | a :: d :: b :: r, _ =>
    have : d ≠ 45 := by simpa [ranged] using hr
    show (if d = 45 then b else a) = _; rw [if_neg this]; rfl
theorem ret_cut {a b a' b' : UInt8} {l l' : List UInt8} (h1 : a = a') (h2 : b = b') (h3 : l = l') : Ending.returned (.tuple #[.int .u8 (a.toNat : Int), .int .u8 (b.toNat : Int), .string ⟨l.toArray⟩]) = .returned (.tuple #[.int .u8 (a'.toNat : Int), .int .u8 (b'.toNat : Int), .string ⟨l'.toArray⟩]) := by rw [h1, h2, h3]
end Gl

set_option maxHeartbeats 1000000 in
theorem cutRange_any (s : List UInt8) (hl : s.length ≤ 4294967270) (h0 : 0 < s.length) (w : World) :
    Calls Tryz.prog 122 #[.string ⟨s.toArray⟩] w fun e w' => e = .returned (.tuple #[.int .u8 ((Gl.lo s).toNat : Int), .int .u8 ((Gl.hi s).toNat : Int), .string ⟨(Gl.re s).toArray⟩]) ∧ Below w.heap.size w w' := by
  have hs : (⟨s.toArray⟩ : ByteArray).size = s.length := by show s.toArray.size = _; simp
  have hl0 : (0 : Int) < (s.length : Int) := by omega
  have hd3 := Gl.dropB s 3
  have hd1 := Gl.dropB s 1
  have HLo := Lib.hid (Gl.lo_eq s h0)
  by_cases h2 : 2 < s.length
  · have h2' : (2 : Int) < (s.length : Int) := by omega
    have h1' : (1 : Int) < (s.length : Int) := by omega
    have e1 : ((((⟨s.toArray⟩ : ByteArray)[1]'(by rw [hs]; omega)).toNat : Int) == 45) = decide (s[1] = 45) := Gl.byteEq s[1] 45
    rw [← Gl.ranged_iff s h2] at e1
    cases hr : Gl.ranged s
    · rw [hr] at e1
      have HHi := Lib.hid (Gl.hi_no s h0 hr)
      have HRe : Hid (Gl.re s = s.tail) := Lib.hid (by unfold Gl.re; rw [hr]; show s.drop 1 = _; exact List.drop_one)
      clear hr
      go_enter Tryz.func122, Tryz.ntmps122
      go_wp2_with fail
      go_region
      all_goals
        go_wp2_with fail
        ((try simp only [Exit.inBlock, Exit.then]); refine bodyPost_ret (results_tmp3 rfl _ _ _) rfl ?_)
        exact ⟨Gl.ret_cut HLo.out.symm HHi.out.symm HRe.out.symm, (by repeat (first | exact Below.refl _ _ | assumption | refine Below.setCell ?_ (by first | (simp; done) | omega | (simp; omega) | (simp at *; omega)) _ | refine Below.alloc ?_ (by first | (simp; done) | omega | (simp; omega) | (simp at *; omega)) _ | refine Below.drew ?_ | (refine Below.trans ?_ (Below.mono (by assumption) (by first | (simp; done) | omega | (simp; omega) | (simp at *; omega)))) | (refine Below.trans ?_ (Below.mono (below_regrown _ _ _) (by first | (simp; done) | omega | (simp; omega) | (simp at *; omega))))))⟩
    · rw [hr] at e1
      have HHi := Lib.hid (Gl.hi_yes s h2 hr)
      have HRe : Hid (Gl.re s = s.drop 3) := Lib.hid (by unfold Gl.re; rw [hr]; rfl)
      clear hr
      have h3' : (3 : Int) ≤ (s.length : Int) := by omega
      go_enter Tryz.func122, Tryz.ntmps122
      go_wp2_with fail
      go_region
      all_goals
        go_wp2_with fail
        ((try simp only [Exit.inBlock, Exit.then]); refine bodyPost_ret (results_tmp3 rfl _ _ _) rfl ?_)
        exact ⟨Gl.ret_cut HLo.out.symm HHi.out.symm HRe.out.symm, (by repeat (first | exact Below.refl _ _ | assumption | refine Below.setCell ?_ (by first | (simp; done) | omega | (simp; omega) | (simp at *; omega)) _ | refine Below.alloc ?_ (by first | (simp; done) | omega | (simp; omega) | (simp at *; omega)) _ | refine Below.drew ?_ | (refine Below.trans ?_ (Below.mono (by assumption) (by first | (simp; done) | omega | (simp; omega) | (simp at *; omega)))) | (refine Below.trans ?_ (Below.mono (below_regrown _ _ _) (by first | (simp; done) | omega | (simp; omega) | (simp at *; omega))))))⟩
  · have h2' : ¬ (2 : Int) < (s.length : Int) := by omega
    have hr := Gl.ranged_short s h2
    have HHi := Lib.hid (Gl.hi_no s h0 hr)
    have HRe : Hid (Gl.re s = s.tail) := Lib.hid (by unfold Gl.re; rw [hr]; show s.drop 1 = _; exact List.drop_one)
    clear hr
    go_enter Tryz.func122, Tryz.ntmps122
    go_wp2_with fail
    go_region
    all_goals
      go_wp2_with fail
      ((try simp only [Exit.inBlock, Exit.then]); refine bodyPost_ret (results_tmp3 rfl _ _ _) rfl ?_)
      exact ⟨Gl.ret_cut HLo.out.symm HHi.out.symm HRe.out.symm, (by repeat (first | exact Below.refl _ _ | assumption | refine Below.setCell ?_ (by first | (simp; done) | omega | (simp; omega) | (simp at *; omega)) _ | refine Below.alloc ?_ (by first | (simp; done) | omega | (simp; omega) | (simp at *; omega)) _ | refine Below.drew ?_ | (refine Below.trans ?_ (Below.mono (by assumption) (by first | (simp; done) | omega | (simp; omega) | (simp at *; omega)))) | (refine Below.trans ?_ (Below.mono (below_regrown _ _ _) (by first | (simp; done) | omega | (simp; omega) | (simp at *; omega))))))⟩

set_option maxHeartbeats 1000000 in
theorem isClass_any (s : List UInt8) (hl : s.length ≤ 4294967270) (w : World) :
    Calls Tryz.prog 92 #[.string ⟨s.toArray⟩] w fun e w' => e = .returned (.bool (!s.isEmpty && Gl.okR s)) ∧ Below w.heap.size w w' := by
  by_cases h0 : s = []
  · subst h0
    go_enter Tryz.func92, Tryz.ntmps92
    go_wp2_with fail
    go_ret
    exact ⟨rfl, (by repeat (first | exact Below.refl _ _ | assumption | refine Below.setCell ?_ (by first | (simp; done) | omega | (simp; omega) | (simp at *; omega)) _ | refine Below.alloc ?_ (by first | (simp; done) | omega | (simp; omega) | (simp at *; omega)) _ | refine Below.drew ?_ | (refine Below.trans ?_ (Below.mono (by assumption) (by first | (simp; done) | omega | (simp; omega) | (simp at *; omega)))) | (refine Below.trans ?_ (Below.mono (below_regrown _ _ _) (by first | (simp; done) | omega | (simp; omega) | (simp at *; omega))))))⟩
  · have hemp : s.isEmpty = false := by simpa using h0
    have HR : Hid (Gl.okR s = (!s.isEmpty && Gl.okR s)) := Lib.hid (by rw [hemp]; rfl)
    generalize (!s.isEmpty && Gl.okR s) = R at *
    go_enter Tryz.func92, Tryz.ntmps92
    go_wp2_with fail
    go_loopw [0] (fun v wr => ∃ t : List UInt8, v = .string ⟨t.toArray⟩ ∧ Hid (t.length ≤ s.length) ∧ Hid (Gl.okR t = R) ∧ Below w.heap.size w wr) (fun v _ => Gl.strLen v)
    case atStart => exact ⟨s, rfl, Lib.hid (Nat.le_refl _), HR, Below.refl _ _⟩
    case round =>
      obtain ⟨t, rfl, HL, HD, hbel⟩ := hrel
      by_cases ht : t = []
      · subst ht
        have HD' : Hid (true = R) := Lib.hid HD.out
        go_wp2
        go_ret
        exact ⟨Gl.ret_bool HD'.out, hbel⟩
      · have htemp : t.isEmpty = false := by simpa using ht
        have hlen := Gl.re_len t ht
        have HC := Lib.hid (cutRange_any t (Nat.le_trans HL.out hl) (List.length_pos_iff.2 ht))
        have HS := Lib.hid (Gl.okR_step t ht)
        have HN := Lib.hid hlen
        rw [HS.out] at HD
        have e1 := Gl.byteLt (Gl.hi t) (Gl.lo t)
        clear HS
        generalize Gl.hi t = b at *
        generalize Gl.lo t = a at *
        generalize Gl.re t = r at *
        cases hd : decide (b.toNat < a.toNat)
        · rw [hd] at e1 HD
          clear hd
          have HD2 : Hid (Gl.okR r = R) := Lib.hid (by simpa using HD.out)
          have e2 := of_decide_eq_false e1
          go_wp2_with (go_at_call 122; go_must (refine (HC.out _).mono ?_; rintro e w1 ⟨rfl, hb1⟩))
          go_roundw
          case rel => exact ⟨r, rfl, Lib.hid (by have := HL.out; have := HN.out; omega), HD2, hbel.trans (hb1.mono hbel.size)⟩
          case measure => rw [Gl.strLen_mk, Gl.strLen_mk]; exact HN.out
        · rw [hd] at e1 HD
          clear hd
          have HD2 : Hid (false = R) := Lib.hid (by simpa using HD.out)
          have e2 := of_decide_eq_true e1
          go_wp2_with (go_at_call 122; go_must (refine (HC.out _).mono ?_; rintro e w1 ⟨rfl, hb1⟩))
          go_ret
          exact ⟨Gl.ret_bool HD2.out, hbel.trans (hb1.mono hbel.size)⟩

set_option maxHeartbeats 1000000 in
theorem lists_any (s : List UInt8) (hl : s.length ≤ 4294967270) (c : UInt8) (w : World) :
    Calls Tryz.prog 131 #[.string ⟨s.toArray⟩, .int .u8 (c.toNat : Int)] w fun e w' => e = .returned (.bool (Gl.inR c s)) ∧ Below w.heap.size w w' := by
  generalize hR : Gl.inR c s = R
  have HR : Hid (Gl.inR c s = R) := Lib.hid hR
  clear hR
  go_enter Tryz.func131, Tryz.ntmps131
  go_wp2_with fail
  go_loopw [0] (fun v wr => ∃ t : List UInt8, v = .string ⟨t.toArray⟩ ∧ Hid (t.length ≤ s.length) ∧ Hid (Gl.inR c t = R) ∧ Below w.heap.size w wr) (fun v _ => Gl.strLen v)
  case atStart => exact ⟨s, rfl, Lib.hid (Nat.le_refl _), HR, Below.refl _ _⟩
  case round =>
    obtain ⟨t, rfl, HL, HD, hbel⟩ := hrel
    by_cases ht : t = []
    · subst ht
      have HD' : Hid (false = R) := Lib.hid HD.out
      go_wp2
      go_ret
      exact ⟨Gl.ret_bool HD'.out, hbel⟩
    · have htemp : t.isEmpty = false := by simpa using ht
      have hlen := Gl.re_len t ht
      have HC := Lib.hid (cutRange_any t (Nat.le_trans HL.out hl) (List.length_pos_iff.2 ht))
      have HS := Lib.hid (Gl.inR_step c t ht)
      have HN := Lib.hid hlen
      rw [HS.out] at HD
      clear HS
      generalize Gl.hi t = b at *
      generalize Gl.lo t = a at *
      generalize Gl.re t = r at *
      by_cases h1 : a.toNat ≤ c.toNat
      · have g1 : (a.toNat : Int) ≤ (c.toNat : Int) := by omega
        by_cases h2 : c.toNat ≤ b.toNat
        · have g2 : (c.toNat : Int) ≤ (b.toNat : Int) := by omega
          have HD2 : Hid (true = R) := Lib.hid (by rw [← HD.out, decide_eq_true h1, decide_eq_true h2]; rfl)
          clear h1 h2
          go_wp2_with (go_at_call 122; go_must (refine (HC.out _).mono ?_; rintro e w1 ⟨rfl, hb1⟩))
          go_ret
          exact ⟨Gl.ret_bool HD2.out, hbel.trans (hb1.mono hbel.size)⟩
        · have g2 : ¬ (c.toNat : Int) ≤ (b.toNat : Int) := by omega
          have HD2 : Hid (Gl.inR c r = R) := Lib.hid (by rw [← HD.out, decide_eq_true h1, decide_eq_false h2]; rfl)
          clear h1 h2
          go_wp2_with (go_at_call 122; go_must (refine (HC.out _).mono ?_; rintro e w1 ⟨rfl, hb1⟩))
          go_roundw
          case rel => exact ⟨r, rfl, Lib.hid (by have := HL.out; have := HN.out; omega), HD2, hbel.trans (hb1.mono hbel.size)⟩
          case measure => rw [Gl.strLen_mk, Gl.strLen_mk]; exact HN.out
      · have g1 : ¬ (a.toNat : Int) ≤ (c.toNat : Int) := by omega
        have HD2 : Hid (Gl.inR c r = R) := Lib.hid (by rw [← HD.out, decide_eq_false h1]; rfl)
        clear h1
        go_wp2_with (go_at_call 122; go_must (refine (HC.out _).mono ?_; rintro e w1 ⟨rfl, hb1⟩))
        go_roundw
        case rel => exact ⟨r, rfl, Lib.hid (by have := HL.out; have := HN.out; omega), HD2, hbel.trans (hb1.mono hbel.size)⟩
        case measure => rw [Gl.strLen_mk, Gl.strLen_mk]; exact HN.out
end Go.Proofs.YtfmbbhcjnidcbaaGreatDoor
