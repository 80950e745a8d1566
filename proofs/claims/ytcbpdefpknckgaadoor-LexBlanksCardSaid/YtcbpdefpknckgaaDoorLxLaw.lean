/-
  CONTRACTS: chapter 14: the document's Path; the law's known; LexReads, LexLooks.
-/
import Derived.Test.YtcbpdefpknckgaaDoorLxPath
namespace Go.Proofs.YtcbpdefpknckgaaDoor
open Go.RowKit
open Me

namespace Lx
theorem cont_drop (q : UInt8) (l : List UInt8) (k : Nat) (h : k < l.length) : (l.drop k).contains q = (q == l[k] || (l.drop (k + 1)).contains q) := by
  rw [List.drop_eq_getElem_cons h, List.contains_cons]
/-- The document's word, asked at the beginning. -/
def endOf (s : List UInt8) : Int := match scan (s.drop 0) 0 with
  | some (n + 1) => ((0 + (n + 1) : Nat) : Int)
  | _ => -1
theorem end_path (s : List UInt8) : (decide (endOf s = (s.length : Int)) && decide (0 < s.length)) = (decide (scan s 0 = some s.length) && decide (0 < s.length)) := by
  unfold endOf
  rw [List.drop_zero]
  by_cases h0 : 0 < s.length
  · rw [decide_eq_true h0, Bool.and_true, Bool.and_true, decide_eq_decide]
    cases hs : scan s 0 with
    | none =>
      constructor
      · intro e
        have e : (-1 : Int) = (s.length : Int) := e
        omega
      · intro e; cases e
    | some n =>
      cases n with
      | zero =>
        constructor
        · intro e
          have e : (-1 : Int) = (s.length : Int) := e
          omega
        · intro e; have := Option.some.inj e; omega
      | succ n =>
        constructor
        · intro e
          have e : ((0 + (n + 1) : Nat) : Int) = (s.length : Int) := e
          congr 1; omega
        · intro e
          have := Option.some.inj e
          show ((0 + (n + 1) : Nat) : Int) = (s.length : Int)
          omega
  · rw [decide_eq_false h0, Bool.and_false, Bool.and_false]
def knownT : List UInt8 := [102, 40, 97, 46, 123, 98, 44, 99, 125, 44, 32, 39, 120, 39, 41]
theorem known_lex : lexL knownT = [(1, [102]), (3, []), (1, [97, 46, 123, 98, 44, 99, 125]), (5, []), (2, [120]), (4, [])] ∧ lexErr knownT = 0 := by decide +kernel
end Lx

set_option maxRecDepth 100000 in
set_option maxHeartbeats 8000000 in
theorem lrefPath_any (s : List UInt8) (hs : s.length ≤ 4294967280) (w : World) :
    Calls Tryd.prog 11 #[.string ⟨s.toArray⟩] w fun e w' => e = .returned (.bool (Lx.pathA s)) ∧ w = w' := by
  have HR : Hid (Lx.pathA s = (decide (s.length ≤ 4096) && ((decide (Lx.endOf s = (s.length : Int)) && decide (0 < s.length)) && !(s.drop 0).contains 43))) := Lib.hid (by rw [Lx.end_path]; rfl)
  have HWC : Hid (s.length ≤ 4096 → ∀ W, Calls Tryd.prog 16 #[.string ⟨s.toArray⟩, .int .i64 0] W fun e w' => e = .returned (.int .i64 (Lx.endOf s)) ∧ W = w') := Lib.hid fun h W => lrefWord_any s 0 (Nat.zero_le _) (by omega) W
  generalize Lx.pathA s = R at *
  generalize Lx.endOf s = E at *
  go_enter Tryd.func11, Tryd.ntmps11
  go_wp2_with fail
  go_loopw [3] (fun x wr => ∃ k : Nat, x = .int .i64 k ∧ k ≤ s.length ∧ Hid (R = (decide (s.length ≤ 4096) && ((decide (E = (s.length : Int)) && decide (0 < s.length)) && !(s.drop k).contains 43))) ∧ Hid (w = wr)) (fun x _ => s.length - (intOf x).toNat)
  case atStart => exact ⟨0, rfl, by omega, HR, Lib.hid rfl⟩
  case round =>
    obtain ⟨k, rfl, hk, HM, HW⟩ := hrel
    by_cases hlt : k < s.length
    · obtain ⟨a, ha⟩ : ∃ a, s[k] = a := ⟨_, rfl⟩
      have hget : s[k]? = some a := by rw [List.getElem?_eq_getElem hlt, ha]
      obtain ⟨z0, g0⟩ := Lx.byte_at hget
      have hkI : (k : Int) < (s.length : Int) := by omega
      have hk0 : (0 : Int) ≤ (k : Int) := by omega
      have HM2 := Lib.hid (Lx.cont_drop 43 s k hlt)
      rw [ha] at HM2
      by_cases he : a = 43
      · have heI : ((a.toNat : Int) = 43) = True := by rw [he]; simp
        have heB : ((a.toNat : Int) == 43) = true := by rw [he]; rfl
        have HQ : Hid (R = false) := Lib.hid (by rw [HM.out, HM2.out, he]; simp)
        clear hget ha he
        go_wp2_with fail
        go_ret
        exact ⟨by rw [HQ.out]; rfl, HW.out⟩
      · have heI : ¬ (a.toNat : Int) = 43 := fun e => he (UInt8.toNat_inj.1 (by show a.toNat = 43; omega))
        have heB : ((a.toNat : Int) == 43) = false := by simpa using heI
        have HQ : Hid (R = (decide (s.length ≤ 4096) && ((decide (E = (s.length : Int)) && decide (0 < s.length)) && !(s.drop (k + 1)).contains 43))) := Lib.hid (by
          rw [HM.out, HM2.out, show ((43 : UInt8) == a) = false by rw [beq_eq_false_iff_ne]; exact fun e => he e.symm, Bool.false_or])
        clear hget ha he
        go_wp2_with fail
        go_roundw
        case rel => exact ⟨k + 1, by go_num, by omega, HQ, HW⟩
        case measure => simp [intOf]; omega
    · obtain rfl : k = s.length := by omega
      have HM2 : Hid (R = (decide (s.length ≤ 4096) && (decide (E = (s.length : Int)) && decide (0 < s.length)))) := Lib.hid (by rw [HM.out, List.drop_length]; simp)
      have hkI : ¬ (s.length : Int) < (s.length : Int) := by omega
      clear HM HR
      by_cases hl : s.length ≤ 4096
      · have hlI : (s.length : Int) ≤ 4096 := by omega
        have HWD := Lib.hid (HWC.out hl)
        by_cases hE : E = (s.length : Int)
        · have HM3 : Hid (R = decide (0 < s.length)) := Lib.hid (by rw [HM2.out, decide_eq_true hl, decide_eq_true hE]; simp)
          have hEB : (E == (s.length : Int)) = true := by simpa using hE
          have hET : (E = (s.length : Int)) = True := eq_true hE
          clear hE
          go_wp2_with (go_at_call 16; go_must (refine (HWD.out _).mono ?_; rintro e w2 ⟨rfl, rfl⟩))
          go_ret
          exact ⟨by rw [HM3.out]; rfl, HW.out⟩
        · have HM4 : Hid (R = false) := Lib.hid (by rw [HM2.out, decide_eq_false hE]; simp)
          have hEB : (E == (s.length : Int)) = false := by simpa using hE
          clear hl
          go_wp2_with (go_at_call 16; go_must (refine (HWD.out _).mono ?_; rintro e w2 ⟨rfl, rfl⟩))
          go_ret
          exact ⟨by rw [HM4.out]; rfl, HW.out⟩
      · have hlI : ¬ (s.length : Int) ≤ 4096 := by omega
        have HM4 : Hid (R = false) := Lib.hid (by rw [HM2.out, decide_eq_false hl]; rfl)
        clear hl
        go_wp2_with fail
        go_ret
        exact ⟨by rw [HM4.out]; rfl, HW.out⟩

set_option maxRecDepth 100000 in
set_option maxHeartbeats 8000000 in
theorem known14_any (w : World) :
    Calls Tryd.prog 9 #[] w fun e w' => e = .returned (.bool true) ∧ Below w.heap.size w w' := by
  have HL : Hid (Calls Tryd.prog 6 #[.string ⟨#[102, 40, 97, 46, 123, 98, 44, 99, 125, 44, 32, 39, 120, 39, 41]⟩] w fun e w' => ∃ b o c, e = .returned (.tuple #[.slice (some ⟨b, o, none⟩) 6 c, .int .i64 0]) ∧ b < w'.heap.size ∧ w'.cell? ⟨b, o + 4, none⟩ = some (.int .i64 1) ∧ w'.cell? ⟨b, o + 4 + 1, none⟩ = some (.string ⟨#[97, 46, 123, 98, 44, 99, 125]⟩) ∧ w'.cell? ⟨b, o + 8, none⟩ = some (.int .i64 2) ∧ w'.cell? ⟨b, o + 8 + 1, none⟩ = some (.string ⟨#[120]⟩) ∧ Below w.heap.size w w') := Lib.hid (by
    refine (llex_any Lx.knownT (by decide) w).mono ?_
    rintro e w' ⟨v, rfl, ho, hb⟩
    rw [Lx.known_lex.1] at ho
    obtain ⟨A, c, rfl⟩ := ho.form
    obtain ⟨b1, o1, rfl, hb1, x0, x1⟩ := Lx.rd_tok (i := 2) (Rd.own ho) (by decide)
    obtain ⟨b2, o2, e2, hb2, y0, y1⟩ := Lx.rd_tok (i := 4) (Rd.own ho) (by decide)
    injection e2 with e2
    injection e2 with e3 e4
    subst e3
    subst e4
    exact ⟨b1, o1, c, by rw [Lx.known_lex.2]; rfl, hb1, x0, x1, y0, y1, hb⟩)
  go_enter Tryd.func9, Tryd.ntmps9
  go_wp2_with (go_at_call 6; go_must (refine HL.out.mono ?_; rintro e w1 ⟨b, o, c, rfl, hbl, x0, x1, y0, y1, hb⟩; have HB := Lib.hid hb; clear hb))
  go_ret
  exact ⟨rfl, HB.out⟩

set_option maxRecDepth 100000 in
set_option maxHeartbeats 8000000 in
theorem lawReads14 (s : List UInt8) (w : World) :
    Calls Tryd.prog 3 #[.string ⟨s.toArray⟩] w fun e w' => e = .returned (.bool true) ∧ Below w.heap.size w w' := by
  by_cases hl : 300 < s.length
  · have hI : (300 : Int) < (s.length : Int) := by omega
    clear hl
    go_enter Tryd.func3, Tryd.ntmps3
    go_wp2_with fail
    go_ret
    exact ⟨rfl, Below.refl _ _⟩
  · have hI : ¬ (300 : Int) < (s.length : Int) := by omega
    have HA := Lib.hid (llex_any s (by omega) w)
    have HB := Lib.hid fun W => lrefLex_any s (by omega) W
    have HT := Lib.hid fun (A B : Option Addr) (ca cb : Nat) (W : World) (G H : Nat → Prop) ha hb => ltokens_any (Lx.lexL s) (Lx.lexL s) A B ca cb W G H ha hb (by
      unfold Lx.lexL
      rw [if_neg (by omega)]
      cases hx : Lx.lex s with
      | none => simp
      | some x => have := Lx.lex_count hx; show x.length ≤ _; omega) (by
      unfold Lx.lexL
      rw [if_neg (by omega)]
      cases hx : Lx.lex s with
      | none => simp
      | some x => have := Lx.lex_count hx; show x.length ≤ _; omega)
    have HK := Lib.hid known14_any
    have HA2 : Hid (Calls Tryd.prog 6 #[.string ⟨s.toArray⟩] w fun e w' => ∃ v, e = .returned (.tuple #[v, .int .i64 (Lx.lexErr s)]) ∧ Lx.OwnT 40 w.heap.size w' v (Lx.lexL s) ∧ Below w.heap.size w w') := HA
    have HB2 : Hid (∀ W, Calls Tryd.prog 7 #[.string ⟨s.toArray⟩] W fun e w' => ∃ v, e = .returned (.tuple #[v, .int .i64 (Lx.lexErr s)]) ∧ Lx.OwnT 43 W.heap.size w' v (Lx.lexL s) ∧ Below W.heap.size W w') := HB
    clear HA HB hl
    generalize Lx.lexErr s = E at *
    generalize Lx.lexL s = L at *
    have hEE : (E == E) = true := by simp
    go_enter Tryd.func3, Tryd.ntmps3
    go_wp2_with first
      | (go_at_call 6; go_must (refine HA2.out.mono ?_; rintro e w1 ⟨v, rfl, ho, hb⟩; obtain ⟨A, c, rfl⟩ := ho.form; have HO1 := Lib.hid ho; have HB1 := Lib.hid hb; clear ho hb))
      | (go_at_call 7; go_must (refine (HB2.out _).mono ?_; rintro e w2 ⟨v2, rfl, ho2, hb2⟩; obtain ⟨A2, c2, rfl⟩ := ho2.form; have HR1 : Hid (Rd w2 (fun _ => True) A (Lx.cellsT L)) := Lib.hid (((Rd.own HO1.out).below hb2).mono fun _ _ _ => trivial); have HR2 : Hid (Rd w2 (fun _ => True) A2 (Lx.cellsT L)) := Lib.hid ((Rd.own ho2).mono fun _ _ _ => trivial); have HBB := Lib.hid (HB1.out.trans (hb2.mono HB1.out.size)); clear ho2 hb2))
      | (go_at_call 8; go_must (refine (HT.out _ _ _ _ _ _ _ HR1.out HR2.out).mono ?_; rintro e w3 ⟨rfl, hb3⟩; have HB3 := Lib.hid (HBB.out.trans (hb3.mono HBB.out.size)); clear hb3))
      | (go_at_call 9; go_must (refine (HK.out _).mono ?_; rintro e w4 ⟨rfl, hb4⟩; have HB4 := Lib.hid (HB3.out.trans (hb4.mono HB3.out.size)); clear hb4))
    go_ret
    exact ⟨rfl, HB4.out⟩

set_option maxRecDepth 100000 in
set_option maxHeartbeats 8000000 in
theorem lawLooks14 (s : List UInt8) (w : World) :
    Calls Tryd.prog 4 #[.string ⟨s.toArray⟩] w fun e w' => e = .returned (.bool true) ∧ Below w.heap.size w w' := by
  by_cases hl : 300 < s.length
  · have hI : (300 : Int) < (s.length : Int) := by omega
    clear hl
    go_enter Tryd.func4, Tryd.ntmps4
    go_wp2_with fail
    go_ret
    exact ⟨rfl, Below.refl _ _⟩
  · have hI : ¬ (300 : Int) < (s.length : Int) := by omega
    have HA := Lib.hid (lpath_any s (by omega) w)
    have HB := Lib.hid fun W => lrefPath_any s (by omega) W
    have HC := Lib.hid fun W => ident_any s (by omega) W
    have HD := Lib.hid fun W => lrefIdent_any s (by omega) W
    have HK := Lib.hid known14_any
    clear hl
    generalize Lx.pathA s = p at *
    generalize Lx.identOf s = q at *
    have hpp : (p == p) = true := by simp
    have hqq : (q == q) = true := by simp
    go_enter Tryd.func4, Tryd.ntmps4
    go_wp2_with first
      | (go_at_call 10; go_must (refine HA.out.mono ?_; rintro e w1 ⟨rfl, hb⟩; have HB1 := Lib.hid hb; clear hb))
      | (go_at_call 11; go_must (refine (HB.out _).mono ?_; rintro e w2 ⟨rfl, rfl⟩))
      | (go_at_call 12; go_must (refine (HC.out _).mono ?_; rintro e w2 ⟨rfl, rfl⟩))
      | (go_at_call 13; go_must (refine (HD.out _).mono ?_; rintro e w2 ⟨rfl, rfl⟩))
      | (go_at_call 9; go_must (refine (HK.out _).mono ?_; rintro e w4 ⟨rfl, hb4⟩; have HB4 := Lib.hid (HB1.out.trans (hb4.mono HB1.out.size)); clear hb4))
    go_ret
    exact ⟨rfl, HB4.out⟩
end Go.Proofs.YtcbpdefpknckgaaDoor
