/-
  LxLaw: CONTRACTS: chapter 14: the document's Path; the law's known; LexReads, LexLooks.
  TeRn: CONTRACTS: chapter 15: the document's parser: next, bad, word.
  TeRw: CONTRACTS: chapter 15: the document's word.
-/
import Derived.Test.YtojmcndiooiehaaGreatDoorJ11
import Derived.Test.YtojmcndiooiehaaGreatDoorJ26
import Derived.Test.YtojmcndiooiehaaGreatDoorJ32
import Derived.Deep.RegionLaw

set_option linter.unusedSimpArgs false
set_option linter.unusedVariables false
namespace Go.Proofs.YtojmcndiooiehaaGreatDoor
open Go.RowKit
open Me

namespace Lx
theorem cont_drop (q : UInt8) (l : List UInt8) (k : Nat) (h : k < l.length) : (l.drop k).contains q = (q == l[k] || (l.drop (k + 1)).contains q) := by
  rw [List.drop_eq_getElem_cons h, List.contains_cons]
/-- The document's word, asked at the beginning. -/
def endOf (s : List UInt8) : Int := match scan (s.drop 0) 0 with
  | some (n + 1) => ((0 + (n + 1) : Nat) : Int)
  | _ => -1
theorem end_path (s : List UInt8) : (decide (endOf s = (s.length : Int)) && decide (0 < s.length)) = (decide (scan s 0 = some s.length) && decide (0 < s.length)) := by
  unfold endOf
  rw [List.drop_zero]
  by_cases h0 : 0 < s.length
  · rw [decide_eq_true h0, Bool.and_true, Bool.and_true, decide_eq_decide]
    cases hs : scan s 0 with
    | none =>
      constructor
      · intro e
        have e : (-1 : Int) = (s.length : Int) := e
        omega
      · intro e; cases e
    | some n =>
      cases n with
      | zero =>
        constructor
        · intro e
          have e : (-1 : Int) = (s.length : Int) := e
          omega
        · intro e; have := Option.some.inj e; omega
      | succ n =>
        constructor
        · intro e
          have e : ((0 + (n + 1) : Nat) : Int) = (s.length : Int) := e
          congr 1; omega
        · intro e
          have := Option.some.inj e
          show ((0 + (n + 1) : Nat) : Int) = (s.length : Int)
          omega
  · rw [decide_eq_false h0, Bool.and_false, Bool.and_false]
def knownT : List UInt8 := [102, 40, 97, 46, 123, 98, 44, 99, 125, 44, 32, 39, 120, 39, 41]
theorem known_lex : lexL knownT = [(1, [102]), (3, []), (1, [97, 46, 123, 98, 44, 99, 125]), (5, []), (2, [120]), (4, [])] ∧ lexErr knownT = 0 := by decide +kernel
end Lx

set_option maxRecDepth 100000 in
set_option maxHeartbeats 8000000 in
theorem lrefPath_any (s : List UInt8) (hs : s.length ≤ 4294967280) (w : World) :
    Calls Tryz.prog 48 #[.string ⟨s.toArray⟩] w fun e w' => e = .returned (.bool (Lx.pathA s)) ∧ w = w' := by
  have HR : Hid (Lx.pathA s = (decide (s.length ≤ 4096) && ((decide (Lx.endOf s = (s.length : Int)) && decide (0 < s.length)) && !(s.drop 0).contains 43))) := Lib.hid (by rw [Lx.end_path]; rfl)
  have HWC : Hid (s.length ≤ 4096 → ∀ W, Calls Tryz.prog 33 #[.string ⟨s.toArray⟩, .int .i64 0] W fun e w' => e = .returned (.int .i64 (Lx.endOf s)) ∧ W = w') := Lib.hid fun h W => lrefWord_any s 0 (Nat.zero_le _) (by omega) W
  generalize Lx.pathA s = R at *
  generalize Lx.endOf s = E at *
  go_enter Tryz.func48, Tryz.ntmps48
  go_wp2_with fail
  go_loopw [3] (fun x wr => ∃ k : Nat, x = .int .i64 k ∧ k ≤ s.length ∧ Hid (R = (decide (s.length ≤ 4096) && ((decide (E = (s.length : Int)) && decide (0 < s.length)) && !(s.drop k).contains 43))) ∧ Hid (w = wr)) (fun x _ => s.length - (intOf x).toNat)
  case atStart => exact ⟨0, rfl, by omega, HR, Lib.hid rfl⟩
  case round =>
    obtain ⟨k, rfl, hk, HM, HW⟩ := hrel
    by_cases hlt : k < s.length
    · obtain ⟨a, ha⟩ : ∃ a, s[k] = a := ⟨_, rfl⟩
      have hget : s[k]? = some a := by rw [List.getElem?_eq_getElem hlt, ha]
      obtain ⟨z0, g0⟩ := Lx.byte_at hget
      have hkI : (k : Int) < (s.length : Int) := by omega
      have hk0 : (0 : Int) ≤ (k : Int) := by omega
      have HM2 := Lib.hid (Lx.cont_drop 43 s k hlt)
      rw [ha] at HM2
      by_cases he : a = 43
      · have heI : ((a.toNat : Int) = 43) = True := by rw [he]; simp
        have heB : ((a.toNat : Int) == 43) = true := by rw [he]; rfl
        have HQ : Hid (R = false) := Lib.hid (by rw [HM.out, HM2.out, he]; simp)
        clear hget ha he
        go_wp2_with fail
        go_ret
        exact ⟨by rw [HQ.out]; rfl, HW.out⟩
      · have heI : ¬ (a.toNat : Int) = 43 := fun e => he (UInt8.toNat_inj.1 (by show a.toNat = 43; omega))
        have heB : ((a.toNat : Int) == 43) = false := by simpa using heI
        have HQ : Hid (R = (decide (s.length ≤ 4096) && ((decide (E = (s.length : Int)) && decide (0 < s.length)) && !(s.drop (k + 1)).contains 43))) := Lib.hid (by
          rw [HM.out, HM2.out, show ((43 : UInt8) == a) = false by rw [beq_eq_false_iff_ne]; exact fun e => he e.symm, Bool.false_or])
        clear hget ha he
        go_wp2_with fail
        go_roundw
        case rel => exact ⟨k + 1, by go_num, by omega, HQ, HW⟩
        case measure => simp [intOf]; omega
    · obtain rfl : k = s.length := by omega
      have HM2 : Hid (R = (decide (s.length ≤ 4096) && (decide (E = (s.length : Int)) && decide (0 < s.length)))) := Lib.hid (by rw [HM.out, List.drop_length]; simp)
      have hkI : ¬ (s.length : Int) < (s.length : Int) := by omega
      clear HM HR
      by_cases hl : s.length ≤ 4096
      · have hlI : (s.length : Int) ≤ 4096 := by omega
        have HWD := Lib.hid (HWC.out hl)
        by_cases hE : E = (s.length : Int)
        · have HM3 : Hid (R = decide (0 < s.length)) := Lib.hid (by rw [HM2.out, decide_eq_true hl, decide_eq_true hE]; simp)
          have hEB : (E == (s.length : Int)) = true := by simpa using hE
          have hET : (E = (s.length : Int)) = True := eq_true hE
          clear hE
          go_wp2_with (go_at_call 33; go_must (refine (HWD.out _).mono ?_; rintro e w2 ⟨rfl, rfl⟩))
          go_ret
          exact ⟨by rw [HM3.out]; rfl, HW.out⟩
        · have HM4 : Hid (R = false) := Lib.hid (by rw [HM2.out, decide_eq_false hE]; simp)
          have hEB : (E == (s.length : Int)) = false := by simpa using hE
          clear hl
          go_wp2_with (go_at_call 33; go_must (refine (HWD.out _).mono ?_; rintro e w2 ⟨rfl, rfl⟩))
          go_ret
          exact ⟨by rw [HM4.out]; rfl, HW.out⟩
      · have hlI : ¬ (s.length : Int) ≤ 4096 := by omega
        have HM4 : Hid (R = false) := Lib.hid (by rw [HM2.out, decide_eq_false hl]; rfl)
        clear hl
        go_wp2_with fail
        go_ret
        exact ⟨by rw [HM4.out]; rfl, HW.out⟩

end Go.Proofs.YtojmcndiooiehaaGreatDoor

namespace Go.Proofs.YtojmcndiooiehaaGreatDoor
open Go.RowKit Go.Sort
open Me

namespace Te
/-- The document's parser in memory: b its block, L all tokens, i how far, e the error. -/
def Rs (w : World) (b : Nat) (L : List Tok) (i : Nat) (e : Int) : Prop := i ≤ L.length ∧ ∃ A cp, RowAt w b 49 #[.slice A L.length cp, .int .i64 (i : Int), .int .i64 e] ∧ Rd w (fun i => i < b) A (Lx.cellsT L)
theorem Rs.lt {w : World} {b : Nat} {L : List Tok} {i : Nat} {e : Int} (h : Rs w b L i e) : b < w.heap.size := by
  obtain ⟨_, A, cp, h, _⟩ := h
  exact h.lt
theorem Rs.on {w w' : World} {b : Nat} {L : List Tok} {i : Nat} {e : Int} (h : Rs w b L i e) (k : Below w.heap.size w w') : Rs w' b L i e := by
  obtain ⟨h0, A, cp, h1, h3⟩ := h
  exact ⟨h0, A, cp, h1.below k h1.lt, h3.below k⟩
theorem Rs.far {w w' : World} {b : Nat} {L : List Tok} {i : Nat} {e : Int} (h : Rs w b L i e) (k : Below (b + 1) w w') : Rs w' b L i e := by
  obtain ⟨h0, A, cp, h1, h3⟩ := h
  exact ⟨h0, A, cp, h1.below k (Nat.lt_succ_self b), h3.keep k.size fun i _ hi => k.block i (Nat.lt_succ_of_lt hi)⟩
theorem Rs.c1 {w : World} {b : Nat} {L : List Tok} {i : Nat} {e : Int} (h : Rs w b L i e) : w.cell? ⟨b, 1, none⟩ = some (.int .i64 (i : Int)) ∧ w.frozen? ⟨b, 1, none⟩ = false := by
  obtain ⟨_, A, cp, h1, _⟩ := h
  exact ⟨(h1.cell 1).trans rfl, h1.frozen 1⟩
theorem Rs.c2 {w : World} {b : Nat} {L : List Tok} {i : Nat} {e : Int} (h : Rs w b L i e) : w.cell? ⟨b, 2, none⟩ = some (.int .i64 e) ∧ w.frozen? ⟨b, 2, none⟩ = false := by
  obtain ⟨_, A, cp, h1, _⟩ := h
  exact ⟨(h1.cell 2).trans rfl, h1.frozen 2⟩
theorem Rs.setI {w : World} {b : Nat} {L : List Tok} {i : Nat} {e : Int} (h : Rs w b L i e) (j : Nat) (hj : j ≤ L.length) (x : Int) (hx : x = (j : Int)) : Rs (w.setCell ⟨b, 1, none⟩ (.int .i64 x)) b L j e := by
  obtain ⟨h0, A, cp, h1, h3⟩ := h
  subst hx
  exact ⟨hj, A, cp, h1.set_ 1 _, h3.kp ((Kp.refl (fun i => i = b) w).setCell ⟨b, 1, none⟩ (.inr rfl) _) fun i _ h => Nat.ne_of_lt h⟩
theorem Rs.setE {w : World} {b : Nat} {L : List Tok} {i : Nat} {e : Int} (h : Rs w b L i e) (e2 : Int) : Rs (w.setCell ⟨b, 2, none⟩ (.int .i64 e2)) b L i e2 := by
  obtain ⟨h0, A, cp, h1, h3⟩ := h
  exact ⟨h0, A, cp, h1.set_ 2 _, h3.kp ((Kp.refl (fun i => i = b) w).setCell ⟨b, 2, none⟩ (.inr rfl) _) fun i _ h => Nat.ne_of_lt h⟩
structure RsD (w : World) (b : Nat) (L : List Tok) (i : Nat) (e : Int) (w' : World) : Prop where
  rs : Rs w' b L i e
  kp : Kp (fun i => i = b) w w'
theorem RsD.trans {w w1 w2 : World} {b : Nat} {L : List Tok} {i j : Nat} {e f : Int} (h : RsD w b L i e w1) (k : RsD w1 b L j f w2) : RsD w b L j f w2 := ⟨k.rs, h.kp.trans k.kp fun _ _ e => e⟩
theorem RsD.on {w w1 w2 : World} {b : Nat} {L : List Tok} {i : Nat} {e : Int} (h : RsD w b L i e w1) (k : Below w1.heap.size w1 w2) : RsD w b L i e w2 := ⟨h.rs.on k, h.kp.trans (Kp.of_below (O := fun _ => False) k) fun _ _ e => e.elim⟩
end Te

set_option maxRecDepth 100000 in
set_option maxHeartbeats 4000000 in
theorem rnext_any {w : World} {b : Nat} {L : List Te.Tok} {i : Nat} {e : Int} (h : Te.Rs w b L i e) (hL : L.length ≤ 4096) (k : Int) :
    Calls Tryz.prog 34 #[.pointer (some ⟨b, 0, none⟩), .int .i64 k] w fun e w' => e = .returned (.bool (Te.hd k (L.drop i))) ∧ Below w.heap.size w w' := by
  have hbl := h.lt
  obtain ⟨h0, A, cp, hrow, hrd⟩ := h
  have c0 : w.cell? ⟨b, 0, none⟩ = some (.slice A L.length cp) := (hrow.cell 0).trans rfl
  have c1 : w.cell? ⟨b, 1, none⟩ = some (.int .i64 (i : Int)) := (hrow.cell 1).trans rfl
  obtain ⟨Q, hQ⟩ : ∃ Q, Q = Te.hd k (L.drop i) := ⟨_, rfl⟩
  rw [← hQ]
  by_cases hlt : i < L.length
  · obtain ⟨b1, o1, rfl, hb1, x0, x1⟩ := Lx.rd_tok hrd hlt
    have hE : Hid (Q = decide (L[i].1 = k)) := Lib.hid (by rw [hQ, List.drop_eq_getElem_cons hlt]; rfl)
    generalize L[i].1 = kk at *
    generalize L[i].2 = tt at *
    have hI : (i : Int) < (L.length : Int) := by omega
    have h00 : (0 : Int) ≤ (i : Int) := by omega
    generalize L.length = m at *
    clear hrow hrd hQ
    by_cases hk : kk = k
    · have HQ : Hid (Q = true) := Lib.hid (by rw [hE.out]; exact decide_eq_true hk)
      subst hk
      go_enter Tryz.func34, Tryz.ntmps34
      go_wp2
      go_quiet (fail)
      rename_i nq
      go_wp2
      go_ret
      exact ⟨by rw [HQ.out]; rfl, Lx.below_drewN (Below.refl _ _) nq⟩
    · have HQ : Hid (Q = false) := Lib.hid (by rw [hE.out]; exact decide_eq_false hk)
      have hb : (kk == k) = false := by simpa using hk
      go_enter Tryz.func34, Tryz.ntmps34
      go_wp2
      go_quiet (fail)
      rename_i nq
      go_wp2
      go_ret
      exact ⟨by rw [HQ.out]; rfl, Lx.below_drewN (Below.refl _ _) nq⟩
  · have HQ : Hid (Q = false) := Lib.hid (by rw [hQ, List.drop_eq_nil_of_le (by omega)]; rfl)
    have hI : ¬ (i : Int) < (L.length : Int) := by omega
    generalize L.length = m at *
    clear hrow hrd hQ
    go_enter Tryz.func34, Tryz.ntmps34
    go_wp2
    go_quiet (fail)
    rename_i nq
    go_wp2
    go_ret
    exact ⟨by rw [HQ.out]; rfl, Lx.below_drewN (Below.refl _ _) nq⟩

set_option maxRecDepth 100000 in
set_option maxHeartbeats 2000000 in
theorem rbad_any {w : World} {b : Nat} {L : List Te.Tok} {i : Nat} (h : Te.Rs w b L i 0) (er : Int) :
    Calls Tryz.prog 23 #[.pointer (some ⟨b, 0, none⟩), .int .i64 er] w fun e w' => e = .returned (.agg #[.int .i64 0, .string ⟨#[]⟩, .int .i64 0, .slice none 0 0]) ∧ Te.RsD w b L i er w' := by
  have hbl := h.lt
  have HR := Lib.hid h
  have x2 := h.c2.1
  have y2 := h.c2.2
  have hb0 : b ≠ w.heap.size := by omega
  clear h
  go_enter Tryz.func23, Tryz.ntmps23
  go_wp2
  refine bodyPost_ret ((Te.results_c1 rfl _ _ _).trans (by simp [go_sem, *]; rfl)) rfl ?_
  exact ⟨rfl, (HR.out.setE er).on ((Below.refl _ _).alloc (Nat.le_refl _) _), ((Kp.refl (fun i => i = b) w).setCell ⟨b, 2, none⟩ (.inr rfl) _).alloc _⟩
end Go.Proofs.YtojmcndiooiehaaGreatDoor

namespace Go.Proofs.YtojmcndiooiehaaGreatDoor
open Go.RowKit Go.Sort
open Me

namespace Te
def wordR (s : List UInt8) : Nd := if Dc.prOk s = true then .mk 3 [] (Dc.prV s) [] else if s = trueT then .mk 5 [] 1 [] else if s = falseT then .mk 5 [] 0 [] else .mk 2 s 0 []
def wordB (s : List UInt8) : Bool := (word s).isSome
theorem wr_num {s : List UInt8} (h : Dc.prOk s = true) : wordR s = .mk 3 [] (Dc.prV s) [] ∧ wordB s = true := by unfold wordR wordB word; rw [if_pos h, if_pos h]; exact ⟨rfl, rfl⟩
theorem wr_true {s : List UInt8} (h : Dc.prOk s = false) (h1 : s = trueT) : wordR s = .mk 5 [] 1 [] ∧ wordB s = true := by
  unfold wordR wordB word; rw [if_neg (by simp [h]), if_pos h1, if_neg (by simp [h]), if_pos h1]; exact ⟨rfl, rfl⟩
theorem wr_false {s : List UInt8} (h : Dc.prOk s = false) (h1 : s = falseT) : wordR s = .mk 5 [] 0 [] ∧ wordB s = true := by
  unfold wordR wordB word; rw [if_neg (by simp [h]), if_neg (by rw [h1]; decide), if_pos h1, if_neg (by simp [h]), if_neg (by rw [h1]; decide), if_pos h1]; exact ⟨rfl, rfl⟩
theorem wr_path {s : List UInt8} (h : Dc.prOk s = false) (h1 : s ≠ trueT) (h2 : s ≠ falseT) : wordR s = .mk 2 s 0 [] ∧ wordB s = pathB s := by
  unfold wordR wordB word; rw [if_neg (by simp [h]), if_neg h1, if_neg h2, if_neg (by simp [h]), if_neg h1, if_neg h2]
  refine ⟨rfl, ?_⟩
  cases pathB s <;> rfl
theorem wr_some {s : List UInt8} {n : Nd} (h : word s = some n) : wordR s = n ∧ wordB s = true := by
  refine ⟨?_, by unfold wordB; rw [h]; rfl⟩
  unfold word at h
  unfold wordR
  split at h
  · rename_i h1; rw [if_pos h1]; exact Option.some.inj h
  · rename_i h1; rw [if_neg h1]
    split at h
    · rename_i h2; rw [if_pos h2]; exact Option.some.inj h
    · rename_i h2; rw [if_neg h2]
      split at h
      · rename_i h3; rw [if_pos h3]; exact Option.some.inj h
      · rename_i h3; rw [if_neg h3]
        split at h
        · exact Option.some.inj h
        · cases h
theorem wr_none {s : List UInt8} (h : word s = none) : wordB s = false := by unfold wordB; rw [h]; rfl
theorem wordR_form (s : List UInt8) : ∃ k t n, wordR s = .mk k t n [] := by
  unfold wordR
  split
  · exact ⟨_, _, _, rfl⟩
  · split
    · exact ⟨_, _, _, rfl⟩
    · split
      · exact ⟨_, _, _, rfl⟩
      · exact ⟨_, _, _, rfl⟩
end Te

set_option maxRecDepth 100000 in
set_option maxHeartbeats 4000000 in
theorem rword_any (s : List UInt8) (hs : s.length ≤ 4294967280) (w : World) :
    Calls Tryz.prog 36 #[.string ⟨s.toArray⟩] w fun e w' => e = .returned (.tuple #[Te.val (Te.wordR s) (.slice none 0 0), .bool (Te.wordB s)]) ∧ Below w.heap.size w w' := by
  have HP := Lib.hid fun W => refParse_any s hs W
  have HL := Lib.hid fun W => lrefPath_any s hs W
  have HE : Hid (Lx.pathA s = Te.pathB s) := Lib.hid rfl
  obtain ⟨R, hR⟩ : ∃ R, R = Te.val (Te.wordR s) (.slice none 0 0) := ⟨_, rfl⟩
  obtain ⟨E, hE⟩ : ∃ E, E = Te.wordB s := ⟨_, rfl⟩
  rw [← hR, ← hE]
  by_cases hp : Dc.prOk s = true
  · obtain ⟨h1, h2⟩ := Te.wr_num hp
    rw [h1] at hR
    rw [h2] at hE
    have HQ := Lib.hid hR
    clear h1 h2 hR
    generalize Dc.prOk s = ok at *
    generalize Dc.prV s = V at *
    subst hp hE
    go_enter Tryz.func36, Tryz.ntmps36
    go_wp2_with (first | (go_at_call 47; go_must (refine (HP.out _).mono ?_; rintro e w2 ⟨rfl, hb2⟩; have HB2 : Hid (Below w.heap.size w w2) := Lib.hid (((Below.refl _ _).alloc (Nat.le_refl _) _).trans (hb2.mono (by simp))); have hr2 : RowAt w2 w.heap.size 24 #[.int .i64 0, .string ⟨#[]⟩, .int .i64 0, .slice none 0 0] := (RowAt.new w _ _).below hb2 (by simp); have x0 : w2.cell? ⟨w.heap.size, 0, none⟩ = some (.int .i64 0) := (hr2.cell 0).trans rfl; have y0 : w2.frozen? ⟨w.heap.size, 0, none⟩ = false := hr2.frozen 0; have x1 : w2.cell? ⟨w.heap.size, 1, none⟩ = some (.string ⟨#[]⟩) := (hr2.cell 1).trans rfl; have y1 : w2.frozen? ⟨w.heap.size, 1, none⟩ = false := hr2.frozen 1; have x2 : w2.cell? ⟨w.heap.size, 2, none⟩ = some (.int .i64 0) := (hr2.cell 2).trans rfl; have y2 : w2.frozen? ⟨w.heap.size, 2, none⟩ = false := hr2.frozen 2; have x3 : w2.cell? ⟨w.heap.size, 3, none⟩ = some (.slice none 0 0) := (hr2.cell 3).trans rfl; have y3 : w2.frozen? ⟨w.heap.size, 3, none⟩ = false := hr2.frozen 3; have l2 := hr2.lt; have HR2 := Lib.hid hr2; clear hb2 hr2)))
    refine bodyPost_ret ((results_cell_tmp rfl _ _ _).trans (by simp [go_sem, *]; rfl)) rfl ?_
    exact ⟨by rw [HQ.out]; rfl, by have h := HB2.out; exact (by repeat (first | exact Below.refl _ _ | assumption | refine Below.setCell ?_ (by first | (simp; done) | omega | (simp; omega) | (simp at *; omega)) _ | refine Below.alloc ?_ (by first | (simp; done) | omega | (simp; omega) | (simp at *; omega)) _ | refine Below.drew ?_ | (refine Below.trans ?_ (Below.mono (by assumption) (by first | (simp; done) | omega | (simp; omega) | (simp at *; omega)))) | (refine Below.trans ?_ (Below.mono (below_regrown _ _ _) (by first | (simp; done) | omega | (simp; omega) | (simp at *; omega))))))⟩
  have hp2 : Dc.prOk s = false := by simpa using hp
  clear hp
  by_cases ht : s = [116, 114, 117, 101]
  · obtain ⟨h1, h2⟩ := Te.wr_true hp2 ht
    rw [h1] at hR
    rw [h2] at hE
    have HQ := Lib.hid hR
    have e1 : (s == ([116, 114, 117, 101] : List UInt8)) = true := by simpa using ht
    clear ht
    clear h1 h2 hR
    generalize Dc.prOk s = ok at *
    generalize Dc.prV s = V at *
    subst hp2 hE
    go_enter Tryz.func36, Tryz.ntmps36
    go_wp2_with (first | (go_at_call 47; go_must (refine (HP.out _).mono ?_; rintro e w2 ⟨rfl, hb2⟩; have HB2 : Hid (Below w.heap.size w w2) := Lib.hid (((Below.refl _ _).alloc (Nat.le_refl _) _).trans (hb2.mono (by simp))); have hr2 : RowAt w2 w.heap.size 24 #[.int .i64 0, .string ⟨#[]⟩, .int .i64 0, .slice none 0 0] := (RowAt.new w _ _).below hb2 (by simp); have x0 : w2.cell? ⟨w.heap.size, 0, none⟩ = some (.int .i64 0) := (hr2.cell 0).trans rfl; have y0 : w2.frozen? ⟨w.heap.size, 0, none⟩ = false := hr2.frozen 0; have x1 : w2.cell? ⟨w.heap.size, 1, none⟩ = some (.string ⟨#[]⟩) := (hr2.cell 1).trans rfl; have y1 : w2.frozen? ⟨w.heap.size, 1, none⟩ = false := hr2.frozen 1; have x2 : w2.cell? ⟨w.heap.size, 2, none⟩ = some (.int .i64 0) := (hr2.cell 2).trans rfl; have y2 : w2.frozen? ⟨w.heap.size, 2, none⟩ = false := hr2.frozen 2; have x3 : w2.cell? ⟨w.heap.size, 3, none⟩ = some (.slice none 0 0) := (hr2.cell 3).trans rfl; have y3 : w2.frozen? ⟨w.heap.size, 3, none⟩ = false := hr2.frozen 3; have l2 := hr2.lt; have HR2 := Lib.hid hr2; clear hb2 hr2)))
    refine bodyPost_ret ((results_cell_tmp rfl _ _ _).trans (by simp [go_sem, *]; rfl)) rfl ?_
    exact ⟨by rw [HQ.out]; rfl, by have h := HB2.out; exact (by repeat (first | exact Below.refl _ _ | assumption | refine Below.setCell ?_ (by first | (simp; done) | omega | (simp; omega) | (simp at *; omega)) _ | refine Below.alloc ?_ (by first | (simp; done) | omega | (simp; omega) | (simp at *; omega)) _ | refine Below.drew ?_ | (refine Below.trans ?_ (Below.mono (by assumption) (by first | (simp; done) | omega | (simp; omega) | (simp at *; omega)))) | (refine Below.trans ?_ (Below.mono (below_regrown _ _ _) (by first | (simp; done) | omega | (simp; omega) | (simp at *; omega))))))⟩
  have e1 : (s == ([116, 114, 117, 101] : List UInt8)) = false := by simpa using ht
  by_cases hf : s = [102, 97, 108, 115, 101]
  · obtain ⟨h1, h2⟩ := Te.wr_false hp2 hf
    rw [h1] at hR
    rw [h2] at hE
    have HQ := Lib.hid hR
    have e2 : (s == ([102, 97, 108, 115, 101] : List UInt8)) = true := by simpa using hf
    clear ht hf
    clear h1 h2 hR
    generalize Dc.prOk s = ok at *
    generalize Dc.prV s = V at *
    subst hp2 hE
    go_enter Tryz.func36, Tryz.ntmps36
    go_wp2_with (first | (go_at_call 47; go_must (refine (HP.out _).mono ?_; rintro e w2 ⟨rfl, hb2⟩; have HB2 : Hid (Below w.heap.size w w2) := Lib.hid (((Below.refl _ _).alloc (Nat.le_refl _) _).trans (hb2.mono (by simp))); have hr2 : RowAt w2 w.heap.size 24 #[.int .i64 0, .string ⟨#[]⟩, .int .i64 0, .slice none 0 0] := (RowAt.new w _ _).below hb2 (by simp); have x0 : w2.cell? ⟨w.heap.size, 0, none⟩ = some (.int .i64 0) := (hr2.cell 0).trans rfl; have y0 : w2.frozen? ⟨w.heap.size, 0, none⟩ = false := hr2.frozen 0; have x1 : w2.cell? ⟨w.heap.size, 1, none⟩ = some (.string ⟨#[]⟩) := (hr2.cell 1).trans rfl; have y1 : w2.frozen? ⟨w.heap.size, 1, none⟩ = false := hr2.frozen 1; have x2 : w2.cell? ⟨w.heap.size, 2, none⟩ = some (.int .i64 0) := (hr2.cell 2).trans rfl; have y2 : w2.frozen? ⟨w.heap.size, 2, none⟩ = false := hr2.frozen 2; have x3 : w2.cell? ⟨w.heap.size, 3, none⟩ = some (.slice none 0 0) := (hr2.cell 3).trans rfl; have y3 : w2.frozen? ⟨w.heap.size, 3, none⟩ = false := hr2.frozen 3; have l2 := hr2.lt; have HR2 := Lib.hid hr2; clear hb2 hr2)))
    refine bodyPost_ret ((results_cell_tmp rfl _ _ _).trans (by simp [go_sem, *]; rfl)) rfl ?_
    exact ⟨by rw [HQ.out]; rfl, by have h := HB2.out; exact (by repeat (first | exact Below.refl _ _ | assumption | refine Below.setCell ?_ (by first | (simp; done) | omega | (simp; omega) | (simp at *; omega)) _ | refine Below.alloc ?_ (by first | (simp; done) | omega | (simp; omega) | (simp at *; omega)) _ | refine Below.drew ?_ | (refine Below.trans ?_ (Below.mono (by assumption) (by first | (simp; done) | omega | (simp; omega) | (simp at *; omega)))) | (refine Below.trans ?_ (Below.mono (below_regrown _ _ _) (by first | (simp; done) | omega | (simp; omega) | (simp at *; omega))))))⟩
  have e2 : (s == ([102, 97, 108, 115, 101] : List UInt8)) = false := by simpa using hf
  rw [HE.out] at HL
  obtain ⟨h1, h2⟩ := Te.wr_path hp2 ht hf
  rw [h1] at hR
  rw [h2] at hE
  have HQ := Lib.hid hR
  clear HE ht hf
  clear h1 h2 hR
  generalize Dc.prOk s = ok at *
  generalize Dc.prV s = V at *
  subst hp2 hE
  go_enter Tryz.func36, Tryz.ntmps36
  go_wp2_with (first | (go_at_call 47; go_must (refine (HP.out _).mono ?_; rintro e w2 ⟨rfl, hb2⟩; have HB2 : Hid (Below w.heap.size w w2) := Lib.hid (((Below.refl _ _).alloc (Nat.le_refl _) _).trans (hb2.mono (by simp))); have hr2 : RowAt w2 w.heap.size 24 #[.int .i64 0, .string ⟨#[]⟩, .int .i64 0, .slice none 0 0] := (RowAt.new w _ _).below hb2 (by simp); have x0 : w2.cell? ⟨w.heap.size, 0, none⟩ = some (.int .i64 0) := (hr2.cell 0).trans rfl; have y0 : w2.frozen? ⟨w.heap.size, 0, none⟩ = false := hr2.frozen 0; have x1 : w2.cell? ⟨w.heap.size, 1, none⟩ = some (.string ⟨#[]⟩) := (hr2.cell 1).trans rfl; have y1 : w2.frozen? ⟨w.heap.size, 1, none⟩ = false := hr2.frozen 1; have x2 : w2.cell? ⟨w.heap.size, 2, none⟩ = some (.int .i64 0) := (hr2.cell 2).trans rfl; have y2 : w2.frozen? ⟨w.heap.size, 2, none⟩ = false := hr2.frozen 2; have x3 : w2.cell? ⟨w.heap.size, 3, none⟩ = some (.slice none 0 0) := (hr2.cell 3).trans rfl; have y3 : w2.frozen? ⟨w.heap.size, 3, none⟩ = false := hr2.frozen 3; have l2 := hr2.lt; have HR2 := Lib.hid hr2; clear hb2 hr2)) | (go_at_call 48; go_must (refine (HL.out _).mono ?_; rintro e w3 ⟨rfl, rfl⟩)))
  refine bodyPost_ret ((results_cell_tmp rfl _ _ _).trans (by simp [go_sem, *]; rfl)) rfl ?_
  exact ⟨by rw [HQ.out]; rfl, by have h := HB2.out; exact (by repeat (first | exact Below.refl _ _ | assumption | refine Below.setCell ?_ (by first | (simp; done) | omega | (simp; omega) | (simp at *; omega)) _ | refine Below.alloc ?_ (by first | (simp; done) | omega | (simp; omega) | (simp at *; omega)) _ | refine Below.drew ?_ | (refine Below.trans ?_ (Below.mono (by assumption) (by first | (simp; done) | omega | (simp; omega) | (simp at *; omega)))) | (refine Below.trans ?_ (Below.mono (below_regrown _ _ _) (by first | (simp; done) | omega | (simp; omega) | (simp at *; omega))))))⟩
end Go.Proofs.YtojmcndiooiehaaGreatDoor
