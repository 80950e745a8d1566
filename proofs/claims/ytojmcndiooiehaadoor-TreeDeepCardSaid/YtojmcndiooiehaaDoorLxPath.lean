/-
  CONTRACTS: chapter 14: Path, on both sides; the law's tokens.
-/
import Derived.Test.YtojmcndiooiehaaDoorLxRef
import Derived.Test.YtojmcndiooiehaaDoorLxId
namespace Go.Proofs.YtojmcndiooiehaaDoor
open Go.RowKit
open Me

namespace Lx
/-- Path, as it is asked of any text. -/
def pathA (l : List UInt8) : Bool := decide (l.length ≤ 4096) && pathOf l
theorem rd_tok {w : World} {G : Nat → Prop} {A : Option Addr} {l : List Tok} (h : Rd w G A (cellsT l)) {i : Nat} (hi : i < l.length) : ∃ b o, A = some ⟨b, o, none⟩ ∧ b < w.heap.size ∧ w.cell? ⟨b, o + i * 2, none⟩ = some (.int .i64 l[i].1) ∧ w.cell? ⟨b, o + i * 2 + 1, none⟩ = some (.string ⟨l[i].2.toArray⟩) := by
  obtain ⟨b, o, hA, hb, _, hc⟩ := h.lit (i * 2) (by rw [cellsT_len]; omega)
  have hg : ∀ (l : List Tok) (i : Nat) (hi : i < l.length), (cellsT l)[i * 2]? = some (.int .i64 l[i].1) ∧ (cellsT l)[i * 2 + 1]? = some (.string ⟨l[i].2.toArray⟩) := by
    intro l
    induction l with
    | nil => intro i hi; cases hi
    | cons x l ih =>
      intro i hi
      have e : cellsT (x :: l) = .int .i64 x.1 :: .string ⟨x.2.toArray⟩ :: cellsT l := rfl
      cases i with
      | zero => rw [e]; exact ⟨rfl, rfl⟩
      | succ i =>
        have := ih i (by simpa using hi)
        rw [e, show (i + 1) * 2 = i * 2 + 1 + 1 by omega]
        exact this
  obtain ⟨g1, g2⟩ := hg l i hi
  exact ⟨b, o, hA, hb, hc _ _ g1, by rw [Nat.add_assoc]; exact hc _ _ g2⟩
theorem below_drewN {B : Nat} {a w : World} (h : Below B a w) (n : Nat) : Below B a (w.drewN n) := ⟨h.os, h.tape, h.output, h.size, h.block⟩
theorem path_long {l : List UInt8} (h : 4096 < l.length) : pathA l = false := by
  unfold pathA; rw [decide_eq_false (by omega)]; rfl
theorem path_word {l : List UInt8} (h : ¬ 4096 < l.length) : pathA l = (decide (lex l = some [(1, l)]) && !l.contains 43) := by
  unfold pathA pathOf
  rw [decide_eq_true (by omega), Bool.true_and]
  congr 1
  have := one_word l
  by_cases h1 : scan l 0 = some l.length
  · by_cases h2 : 0 < l.length
    · rw [decide_eq_true h1, decide_eq_true h2, decide_eq_true (this.2 ⟨h1, h2⟩)]; rfl
    · rw [decide_eq_false h2, decide_eq_false (fun e => h2 (this.1 e).2), Bool.and_false]
  · rw [decide_eq_false h1, decide_eq_false (fun e => h1 (this.1 e).1), Bool.false_and]
end Lx

set_option maxRecDepth 100000 in
set_option maxHeartbeats 8000000 in
theorem lpath_any (s : List UInt8) (hs : s.length ≤ 4294967280) (w : World) :
    Calls Tryd.prog 50 #[.string ⟨s.toArray⟩] w fun e w' => e = .returned (.bool (Lx.pathA s)) ∧ Below w.heap.size w w' := by
  have HLX := Lib.hid (llex_any s hs w)
  have HCT := Lib.hid fun W => contains_one s 43 W
  have HNO : Hid ((Lx.lexL s).length ≠ 1 → Lx.pathA s = false) := Lib.hid fun h => by
    by_cases hl : 4096 < s.length
    · exact Lx.path_long hl
    · rw [Lx.path_word hl]
      cases hx : Lx.lex s with
      | none => rfl
      | some x =>
        rw [(Lx.lex_yes hl hx).2] at h
        rw [decide_eq_false (fun e => h (by rw [Option.some.inj e]; rfl))]; rfl
  have HYES : Hid (∀ k t, Lx.lexL s = [(k, t)] → Lx.pathA s = (decide (k = 1 ∧ t = s) && !s.contains 43)) := Lib.hid fun k t h => by
    by_cases hl : 4096 < s.length
    · rw [(Lx.lex_long hl).2] at h; cases h
    · rw [Lx.path_word hl]
      cases hx : Lx.lex s with
      | none => rw [(Lx.lex_no hl hx).2] at h; cases h
      | some x =>
        rw [(Lx.lex_yes hl hx).2] at h
        subst h
        congr 1
        rw [decide_eq_decide]
        constructor
        · intro e; have := Option.some.inj e; simpa using this
        · rintro ⟨rfl, rfl⟩; rfl
  have HLX2 : Hid (Calls Tryd.prog 9 #[.string ⟨s.toArray⟩] w fun e w' => ∃ v er, e = .returned (.tuple #[v, .int .i64 er]) ∧ Lx.OwnT 55 w.heap.size w' v (Lx.lexL s) ∧ Below w.heap.size w w') := Lib.hid (HLX.out.mono fun e w' ⟨v, h1, h2, h3⟩ => ⟨v, _, h1, h2, h3⟩)
  clear HLX
  generalize Lx.pathA s = R at *
  generalize Lx.lexL s = L at *
  by_cases h1 : L.length = 1
  · obtain ⟨⟨k, t⟩, rfl⟩ : ∃ x, L = [x] := by
      cases L with
      | nil => cases h1
      | cons x r =>
        cases r with
        | nil => exact ⟨x, rfl⟩
        | cons y r => simp at h1
    have HQ := Lib.hid (HYES.out k t rfl)
    clear h1 HYES HNO
    generalize s.contains 43 = q at *
    by_cases hk : k = 1
    · subst hk
      by_cases ht : t = s
      · have HQ2 : Hid (R = !q) := Lib.hid (by rw [HQ.out, decide_eq_true ⟨rfl, ht⟩]; rfl)
        subst ht
        clear HQ
        go_enter Tryd.func50, Tryd.ntmps50
        go_wp2_with first
          | (go_at_call 9; go_must (refine HLX2.out.mono ?_; rintro e w1 ⟨v, er, rfl, ho, hb⟩; obtain ⟨A, c, hv⟩ := ho.form; have hv2 : v = .slice A 1 c := hv; subst hv2; obtain ⟨b1, o1, rfl, hb1, x0, x1⟩ := Lx.rd_tok (i := 0) (Rd.own ho) (by simp); have x0 : w1.cell? ⟨b1, o1, none⟩ = some (.int .i64 1) := x0; have x1 : w1.cell? ⟨b1, o1 + 1, none⟩ = some (.string ⟨t.toArray⟩) := x1; have HB := Lib.hid hb; clear ho hb hv))
          | (go_at_call 38; go_must (refine (HCT.out _).mono ?_; rintro e w2 ⟨rfl, rfl⟩))
        go_ret
        exact ⟨by rw [HQ2.out]; rfl, HB.out⟩
      · have HQ2 : Hid (R = false) := Lib.hid (by rw [HQ.out, decide_eq_false (fun e => ht e.2)]; rfl)
        have e1 : (t == s) = false := by simpa using ht
        have e2 : ¬ t = s := ht
        clear HQ ht
        go_enter Tryd.func50, Tryd.ntmps50
        go_wp2_with first
          | (go_at_call 9; go_must (refine HLX2.out.mono ?_; rintro e w1 ⟨v, er, rfl, ho, hb⟩; obtain ⟨A, c, hv⟩ := ho.form; have hv2 : v = .slice A 1 c := hv; subst hv2; obtain ⟨b1, o1, rfl, hb1, x0, x1⟩ := Lx.rd_tok (i := 0) (Rd.own ho) (by simp); have x0 : w1.cell? ⟨b1, o1, none⟩ = some (.int .i64 1) := x0; have x1 : w1.cell? ⟨b1, o1 + 1, none⟩ = some (.string ⟨t.toArray⟩) := x1; have HB := Lib.hid hb; clear ho hb hv))
          | (go_at_call 38; go_must (refine (HCT.out _).mono ?_; rintro e w2 ⟨rfl, rfl⟩))
        go_ret
        exact ⟨by rw [HQ2.out]; rfl, HB.out⟩
    · have HQ2 : Hid (R = false) := Lib.hid (by rw [HQ.out, decide_eq_false (fun e => hk e.1)]; rfl)
      have e1 : (k == 1) = false := by simpa using hk
      have e2 : ¬ k = 1 := hk
      clear HQ hk
      go_enter Tryd.func50, Tryd.ntmps50
      go_wp2_with first
        | (go_at_call 9; go_must (refine HLX2.out.mono ?_; rintro e w1 ⟨v, er, rfl, ho, hb⟩; obtain ⟨A, c, hv⟩ := ho.form; have hv2 : v = .slice A 1 c := hv; subst hv2; obtain ⟨b1, o1, rfl, hb1, x0, x1⟩ := Lx.rd_tok (i := 0) (Rd.own ho) (by simp); have x0 : w1.cell? ⟨b1, o1, none⟩ = some (.int .i64 k) := x0; have x1 : w1.cell? ⟨b1, o1 + 1, none⟩ = some (.string ⟨t.toArray⟩) := x1; have HB := Lib.hid hb; clear ho hb hv))
        | (go_at_call 38; go_must (refine (HCT.out _).mono ?_; rintro e w2 ⟨rfl, rfl⟩))
      go_ret
      exact ⟨by rw [HQ2.out]; rfl, HB.out⟩
  · have HQ := Lib.hid (HNO.out h1)
    have e1 : ¬ (L.length : Int) = 1 := by omega
    have e2 : ((L.length : Int) == 1) = false := by simpa using e1
    clear h1 HYES HNO
    go_enter Tryd.func50, Tryd.ntmps50
    go_wp2_with (go_at_call 9; go_must (refine HLX2.out.mono ?_; rintro e w1 ⟨v, er, rfl, ho, hb⟩; obtain ⟨A, c, rfl⟩ := ho.form; have HB := Lib.hid hb; clear ho hb))
    go_ret
    exact ⟨by rw [HQ.out]; rfl, HB.out⟩

end Go.Proofs.YtojmcndiooiehaaDoor
