/-
  CONTRACTS: chapter 11: an atom, a piece.
-/
import Derived.Test.YtajijcnfhijanaaRxGrp
namespace Go.Proofs.Ytajijcnfhijanaa
open Go.RowKit
open Me

namespace Rx
theorem one_rd (W : World) (x : In) (N : Nat) (hN : N = W.heap.size) : RdC (W.alloc (.cells #[.int .i64 x.op, .int .i64 x.x, .int .i64 x.y, .string ⟨x.p.toArray⟩] 36)) N (.slice (some ⟨N, 0, none⟩) 1 1) [x] := by
  subst hN
  refine ⟨_, 1, rfl, ?_⟩
  rw [cellsI_single]
  exact (Rd.fresh W (cellI x) 36 W.heap.size rfl).mono fun i _ hi => by have hi : i = W.heap.size := hi; show W.heap.size ≤ i; omega
end Rx

set_option maxRecDepth 100000 in
set_option maxHeartbeats 8000000 in
theorem atom_of {n : Nat} {E : List UInt8 → Nat → Nat → Rx.Res} (hE : Rx.ExprC n E) (hS : Rx.Short E) {w : World} {b g d : Nat} {x : UInt8} {r : List UInt8} (h : Rx.PsAt w b (x :: r) g d) (hs : r.length < n) (hg : g + r.length + 1 ≤ 8192) (hd : d ≤ 64) :
    Calls Try.prog 32 #[.pointer (some ⟨b, 0, none⟩)] w (Rx.Parsed w b d (Rx.atomE E (x :: r) g d)) := by
  have HT0 := Lib.hid (Rx.Took.refl h)
  have hbl := h.lt
  clear h
  by_cases h40 : x = 40
  · subst h40
    have HE : Hid (Rx.atomE E (40 :: r) g d = Rx.groupE E r g d) := Lib.hid rfl
    rw [HE.out]
    have H40 : Hid (Rx.starts 40 (40 :: r) = true) := Lib.hid rfl
    have HG : Hid (∀ W, Rx.PsAt W b r g d → Calls Try.prog 38 #[.pointer (some ⟨b, 0, none⟩)] W (Rx.Parsed W b d (Rx.groupE E r g d))) := Lib.hid fun W h => group_of hE hS h hs hg hd
    clear hE hS HE
    cases hq : Rx.groupE E r g d with
    | error er =>
      have HR := Lib.hid hq
      clear hq
      go_enter Try.func32, Try.ntmps32
      go_wp2_with first
        | (go_at_call 20; ((with_reducible refine (takes_yes (c := 40) HT0.out.at_ H40.out rfl).mono ?_); rintro e w1 ⟨rfl, ht⟩; have HT1 := Lib.hid (HT0.out.trans ht); clear ht))
        | (go_at_call 38; go_must (refine (HG.out _ HT1.out.at_).mono ?_; rintro e w2 hq; rw [HR.out] at hq; obtain ⟨h0, rfl, hk⟩ := hq.bad; have HK := Lib.hid (HT1.out.kp.trans hk fun _ _ h => h); clear hk hq))
      ((try simp only [Exit.inBlock, Exit.then]); refine bodyPost_ret (results_tmp2 rfl _ _ _) rfl ?_)
      exact Rx.Parsed.err HK.out h0
    | ok y =>
      obtain ⟨c, m, g2⟩ := y
      have HR := Lib.hid hq
      clear hq
      go_enter Try.func32, Try.ntmps32
      go_wp2_with first
        | (go_at_call 20; ((with_reducible refine (takes_yes (c := 40) HT0.out.at_ H40.out rfl).mono ?_); rintro e w1 ⟨rfl, ht⟩; have HT1 := Lib.hid (HT0.out.trans ht); clear ht))
        | (go_at_call 38; go_must (refine (HG.out _ HT1.out.at_).mono ?_; rintro e w2 hq; rw [HR.out] at hq; obtain ⟨v, rfl, hv, ht⟩ := hq.got; have HV := Lib.hid hv; have HT2 := Lib.hid (HT1.out.trans ht); clear hv ht hq))
      ((try simp only [Exit.inBlock, Exit.then]); refine bodyPost_ret (results_tmp2 rfl _ _ _) rfl ?_)
      exact Rx.Parsed.ok HT2.out HV.out HT1.out.size
  have H40 : Hid (Rx.starts 40 (x :: r) = false) := Lib.hid (by show (x == 40) = false; simpa using h40)
  by_cases h94 : x = 94
  · subst h94
    have HE : Hid (Rx.atomE E (94 :: r) g d = .ok ([⟨5, 0, 0, []⟩], r, g)) := Lib.hid rfl
    rw [HE.out]
    have H94 : Hid (Rx.starts 94 (94 :: r) = true) := Lib.hid rfl
    clear hE hS HE
    go_enter Try.func32, Try.ntmps32
    go_wp2_with first
        | (go_at_call 20; ((with_reducible refine (takes_no (c := 40) HT0.out.at_ H40.out).mono ?_); rintro e w1 ⟨rfl, ht⟩; have HT1 := Lib.hid (HT0.out.trans ht); clear ht))
        | (go_at_call 20; ((with_reducible refine (takes_yes (c := 94) HT1.out.at_ H94.out rfl).mono ?_); rintro e w2 ⟨rfl, ht⟩; have HT2 := Lib.hid (HT1.out.trans ht); clear ht))
    ((try simp only [Exit.inBlock, Exit.then]); refine bodyPost_ret (results_tmp2 rfl _ _ _) rfl ?_)
    exact Rx.Parsed.ok (HT2.out.on ((Below.refl _ _).alloc (Nat.le_refl _) _)) (Rx.one_rd w2 ⟨5, 0, 0, []⟩ _ rfl) HT2.out.size
  have H94 : Hid (Rx.starts 94 (x :: r) = false) := Lib.hid (by show (x == 94) = false; simpa using h94)
  by_cases h36 : x = 36
  · subst h36
    have HE : Hid (Rx.atomE E (36 :: r) g d = .ok ([⟨6, 0, 0, []⟩], r, g)) := Lib.hid rfl
    rw [HE.out]
    have H36 : Hid (Rx.starts 36 (36 :: r) = true) := Lib.hid rfl
    clear hE hS HE
    go_enter Try.func32, Try.ntmps32
    go_wp2_with first
        | (go_at_call 20; ((with_reducible refine (takes_no (c := 40) HT0.out.at_ H40.out).mono ?_); rintro e w1 ⟨rfl, ht⟩; have HT1 := Lib.hid (HT0.out.trans ht); clear ht))
        | (go_at_call 20; ((with_reducible refine (takes_no (c := 94) HT1.out.at_ H94.out).mono ?_); rintro e w2 ⟨rfl, ht⟩; have HT2 := Lib.hid (HT1.out.trans ht); clear ht))
        | (go_at_call 20; ((with_reducible refine (takes_yes (c := 36) HT2.out.at_ H36.out rfl).mono ?_); rintro e w3 ⟨rfl, ht⟩; have HT3 := Lib.hid (HT2.out.trans ht); clear ht))
    ((try simp only [Exit.inBlock, Exit.then]); refine bodyPost_ret (results_tmp2 rfl _ _ _) rfl ?_)
    exact Rx.Parsed.ok (HT3.out.on ((Below.refl _ _).alloc (Nat.le_refl _) _)) (Rx.one_rd w3 ⟨6, 0, 0, []⟩ _ rfl) HT3.out.size
  have H36 : Hid (Rx.starts 36 (x :: r) = false) := Lib.hid (by show (x == 36) = false; simpa using h36)
  have HE : Hid (Rx.atomE E (x :: r) g d = (match Rx.set (x :: r) with
      | none => .error 8
      | some (f, r2) => .ok ([⟨1, 0, 0, Rx.pairs f⟩], r2, g))) := Lib.hid (by rw [Rx.atomE, if_neg h40, if_neg h94, if_neg h36]; rfl)
  rw [HE.out]
  clear hE hS HE h40 h94 h36
  cases hq : Rx.set (x :: r) with
  | none =>
    have HR := Lib.hid hq
    clear hq
    go_enter Try.func32, Try.ntmps32
    go_wp2_with first
        | (go_at_call 20; ((with_reducible refine (takes_no (c := 40) HT0.out.at_ H40.out).mono ?_); rintro e w1 ⟨rfl, ht⟩; have HT1 := Lib.hid (HT0.out.trans ht); clear ht))
        | (go_at_call 20; ((with_reducible refine (takes_no (c := 94) HT1.out.at_ H94.out).mono ?_); rintro e w2 ⟨rfl, ht⟩; have HT2 := Lib.hid (HT1.out.trans ht); clear ht))
        | (go_at_call 20; ((with_reducible refine (takes_no (c := 36) HT2.out.at_ H36.out).mono ?_); rintro e w3 ⟨rfl, ht⟩; have HT3 := Lib.hid (HT2.out.trans ht); clear ht))
        | (go_at_call 39; go_must (refine (rset_any HT3.out.at_).mono ?_; rintro e w4 hq; rw [HR.out] at hq; rcases hq with ⟨f, m, hz, _⟩ | ⟨_, ⟨f, rfl⟩, m, ht⟩; (cases hz); have HT4 := Lib.hid (HT3.out.trans ht); clear ht))
        | ((with_reducible refine Rx.stset_new (Rx.cel f) _ (Rx.cel_size f) (Rx.cel_one f) z_size ?_ ?_ ?_); (focus simp [Act.eval, Act.put]); (focus simp [Act.eval, Act.put]))
    ((try simp only [Exit.inBlock, Exit.then]); refine bodyPost_ret (results_tmp2 rfl _ _ _) rfl ?_)
    exact Rx.Parsed.err (HT4.out.on ((Below.refl _ _).alloc (Nat.le_refl _) _)).kp (by decide)
  | some y =>
    obtain ⟨f, r2⟩ := y
    have HR := Lib.hid hq
    clear hq
    go_enter Try.func32, Try.ntmps32
    go_wp2_with first
        | (go_at_call 20; ((with_reducible refine (takes_no (c := 40) HT0.out.at_ H40.out).mono ?_); rintro e w1 ⟨rfl, ht⟩; have HT1 := Lib.hid (HT0.out.trans ht); clear ht))
        | (go_at_call 20; ((with_reducible refine (takes_no (c := 94) HT1.out.at_ H94.out).mono ?_); rintro e w2 ⟨rfl, ht⟩; have HT2 := Lib.hid (HT1.out.trans ht); clear ht))
        | (go_at_call 20; ((with_reducible refine (takes_no (c := 36) HT2.out.at_ H36.out).mono ?_); rintro e w3 ⟨rfl, ht⟩; have HT3 := Lib.hid (HT2.out.trans ht); clear ht))
        | (go_at_call 39; go_must (refine (rset_any HT3.out.at_).mono ?_; rintro e w4 hq; rw [HR.out] at hq; rcases hq with ⟨f2, m, hz, rfl, ht⟩ | ⟨hz, _⟩; (obtain ⟨rfl, rfl⟩ : f = f2 ∧ r2 = m := by simpa using hz); have HT4 := Lib.hid ((HT3.out.trans ht).on ((Below.refl _ _).alloc (Nat.le_refl _) (.cells (Rx.cel f) 73))); clear ht hz; rotate_left; cases hz))
        | ((with_reducible refine Rx.stset_new (Rx.cel f) _ (Rx.cel_size f) (Rx.cel_one f) z_size ?_ ?_ ?_); (focus simp [Act.eval, Act.put]); (focus simp [Act.eval, Act.put]))
        | (go_at_call 40; go_must (refine (sPairs_any (RowAt.new w4 (Rx.cel f) 73)).mono ?_; rintro e w5 ⟨rfl, hb⟩; have HT5 := Lib.hid (HT4.out.on hb); clear hb))
    ((try simp only [Exit.inBlock, Exit.then]); refine bodyPost_ret (results_tmp2 rfl _ _ _) rfl ?_)
    exact Rx.Parsed.ok (HT5.out.on ((Below.refl _ _).alloc (Nat.le_refl _) _)) (Rx.one_rd w5 ⟨1, 0, 0, Rx.pairs f⟩ _ rfl) HT5.out.size
end Go.Proofs.Ytajijcnfhijanaa
