/-
  CONTRACTS: chapter 11: an expression's parts: a group, an atom, a piece, given that shorter expressions are read as they should.
-/
import Derived.Test.YtajijcnfhijanaaRxPl
namespace Go.Proofs.Ytajijcnfhijanaa
open Go.RowKit
open Me

namespace Rx
/-- What a reader of instructions leaves: instructions, or an error; then the parser does not matter. -/
def Parsed (w : World) (b d : Nat) (res : Res) (e : Ending) (w' : World) : Prop :=
  (∃ c r g v, res = .ok (c, r, g) ∧ e = .returned (.tuple #[v, .int .i64 0]) ∧ RdC w' w.heap.size v c ∧ Took w b r g d w') ∨
  (∃ er, res = .error er ∧ er ≠ 0 ∧ e = .returned (.tuple #[.slice none 0 0, .int .i64 er]) ∧ Kp (fun i => i = b) w w')
theorem RdC.base {W : World} {a b : Nat} {v : Value} {c : List In} (h : RdC W b v c) (hab : a ≤ b) : RdC W a v c := by
  obtain ⟨A, n, e, hr⟩ := h
  exact ⟨A, n, e, hr.mono fun i _ hi => Nat.le_trans hab hi⟩
theorem Parsed.ok {w W : World} {b d base g : Nat} {v : Value} {c : List In} {r : List UInt8} (ht : Took w b r g d W) (hr : RdC W base v c) (hb : w.heap.size ≤ base) : Parsed w b d (.ok (c, r, g)) (.returned (.tuple #[v, .int .i64 0])) W :=
  .inl ⟨c, r, g, v, rfl, rfl, hr.base hb, ht⟩
theorem Parsed.err {w W : World} {b d : Nat} {er : Int} (h : Kp (fun i => i = b) w W) (h0 : er ≠ 0) : Parsed w b d (.error er) (.returned (.tuple #[.slice none 0 0, .int .i64 er])) W :=
  .inr ⟨er, rfl, h0, rfl, h⟩
theorem Parsed.got {w W : World} {b d g : Nat} {c : List In} {r : List UInt8} {e : Ending} (h : Parsed w b d (.ok (c, r, g)) e W) : ∃ v, e = .returned (.tuple #[v, .int .i64 0]) ∧ RdC W w.heap.size v c ∧ Took w b r g d W := by
  rcases h with ⟨c2, r2, g2, v, h1, h2, h3, h4⟩ | ⟨er, h1, _⟩
  · cases h1; exact ⟨v, h2, h3, h4⟩
  · cases h1
theorem Parsed.bad {w W : World} {b d : Nat} {er : Int} {e : Ending} (h : Parsed w b d (.error er) e W) : er ≠ 0 ∧ e = .returned (.tuple #[.slice none 0 0, .int .i64 er]) ∧ Kp (fun i => i = b) w W := by
  rcases h with ⟨c2, r2, g2, v, h1, _⟩ | ⟨er2, h1, h2, h3, h4⟩
  · cases h1
  · cases h1; exact ⟨h2, h3, h4⟩
/-- Expressions shorter than n are read as E says. -/
def ExprC (n : Nat) (E : List UInt8 → Nat → Nat → Res) : Prop := ∀ (s : List UInt8) (g d : Nat) (w : World) (b : Nat), PsAt w b s g d → s.length < n → g + s.length ≤ 8192 → d ≤ 64 →
  Calls Try.prog 12 #[.pointer (some ⟨b, 0, none⟩)] w (Parsed w b d (E s g d))
theorem pre_two (s : List UInt8) : List.isPrefixOf [63, 58] s = (starts 63 s && starts 58 (s.drop 1)) := by
  cases s with
  | nil => rfl
  | cons a r =>
    show ((63 : UInt8) == a && List.isPrefixOf [58] r) = ((a == 63) && starts 58 r)
    rw [pre_one, Bool.beq_comm]
theorem cut_two (s : List UInt8) : cutP [63, 58] s = if (starts 63 s && starts 58 (s.drop 1)) = true then s.drop 2 else s := by
  unfold cutP; rw [pre_two]; rfl
theorem Took.set1 {w w1 : World} {b g d : Nat} {l : List UInt8} (h : Took w b l g d w1) (m : Nat) : Took w b l m d (w1.setCell ⟨b, 1, none⟩ (.int .i64 m)) := ⟨h.at_.set1 m, h.kp.setCell _ (.inr rfl) _⟩
theorem Took.set2 {w w1 : World} {b g d : Nat} {l : List UInt8} (h : Took w b l g d w1) (m : Nat) : Took w b l g m (w1.setCell ⟨b, 2, none⟩ (.int .i64 m)) := ⟨h.at_.set2 m, h.kp.setCell _ (.inr rfl) _⟩
end Rx

theorem takes_yes {w : World} {b g d : Nat} {l r : List UInt8} (h : Rx.PsAt w b l g d) {c : UInt8} (hs : Rx.starts c l = true) (hr : l.drop 1 = r) :
    Calls Try.prog 20 #[.pointer (some ⟨b, 0, none⟩), .string ⟨#[c]⟩] w fun e w' => e = .returned (.bool true) ∧ Rx.Took w b r g d w' := by
  have := takes_one h c
  rw [hs, hr] at this
  exact this
theorem takes_no {w : World} {b g d : Nat} {l : List UInt8} (h : Rx.PsAt w b l g d) {c : UInt8} (hs : Rx.starts c l = false) :
    Calls Try.prog 20 #[.pointer (some ⟨b, 0, none⟩), .string ⟨#[c]⟩] w fun e w' => e = .returned (.bool false) ∧ Rx.Took w b l g d w' := by
  have := takes_one h c
  rw [hs] at this
  exact this

set_option maxHeartbeats 8000000 in
theorem group_of {n : Nat} {E : List UInt8 → Nat → Nat → Rx.Res} (hE : Rx.ExprC n E) (hS : Rx.Short E) {w : World} {b g d : Nat} {s : List UInt8} (h : Rx.PsAt w b s g d) (hs : s.length < n) (hg : g + s.length + 1 ≤ 8192) (hd : d ≤ 64) :
    Calls Try.prog 38 #[.pointer (some ⟨b, 0, none⟩)] w (Rx.Parsed w b d (Rx.groupE E s g d)) := by
  have c2 := h.c2
  have f2 := RowAt.frozen h 2
  have HT0 := Lib.hid (Rx.Took.refl h)
  have hbl := h.lt
  by_cases h64 : d = 64
  · subst h64
    have HE : Hid (Rx.groupE E s g 64 = .error 12) := Lib.hid rfl
    rw [HE.out]
    clear h
    go_enter Try.func38, Try.ntmps38
    go_wp2_with fail
    ((try simp only [Exit.inBlock, Exit.then]); refine bodyPost_ret (results_tmp2 rfl _ _ _) rfl ?_)
    exact Rx.Parsed.err HT0.out.kp (by decide)
  have hdI : ¬ (d : Int) = 64 := by omega
  obtain ⟨D, HD⟩ : ∃ D : Nat, Hid (d + 1 = D) := ⟨_, Lib.hid rfl⟩
  have hwd : IntKind.i64.wrap ((d : Int) + 1) = (D : Int) := by have := HD.out; rw [IntKind.wrap_i64]; omega
  have hwd2 : IntKind.i64.wrap ((D : Int) - 1) = (d : Int) := by have := HD.out; rw [IntKind.wrap_i64]; omega
  have hD64 : D ≤ 64 := by have := HD.out; omega
  have HT1 := Lib.hid (HT0.out.set2 D)
  have HTk := Lib.hid (takes_any HT1.out.at_ [63, 58])
  rw [Rx.pre_two, Rx.cut_two] at HTk
  have HER := Lib.hid hE
  have HSh := Lib.hid hS
  clear h hE hS
  cases hp : (Rx.starts 63 s && Rx.starts 58 (s.drop 1))
  · obtain ⟨G, HG⟩ : ∃ G : Nat, Hid (g + 1 = G) := ⟨_, Lib.hid rfl⟩
    have hwg : IntKind.i64.wrap ((g : Int) + 1) = (G : Int) := by have := HG.out; rw [IntKind.wrap_i64]; omega
    have hGne : ¬ (G : Int) = 0 := by have := HG.out; omega
    have hG9 : G + s.length ≤ 8192 := by have := HG.out; omega
    rw [hp] at HTk
    have HTk2 : Hid (Calls Try.prog 20 #[.pointer (some ⟨b, 0, none⟩), .string ⟨#[63, 58]⟩] (w.setCell ⟨b, 2, none⟩ (.int .i64 (D : Int))) fun e w' => e = .returned (.bool false) ∧ Rx.Took (w.setCell ⟨b, 2, none⟩ (.int .i64 (D : Int))) b s g D w') := HTk
    have HE : Hid (Rx.groupE E s g d = (match E s G D with
      | .error e => .error e
      | .ok (c, r, g2) => if Rx.starts 41 r then .ok (Rx.saved G c, r.drop 1, g2) else .error 8)) := Lib.hid (by unfold Rx.groupE; rw [if_neg h64, hp, HD.out, HG.out]; rfl)
    rw [HE.out]
    clear HTk hp HE
    cases hr : E s G D with
    | error er =>
      have HR := Lib.hid hr
      clear hr
      go_enter Try.func38, Try.ntmps38
      go_wp2_with first
        | (go_at_call 20; go_must (refine (HTk2.out).mono ?_; rintro e w1 ⟨rfl, ht⟩; have HT2 := Lib.hid (HT1.out.trans ht); have d1 := ht.at_.c1; have e1 := RowAt.frozen ht.at_ 1; have HT3 := Lib.hid (HT2.out.set1 G); clear ht))
        | (go_at_call 12; go_must (refine (HER.out s G D _ b HT3.out.at_ hs hG9 hD64).mono ?_; rintro e w4 hq; rw [HR.out] at hq; obtain ⟨h0, rfl, hk⟩ := hq.bad; have HK := Lib.hid (HT3.out.kp.trans hk fun _ _ h => h); clear hk hq))
      ((try simp only [Exit.inBlock, Exit.then]); refine bodyPost_ret (results_tmp2 rfl _ _ _) rfl ?_)
      exact Rx.Parsed.err HK.out h0
    | ok y =>
      obtain ⟨c, r, g2⟩ := y
      have HR := Lib.hid hr
      have HLn : Hid (c.length + 2 ≤ 1048576 ∧ G ≤ 1048576) := Lib.hid (by have := (HSh.out _ _ _ _ _ _ hr).1; omega)
      clear hr
      cases hs41 : Rx.starts 41 r
      · have H41 := Lib.hid hs41
        simp only [hs41, if_true, Bool.false_eq_true, if_false]
        clear hs41
        go_enter Try.func38, Try.ntmps38
        go_wp2_with first
          | (go_at_call 20; ((with_reducible refine (HTk2.out).mono ?_); rintro e w1 ⟨rfl, ht⟩; have HT2 := Lib.hid (HT1.out.trans ht); have d1 := ht.at_.c1; have e1 := RowAt.frozen ht.at_ 1; have HT3 := Lib.hid (HT2.out.set1 G); clear ht))
          | (go_at_call 12; go_must (refine (HER.out s G D _ b HT3.out.at_ hs hG9 hD64).mono ?_; rintro e w4 hq; rw [HR.out] at hq; obtain ⟨v, rfl, hv, ht⟩ := hq.got; have HV := Lib.hid hv; have HT4 := Lib.hid (HT3.out.trans ht); clear hv ht hq))
          | (go_at_call 20; ((with_reducible refine (takes_no HT4.out.at_ H41.out).mono ?_); rintro e w5 ⟨rfl, ht⟩; have HT5 := Lib.hid (HT4.out.trans ht); clear ht))
        ((try simp only [Exit.inBlock, Exit.then]); refine bodyPost_ret (results_tmp2 rfl _ _ _) rfl ?_)
        exact Rx.Parsed.err HT5.out.kp (by decide)
      · have H41 := Lib.hid hs41
        simp only [hs41, if_true, Bool.false_eq_true, if_false]
        clear hs41
        obtain ⟨hc1, hG1⟩ := HLn.out
        obtain ⟨r1, HR1⟩ : ∃ r1, Hid (r.drop 1 = r1) := ⟨_, Lib.hid rfl⟩
        rw [HR1.out]
        go_enter Try.func38, Try.ntmps38
        go_wp2_with first
          | (go_at_call 20; ((with_reducible refine (HTk2.out).mono ?_); rintro e w1 ⟨rfl, ht⟩; have HT2 := Lib.hid (HT1.out.trans ht); have d1 := ht.at_.c1; have e1 := RowAt.frozen ht.at_ 1; have HT3 := Lib.hid (HT2.out.set1 G); clear ht))
          | (go_at_call 12; go_must (refine (HER.out s G D _ b HT3.out.at_ hs hG9 hD64).mono ?_; rintro e w4 hq; rw [HR.out] at hq; obtain ⟨v, rfl, hv, ht⟩ := hq.got; have HV := Lib.hid hv; have HT4 := Lib.hid (HT3.out.trans ht); have hsz4 := ht.size; have hszA := HT3.out.size; clear hv ht hq))
          | (go_at_call 20; ((with_reducible refine (takes_yes HT4.out.at_ H41.out HR1.out).mono ?_); rintro e w5 ⟨rfl, ht⟩; have HT5 := Lib.hid (HT4.out.trans ht); have HV5 := Lib.hid (HV.out.kp ht.kp fun i hi _ e => absurd e (Nat.ne_of_gt (Nat.lt_of_lt_of_le hbl (Nat.le_trans HT3.out.size hi)))); have d5 := ht.at_.c2; have e5 := RowAt.frozen ht.at_ 2; have HT6 := Lib.hid (HT5.out.set2 d); have HV6 := Lib.hid (HV5.out.kp ((Kp.refl (fun i => i = b) w5).setCell ⟨b, 2, none⟩ (.inr rfl) (.int .i64 (d : Int))) fun i hi _ e => absurd e (Nat.ne_of_gt (Nat.lt_of_lt_of_le hbl (Nat.le_trans HT3.out.size hi)))); clear ht))
          | (go_at_call 14; go_must (refine (saved_any G hG1 HV6.out hc1).mono ?_; rintro e w7 ⟨v7, rfl, ho7, hb7⟩; have HO7 := Lib.hid ho7; have HT7 := Lib.hid (HT6.out.on hb7); clear ho7 hb7))
        ((try simp only [Exit.inBlock, Exit.then]); refine bodyPost_ret (results_tmp2 rfl _ _ _) rfl ?_)
        exact Rx.Parsed.ok HT7.out HO7.out.rd HT6.out.size
  · have HS2 : Hid ((s.drop 2).length < n) := Lib.hid (by rw [List.length_drop]; omega)
    have HG2 : Hid (g + (s.drop 2).length ≤ 8192) := Lib.hid (by rw [List.length_drop]; omega)
    rw [hp] at HTk
    have HTk2 : Hid (Calls Try.prog 20 #[.pointer (some ⟨b, 0, none⟩), .string ⟨#[63, 58]⟩] (w.setCell ⟨b, 2, none⟩ (.int .i64 (D : Int))) fun e w' => e = .returned (.bool true) ∧ Rx.Took (w.setCell ⟨b, 2, none⟩ (.int .i64 (D : Int))) b (s.drop 2) g D w') := HTk
    have HE : Hid (Rx.groupE E s g d = (match E (s.drop 2) g D with
      | .error e => .error e
      | .ok (c, r, g2) => if Rx.starts 41 r then .ok (c, r.drop 1, g2) else .error 8)) := Lib.hid (by unfold Rx.groupE; rw [if_neg h64, hp, HD.out]; rfl)
    rw [HE.out]
    clear HTk hp HE
    cases hr : E (s.drop 2) g D with
    | error er =>
      have HR := Lib.hid hr
      clear hr
      go_enter Try.func38, Try.ntmps38
      go_wp2_with first
        | (go_at_call 20; ((with_reducible refine (HTk2.out).mono ?_); rintro e w1 ⟨rfl, ht⟩; have HT2 := Lib.hid (HT1.out.trans ht); have d1 := ht.at_.c1; have e1 := RowAt.frozen ht.at_ 1; have HT3 := Lib.hid (HT2.out); clear ht))
        | (go_at_call 12; go_must (refine (HER.out (s.drop 2) g D _ b HT3.out.at_ HS2.out HG2.out hD64).mono ?_; rintro e w4 hq; rw [HR.out] at hq; obtain ⟨h0, rfl, hk⟩ := hq.bad; have HK := Lib.hid (HT3.out.kp.trans hk fun _ _ h => h); clear hk hq))
      ((try simp only [Exit.inBlock, Exit.then]); refine bodyPost_ret (results_tmp2 rfl _ _ _) rfl ?_)
      exact Rx.Parsed.err HK.out h0
    | ok y =>
      obtain ⟨c, r, g2⟩ := y
      have HR := Lib.hid hr
      clear hr
      cases hs41 : Rx.starts 41 r
      · have H41 := Lib.hid hs41
        simp only [hs41, if_true, Bool.false_eq_true, if_false]
        clear hs41
        go_enter Try.func38, Try.ntmps38
        go_wp2_with first
          | (go_at_call 20; ((with_reducible refine (HTk2.out).mono ?_); rintro e w1 ⟨rfl, ht⟩; have HT2 := Lib.hid (HT1.out.trans ht); have d1 := ht.at_.c1; have e1 := RowAt.frozen ht.at_ 1; have HT3 := Lib.hid (HT2.out); clear ht))
          | (go_at_call 12; go_must (refine (HER.out (s.drop 2) g D _ b HT3.out.at_ HS2.out HG2.out hD64).mono ?_; rintro e w4 hq; rw [HR.out] at hq; obtain ⟨v, rfl, hv, ht⟩ := hq.got; have HV := Lib.hid hv; have HT4 := Lib.hid (HT3.out.trans ht); have hsz4 := ht.size; have hszA := HT3.out.size; clear hv ht hq))
          | (go_at_call 20; ((with_reducible refine (takes_no HT4.out.at_ H41.out).mono ?_); rintro e w5 ⟨rfl, ht⟩; have HT5 := Lib.hid (HT4.out.trans ht); have HV5 := Lib.hid (HV.out.kp ht.kp fun i hi _ e => absurd e (Nat.ne_of_gt (Nat.lt_of_lt_of_le hbl (Nat.le_trans HT3.out.size hi)))); clear ht))
        ((try simp only [Exit.inBlock, Exit.then]); refine bodyPost_ret (results_tmp2 rfl _ _ _) rfl ?_)
        exact Rx.Parsed.err HT5.out.kp (by decide)
      · have H41 := Lib.hid hs41
        simp only [hs41, if_true, Bool.false_eq_true, if_false]
        clear hs41
        obtain ⟨r1, HR1⟩ : ∃ r1, Hid (r.drop 1 = r1) := ⟨_, Lib.hid rfl⟩
        rw [HR1.out]
        go_enter Try.func38, Try.ntmps38
        go_wp2_with first
          | (go_at_call 20; ((with_reducible refine (HTk2.out).mono ?_); rintro e w1 ⟨rfl, ht⟩; have HT2 := Lib.hid (HT1.out.trans ht); have d1 := ht.at_.c1; have e1 := RowAt.frozen ht.at_ 1; have HT3 := Lib.hid (HT2.out); clear ht))
          | (go_at_call 12; go_must (refine (HER.out (s.drop 2) g D _ b HT3.out.at_ HS2.out HG2.out hD64).mono ?_; rintro e w4 hq; rw [HR.out] at hq; obtain ⟨v, rfl, hv, ht⟩ := hq.got; have HV := Lib.hid hv; have HT4 := Lib.hid (HT3.out.trans ht); have hsz4 := ht.size; have hszA := HT3.out.size; clear hv ht hq))
          | (go_at_call 20; ((with_reducible refine (takes_yes HT4.out.at_ H41.out HR1.out).mono ?_); rintro e w5 ⟨rfl, ht⟩; have HT5 := Lib.hid (HT4.out.trans ht); have HV5 := Lib.hid (HV.out.kp ht.kp fun i hi _ e => absurd e (Nat.ne_of_gt (Nat.lt_of_lt_of_le hbl (Nat.le_trans HT3.out.size hi)))); have d5 := ht.at_.c2; have e5 := RowAt.frozen ht.at_ 2; have HT6 := Lib.hid (HT5.out.set2 d); have HV6 := Lib.hid (HV5.out.kp ((Kp.refl (fun i => i = b) w5).setCell ⟨b, 2, none⟩ (.inr rfl) (.int .i64 (d : Int))) fun i hi _ e => absurd e (Nat.ne_of_gt (Nat.lt_of_lt_of_le hbl (Nat.le_trans HT3.out.size hi)))); clear ht))
        ((try simp only [Exit.inBlock, Exit.then]); refine bodyPost_ret (results_tmp2 rfl _ _ _) rfl ?_)
        exact Rx.Parsed.ok HT6.out HV6.out HT3.out.size
end Go.Proofs.Ytajijcnfhijanaa
