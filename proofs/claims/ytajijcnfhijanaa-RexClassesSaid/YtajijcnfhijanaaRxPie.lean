/-
  CONTRACTS: chapter 11: a piece.
-/
import Derived.Test.YtajijcnfhijanaaRxAto
namespace Go.Proofs.Ytajijcnfhijanaa
open Go.RowKit
open Me

set_option maxHeartbeats 8000000 in
theorem piece_of {n : Nat} {E : List UInt8 → Nat → Nat → Rx.Res} (hE : Rx.ExprC n E) (hS : Rx.Short E) {w : World} {b g d : Nat} {a : UInt8} {s : List UInt8} (h : Rx.PsAt w b (a :: s) g d) (hs : s.length < n) (hg : g + s.length + 1 ≤ 8192) (hd : d ≤ 64) :
    Calls Try.prog 27 #[.pointer (some ⟨b, 0, none⟩)] w (Rx.Parsed w b d (Rx.pieceE E (a :: s) g d)) := by
  have HA := Lib.hid (atom_of hE hS h hs hg hd)
  have hbl := h.lt
  have HSh := Lib.hid hS
  have HE : Hid (Rx.pieceE E (a :: s) g d = (match Rx.atomE E (a :: s) g d with
    | .error e => .error e
    | .ok (x, r, g2) => .ok ((Rx.rep x r).1, (Rx.rep x r).2, g2))) := Lib.hid rfl
  rw [HE.out]
  clear hE hS h HE
  cases hq : Rx.atomE E (a :: s) g d with
  | error er =>
    have HR := Lib.hid hq
    clear hq
    go_enter Try.func27, Try.ntmps27
    go_wp2_with (go_at_call 32; go_must (refine (HA.out).mono ?_; rintro e w1 hq; rw [HR.out] at hq; obtain ⟨h0, rfl, hk⟩ := hq.bad; have HK := Lib.hid hk; clear hk hq))
    ((try simp only [Exit.inBlock, Exit.then]); refine bodyPost_ret (results_tmp2 rfl _ _ _) rfl ?_)
    exact Rx.Parsed.err HK.out h0
  | ok y =>
    obtain ⟨x, r, g2⟩ := y
    have HR := Lib.hid hq
    have HLn : Hid (x.length + 2 ≤ 1048576) := Lib.hid (by have := (Rx.atomE_len HSh.out hq).1; simp at this; omega)
    clear hq
    cases r with
    | nil =>
      show Calls Try.prog 27 #[.pointer (some ⟨b, 0, none⟩)] w (Rx.Parsed w b d (.ok (x, [], g2)))
      go_enter Try.func27, Try.ntmps27
      go_wp2_with first
        | (go_at_call 32; go_must (refine (HA.out).mono ?_; rintro e w1 hq; rw [HR.out] at hq; obtain ⟨v, rfl, hv, ht⟩ := hq.got; have HV := Lib.hid hv; have HT1 := Lib.hid ht; have hsz := ht.size; clear hv ht hq))
        | (go_at_call 33; go_must (refine (takeSign_nil HT1.out.at_).mono ?_; rintro e w2 ⟨rfl, ht⟩; have HV2 := Lib.hid (HV.out.kp ht.kp fun i hi _ e => absurd e (Nat.ne_of_gt (Nat.lt_of_lt_of_le hbl hi))); have HT2 := Lib.hid (HT1.out.trans ht); clear ht))
      ((try simp only [Exit.inBlock, Exit.then]); refine bodyPost_ret (results_tmp2 rfl _ _ _) rfl ?_)
      exact Rx.Parsed.ok HT2.out HV2.out (Nat.le_refl _)
    | cons c t =>
      cases hsg : Rx.signB c
      · have HG := Lib.hid hsg
        have HE : Hid (Rx.rep x (c :: t) = (x, c :: t)) := Lib.hid (by rw [Rx.rep, hsg]; rfl)
        simp only [HE.out]
        clear hsg HE
        go_enter Try.func27, Try.ntmps27
        go_wp2_with first
          | (go_at_call 32; go_must (refine (HA.out).mono ?_; rintro e w1 hq; rw [HR.out] at hq; obtain ⟨v, rfl, hv, ht⟩ := hq.got; have HV := Lib.hid hv; have HT1 := Lib.hid ht; have hsz := ht.size; clear hv ht hq))
          | (go_at_call 33; go_must (refine (takeSign_miss HT1.out.at_ HG.out).mono ?_; rintro e w2 ⟨rfl, ht⟩; have HV2 := Lib.hid (HV.out.kp ht.kp fun i hi _ e => absurd e (Nat.ne_of_gt (Nat.lt_of_lt_of_le hbl hi))); have HT2 := Lib.hid (HT1.out.trans ht); clear ht))
        ((try simp only [Exit.inBlock, Exit.then]); refine bodyPost_ret (results_tmp2 rfl _ _ _) rfl ?_)
        exact Rx.Parsed.ok HT2.out HV2.out (Nat.le_refl _)
      · have HG := Lib.hid hsg
        cases hs63 : Rx.starts 63 t
        · have H63 := Lib.hid hs63
          have HE : Hid (Rx.rep x (c :: t) = (Rx.repeated x c false, t)) := Lib.hid (by rw [Rx.rep, hsg, hs63]; rfl)
          simp only [HE.out]
          clear hsg HE hs63
          go_enter Try.func27, Try.ntmps27
          go_wp2_with first
            | (go_at_call 32; go_must (refine (HA.out).mono ?_; rintro e w1 hq; rw [HR.out] at hq; obtain ⟨v, rfl, hv, ht⟩ := hq.got; have HV := Lib.hid hv; have HT1 := Lib.hid ht; have hsz := ht.size; clear hv ht hq))
            | (go_at_call 33; go_must (refine (takeSign_hit HT1.out.at_ HG.out).mono ?_; rintro e w2 ⟨rfl, ht⟩; have HV2 := Lib.hid (HV.out.kp ht.kp fun i hi _ e => absurd e (Nat.ne_of_gt (Nat.lt_of_lt_of_le hbl hi))); have HT2 := Lib.hid (HT1.out.trans ht); clear ht))
            | (go_at_call 20; go_must (refine (takes_no HT2.out.at_ H63.out).mono ?_; rintro e w3 ⟨rfl, ht⟩; have HV3 := Lib.hid (HV2.out.kp ht.kp fun i hi _ e => absurd e (Nat.ne_of_gt (Nat.lt_of_lt_of_le hbl hi))); have HT3 := Lib.hid (HT2.out.trans ht); clear ht))
            | (go_at_call 34; go_must (refine (repeated_any c HG.out false HV3.out HLn.out).mono ?_; rintro e w4 ⟨v4, rfl, ho, hb⟩; have HO4 := Lib.hid ho; have HT4 := Lib.hid (HT3.out.on hb); clear ho hb))
          ((try simp only [Exit.inBlock, Exit.then]); refine bodyPost_ret (results_tmp2 rfl _ _ _) rfl ?_)
          exact Rx.Parsed.ok HT4.out HO4.out.rd HT3.out.size
        · have H63 := Lib.hid hs63
          obtain ⟨t1, Ht1⟩ : ∃ t1, Hid (t.drop 1 = t1) := ⟨_, Lib.hid rfl⟩
          have HE : Hid (Rx.rep x (c :: t) = (Rx.repeated x c true, t1)) := Lib.hid (by rw [Rx.rep, hsg, hs63, ← Ht1.out]; rfl)
          simp only [HE.out]
          clear hsg HE hs63
          go_enter Try.func27, Try.ntmps27
          go_wp2_with first
            | (go_at_call 32; go_must (refine (HA.out).mono ?_; rintro e w1 hq; rw [HR.out] at hq; obtain ⟨v, rfl, hv, ht⟩ := hq.got; have HV := Lib.hid hv; have HT1 := Lib.hid ht; have hsz := ht.size; clear hv ht hq))
            | (go_at_call 33; go_must (refine (takeSign_hit HT1.out.at_ HG.out).mono ?_; rintro e w2 ⟨rfl, ht⟩; have HV2 := Lib.hid (HV.out.kp ht.kp fun i hi _ e => absurd e (Nat.ne_of_gt (Nat.lt_of_lt_of_le hbl hi))); have HT2 := Lib.hid (HT1.out.trans ht); clear ht))
            | (go_at_call 20; go_must (refine (takes_yes HT2.out.at_ H63.out Ht1.out).mono ?_; rintro e w3 ⟨rfl, ht⟩; have HV3 := Lib.hid (HV2.out.kp ht.kp fun i hi _ e => absurd e (Nat.ne_of_gt (Nat.lt_of_lt_of_le hbl hi))); have HT3 := Lib.hid (HT2.out.trans ht); clear ht))
            | (go_at_call 34; go_must (refine (repeated_any c HG.out true HV3.out HLn.out).mono ?_; rintro e w4 ⟨v4, rfl, ho, hb⟩; have HO4 := Lib.hid ho; have HT4 := Lib.hid (HT3.out.on hb); clear ho hb))
          ((try simp only [Exit.inBlock, Exit.then]); refine bodyPost_ret (results_tmp2 rfl _ _ _) rfl ?_)
          exact Rx.Parsed.ok HT4.out HO4.out.rd HT3.out.size
end Go.Proofs.Ytajijcnfhijanaa
