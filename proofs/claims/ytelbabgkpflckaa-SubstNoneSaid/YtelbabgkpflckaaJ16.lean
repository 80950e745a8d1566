/-
  RcAto: CONTRACTS: chapter 12, the document's Compile: atom.
-/
import Derived.Test.YtelbabgkpflckaaJ15

set_option linter.unusedSimpArgs false
set_option linter.unusedVariables false
namespace Go.Proofs.Ytelbabgkpflckaa
open Go.RowKit Go.Sort
open Me
open Pk

namespace Rc
open Rx (In St pairs pairsTo pairAt none_)
theorem single_at (c : UInt8) (k : Nat) : single c k = decide (k = c.toNat) := by
  unfold single none_
  by_cases h : k = c.toNat <;> simp [h]
theorem pairAt_single (c : UInt8) (k : Nat) : pairAt (single c) k = if k = c.toNat then [c, c] else [] := by
  unfold pairAt
  rw [single_at, single_at, single_at]
  by_cases h : k = c.toNat
  · have h1 : ¬ (c.toNat - 1 = c.toNat) ∨ c.toNat = 0 := by omega
    subst h
    rw [if_pos (by simp), if_pos (by rcases h1 with h1 | h1 <;> simp [h1]), if_pos (by simp), if_pos rfl]
    simp
  · rw [if_neg (by simpa using h), if_neg h]
theorem pairsTo_single (c : UInt8) : ∀ k, pairsTo (single c) k = if k ≤ c.toNat then [] else [c, c]
  | 0 => by simp [pairsTo]
  | k + 1 => by
    show pairsTo (single c) k ++ pairAt (single c) k = _
    rw [pairsTo_single c k, pairAt_single]
    by_cases h1 : k + 1 ≤ c.toNat
    · rw [if_pos (by omega), if_neg (by omega), if_pos h1]; rfl
    · by_cases h2 : k = c.toNat
      · rw [if_pos (by omega), if_pos h2, if_neg h1]; rfl
      · rw [if_neg (by omega), if_neg h2, if_neg h1]; rfl
theorem pairs_single (c : UInt8) : pairs (single c) = [c, c] := by
  unfold pairs
  rw [pairsTo_single, if_neg (by have := UInt8.toNat_lt c; omega)]
end Rc

set_option maxRecDepth 100000 in
set_option maxHeartbeats 8000000 in
theorem rcAtom_any {S : List UInt8 → Prop} {n : Nat} {F : Rc.Rr → Rc.Rr} (hSC : Rc.SetC S) (hW : Rc.WaysC S n F) {w : World} {b : Nat} {v : Value} {r : Rc.Rr} (h : Rc.At w b v r) (ho : Rc.Ok r) (he : r.err = 0) (hS : S r.s) (hat : r.at_ < r.s.length) (hn : r.s.length - r.at_ ≤ n) :
    Calls Try.prog 67 #[.pointer (some ⟨b, 0, none⟩)] w (Rc.RunP (Rc.atom F) w b v r) := by
  have HG : Hid (∀ m, Calls Try.prog 69 #[.pointer (some ⟨b, 0, none⟩)] (w.drewN m) (Rc.RunP (Rc.group F) w b v r)) := Lib.hid fun m => by
    refine (rcGroup_any hW (w := w.drewN m) ⟨h.row, h.own⟩ ho he hS hat hn).mono ?_
    rintro e w' ⟨q0, r', v', q1, q2⟩
    exact ⟨q0, r', v', ⟨q1.at_, ⟨q1.kp.os, q1.kp.tape, q1.kp.output, q1.kp.size, q1.kp.block⟩, q1.new⟩, q2⟩
  have HSC := Lib.hid hSC
  have HD0 := Lib.hid (Rc.Did.refl h)
  have HOK := Lib.hid ho
  obtain ⟨s, i, d, er, g, L⟩ := r
  replace he : er = 0 := he
  subst he
  replace hS : S s := hS
  replace hat : i < s.length := hat
  have hl : s.length ≤ 4096 := ho.len
  obtain ⟨c, hc⟩ : ∃ c, s[i]? = some c := ⟨_, List.getElem?_eq_getElem hat⟩
  obtain ⟨z0, g0⟩ := Rc.byte_at hc
  have c0 : w.cell? ⟨b, 0, none⟩ = some (.string ⟨s.toArray⟩) := h.c0
  have c1 : w.cell? ⟨b, 1, none⟩ = some (.int .i64 (i : Int)) := h.c1
  have f1 := h.fz 1
  have hi0 : (0 : Int) ≤ (i : Int) := by omega
  have hiI : (i : Int) < (s.length : Int) := by omega
  obtain ⟨i1, hi1⟩ : ∃ i1 : Nat, i1 = i + 1 := ⟨_, rfl⟩
  have hwi : IntKind.i64.wrap ((i : Int) + 1) = (i1 : Int) := by rw [IntKind.wrap_i64]; omega
  have HI1 := Lib.hid hi1
  have HAT := Lib.hid hat
  have HEQ : Hid (Rc.atom F ⟨s, i, d, 0, g, L⟩ = (if c = 40 then Rc.group F ⟨s, i, d, 0, g, L⟩ else if c = 94 then ⟨s, i + 1, d, 0, g, L ++ [⟨5, 0, 0, []⟩]⟩ else if c = 36 then ⟨s, i + 1, d, 0, g, L ++ [⟨6, 0, 0, []⟩]⟩ else if Rc.special c = true then ⟨s, i, d, 8, g, L⟩ else ⟨s, i + 1, d, 0, g, L ++ [⟨1, 0, 0, [c, c]⟩]⟩)) := Lib.hid (by
    unfold Rc.atom
    simp only [hc]
    simp [Rc.lay, Rc.step, Rc.bad])
  have HCC := Lib.hid hc
  have HBL := Lib.hid h.lt
  have HL : Hid (L.length ≤ 2 * i + 1 ∧ g ≤ i ∧ d ≤ i) := Lib.hid ⟨ho.L, ho.g, ho.deep⟩
  have HLN : Hid (s.length ≤ 4096) := Lib.hid hl
  clear h ho hSC hW hc hn hi1
  by_cases h40 : c = 40
  · have h40I : (c.toNat : Int) = 40 := by rw [h40]; rfl
    have HQ : Hid (Rc.atom F ⟨s, i, d, 0, g, L⟩ = Rc.group F ⟨s, i, d, 0, g, L⟩) := Lib.hid (by rw [HEQ.out, if_pos h40])
    clear h40
    go_enter Try.func67, Try.ntmps67
    go_wp2_with fail
    go_quiet (fail)
    go_wp2_with (go_at_call 69; go_must (refine (HG.out _).mono ?_; rintro e w5 ⟨rfl, hq⟩; have H5 := Lib.hid hq; clear hq))
    ((try simp only [Exit.inBlock, Exit.then]); first | (refine bodyPost_ret (results_none rfl _ _ _) rfl ?_) | (refine bodyPost_end (results_none rfl _ _ _) rfl ?_))
    obtain ⟨r', v', q1, q2, q3, q4⟩ := H5.out
    exact ⟨rfl, r', v', q1, q2, q3, fun hs => by rw [HQ.out]; exact q4 hs⟩
  by_cases h94 : c = 94
  · have hvI : (c.toNat : Int) = 94 := by rw [h94]; rfl
    have n40 : ¬ (c.toNat : Int) = 40 := fun e => h40 (UInt8.toNat_inj.1 (by show c.toNat = 40; omega))
    have HQ : Hid (Rc.atom F ⟨s, i, d, 0, g, L⟩ = ⟨s, i + 1, d, 0, g, L ++ [⟨5, 0, 0, []⟩]⟩) := Lib.hid (by rw [HEQ.out, if_neg h40, if_pos h94])
    have HLY : Hid (∀ w3, Rc.Did w b v ⟨s, i1, d, 0, g, L⟩ v w3 → Calls Try.prog 35 #[.pointer (some ⟨b, 0, none⟩), .agg #[.int .i64 5, .int .i64 0, .int .i64 0, .string ⟨#[]⟩]] w3 fun e w' => e = .returned (.int .i64 (L.length : Int)) ∧ ∃ v', Rc.Did w b v ⟨s, i1, d, 0, g, L ++ [⟨5, 0, 0, []⟩]⟩ v' w') := Lib.hid fun w3 hd => by
      refine (lay_any hd.at_ (by show L.length ≤ _; have := HL.out; have := HAT.out; have := HLN.out; omega) ⟨5, 0, 0, []⟩).mono ?_
      rintro e w' ⟨he, v', hq⟩
      exact ⟨he, v', hd.trans hq⟩
    clear h94 hat hl
    go_enter Try.func67, Try.ntmps67
    go_wp2_with fail
    go_quiet (fail)
    rename_i nq
    have HD1 := Lib.hid (HD0.out.drewN nq)
    generalize w.drewN nq = wq at *
    have d1 : wq.cell? ⟨b, 1, none⟩ = some (.int .i64 (i : Int)) := HD1.out.at_.c1
    have e1 := HD1.out.at_.fz 1
    have HD2 : Hid (Rc.Did w b v ⟨s, i1, d, 0, g, L⟩ v (wq.setCell ⟨b, 1, none⟩ (.int .i64 (i1 : Int)))) := Lib.hid (HD1.out.set1 i1)
    go_wp2_with (go_at_call 35; go_must (refine (HLY.out _ HD2.out).mono ?_; rintro e w5 ⟨rfl, v5, hd5⟩; have H5 := Lib.hid hd5; clear hd5))
    ((try simp only [Exit.inBlock, Exit.then]); first | (refine bodyPost_ret (results_none rfl _ _ _) rfl ?_) | (refine bodyPost_end (results_none rfl _ _ _) rfl ?_))
    have q1 := HI1.out
    have q2 := HL.out
    have q3 := HAT.out
    refine ⟨rfl, _, v5, H5.out, ⟨rfl, ⟨?_, HLN.out, ?_, ?_, ?_, ?_, ?_⟩, ?_, fun _ => rfl, (by show L.length ≤ List.length (L ++ [_]); rw [List.length_append]; exact Nat.le_add_right _ _)⟩, fun _ => ?_, fun _ => ?_⟩
    · show i1 ≤ s.length; omega
    · show List.length (L ++ [_]) ≤ 2 * i1 + 1; rw [List.length_append]; show L.length + 1 ≤ _; omega
    · show g ≤ i1; omega
    · show d ≤ i1; omega
    · intro x hx; rcases List.mem_append.1 hx with hx | hx; exact HOK.out.p x hx; rw [List.mem_singleton.1 hx]; exact Nat.zero_le _
    · show 0 < List.length (L ++ [_]); rw [List.length_append]; show 0 < L.length + 1; omega
    · show i ≤ i1; omega
    · show i < i1; omega
    · rw [HQ.out, q1]
  by_cases h36 : c = 36
  · have hvI : (c.toNat : Int) = 36 := by rw [h36]; rfl
    have n40 : ¬ (c.toNat : Int) = 40 := fun e => h40 (UInt8.toNat_inj.1 (by show c.toNat = 40; omega))
    have n94 : ¬ (c.toNat : Int) = 94 := fun e => h94 (UInt8.toNat_inj.1 (by show c.toNat = 94; omega))
    have HQ : Hid (Rc.atom F ⟨s, i, d, 0, g, L⟩ = ⟨s, i + 1, d, 0, g, L ++ [⟨6, 0, 0, []⟩]⟩) := Lib.hid (by rw [HEQ.out, if_neg h40, if_neg h94, if_pos h36])
    have HLY : Hid (∀ w3, Rc.Did w b v ⟨s, i1, d, 0, g, L⟩ v w3 → Calls Try.prog 35 #[.pointer (some ⟨b, 0, none⟩), .agg #[.int .i64 6, .int .i64 0, .int .i64 0, .string ⟨#[]⟩]] w3 fun e w' => e = .returned (.int .i64 (L.length : Int)) ∧ ∃ v', Rc.Did w b v ⟨s, i1, d, 0, g, L ++ [⟨6, 0, 0, []⟩]⟩ v' w') := Lib.hid fun w3 hd => by
      refine (lay_any hd.at_ (by show L.length ≤ _; have := HL.out; have := HAT.out; have := HLN.out; omega) ⟨6, 0, 0, []⟩).mono ?_
      rintro e w' ⟨he, v', hq⟩
      exact ⟨he, v', hd.trans hq⟩
    clear h36 hat hl
    go_enter Try.func67, Try.ntmps67
    go_wp2_with fail
    go_quiet (fail)
    rename_i nq
    have HD1 := Lib.hid (HD0.out.drewN nq)
    generalize w.drewN nq = wq at *
    have d1 : wq.cell? ⟨b, 1, none⟩ = some (.int .i64 (i : Int)) := HD1.out.at_.c1
    have e1 := HD1.out.at_.fz 1
    have HD2 : Hid (Rc.Did w b v ⟨s, i1, d, 0, g, L⟩ v (wq.setCell ⟨b, 1, none⟩ (.int .i64 (i1 : Int)))) := Lib.hid (HD1.out.set1 i1)
    go_wp2_with (go_at_call 35; go_must (refine (HLY.out _ HD2.out).mono ?_; rintro e w5 ⟨rfl, v5, hd5⟩; have H5 := Lib.hid hd5; clear hd5))
    ((try simp only [Exit.inBlock, Exit.then]); first | (refine bodyPost_ret (results_none rfl _ _ _) rfl ?_) | (refine bodyPost_end (results_none rfl _ _ _) rfl ?_))
    have q1 := HI1.out
    have q2 := HL.out
    have q3 := HAT.out
    refine ⟨rfl, _, v5, H5.out, ⟨rfl, ⟨?_, HLN.out, ?_, ?_, ?_, ?_, ?_⟩, ?_, fun _ => rfl, (by show L.length ≤ List.length (L ++ [_]); rw [List.length_append]; exact Nat.le_add_right _ _)⟩, fun _ => ?_, fun _ => ?_⟩
    · show i1 ≤ s.length; omega
    · show List.length (L ++ [_]) ≤ 2 * i1 + 1; rw [List.length_append]; show L.length + 1 ≤ _; omega
    · show g ≤ i1; omega
    · show d ≤ i1; omega
    · intro x hx; rcases List.mem_append.1 hx with hx | hx; exact HOK.out.p x hx; rw [List.mem_singleton.1 hx]; exact Nat.zero_le _
    · show 0 < List.length (L ++ [_]); rw [List.length_append]; show 0 < L.length + 1; omega
    · show i ≤ i1; omega
    · show i < i1; omega
    · rw [HQ.out, q1]
  have n40 : ¬ (c.toNat : Int) = 40 := fun e => h40 (UInt8.toNat_inj.1 (by show c.toNat = 40; omega))
  have n94 : ¬ (c.toNat : Int) = 94 := fun e => h94 (UInt8.toNat_inj.1 (by show c.toNat = 94; omega))
  have n36 : ¬ (c.toNat : Int) = 36 := fun e => h36 (UInt8.toNat_inj.1 (by show c.toNat = 36; omega))
  rw [if_neg h40, if_neg h94, if_neg h36] at HEQ
  have HST : Hid (∀ m, Calls Try.prog 70 #[.pointer (some ⟨b, 0, none⟩)] (w.drewN m) (Rc.SetR (w.drewN m) b v ⟨s, i, d, 0, g, L⟩)) := Lib.hid fun m => HSC.out (w.drewN m) b v ⟨s, i, d, 0, g, L⟩ (HD0.out.drewN m).at_ hl hat hS
  clear h40 h94 h36 hat hl
  go_enter Try.func67, Try.ntmps67
  go_wp2_with fail
  go_quiet (fail)
  rename_i nq
  have HD1 := Lib.hid (HD0.out.drewN nq)
  have HSQ := Lib.hid (HST.out nq)
  clear HST
  generalize w.drewN nq = wq at *
  go_wp2_with fail
  go_at_call 70
  refine HSQ.out.mono ?_
  rintro e w3 ⟨m, ok, k, rfl, hd3, q1, q2, q3⟩
  have HD3 := Lib.hid (HD1.out.trans hd3)
  have HK : Hid (i + k ≤ s.length) := Lib.hid q1
  have HOKK := Lib.hid q2
  have HSP := Lib.hid (q3 c HCC.out)
  clear hd3 q1 q2 q3
  cases ok
  · have HBB : Hid (∀ w4, Below w3.heap.size w3 w4 → Calls Try.prog 37 #[.pointer (some ⟨b, 0, none⟩), .int .i64 8] w4 fun e w' => e = .returned (.tuple #[]) ∧ Rc.Did w b v ⟨s, i + k, d, 8, g, L⟩ v w') := Lib.hid fun w4 hb => by
      refine (bad_any (HD3.out.on hb).at_ 8).mono ?_
      rintro e w' ⟨he, hq⟩
      exact ⟨he, (HD3.out.on hb).trans hq⟩
    have HBL3 : Hid (Below w3.heap.size w3 (w3.alloc (.cells (Rx.cel m) 125))) := Lib.hid ((Below.refl _ _).alloc (Nat.le_refl _) _)
    go_wp2_with first
      | ((with_reducible refine Rc.stset_new (Rx.cel m) _ (Rx.cel_size _) (Rx.cel_one _) z_bsize ?_ ?_ ?_); (focus simp [Act.eval, Act.put]); (focus simp [Act.eval, Act.put]))
      | (go_at_call 37; go_must (refine (HBB.out _ HBL3.out).mono ?_; rintro e w5 ⟨rfl, hd5⟩; have H5 := Lib.hid hd5; clear hd5))
    ((try simp only [Exit.inBlock, Exit.then]); first | (refine bodyPost_ret (results_none rfl _ _ _) rfl ?_) | (refine bodyPost_end (results_none rfl _ _ _) rfl ?_))
    have q1 := HK.out
    have q2 := HL.out
    refine ⟨rfl, _, v, H5.out, ⟨rfl, ⟨?_, HLN.out, ?_, ?_, ?_, HOK.out.p, HOK.out.pos⟩, ?_, fun e => absurd e (by decide : ¬ (8 : Int) = 0), Nat.le_refl _⟩, fun e => absurd e (by decide : ¬ (8 : Int) = 0), fun hs => ?_⟩
    · show i + k ≤ s.length; omega
    · show L.length ≤ 2 * (i + k) + 1; omega
    · show g ≤ i + k; omega
    · show d ≤ i + k; omega
    · show i ≤ i + k; omega
    · have hm := hs c (List.mem_of_getElem? HCC.out)
      obtain ⟨p1, p2, _⟩ := HSP.out hm.1 hm.2.1 hm.2.2
      have p1 : Rc.special c = true := by simpa using p1
      rw [HEQ.out, if_pos p1, p2 p1]
      rfl
  · have HKK : Hid (1 ≤ k) := Lib.hid (HOKK.out rfl)
    have HPL : Hid ((Rx.pairs m).length ≤ 512) := Lib.hid (Rx.pairsTo_len m 256)
    have HPR := Lib.hid fun W => refPairs_any (w := W) (s := m)
    have HBL3 : Hid (Below w3.heap.size w3 (w3.alloc (.cells (Rx.cel m) 125))) := Lib.hid ((Below.refl _ _).alloc (Nat.le_refl _) _)
    have HRW : Hid (RowAt (w3.alloc (.cells (Rx.cel m) 125)) w3.heap.size 125 (Rx.cel m)) := Lib.hid (RowAt.new _ _ _)
    obtain ⟨P, hP⟩ : ∃ P, P = Rx.pairs m := ⟨_, rfl⟩
    have HLY : Hid (∀ w4, Below w3.heap.size w3 w4 → Calls Try.prog 35 #[.pointer (some ⟨b, 0, none⟩), .agg #[.int .i64 1, .int .i64 0, .int .i64 0, .string ⟨P.toArray⟩]] w4 fun e w' => e = .returned (.int .i64 (L.length : Int)) ∧ ∃ v', Rc.Did w b v ⟨s, i + k, d, 0, g, L ++ [⟨1, 0, 0, P⟩]⟩ v' w') := Lib.hid fun w4 hb => by
      refine (lay_any (HD3.out.on hb).at_ (by show L.length ≤ _; have := HL.out; have := HK.out; have := HLN.out; omega) ⟨1, 0, 0, P⟩).mono ?_
      rintro e w' ⟨he, v', hq⟩
      exact ⟨he, v', (HD3.out.on hb).trans hq⟩
    rw [← hP] at HPL HPR
    have HP := Lib.hid hP
    clear hP
    go_wp2_with first
      | ((with_reducible refine Rc.stset_new (Rx.cel m) _ (Rx.cel_size _) (Rx.cel_one _) z_bsize ?_ ?_ ?_); (focus simp [Act.eval, Act.put]); (focus simp [Act.eval, Act.put]))
      | ((with_reducible refine Rc.ldset (Rx.cel m) (Rx.cel_size _) ?_ (HRW.out) ?_); (focus simp [Act.eval, Act.put]))
      | (go_at_call 71; go_must (refine (HPR.out _).mono ?_; rintro e w4 ⟨rfl, hb4⟩; have HB4 := Lib.hid (HBL3.out.trans (hb4.mono HBL3.out.size)); clear hb4))
      | (go_at_call 35; go_must (refine (HLY.out _ HB4.out).mono ?_; rintro e w5 ⟨rfl, v5, hd5⟩; have H5 := Lib.hid hd5; clear hd5))
    ((try simp only [Exit.inBlock, Exit.then]); first | (refine bodyPost_ret (results_none rfl _ _ _) rfl ?_) | (refine bodyPost_end (results_none rfl _ _ _) rfl ?_))
    have q1 := HK.out
    have q2 := HL.out
    have q3 := HKK.out
    refine ⟨rfl, _, v5, H5.out, ⟨rfl, ⟨?_, HLN.out, ?_, ?_, ?_, ?_, ?_⟩, ?_, fun _ => rfl, (by show L.length ≤ List.length (L ++ [_]); rw [List.length_append]; exact Nat.le_add_right _ _)⟩, fun _ => ?_, fun hs => ?_⟩
    · show i + k ≤ s.length; omega
    · show List.length (L ++ [_]) ≤ 2 * (i + k) + 1; rw [List.length_append]; show L.length + 1 ≤ _; omega
    · show g ≤ i + k; omega
    · show d ≤ i + k; omega
    · intro x hx; rcases List.mem_append.1 hx with hx | hx; exact HOK.out.p x hx; rw [List.mem_singleton.1 hx]; exact HPL.out
    · show 0 < List.length (L ++ [_]); rw [List.length_append]; show 0 < L.length + 1; omega
    · show i ≤ i + k; omega
    · show i < i + k; omega
    · have hm := hs c (List.mem_of_getElem? HCC.out)
      obtain ⟨p1, _, p2⟩ := HSP.out hm.1 hm.2.1 hm.2.2
      have p1 : Rc.special c = false := by simpa using p1
      obtain ⟨p3, p4⟩ := p2 p1
      rw [HEQ.out, if_neg (by rw [p1]; decide), p3, HP.out, p4, Rc.pairs_single]
end Go.Proofs.Ytelbabgkpflckaa
