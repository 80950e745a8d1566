/-
  RcGrp: CONTRACTS: chapter 12, the document's Compile: group, given that what is shorter is read as it should.
-/
import Derived.Test.YtelbabgkpflckaaJ13
import Derived.Test.YtelbabgkpflckaaJ14

set_option linter.unusedSimpArgs false
set_option linter.unusedVariables false
namespace Go.Proofs.Ytelbabgkpflckaa
open Go.RowKit Go.Sort
open Me
open Pk

namespace Rc
open Rx (In St)
/-- What a reader's method leaves. -/
def RunR (F : Rr → Rr) (w : World) (b : Nat) (v : Value) (r : Rr) (e : Ending) (w' : World) : Prop := e = .returned (.tuple #[]) ∧ ∃ r' v', Did w b v r' v' w' ∧ Nx r r' ∧ (Sm r.s → r' = F r)
def RunP (F : Rr → Rr) (w : World) (b : Nat) (v : Value) (r : Rr) (e : Ending) (w' : World) : Prop := e = .returned (.tuple #[]) ∧ ∃ r' v', Did w b v r' v' w' ∧ Nx r r' ∧ (r'.err = 0 → r.at_ < r'.at_) ∧ (Sm r.s → r' = F r)
/-- Expressions of S, of which less than n is left, are read as F says. -/
def WaysC (S : List UInt8 → Prop) (n : Nat) (F : Rr → Rr) : Prop := ∀ (w : World) (b : Nat) (v : Value) (r : Rr), At w b v r → Ok r → r.err = 0 → S r.s → r.s.length - r.at_ < n →
  Calls Try.prog 36 #[.pointer (some ⟨b, 0, none⟩)] w (RunR F w b v r)
theorem extr (t : List UInt8) (a b : Nat) : (⟨t.toArray⟩ : ByteArray).extract a b = ⟨((t.drop a).take (b - a)).toArray⟩ := by
  apply ByteArray.ext
  rw [ByteArray.data_extract]
  simp [List.take_drop]
  try omega
end Rc

set_option maxRecDepth 100000 in
set_option maxHeartbeats 8000000 in
theorem rcGroup_any {S : List UInt8 → Prop} {n : Nat} {F : Rc.Rr → Rc.Rr} (hW : Rc.WaysC S n F) {w : World} {b : Nat} {v : Value} {r : Rc.Rr} (h : Rc.At w b v r) (ho : Rc.Ok r) (he : r.err = 0) (hS : S r.s) (hat : r.at_ < r.s.length) (hn : r.s.length - r.at_ ≤ n) :
    Calls Try.prog 69 #[.pointer (some ⟨b, 0, none⟩)] w (Rc.RunP (Rc.group F) w b v r) := by
  obtain ⟨s, i, d, er, g, L⟩ := r
  have he : er = 0 := he
  subst he
  have hS : S s := hS
  have hat : i < s.length := hat
  have hn : s.length - i ≤ n := hn
  obtain ⟨o1, o2, o3, o4, o5, o6, o7⟩ := ho
  have o1 : i ≤ s.length := o1
  have o2 : s.length ≤ 4096 := o2
  have o3 : L.length ≤ 2 * i + 1 := o3
  have o4 : g ≤ i := o4
  have o5 : d ≤ i := o5
  have o6 : ∀ x ∈ L, x.p.length ≤ 512 := o6
  have o7 : 0 < L.length := o7
  obtain ⟨i1, hi1⟩ : ∃ i1 : Nat, i1 = i + 1 := ⟨_, rfl⟩
  obtain ⟨d1, hd1⟩ : ∃ d1 : Nat, d1 = d + 1 := ⟨_, rfl⟩
  have hwi : IntKind.i64.wrap ((i : Int) + 1) = (i1 : Int) := by rw [IntKind.wrap_i64]; omega
  have hwd : IntKind.i64.wrap ((d : Int) + 1) = (d1 : Int) := by rw [IntKind.wrap_i64]; omega
  have hwj : IntKind.i64.wrap ((i1 : Int) + 1) = ((i1 + 1 : Nat) : Int) := by rw [IntKind.wrap_i64]; omega
  have hwk : IntKind.i64.wrap ((i1 : Int) + 2) = ((i1 + 2 : Nat) : Int) := by rw [IntKind.wrap_i64]; omega
  have HD1 : Hid (Rc.Did w b v ⟨s, i1, d, 0, g, L⟩ v (w.setCell ⟨b, 1, none⟩ (.int .i64 (i1 : Int)))) := Lib.hid ((Rc.Did.refl h).set1 i1)
  have c1 : w.cell? ⟨b, 1, none⟩ = some (.int .i64 (i : Int)) := h.c1
  have f1 := h.fz 1
  have d0 : (w.setCell ⟨b, 1, none⟩ (.int .i64 (i1 : Int))).cell? ⟨b, 0, none⟩ = some (.string ⟨s.toArray⟩) := HD1.out.at_.c0
  have d1' : (w.setCell ⟨b, 1, none⟩ (.int .i64 (i1 : Int))).cell? ⟨b, 1, none⟩ = some (.int .i64 (i1 : Int)) := HD1.out.at_.c1
  have HEQ := Lib.hid (Rc.group_eq F s i d g L)
  have HW := Lib.hid hW
  have HOK : Hid (Rc.Ok ⟨s, i, d, 0, g, L⟩) := Lib.hid ⟨o1, o2, o3, o4, o5, o6, o7⟩
  have HI1 := Lib.hid hi1
  have HDD := Lib.hid hd1
  obtain ⟨q, hq⟩ : ∃ q, q = (s.drop i1).take 2 := ⟨_, rfl⟩
  have hex : (⟨s.toArray⟩ : ByteArray).extract i1 (i1 + 2) = ⟨q.toArray⟩ := by rw [Rc.extr, hq]; congr 4; omega
  have hC : ∃ c, c = (decide (i + 1 + 1 < s.length) && ((s.drop (i + 1)).take 2 == [63, 58])) := ⟨_, rfl⟩
  obtain ⟨c, hc⟩ := hC
  rw [← hc] at HEQ
  have hi1b : i1 < 4097 := by omega
  have HQ := Lib.hid hq
  have HC := Lib.hid hc
  have HBD : Hid (i < s.length ∧ s.length - i ≤ n) := Lib.hid ⟨hat, hn⟩
  clear h hW o1 o3 o4 o5 hat hn hi1 hd1 hc
  by_cases hlt : i1 + 1 < s.length
  · have hltI : ((i1 + 1 : Nat) : Int) < (s.length : Int) := by omega
    have hltJ : (i1 : Int) + 1 < (s.length : Int) := by omega
    by_cases hqq : q = [63, 58]
    · subst hqq
      go_enter Try.func69, Try.ntmps69
      go_wp2_with fail
      go_quiet (fail)
      rename_i nq
      have HD2 := Lib.hid (HD1.out.drewN nq)
      generalize (w.setCell ⟨b, 1, none⟩ (.int .i64 (i1 : Int))).drewN nq = wq at *
      have e1 : wq.cell? ⟨b, 1, none⟩ = some (.int .i64 (i1 : Int)) := HD2.out.at_.c1
      have e2 : wq.cell? ⟨b, 2, none⟩ = some (.int .i64 (d : Int)) := HD2.out.at_.c2
      have e4 : wq.cell? ⟨b, 4, none⟩ = some (.int .i64 (g : Int)) := HD2.out.at_.c4
      have f1q := HD2.out.at_.fz 1
      have f2q := HD2.out.at_.fz 2
      have f4q := HD2.out.at_.fz 4
      clear c1 f1 d0 d1' HD1
      have hct : c = true := by rw [HC.out, ← HI1.out, ← HQ.out]; simp [hlt]
      rw [hct] at HEQ
      have HD3 : Hid (Rc.Did w b v ⟨s, (i1 + 2), d1, 0, g, L⟩ v ((wq.setCell ⟨b, 1, none⟩ (.int .i64 ((i1 : Int) + 2))).setCell ⟨b, 2, none⟩ (.int .i64 (d1 : Int)))) := Lib.hid ((HD2.out.set1 (i1 + 2)).set2 d1)
      have f3x := HD3.out.at_.c2
      by_cases hdp : 64 < d1
      · have hdpI : (64 : Int) < (d1 : Int) := by omega
        have HBA := Lib.hid (bad_any HD3.out.at_ 12)
        go_wp2_with (go_at_call 37; go_must (refine HBA.out.mono ?_; rintro e w5 ⟨rfl, hd5⟩; have H5 := Lib.hid hd5; clear hd5))
        ((try simp only [Exit.inBlock, Exit.then]); first | (refine bodyPost_ret (results_none rfl _ _ _) rfl ?_) | (refine bodyPost_end (results_none rfl _ _ _) rfl ?_))
        refine ⟨rfl, ⟨s, (i1 + 2), d1, 12, g, L⟩, v, HD3.out.trans H5.out, ⟨rfl, ⟨?_, ?_, ?_, ?_, ?_, HOK.out.p, HOK.out.pos⟩, ?_, fun e => absurd e (by decide : ¬ (12 : Int) = 0), Nat.le_refl _⟩, fun e => absurd e (by decide : ¬ (12 : Int) = 0), fun _ => ?_⟩
        · show (i1 + 2) ≤ s.length; have q0 := HBD.out; have q1 := HI1.out; have q2 := HDD.out; have q4 := HOK.out.g; have q5 := HOK.out.deep; have q6 := HOK.out.L; have q6 : L.length ≤ 2 * i + 1 := q6; have q5 : d ≤ i := q5; have q4 : g ≤ i := q4; have q7 := hlt; omega
        · exact HOK.out.len
        · show L.length ≤ 2 * (i1 + 2) + 1; have q0 := HBD.out; have q1 := HI1.out; have q2 := HDD.out; have q4 := HOK.out.g; have q5 := HOK.out.deep; have q6 := HOK.out.L; have q6 : L.length ≤ 2 * i + 1 := q6; have q5 : d ≤ i := q5; have q4 : g ≤ i := q4; have q7 := hlt; omega
        · show g ≤ (i1 + 2); have q0 := HBD.out; have q1 := HI1.out; have q2 := HDD.out; have q4 := HOK.out.g; have q5 := HOK.out.deep; have q6 := HOK.out.L; have q6 : L.length ≤ 2 * i + 1 := q6; have q5 : d ≤ i := q5; have q4 : g ≤ i := q4; have q7 := hlt; omega
        · show d1 ≤ (i1 + 2); have q0 := HBD.out; have q1 := HI1.out; have q2 := HDD.out; have q4 := HOK.out.g; have q5 := HOK.out.deep; have q6 := HOK.out.L; have q6 : L.length ≤ 2 * i + 1 := q6; have q5 : d ≤ i := q5; have q4 : g ≤ i := q4; have q7 := hlt; omega
        · show i ≤ (i1 + 2); have q0 := HBD.out; have q1 := HI1.out; have q2 := HDD.out; have q4 := HOK.out.g; have q5 := HOK.out.deep; have q6 := HOK.out.L; have q6 : L.length ≤ 2 * i + 1 := q6; have q5 : d ≤ i := q5; have q4 : g ≤ i := q4; have q7 := hlt; omega
        · have q1 := HI1.out; have q2 := HDD.out; rw [HEQ.out]; have e1 : i1 = i + 1 := q1; have e2 : d1 = d + 1 := q2; subst e1 e2; simp [hdp]
      · have hdpI : ¬ (64 : Int) < (d1 : Int) := by omega
        have HN3 : Hid (∀ v3 w3, Rc.Did w b v ⟨s, (i1 + 2), d1, 0, g, L⟩ v3 w3 → Calls Try.prog 36 #[.pointer (some ⟨b, 0, none⟩)] w3 fun e w' => e = .returned (.tuple #[]) ∧ ∃ r' v', Rc.Did w b v r' v' w' ∧ Rc.Nx ⟨s, (i1 + 2), d1, 0, g, L⟩ r' ∧ (Rc.Sm s → r' = F ⟨s, (i1 + 2), d1, 0, g, L⟩)) := Lib.hid fun v3 w3 hd => by
          refine (HW.out w3 b v3 ⟨s, (i1 + 2), d1, 0, g, L⟩ hd.at_ ⟨?_, HOK.out.len, ?_, ?_, ?_, ?_, ?_⟩ rfl hS ?_).mono ?_
          · show (i1 + 2) ≤ s.length; have q0 := HBD.out; have q1 := HI1.out; have q2 := HDD.out; have q4 := HOK.out.g; have q5 := HOK.out.deep; have q6 := HOK.out.L; have q6 : L.length ≤ 2 * i + 1 := q6; have q5 : d ≤ i := q5; have q4 : g ≤ i := q4; have q7 := hlt; omega
          · show List.length L ≤ 2 * (i1 + 2) + 1; have q0 := HBD.out; have q1 := HI1.out; have q2 := HDD.out; have q4 := HOK.out.g; have q5 := HOK.out.deep; have q6 := HOK.out.L; have q6 : L.length ≤ 2 * i + 1 := q6; have q5 : d ≤ i := q5; have q4 : g ≤ i := q4; have q7 := hlt; omega
          · show g ≤ (i1 + 2); have q0 := HBD.out; have q1 := HI1.out; have q2 := HDD.out; have q4 := HOK.out.g; have q5 := HOK.out.deep; have q6 := HOK.out.L; have q6 : L.length ≤ 2 * i + 1 := q6; have q5 : d ≤ i := q5; have q4 : g ≤ i := q4; have q7 := hlt; omega
          · show d1 ≤ (i1 + 2); have q0 := HBD.out; have q1 := HI1.out; have q2 := HDD.out; have q4 := HOK.out.g; have q5 := HOK.out.deep; have q6 := HOK.out.L; have q6 : L.length ≤ 2 * i + 1 := q6; have q5 : d ≤ i := q5; have q4 : g ≤ i := q4; have q7 := hlt; omega
          · exact HOK.out.p
          · show 0 < List.length L; have := HOK.out.pos; have : 0 < L.length := this; omega
          · show s.length - (i1 + 2) < n; have q0 := HBD.out; have q1 := HI1.out; have q2 := HDD.out; have q4 := HOK.out.g; have q5 := HOK.out.deep; have q6 := HOK.out.L; have q6 : L.length ≤ 2 * i + 1 := q6; have q5 : d ≤ i := q5; have q4 : g ≤ i := q4; have q7 := hlt; omega
          · rintro e w' ⟨he, r', v', q1, q2, q3⟩
            exact ⟨he, r', v', hd.trans q1, q2, q3⟩
        go_wp2_with fail
        go_at_call 36
        refine (HN3.out _ _ HD3.out).mono ?_
        rintro e w5 ⟨rfl, ⟨s5, i5, d5, e5, g5, L5⟩, v5, hd5, hn5, heq5⟩
        have hs5 : s5 = s := hn5.s
        subst hs5
        have h53 := hd5.at_.c3
        have h53 : w5.cell? ⟨b, 3, none⟩ = some (.int .i64 e5) := h53
        have hai : i ≤ i5 := by have q := hn5.at_; have q : (i1 + 2) ≤ i5 := q; have q0 := HBD.out; have q1 := HI1.out; have q2 := HDD.out; have q4 := HOK.out.g; have q5 := HOK.out.deep; have q6 := HOK.out.L; have q6 : L.length ≤ 2 * i + 1 := q6; have q5 : d ≤ i := q5; have q4 : g ≤ i := q4; have q7 := hlt; omega
        have H5 := Lib.hid hd5
        have N5 := Lib.hid hn5
        have Q5 := Lib.hid heq5
        have HAI := Lib.hid hai
        have HGR : Hid (L.length ≤ L5.length) := Lib.hid (by have q := N5.out.grow; have q : List.length L ≤ L5.length := q; exact q)
        clear hd5 hn5 heq5 hai
        by_cases he5 : e5 = 0
        · subst he5
          have HDN : Hid (d5 = d1) := Lib.hid (N5.out.deep rfl)
          have hd51 : 1 ≤ d5 := by have q1 := HDN.out; have q2 := HDD.out; omega
          have HM := Lib.hid (more_any H5.out.at_ 41 41 rfl)
          cases hm : Rc.more ⟨s5, i5, d5, 0, g5, L5⟩ 41
          · rw [hm] at HM
            have HBB : Hid (∀ w6, Rc.Did w b v ⟨s5, i5, d5, 0, g5, L5⟩ v5 w6 → Calls Try.prog 37 #[.pointer (some ⟨b, 0, none⟩), .int .i64 8] w6 fun e w' => e = .returned (.tuple #[]) ∧ Rc.Did w b v ⟨s5, i5, d5, 8, g5, L5⟩ v5 w') := Lib.hid fun w6 hd => by
              refine (bad_any hd.at_ 8).mono ?_
              rintro e w' ⟨he, hq⟩
              exact ⟨he, hd.trans hq⟩
            go_wp2_with first
              | (go_at_call 50; go_must (refine HM.out.mono ?_; rintro e w6 ⟨rfl, hb6⟩; have H6 := Lib.hid (H5.out.on hb6); clear hb6))
              | (go_at_call 37; go_must (refine (HBB.out _ H6.out).mono ?_; rintro e w7 ⟨rfl, hd7⟩; have H7 := Lib.hid hd7; clear hd7))
            ((try simp only [Exit.inBlock, Exit.then]); first | (refine bodyPost_ret (results_none rfl _ _ _) rfl ?_) | (refine bodyPost_end (results_none rfl _ _ _) rfl ?_))
            refine ⟨rfl, ⟨s5, i5, d5, 8, g5, L5⟩, v5, H7.out, ⟨rfl, ⟨N5.out.ok.at_, N5.out.ok.len, N5.out.ok.L, N5.out.ok.g, N5.out.ok.deep, N5.out.ok.p, N5.out.ok.pos⟩, HAI.out, fun e => absurd e (by decide : ¬ (8 : Int) = 0), HGR.out⟩, fun e => absurd e (by decide : ¬ (8 : Int) = 0), fun hs => ?_⟩
            have q := Q5.out hs
            have e1 : i1 = i + 1 := HI1.out; have e2 : d1 = d + 1 := HDD.out; subst e1 e2; rw [HEQ.out]
            rw [← q]
            simp [hdp, hm, Rc.bad]
          · rw [hm] at HM
            have hil := Rc.more_lt hm
            have hil : i5 < s5.length := hil
            obtain ⟨i6, hi6⟩ : ∃ i6 : Nat, i6 = i5 + 1 := ⟨_, rfl⟩
            obtain ⟨d6, hd6⟩ : ∃ d6 : Nat, d6 = d5 - 1 := ⟨_, rfl⟩
            have hwi6 : IntKind.i64.wrap ((i5 : Int) + 1) = (i6 : Int) := by rw [IntKind.wrap_i64]; have := N5.out.ok.len; have : s5.length ≤ 4096 := this; omega
            have hwd6 : IntKind.i64.wrap ((d5 : Int) - 1) = (d6 : Int) := by rw [IntKind.wrap_i64]; have := N5.out.ok.deep; have : d5 ≤ i5 := this; have := N5.out.ok.len; have : s5.length ≤ 4096 := this; omega
            have HI6 := Lib.hid hi6
            have HD6 := Lib.hid hd6
            have HIL := Lib.hid hil
            have HM41 := Lib.hid hm
            have HD51 := Lib.hid hd51
            have HDP := Lib.hid hdp
            clear hi6 hd6 hil hm hd51
            go_wp2_with first
              | (go_at_call 50; go_must (refine HM.out.mono ?_; rintro e w6 ⟨rfl, hb6⟩; have H6 := Lib.hid (H5.out.on hb6); have k1 : w6.cell? ⟨b, 1, none⟩ = some (.int .i64 (i5 : Int)) := H6.out.at_.c1; have k2 : w6.cell? ⟨b, 2, none⟩ = some (.int .i64 (d5 : Int)) := H6.out.at_.c2; have kf1 := H6.out.at_.fz 1; have kf2 := H6.out.at_.fz 2; have H7 : Hid (Rc.Did w b v ⟨s5, i6, d6, 0, g5, L5⟩ v5 ((w6.setCell ⟨b, 1, none⟩ (.int .i64 (i6 : Int))).setCell ⟨b, 2, none⟩ (.int .i64 (d6 : Int)))) := Lib.hid ((H6.out.set1 i6).set2 d6); clear hb6))
            ((try simp only [Exit.inBlock, Exit.then]); first | (refine bodyPost_ret (results_none rfl _ _ _) rfl ?_) | (refine bodyPost_end (results_none rfl _ _ _) rfl ?_))
            have q1 := HI6.out
            have q2 := HD6.out
            have q3 := HIL.out
            have q4 := N5.out.ok.deep
            have q4 : d5 ≤ i5 := q4
            have q5 := N5.out.ok.g
            have q5 : g5 ≤ i5 := q5
            have q6 := N5.out.ok.L
            have q6 : L5.length ≤ 2 * i5 + 1 := q6
            have q7 := HAI.out
            refine ⟨rfl, ⟨s5, i6, d6, 0, g5, L5⟩, v5, H7.out, ⟨rfl, ⟨?_, N5.out.ok.len, ?_, ?_, ?_, ?_, ?_⟩, ?_, fun _ => ?_, HGR.out⟩, fun _ => ?_, fun hs => ?_⟩
            · show i6 ≤ s5.length; omega
            · show List.length (L5) ≤ 2 * i6 + 1; omega
            · show g5 ≤ i6; omega
            · show d6 ≤ i6; omega
            · exact N5.out.ok.p
            · show 0 < List.length (L5); have := N5.out.ok.pos; have : 0 < L5.length := this; omega
            · show i ≤ i6; omega
            · show d6 = d; have := HDN.out; have := HDD.out; omega
            · show i < i6; omega
            · have q := Q5.out hs
              have q8 := HM41.out
              have q9 := HDP.out
              have e1 : i1 = i + 1 := HI1.out; have e2 : d1 = d + 1 := HDD.out; subst e1 e2; rw [HEQ.out]
              rw [← q]
              rw [HI6.out, HD6.out]
              simp [q9, q8]
        · go_wp2_with fail
          ((try simp only [Exit.inBlock, Exit.then]); first | (refine bodyPost_ret (results_none rfl _ _ _) rfl ?_) | (refine bodyPost_end (results_none rfl _ _ _) rfl ?_))
          refine ⟨rfl, ⟨s5, i5, d5, e5, g5, L5⟩, v5, H5.out, ⟨rfl, N5.out.ok, HAI.out, fun e => absurd e he5, HGR.out⟩, fun e => absurd e he5, fun hs => ?_⟩
          have q := Q5.out hs
          have e1 : i1 = i + 1 := HI1.out; have e2 : d1 = d + 1 := HDD.out; subst e1 e2; rw [HEQ.out]
          rw [← q]
          simp [hdp, he5]
    · have hqb : (q == [63, 58]) = false := by simpa using hqq
      clear hq
      obtain ⟨g1, hg1⟩ : ∃ g1 : Nat, g1 = g + 1 := ⟨_, rfl⟩
      have hg4 : g ≤ 4096 := by have q1 := HOK.out.g; have q1 : g ≤ i := q1; have q2 := HBD.out; omega
      have hwg : IntKind.i64.wrap ((g : Int) + 1) = (g1 : Int) := by rw [IntKind.wrap_i64]; omega
      have hw2 : IntKind.i64.wrap (2 * (g1 : Int)) = 2 * (g1 : Int) := by rw [IntKind.wrap_i64]; omega
      have hw3 : IntKind.i64.wrap (2 * (g1 : Int) + 1) = 2 * (g1 : Int) + 1 := by rw [IntKind.wrap_i64]; omega
      have hgp : (0 : Int) < (g1 : Int) := by omega
      have HG1 := Lib.hid hg1
      clear hg1 hg4
      go_enter Try.func69, Try.ntmps69
      go_wp2_with fail
      go_quiet (fail)
      rename_i nq
      have HD2 := Lib.hid (HD1.out.drewN nq)
      generalize (w.setCell ⟨b, 1, none⟩ (.int .i64 (i1 : Int))).drewN nq = wq at *
      have e1 : wq.cell? ⟨b, 1, none⟩ = some (.int .i64 (i1 : Int)) := HD2.out.at_.c1
      have e2 : wq.cell? ⟨b, 2, none⟩ = some (.int .i64 (d : Int)) := HD2.out.at_.c2
      have e4 : wq.cell? ⟨b, 4, none⟩ = some (.int .i64 (g : Int)) := HD2.out.at_.c4
      have f1q := HD2.out.at_.fz 1
      have f2q := HD2.out.at_.fz 2
      have f4q := HD2.out.at_.fz 4
      clear c1 f1 d0 d1' HD1
      have hct : c = false := by rw [HC.out, ← HI1.out, ← HQ.out]; simp [hqq]
      rw [hct] at HEQ
      have HD3 : Hid (Rc.Did w b v ⟨s, i1, d1, 0, g1, L⟩ v ((wq.setCell ⟨b, 4, none⟩ (.int .i64 (g1 : Int))).setCell ⟨b, 2, none⟩ (.int .i64 (d1 : Int)))) := Lib.hid ((HD2.out.set4 g1).set2 d1)
      have f3x := HD3.out.at_.c2
      by_cases hdp : 64 < d1
      · have hdpI : (64 : Int) < (d1 : Int) := by omega
        have HBA := Lib.hid (bad_any HD3.out.at_ 12)
        go_wp2_with (go_at_call 37; go_must (refine HBA.out.mono ?_; rintro e w5 ⟨rfl, hd5⟩; have H5 := Lib.hid hd5; clear hd5))
        ((try simp only [Exit.inBlock, Exit.then]); first | (refine bodyPost_ret (results_none rfl _ _ _) rfl ?_) | (refine bodyPost_end (results_none rfl _ _ _) rfl ?_))
        refine ⟨rfl, ⟨s, i1, d1, 12, g1, L⟩, v, HD3.out.trans H5.out, ⟨rfl, ⟨?_, ?_, ?_, ?_, ?_, HOK.out.p, HOK.out.pos⟩, ?_, fun e => absurd e (by decide : ¬ (12 : Int) = 0), Nat.le_refl _⟩, fun e => absurd e (by decide : ¬ (12 : Int) = 0), fun _ => ?_⟩
        · show i1 ≤ s.length; have q0 := HBD.out; have q1 := HI1.out; have q2 := HDD.out; have q4 := HOK.out.g; have q5 := HOK.out.deep; have q6 := HOK.out.L; have q6 : L.length ≤ 2 * i + 1 := q6; have q5 : d ≤ i := q5; have q4 : g ≤ i := q4; have q3 := HG1.out; omega
        · exact HOK.out.len
        · show L.length ≤ 2 * i1 + 1; have q0 := HBD.out; have q1 := HI1.out; have q2 := HDD.out; have q4 := HOK.out.g; have q5 := HOK.out.deep; have q6 := HOK.out.L; have q6 : L.length ≤ 2 * i + 1 := q6; have q5 : d ≤ i := q5; have q4 : g ≤ i := q4; have q3 := HG1.out; omega
        · show g1 ≤ i1; have q0 := HBD.out; have q1 := HI1.out; have q2 := HDD.out; have q4 := HOK.out.g; have q5 := HOK.out.deep; have q6 := HOK.out.L; have q6 : L.length ≤ 2 * i + 1 := q6; have q5 : d ≤ i := q5; have q4 : g ≤ i := q4; have q3 := HG1.out; omega
        · show d1 ≤ i1; have q0 := HBD.out; have q1 := HI1.out; have q2 := HDD.out; have q4 := HOK.out.g; have q5 := HOK.out.deep; have q6 := HOK.out.L; have q6 : L.length ≤ 2 * i + 1 := q6; have q5 : d ≤ i := q5; have q4 : g ≤ i := q4; have q3 := HG1.out; omega
        · show i ≤ i1; have q0 := HBD.out; have q1 := HI1.out; have q2 := HDD.out; have q4 := HOK.out.g; have q5 := HOK.out.deep; have q6 := HOK.out.L; have q6 : L.length ≤ 2 * i + 1 := q6; have q5 : d ≤ i := q5; have q4 : g ≤ i := q4; have q3 := HG1.out; omega
        · have q1 := HI1.out; have q2 := HDD.out; have q3 := HG1.out; rw [HEQ.out]; have e1 : i1 = i + 1 := q1; have e2 : d1 = d + 1 := q2; have e3 : g1 = g + 1 := q3; subst e1 e2 e3; simp [hdp]
      · have hdpI : ¬ (64 : Int) < (d1 : Int) := by omega
        have HN3 : Hid (∀ v3 w3, Rc.Did w b v ⟨s, i1, d1, 0, g1, (L ++ [⟨4, 2 * (g1 : Int), 0, []⟩])⟩ v3 w3 → Calls Try.prog 36 #[.pointer (some ⟨b, 0, none⟩)] w3 fun e w' => e = .returned (.tuple #[]) ∧ ∃ r' v', Rc.Did w b v r' v' w' ∧ Rc.Nx ⟨s, i1, d1, 0, g1, (L ++ [⟨4, 2 * (g1 : Int), 0, []⟩])⟩ r' ∧ (Rc.Sm s → r' = F ⟨s, i1, d1, 0, g1, (L ++ [⟨4, 2 * (g1 : Int), 0, []⟩])⟩)) := Lib.hid fun v3 w3 hd => by
          refine (HW.out w3 b v3 ⟨s, i1, d1, 0, g1, (L ++ [⟨4, 2 * (g1 : Int), 0, []⟩])⟩ hd.at_ ⟨?_, HOK.out.len, ?_, ?_, ?_, ?_, ?_⟩ rfl hS ?_).mono ?_
          · show i1 ≤ s.length; have q0 := HBD.out; have q1 := HI1.out; have q2 := HDD.out; have q4 := HOK.out.g; have q5 := HOK.out.deep; have q6 := HOK.out.L; have q6 : L.length ≤ 2 * i + 1 := q6; have q5 : d ≤ i := q5; have q4 : g ≤ i := q4; have q3 := HG1.out; omega
          · show List.length (L ++ [⟨4, 2 * (g1 : Int), 0, []⟩]) ≤ 2 * i1 + 1; rw [List.length_append]; show L.length + 1 ≤ _; have q0 := HBD.out; have q1 := HI1.out; have q2 := HDD.out; have q4 := HOK.out.g; have q5 := HOK.out.deep; have q6 := HOK.out.L; have q6 : L.length ≤ 2 * i + 1 := q6; have q5 : d ≤ i := q5; have q4 : g ≤ i := q4; have q3 := HG1.out; omega
          · show g1 ≤ i1; have q0 := HBD.out; have q1 := HI1.out; have q2 := HDD.out; have q4 := HOK.out.g; have q5 := HOK.out.deep; have q6 := HOK.out.L; have q6 : L.length ≤ 2 * i + 1 := q6; have q5 : d ≤ i := q5; have q4 : g ≤ i := q4; have q3 := HG1.out; omega
          · show d1 ≤ i1; have q0 := HBD.out; have q1 := HI1.out; have q2 := HDD.out; have q4 := HOK.out.g; have q5 := HOK.out.deep; have q6 := HOK.out.L; have q6 : L.length ≤ 2 * i + 1 := q6; have q5 : d ≤ i := q5; have q4 : g ≤ i := q4; have q3 := HG1.out; omega
          · intro x hx; rcases List.mem_append.1 hx with hx | hx; exact HOK.out.p x hx; rw [List.mem_singleton.1 hx]; exact Nat.zero_le _
          · show 0 < List.length (L ++ [⟨4, 2 * (g1 : Int), 0, []⟩]); rw [List.length_append]; show 0 < L.length + 1; have := HOK.out.pos; have : 0 < L.length := this; omega
          · show s.length - i1 < n; have q0 := HBD.out; have q1 := HI1.out; have q2 := HDD.out; have q4 := HOK.out.g; have q5 := HOK.out.deep; have q6 := HOK.out.L; have q6 : L.length ≤ 2 * i + 1 := q6; have q5 : d ≤ i := q5; have q4 : g ≤ i := q4; have q3 := HG1.out; omega
          · rintro e w' ⟨he, r', v', q1, q2, q3⟩
            exact ⟨he, r', v', hd.trans q1, q2, q3⟩
        have HLY : Hid (Calls Try.prog 35 #[.pointer (some ⟨b, 0, none⟩), .agg #[.int .i64 4, .int .i64 (2 * (g1 : Int)), .int .i64 0, .string ⟨#[]⟩]] ((wq.setCell ⟨b, 4, none⟩ (.int .i64 (g1 : Int))).setCell ⟨b, 2, none⟩ (.int .i64 (d1 : Int))) fun e w' => e = .returned (.int .i64 (L.length : Int)) ∧ ∃ v', Rc.Did w b v ⟨s, i1, d1, 0, g1, (L ++ [⟨4, 2 * (g1 : Int), 0, []⟩])⟩ v' w') := Lib.hid (by
          refine (lay_any HD3.out.at_ (by show L.length ≤ _; have q0 := HBD.out; have q1 := HI1.out; have q2 := HDD.out; have q4 := HOK.out.g; have q5 := HOK.out.deep; have q6 := HOK.out.L; have q6 : L.length ≤ 2 * i + 1 := q6; have q5 : d ≤ i := q5; have q4 : g ≤ i := q4; have q3 := HG1.out; omega) ⟨4, 2 * (g1 : Int), 0, []⟩).mono ?_
          rintro e w' ⟨he, v', hd⟩
          exact ⟨he, v', HD3.out.trans hd⟩)
        go_wp2_with (go_at_call 35; go_must (refine HLY.out.mono ?_; rintro e w4 ⟨rfl, v4, hd4⟩; have H4 := Lib.hid hd4; clear hd4))
        go_at_call 36
        refine (HN3.out _ _ H4.out).mono ?_
        rintro e w5 ⟨rfl, ⟨s5, i5, d5, e5, g5, L5⟩, v5, hd5, hn5, heq5⟩
        have hs5 : s5 = s := hn5.s
        subst hs5
        have h53 := hd5.at_.c3
        have h53 : w5.cell? ⟨b, 3, none⟩ = some (.int .i64 e5) := h53
        have hai : i ≤ i5 := by have q := hn5.at_; have q : i1 ≤ i5 := q; have q0 := HBD.out; have q1 := HI1.out; have q2 := HDD.out; have q4 := HOK.out.g; have q5 := HOK.out.deep; have q6 := HOK.out.L; have q6 : L.length ≤ 2 * i + 1 := q6; have q5 : d ≤ i := q5; have q4 : g ≤ i := q4; have q3 := HG1.out; omega
        have H5 := Lib.hid hd5
        have N5 := Lib.hid hn5
        have Q5 := Lib.hid heq5
        have HAI := Lib.hid hai
        have HGR : Hid (L.length ≤ L5.length) := Lib.hid (by have q := N5.out.grow; have q : List.length (L ++ [⟨4, 2 * (g1 : Int), 0, []⟩]) ≤ L5.length := q; rw [List.length_append] at q; exact Nat.le_trans (Nat.le_add_right _ _) q)
        clear hd5 hn5 heq5 hai
        by_cases he5 : e5 = 0
        · subst he5
          have HDN : Hid (d5 = d1) := Lib.hid (N5.out.deep rfl)
          have hd51 : 1 ≤ d5 := by have q1 := HDN.out; have q2 := HDD.out; omega
          have HM := Lib.hid (more_any H5.out.at_ 41 41 rfl)
          cases hm : Rc.more ⟨s5, i5, d5, 0, g5, L5⟩ 41
          · rw [hm] at HM
            have HBB : Hid (∀ w6, Rc.Did w b v ⟨s5, i5, d5, 0, g5, L5⟩ v5 w6 → Calls Try.prog 37 #[.pointer (some ⟨b, 0, none⟩), .int .i64 8] w6 fun e w' => e = .returned (.tuple #[]) ∧ Rc.Did w b v ⟨s5, i5, d5, 8, g5, L5⟩ v5 w') := Lib.hid fun w6 hd => by
              refine (bad_any hd.at_ 8).mono ?_
              rintro e w' ⟨he, hq⟩
              exact ⟨he, hd.trans hq⟩
            go_wp2_with first
              | (go_at_call 50; go_must (refine HM.out.mono ?_; rintro e w6 ⟨rfl, hb6⟩; have H6 := Lib.hid (H5.out.on hb6); clear hb6))
              | (go_at_call 37; go_must (refine (HBB.out _ H6.out).mono ?_; rintro e w7 ⟨rfl, hd7⟩; have H7 := Lib.hid hd7; clear hd7))
            ((try simp only [Exit.inBlock, Exit.then]); first | (refine bodyPost_ret (results_none rfl _ _ _) rfl ?_) | (refine bodyPost_end (results_none rfl _ _ _) rfl ?_))
            refine ⟨rfl, ⟨s5, i5, d5, 8, g5, L5⟩, v5, H7.out, ⟨rfl, ⟨N5.out.ok.at_, N5.out.ok.len, N5.out.ok.L, N5.out.ok.g, N5.out.ok.deep, N5.out.ok.p, N5.out.ok.pos⟩, HAI.out, fun e => absurd e (by decide : ¬ (8 : Int) = 0), HGR.out⟩, fun e => absurd e (by decide : ¬ (8 : Int) = 0), fun hs => ?_⟩
            have q := Q5.out hs
            have e1 : i1 = i + 1 := HI1.out; have e2 : d1 = d + 1 := HDD.out; have e3 : g1 = g + 1 := HG1.out; subst e1 e2 e3; rw [HEQ.out]
            rw [← q]
            simp [hdp, hm, Rc.bad]
          · rw [hm] at HM
            have hil := Rc.more_lt hm
            have hil : i5 < s5.length := hil
            obtain ⟨i6, hi6⟩ : ∃ i6 : Nat, i6 = i5 + 1 := ⟨_, rfl⟩
            obtain ⟨d6, hd6⟩ : ∃ d6 : Nat, d6 = d5 - 1 := ⟨_, rfl⟩
            have hwi6 : IntKind.i64.wrap ((i5 : Int) + 1) = (i6 : Int) := by rw [IntKind.wrap_i64]; have := N5.out.ok.len; have : s5.length ≤ 4096 := this; omega
            have hwd6 : IntKind.i64.wrap ((d5 : Int) - 1) = (d6 : Int) := by rw [IntKind.wrap_i64]; have := N5.out.ok.deep; have : d5 ≤ i5 := this; have := N5.out.ok.len; have : s5.length ≤ 4096 := this; omega
            have HI6 := Lib.hid hi6
            have HD6 := Lib.hid hd6
            have HIL := Lib.hid hil
            have HM41 := Lib.hid hm
            have HD51 := Lib.hid hd51
            have HDP := Lib.hid hdp
            have HLZ : Hid (∀ w7, Rc.Did w b v ⟨s5, i6, d6, 0, g5, L5⟩ v5 w7 → Calls Try.prog 35 #[.pointer (some ⟨b, 0, none⟩), .agg #[.int .i64 4, .int .i64 (2 * (g1 : Int) + 1), .int .i64 0, .string ⟨#[]⟩]] w7 fun e w' => e = .returned (.int .i64 (L5.length : Int)) ∧ ∃ v', Rc.Did w b v ⟨s5, i6, d6, 0, g5, L5 ++ [⟨4, 2 * (g1 : Int) + 1, 0, []⟩]⟩ v' w') := Lib.hid fun w7 hd => by
              refine (lay_any hd.at_ (by show L5.length ≤ _; have := N5.out.ok.L; have : L5.length ≤ 2 * i5 + 1 := this; have := N5.out.ok.len; have : s5.length ≤ 4096 := this; omega) ⟨4, 2 * (g1 : Int) + 1, 0, []⟩).mono ?_
              rintro e w' ⟨he, v', hq⟩
              exact ⟨he, v', hd.trans hq⟩
            clear hi6 hd6 hil hm hd51
            go_wp2_with first
              | (go_at_call 50; go_must (refine HM.out.mono ?_; rintro e w6 ⟨rfl, hb6⟩; have H6 := Lib.hid (H5.out.on hb6); have k1 : w6.cell? ⟨b, 1, none⟩ = some (.int .i64 (i5 : Int)) := H6.out.at_.c1; have k2 : w6.cell? ⟨b, 2, none⟩ = some (.int .i64 (d5 : Int)) := H6.out.at_.c2; have kf1 := H6.out.at_.fz 1; have kf2 := H6.out.at_.fz 2; have H7 : Hid (Rc.Did w b v ⟨s5, i6, d6, 0, g5, L5⟩ v5 ((w6.setCell ⟨b, 1, none⟩ (.int .i64 (i6 : Int))).setCell ⟨b, 2, none⟩ (.int .i64 (d6 : Int)))) := Lib.hid ((H6.out.set1 i6).set2 d6); clear hb6))
              | (go_at_call 35; go_must (refine (HLZ.out _ H7.out).mono ?_; rintro e w8 ⟨rfl, v8, hd8⟩; have H8 := Lib.hid hd8; clear hd8))
            ((try simp only [Exit.inBlock, Exit.then]); first | (refine bodyPost_ret (results_none rfl _ _ _) rfl ?_) | (refine bodyPost_end (results_none rfl _ _ _) rfl ?_))
            have q1 := HI6.out
            have q2 := HD6.out
            have q3 := HIL.out
            have q4 := N5.out.ok.deep
            have q4 : d5 ≤ i5 := q4
            have q5 := N5.out.ok.g
            have q5 : g5 ≤ i5 := q5
            have q6 := N5.out.ok.L
            have q6 : L5.length ≤ 2 * i5 + 1 := q6
            have q7 := HAI.out
            refine ⟨rfl, ⟨s5, i6, d6, 0, g5, L5 ++ [⟨4, 2 * (g1 : Int) + 1, 0, []⟩]⟩, v8, H8.out, ⟨rfl, ⟨?_, N5.out.ok.len, ?_, ?_, ?_, ?_, ?_⟩, ?_, fun _ => ?_, (by show L.length ≤ List.length (L5 ++ [_]); rw [List.length_append]; exact Nat.le_trans HGR.out (Nat.le_add_right _ _))⟩, fun _ => ?_, fun hs => ?_⟩
            · show i6 ≤ s5.length; omega
            · show List.length (L5 ++ [⟨4, 2 * (g1 : Int) + 1, 0, []⟩]) ≤ 2 * i6 + 1; rw [List.length_append]; show L5.length + 1 ≤ _; omega
            · show g5 ≤ i6; omega
            · show d6 ≤ i6; omega
            · intro x hx; rcases List.mem_append.1 hx with hx | hx; exact N5.out.ok.p x hx; rw [List.mem_singleton.1 hx]; exact Nat.zero_le _
            · show 0 < List.length (L5 ++ [⟨4, 2 * (g1 : Int) + 1, 0, []⟩]); rw [List.length_append]; show 0 < L5.length + 1; omega
            · show i ≤ i6; omega
            · show d6 = d; have := HDN.out; have := HDD.out; omega
            · show i < i6; omega
            · have q := Q5.out hs
              have q8 := HM41.out
              have q9 := HDP.out
              have e1 : i1 = i + 1 := HI1.out; have e2 : d1 = d + 1 := HDD.out; have e3 : g1 = g + 1 := HG1.out; subst e1 e2 e3; rw [HEQ.out]
              rw [← q]
              rw [HI6.out, HD6.out]
              simp [q9, q8, Rc.lay]
        · go_wp2_with fail
          ((try simp only [Exit.inBlock, Exit.then]); first | (refine bodyPost_ret (results_none rfl _ _ _) rfl ?_) | (refine bodyPost_end (results_none rfl _ _ _) rfl ?_))
          refine ⟨rfl, ⟨s5, i5, d5, e5, g5, L5⟩, v5, H5.out, ⟨rfl, N5.out.ok, HAI.out, fun e => absurd e he5, HGR.out⟩, fun e => absurd e he5, fun hs => ?_⟩
          have q := Q5.out hs
          have e1 : i1 = i + 1 := HI1.out; have e2 : d1 = d + 1 := HDD.out; have e3 : g1 = g + 1 := HG1.out; subst e1 e2 e3; rw [HEQ.out]
          rw [← q]
          simp [hdp, he5]
  · have hltJ : ¬ (i1 : Int) + 1 < (s.length : Int) := by omega
    have hltD : decide ((i1 : Int) + 1 < (s.length : Int)) = false := decide_eq_false hltJ
    obtain ⟨g1, hg1⟩ : ∃ g1 : Nat, g1 = g + 1 := ⟨_, rfl⟩
    have hg4 : g ≤ 4096 := by have q1 := HOK.out.g; have q1 : g ≤ i := q1; have q2 := HBD.out; omega
    have hwg : IntKind.i64.wrap ((g : Int) + 1) = (g1 : Int) := by rw [IntKind.wrap_i64]; omega
    have hw2 : IntKind.i64.wrap (2 * (g1 : Int)) = 2 * (g1 : Int) := by rw [IntKind.wrap_i64]; omega
    have hw3 : IntKind.i64.wrap (2 * (g1 : Int) + 1) = 2 * (g1 : Int) + 1 := by rw [IntKind.wrap_i64]; omega
    have hgp : (0 : Int) < (g1 : Int) := by omega
    have HG1 := Lib.hid hg1
    clear hg1 hg4
    go_enter Try.func69, Try.ntmps69
    go_wp2_with fail
    go_quiet (fail)
    rename_i nq
    have HD2 := Lib.hid (HD1.out.drewN nq)
    generalize (w.setCell ⟨b, 1, none⟩ (.int .i64 (i1 : Int))).drewN nq = wq at *
    have e1 : wq.cell? ⟨b, 1, none⟩ = some (.int .i64 (i1 : Int)) := HD2.out.at_.c1
    have e2 : wq.cell? ⟨b, 2, none⟩ = some (.int .i64 (d : Int)) := HD2.out.at_.c2
    have e4 : wq.cell? ⟨b, 4, none⟩ = some (.int .i64 (g : Int)) := HD2.out.at_.c4
    have f1q := HD2.out.at_.fz 1
    have f2q := HD2.out.at_.fz 2
    have f4q := HD2.out.at_.fz 4
    clear c1 f1 d0 d1' HD1
    have hct : c = false := by rw [HC.out, ← HI1.out, ← HQ.out]; simp [hlt]
    rw [hct] at HEQ
    have HD3 : Hid (Rc.Did w b v ⟨s, i1, d1, 0, g1, L⟩ v ((wq.setCell ⟨b, 4, none⟩ (.int .i64 (g1 : Int))).setCell ⟨b, 2, none⟩ (.int .i64 (d1 : Int)))) := Lib.hid ((HD2.out.set4 g1).set2 d1)
    have f3x := HD3.out.at_.c2
    by_cases hdp : 64 < d1
    · have hdpI : (64 : Int) < (d1 : Int) := by omega
      have HBA := Lib.hid (bad_any HD3.out.at_ 12)
      go_wp2_with (go_at_call 37; go_must (refine HBA.out.mono ?_; rintro e w5 ⟨rfl, hd5⟩; have H5 := Lib.hid hd5; clear hd5))
      ((try simp only [Exit.inBlock, Exit.then]); first | (refine bodyPost_ret (results_none rfl _ _ _) rfl ?_) | (refine bodyPost_end (results_none rfl _ _ _) rfl ?_))
      refine ⟨rfl, ⟨s, i1, d1, 12, g1, L⟩, v, HD3.out.trans H5.out, ⟨rfl, ⟨?_, ?_, ?_, ?_, ?_, HOK.out.p, HOK.out.pos⟩, ?_, fun e => absurd e (by decide : ¬ (12 : Int) = 0), Nat.le_refl _⟩, fun e => absurd e (by decide : ¬ (12 : Int) = 0), fun _ => ?_⟩
      · show i1 ≤ s.length; have q0 := HBD.out; have q1 := HI1.out; have q2 := HDD.out; have q4 := HOK.out.g; have q5 := HOK.out.deep; have q6 := HOK.out.L; have q6 : L.length ≤ 2 * i + 1 := q6; have q5 : d ≤ i := q5; have q4 : g ≤ i := q4; have q3 := HG1.out; omega
      · exact HOK.out.len
      · show L.length ≤ 2 * i1 + 1; have q0 := HBD.out; have q1 := HI1.out; have q2 := HDD.out; have q4 := HOK.out.g; have q5 := HOK.out.deep; have q6 := HOK.out.L; have q6 : L.length ≤ 2 * i + 1 := q6; have q5 : d ≤ i := q5; have q4 : g ≤ i := q4; have q3 := HG1.out; omega
      · show g1 ≤ i1; have q0 := HBD.out; have q1 := HI1.out; have q2 := HDD.out; have q4 := HOK.out.g; have q5 := HOK.out.deep; have q6 := HOK.out.L; have q6 : L.length ≤ 2 * i + 1 := q6; have q5 : d ≤ i := q5; have q4 : g ≤ i := q4; have q3 := HG1.out; omega
      · show d1 ≤ i1; have q0 := HBD.out; have q1 := HI1.out; have q2 := HDD.out; have q4 := HOK.out.g; have q5 := HOK.out.deep; have q6 := HOK.out.L; have q6 : L.length ≤ 2 * i + 1 := q6; have q5 : d ≤ i := q5; have q4 : g ≤ i := q4; have q3 := HG1.out; omega
      · show i ≤ i1; have q0 := HBD.out; have q1 := HI1.out; have q2 := HDD.out; have q4 := HOK.out.g; have q5 := HOK.out.deep; have q6 := HOK.out.L; have q6 : L.length ≤ 2 * i + 1 := q6; have q5 : d ≤ i := q5; have q4 : g ≤ i := q4; have q3 := HG1.out; omega
      · have q1 := HI1.out; have q2 := HDD.out; have q3 := HG1.out; rw [HEQ.out]; have e1 : i1 = i + 1 := q1; have e2 : d1 = d + 1 := q2; have e3 : g1 = g + 1 := q3; subst e1 e2 e3; simp [hdp]
    · have hdpI : ¬ (64 : Int) < (d1 : Int) := by omega
      have HN3 : Hid (∀ v3 w3, Rc.Did w b v ⟨s, i1, d1, 0, g1, (L ++ [⟨4, 2 * (g1 : Int), 0, []⟩])⟩ v3 w3 → Calls Try.prog 36 #[.pointer (some ⟨b, 0, none⟩)] w3 fun e w' => e = .returned (.tuple #[]) ∧ ∃ r' v', Rc.Did w b v r' v' w' ∧ Rc.Nx ⟨s, i1, d1, 0, g1, (L ++ [⟨4, 2 * (g1 : Int), 0, []⟩])⟩ r' ∧ (Rc.Sm s → r' = F ⟨s, i1, d1, 0, g1, (L ++ [⟨4, 2 * (g1 : Int), 0, []⟩])⟩)) := Lib.hid fun v3 w3 hd => by
        refine (HW.out w3 b v3 ⟨s, i1, d1, 0, g1, (L ++ [⟨4, 2 * (g1 : Int), 0, []⟩])⟩ hd.at_ ⟨?_, HOK.out.len, ?_, ?_, ?_, ?_, ?_⟩ rfl hS ?_).mono ?_
        · show i1 ≤ s.length; have q0 := HBD.out; have q1 := HI1.out; have q2 := HDD.out; have q4 := HOK.out.g; have q5 := HOK.out.deep; have q6 := HOK.out.L; have q6 : L.length ≤ 2 * i + 1 := q6; have q5 : d ≤ i := q5; have q4 : g ≤ i := q4; have q3 := HG1.out; omega
        · show List.length (L ++ [⟨4, 2 * (g1 : Int), 0, []⟩]) ≤ 2 * i1 + 1; rw [List.length_append]; show L.length + 1 ≤ _; have q0 := HBD.out; have q1 := HI1.out; have q2 := HDD.out; have q4 := HOK.out.g; have q5 := HOK.out.deep; have q6 := HOK.out.L; have q6 : L.length ≤ 2 * i + 1 := q6; have q5 : d ≤ i := q5; have q4 : g ≤ i := q4; have q3 := HG1.out; omega
        · show g1 ≤ i1; have q0 := HBD.out; have q1 := HI1.out; have q2 := HDD.out; have q4 := HOK.out.g; have q5 := HOK.out.deep; have q6 := HOK.out.L; have q6 : L.length ≤ 2 * i + 1 := q6; have q5 : d ≤ i := q5; have q4 : g ≤ i := q4; have q3 := HG1.out; omega
        · show d1 ≤ i1; have q0 := HBD.out; have q1 := HI1.out; have q2 := HDD.out; have q4 := HOK.out.g; have q5 := HOK.out.deep; have q6 := HOK.out.L; have q6 : L.length ≤ 2 * i + 1 := q6; have q5 : d ≤ i := q5; have q4 : g ≤ i := q4; have q3 := HG1.out; omega
        · intro x hx; rcases List.mem_append.1 hx with hx | hx; exact HOK.out.p x hx; rw [List.mem_singleton.1 hx]; exact Nat.zero_le _
        · show 0 < List.length (L ++ [⟨4, 2 * (g1 : Int), 0, []⟩]); rw [List.length_append]; show 0 < L.length + 1; have := HOK.out.pos; have : 0 < L.length := this; omega
        · show s.length - i1 < n; have q0 := HBD.out; have q1 := HI1.out; have q2 := HDD.out; have q4 := HOK.out.g; have q5 := HOK.out.deep; have q6 := HOK.out.L; have q6 : L.length ≤ 2 * i + 1 := q6; have q5 : d ≤ i := q5; have q4 : g ≤ i := q4; have q3 := HG1.out; omega
        · rintro e w' ⟨he, r', v', q1, q2, q3⟩
          exact ⟨he, r', v', hd.trans q1, q2, q3⟩
      have HLY : Hid (Calls Try.prog 35 #[.pointer (some ⟨b, 0, none⟩), .agg #[.int .i64 4, .int .i64 (2 * (g1 : Int)), .int .i64 0, .string ⟨#[]⟩]] ((wq.setCell ⟨b, 4, none⟩ (.int .i64 (g1 : Int))).setCell ⟨b, 2, none⟩ (.int .i64 (d1 : Int))) fun e w' => e = .returned (.int .i64 (L.length : Int)) ∧ ∃ v', Rc.Did w b v ⟨s, i1, d1, 0, g1, (L ++ [⟨4, 2 * (g1 : Int), 0, []⟩])⟩ v' w') := Lib.hid (by
        refine (lay_any HD3.out.at_ (by show L.length ≤ _; have q0 := HBD.out; have q1 := HI1.out; have q2 := HDD.out; have q4 := HOK.out.g; have q5 := HOK.out.deep; have q6 := HOK.out.L; have q6 : L.length ≤ 2 * i + 1 := q6; have q5 : d ≤ i := q5; have q4 : g ≤ i := q4; have q3 := HG1.out; omega) ⟨4, 2 * (g1 : Int), 0, []⟩).mono ?_
        rintro e w' ⟨he, v', hd⟩
        exact ⟨he, v', HD3.out.trans hd⟩)
      go_wp2_with (go_at_call 35; go_must (refine HLY.out.mono ?_; rintro e w4 ⟨rfl, v4, hd4⟩; have H4 := Lib.hid hd4; clear hd4))
      go_at_call 36
      refine (HN3.out _ _ H4.out).mono ?_
      rintro e w5 ⟨rfl, ⟨s5, i5, d5, e5, g5, L5⟩, v5, hd5, hn5, heq5⟩
      have hs5 : s5 = s := hn5.s
      subst hs5
      have h53 := hd5.at_.c3
      have h53 : w5.cell? ⟨b, 3, none⟩ = some (.int .i64 e5) := h53
      have hai : i ≤ i5 := by have q := hn5.at_; have q : i1 ≤ i5 := q; have q0 := HBD.out; have q1 := HI1.out; have q2 := HDD.out; have q4 := HOK.out.g; have q5 := HOK.out.deep; have q6 := HOK.out.L; have q6 : L.length ≤ 2 * i + 1 := q6; have q5 : d ≤ i := q5; have q4 : g ≤ i := q4; have q3 := HG1.out; omega
      have H5 := Lib.hid hd5
      have N5 := Lib.hid hn5
      have Q5 := Lib.hid heq5
      have HAI := Lib.hid hai
      have HGR : Hid (L.length ≤ L5.length) := Lib.hid (by have q := N5.out.grow; have q : List.length (L ++ [⟨4, 2 * (g1 : Int), 0, []⟩]) ≤ L5.length := q; rw [List.length_append] at q; exact Nat.le_trans (Nat.le_add_right _ _) q)
      clear hd5 hn5 heq5 hai
      by_cases he5 : e5 = 0
      · subst he5
        have HDN : Hid (d5 = d1) := Lib.hid (N5.out.deep rfl)
        have hd51 : 1 ≤ d5 := by have q1 := HDN.out; have q2 := HDD.out; omega
        have HM := Lib.hid (more_any H5.out.at_ 41 41 rfl)
        cases hm : Rc.more ⟨s5, i5, d5, 0, g5, L5⟩ 41
        · rw [hm] at HM
          have HBB : Hid (∀ w6, Rc.Did w b v ⟨s5, i5, d5, 0, g5, L5⟩ v5 w6 → Calls Try.prog 37 #[.pointer (some ⟨b, 0, none⟩), .int .i64 8] w6 fun e w' => e = .returned (.tuple #[]) ∧ Rc.Did w b v ⟨s5, i5, d5, 8, g5, L5⟩ v5 w') := Lib.hid fun w6 hd => by
            refine (bad_any hd.at_ 8).mono ?_
            rintro e w' ⟨he, hq⟩
            exact ⟨he, hd.trans hq⟩
          go_wp2_with first
            | (go_at_call 50; go_must (refine HM.out.mono ?_; rintro e w6 ⟨rfl, hb6⟩; have H6 := Lib.hid (H5.out.on hb6); clear hb6))
            | (go_at_call 37; go_must (refine (HBB.out _ H6.out).mono ?_; rintro e w7 ⟨rfl, hd7⟩; have H7 := Lib.hid hd7; clear hd7))
          ((try simp only [Exit.inBlock, Exit.then]); first | (refine bodyPost_ret (results_none rfl _ _ _) rfl ?_) | (refine bodyPost_end (results_none rfl _ _ _) rfl ?_))
          refine ⟨rfl, ⟨s5, i5, d5, 8, g5, L5⟩, v5, H7.out, ⟨rfl, ⟨N5.out.ok.at_, N5.out.ok.len, N5.out.ok.L, N5.out.ok.g, N5.out.ok.deep, N5.out.ok.p, N5.out.ok.pos⟩, HAI.out, fun e => absurd e (by decide : ¬ (8 : Int) = 0), HGR.out⟩, fun e => absurd e (by decide : ¬ (8 : Int) = 0), fun hs => ?_⟩
          have q := Q5.out hs
          have e1 : i1 = i + 1 := HI1.out; have e2 : d1 = d + 1 := HDD.out; have e3 : g1 = g + 1 := HG1.out; subst e1 e2 e3; rw [HEQ.out]
          rw [← q]
          simp [hdp, hm, Rc.bad]
        · rw [hm] at HM
          have hil := Rc.more_lt hm
          have hil : i5 < s5.length := hil
          obtain ⟨i6, hi6⟩ : ∃ i6 : Nat, i6 = i5 + 1 := ⟨_, rfl⟩
          obtain ⟨d6, hd6⟩ : ∃ d6 : Nat, d6 = d5 - 1 := ⟨_, rfl⟩
          have hwi6 : IntKind.i64.wrap ((i5 : Int) + 1) = (i6 : Int) := by rw [IntKind.wrap_i64]; have := N5.out.ok.len; have : s5.length ≤ 4096 := this; omega
          have hwd6 : IntKind.i64.wrap ((d5 : Int) - 1) = (d6 : Int) := by rw [IntKind.wrap_i64]; have := N5.out.ok.deep; have : d5 ≤ i5 := this; have := N5.out.ok.len; have : s5.length ≤ 4096 := this; omega
          have HI6 := Lib.hid hi6
          have HD6 := Lib.hid hd6
          have HIL := Lib.hid hil
          have HM41 := Lib.hid hm
          have HD51 := Lib.hid hd51
          have HDP := Lib.hid hdp
          have HLZ : Hid (∀ w7, Rc.Did w b v ⟨s5, i6, d6, 0, g5, L5⟩ v5 w7 → Calls Try.prog 35 #[.pointer (some ⟨b, 0, none⟩), .agg #[.int .i64 4, .int .i64 (2 * (g1 : Int) + 1), .int .i64 0, .string ⟨#[]⟩]] w7 fun e w' => e = .returned (.int .i64 (L5.length : Int)) ∧ ∃ v', Rc.Did w b v ⟨s5, i6, d6, 0, g5, L5 ++ [⟨4, 2 * (g1 : Int) + 1, 0, []⟩]⟩ v' w') := Lib.hid fun w7 hd => by
            refine (lay_any hd.at_ (by show L5.length ≤ _; have := N5.out.ok.L; have : L5.length ≤ 2 * i5 + 1 := this; have := N5.out.ok.len; have : s5.length ≤ 4096 := this; omega) ⟨4, 2 * (g1 : Int) + 1, 0, []⟩).mono ?_
            rintro e w' ⟨he, v', hq⟩
            exact ⟨he, v', hd.trans hq⟩
          clear hi6 hd6 hil hm hd51
          go_wp2_with first
            | (go_at_call 50; go_must (refine HM.out.mono ?_; rintro e w6 ⟨rfl, hb6⟩; have H6 := Lib.hid (H5.out.on hb6); have k1 : w6.cell? ⟨b, 1, none⟩ = some (.int .i64 (i5 : Int)) := H6.out.at_.c1; have k2 : w6.cell? ⟨b, 2, none⟩ = some (.int .i64 (d5 : Int)) := H6.out.at_.c2; have kf1 := H6.out.at_.fz 1; have kf2 := H6.out.at_.fz 2; have H7 : Hid (Rc.Did w b v ⟨s5, i6, d6, 0, g5, L5⟩ v5 ((w6.setCell ⟨b, 1, none⟩ (.int .i64 (i6 : Int))).setCell ⟨b, 2, none⟩ (.int .i64 (d6 : Int)))) := Lib.hid ((H6.out.set1 i6).set2 d6); clear hb6))
            | (go_at_call 35; go_must (refine (HLZ.out _ H7.out).mono ?_; rintro e w8 ⟨rfl, v8, hd8⟩; have H8 := Lib.hid hd8; clear hd8))
          ((try simp only [Exit.inBlock, Exit.then]); first | (refine bodyPost_ret (results_none rfl _ _ _) rfl ?_) | (refine bodyPost_end (results_none rfl _ _ _) rfl ?_))
          have q1 := HI6.out
          have q2 := HD6.out
          have q3 := HIL.out
          have q4 := N5.out.ok.deep
          have q4 : d5 ≤ i5 := q4
          have q5 := N5.out.ok.g
          have q5 : g5 ≤ i5 := q5
          have q6 := N5.out.ok.L
          have q6 : L5.length ≤ 2 * i5 + 1 := q6
          have q7 := HAI.out
          refine ⟨rfl, ⟨s5, i6, d6, 0, g5, L5 ++ [⟨4, 2 * (g1 : Int) + 1, 0, []⟩]⟩, v8, H8.out, ⟨rfl, ⟨?_, N5.out.ok.len, ?_, ?_, ?_, ?_, ?_⟩, ?_, fun _ => ?_, (by show L.length ≤ List.length (L5 ++ [_]); rw [List.length_append]; exact Nat.le_trans HGR.out (Nat.le_add_right _ _))⟩, fun _ => ?_, fun hs => ?_⟩
          · show i6 ≤ s5.length; omega
          · show List.length (L5 ++ [⟨4, 2 * (g1 : Int) + 1, 0, []⟩]) ≤ 2 * i6 + 1; rw [List.length_append]; show L5.length + 1 ≤ _; omega
          · show g5 ≤ i6; omega
          · show d6 ≤ i6; omega
          · intro x hx; rcases List.mem_append.1 hx with hx | hx; exact N5.out.ok.p x hx; rw [List.mem_singleton.1 hx]; exact Nat.zero_le _
          · show 0 < List.length (L5 ++ [⟨4, 2 * (g1 : Int) + 1, 0, []⟩]); rw [List.length_append]; show 0 < L5.length + 1; omega
          · show i ≤ i6; omega
          · show d6 = d; have := HDN.out; have := HDD.out; omega
          · show i < i6; omega
          · have q := Q5.out hs
            have q8 := HM41.out
            have q9 := HDP.out
            have e1 : i1 = i + 1 := HI1.out; have e2 : d1 = d + 1 := HDD.out; have e3 : g1 = g + 1 := HG1.out; subst e1 e2 e3; rw [HEQ.out]
            rw [← q]
            rw [HI6.out, HD6.out]
            simp [q9, q8, Rc.lay]
      · go_wp2_with fail
        ((try simp only [Exit.inBlock, Exit.then]); first | (refine bodyPost_ret (results_none rfl _ _ _) rfl ?_) | (refine bodyPost_end (results_none rfl _ _ _) rfl ?_))
        refine ⟨rfl, ⟨s5, i5, d5, e5, g5, L5⟩, v5, H5.out, ⟨rfl, N5.out.ok, HAI.out, fun e => absurd e he5, HGR.out⟩, fun e => absurd e he5, fun hs => ?_⟩
        have q := Q5.out hs
        have e1 : i1 = i + 1 := HI1.out; have e2 : d1 = d + 1 := HDD.out; have e3 : g1 = g + 1 := HG1.out; subst e1 e2 e3; rw [HEQ.out]
        rw [← q]
        simp [hdp, he5]
end Go.Proofs.Ytelbabgkpflckaa
