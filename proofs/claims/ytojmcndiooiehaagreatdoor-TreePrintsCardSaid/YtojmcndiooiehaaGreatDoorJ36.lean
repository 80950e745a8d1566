/-
  TeRp: CONTRACTS: chapter 15: the document's Parse.
  TeSam: CONTRACTS: chapter 15: the document's Same.
  TeWt: PLAIN: chapter 15: how heavy what is parsed is. No program.
-/
import Derived.Test.YtojmcndiooiehaaGreatDoorJ35
import Derived.Test.YtojmcndiooiehaaGreatDoorJ26
import Derived.Deep.RegionLaw
import Derived.Test.YtojmcndiooiehaaGreatDoorJ4

set_option linter.unusedSimpArgs false
set_option linter.unusedVariables false
namespace Go.Proofs.YtojmcndiooiehaaGreatDoor
open Go.RowKit Go.Sort
open Me

namespace Te
theorem rexpr_top : RexC 0 64 := by
  have := rexpr_any 64 (Nat.le_refl _)
  simpa using this
end Te

set_option maxRecDepth 100000 in
set_option maxHeartbeats 8000000 in
/-- The document's Parse, for every text. -/
theorem rparse_any (s : List UInt8) (hs : s.length ≤ 4294967280) (w : World) :
    Calls Tryz.prog 8 #[.string ⟨s.toArray⟩] w fun e w' => Te.GotR (fun i => w.heap.size ≤ i) (Te.parseS s) e w' ∧ Below w.heap.size w w' := by
  have HL := Lib.hid fun W => lrefLex_any s hs W
  have HSM := Lib.hid (Te.lex_small (s := s))
  have HBD := Lib.hid (Te.lex_bad (s := s))
  generalize Te.parseS s = res at *
  go_enter Tryz.func8, Tryz.ntmps8
  go_wp2_with fail
  go_at_call 21
  refine (HL.out _).mono ?_
  rintro e w1 ⟨v, rfl, ho, hb⟩
  obtain ⟨A, cp, rfl⟩ := ho.form
  have HO := Lib.hid ho
  have HB1 : Hid (Below w.heap.size w w1) := Lib.hid (((Below.refl _ _).alloc (Nat.le_refl _) _).trans (hb.mono (by simp)))
  have ho1 : RowAt w1 w.heap.size 24 #[.int .i64 0, .string ⟨#[]⟩, .int .i64 0, .slice none 0 0] := (RowAt.new w _ _).below hb (by simp)
  have HO1 := Lib.hid ho1
  have p0 : w1.cell? ⟨w.heap.size, 0, none⟩ = some (.int .i64 0) := (ho1.cell 0).trans rfl; have q0 : w1.frozen? ⟨w.heap.size, 0, none⟩ = false := ho1.frozen 0; have p1 : w1.cell? ⟨w.heap.size, 1, none⟩ = some (.string ⟨#[]⟩) := (ho1.cell 1).trans rfl; have q1 : w1.frozen? ⟨w.heap.size, 1, none⟩ = false := ho1.frozen 1; have p2 : w1.cell? ⟨w.heap.size, 2, none⟩ = some (.int .i64 0) := (ho1.cell 2).trans rfl; have q2 : w1.frozen? ⟨w.heap.size, 2, none⟩ = false := ho1.frozen 2; have p3 : w1.cell? ⟨w.heap.size, 3, none⟩ = some (.slice none 0 0) := (ho1.cell 3).trans rfl; have q3 : w1.frozen? ⟨w.heap.size, 3, none⟩ = false := ho1.frozen 3
  have l1 := ho1.lt
  clear ho hb ho1
  generalize Lx.lexErr s = er at *
  by_cases he : er = 0
  · have HS := Lib.hid (HSM.out he)
    generalize Lx.lexL s = l at *
    subst he
    obtain ⟨w2, hw2⟩ : ∃ w2, w2 = w1.alloc (.cells #[.slice A l.length cp, .int .i64 0, .int .i64 0] 49) := ⟨_, rfl⟩
    have HP : Hid (Te.Rs w2 w1.heap.size l 0 0) := Lib.hid ⟨Nat.zero_le _, A, cp, by rw [hw2]; exact RowAt.new w1 _ _, by
      rw [hw2]
      have h1 := HO.out.lt
      exact ((Rd.own (show w1.ownsRow _ _ 2 (.slice A l.length cp) l.length _ from HO.out)).mono fun i _ hi => (h1 i hi).2).below ((Below.refl _ _).alloc (Nat.le_refl _) _)⟩
    have HB2 : Hid (Below w.heap.size w w2) := Lib.hid (by rw [hw2]; exact HB1.out.alloc (by omega) _)
    have HO2 : Hid (RowAt w2 w.heap.size 24 #[.int .i64 0, .string ⟨#[]⟩, .int .i64 0, .slice none 0 0]) := Lib.hid (by rw [hw2]; exact HO1.out.alloc _)
    have HT := Lib.hid (Te.rexpr_top l 0 w1.heap.size w2 HS.out.1 HP.out)
    have hs2 : w2.heap.size = w1.heap.size + 1 := by rw [hw2]; simp
    have HPA : Hid (res = Te.parse l) := Lib.hid HS.out.2
    go_wp2_with fail
    rw [← hw2]
    clear hw2
    go_at_call 22
    refine HT.out.mono ?_
    rintro e w3 ⟨k, t, n, ks, v, rfl, hk3, hres⟩
    have ho3 := Te.beside HO2.out hk3 (by omega)
    clear p0 p1 p2 p3 q0 q1 q2 q3
    have p0 : w3.cell? ⟨w.heap.size, 0, none⟩ = some (.int .i64 0) := (ho3.cell 0).trans rfl; have q0 : w3.frozen? ⟨w.heap.size, 0, none⟩ = false := ho3.frozen 0; have p1 : w3.cell? ⟨w.heap.size, 1, none⟩ = some (.string ⟨#[]⟩) := (ho3.cell 1).trans rfl; have q1 : w3.frozen? ⟨w.heap.size, 1, none⟩ = false := ho3.frozen 1; have p2 : w3.cell? ⟨w.heap.size, 2, none⟩ = some (.int .i64 0) := (ho3.cell 2).trans rfl; have q2 : w3.frozen? ⟨w.heap.size, 2, none⟩ = false := ho3.frozen 2; have p3 : w3.cell? ⟨w.heap.size, 3, none⟩ = some (.slice none 0 0) := (ho3.cell 3).trans rfl; have q3 : w3.frozen? ⟨w.heap.size, 3, none⟩ = false := ho3.frozen 3
    have l3 := ho3.lt
    have HO3 := Lib.hid ho3
    have HB3 : Hid (Below w.heap.size w w3) := Lib.hid (HB2.out.trans (hk3.below (by omega) fun i hi e => by have e : i = w1.heap.size := e; omega))
    have hz3 := hk3.size
    have hwb : w.heap.size ≠ w1.heap.size := by omega
    clear hk3 ho3
    rcases hres with ⟨j, hrs, hr, hat⟩ | ⟨j, er, hne, hrs, hr, rfl, rfl, rfl, rfl, rfl⟩
    · obtain ⟨Ak, ck, xk, rfl, _, _⟩ := hat.form
      have HR := Lib.hid hr
      have HA := Lib.hid hat
      have HRS := Lib.hid hrs
      have hjl := hrs.1
      have z1 := hrs.c1.1
      have z2 := hrs.c2.1
      have h00 : (0 : Int) ≤ (j : Int) := by omega
      have hb3l : w1.heap.size < w3.heap.size := by omega
      have hlb : l.length ≤ 4096 := HS.out.1.1
      clear hr hat hrs
      by_cases hj : j < l.length
      · have HQ : Hid (res = .error 8) := Lib.hid (by
          rw [HPA.out]
          refine Te.parse_rest HR.out fun e => ?_
          have := congrArg List.length e
          simp at this; omega)
        have hjI : (j : Int) < (l.length : Int) := by omega
        have HZ : Hid (Te.Rs (w3.alloc (.cells #[.int .i64 k, .string ⟨t.toArray⟩, .int .i64 n, .slice Ak ks.length ck] 24)) w1.heap.size l j 0) := Lib.hid (HRS.out.on ((Below.refl _ _).alloc (Nat.le_refl _) _))
        have HBD8 := Lib.hid (rbad_any HZ.out 8)
        have HO4 := Lib.hid (HO3.out.alloc (.cells #[.int .i64 k, .string ⟨t.toArray⟩, .int .i64 n, .slice Ak ks.length ck] 24))
        have HB4 : Hid (Below w.heap.size w (w3.alloc (.cells #[.int .i64 k, .string ⟨t.toArray⟩, .int .i64 n, .slice Ak ks.length ck] 24))) := Lib.hid (HB3.out.alloc HB3.out.size _)
        go_wp2_with fail
        go_at_call 23
        refine HBD8.out.mono ?_
        rintro e w5 ⟨rfl, hd5⟩
        have ho5 := Te.beside HO4.out hd5.kp (by omega)
        clear p0 p1 p2 p3 q0 q1 q2 q3 z1 z2
        have p0 : w5.cell? ⟨w.heap.size, 0, none⟩ = some (.int .i64 0) := (ho5.cell 0).trans rfl; have q0 : w5.frozen? ⟨w.heap.size, 0, none⟩ = false := ho5.frozen 0; have p1 : w5.cell? ⟨w.heap.size, 1, none⟩ = some (.string ⟨#[]⟩) := (ho5.cell 1).trans rfl; have q1 : w5.frozen? ⟨w.heap.size, 1, none⟩ = false := ho5.frozen 1; have p2 : w5.cell? ⟨w.heap.size, 2, none⟩ = some (.int .i64 0) := (ho5.cell 2).trans rfl; have q2 : w5.frozen? ⟨w.heap.size, 2, none⟩ = false := ho5.frozen 2; have p3 : w5.cell? ⟨w.heap.size, 3, none⟩ = some (.slice none 0 0) := (ho5.cell 3).trans rfl; have q3 : w5.frozen? ⟨w.heap.size, 3, none⟩ = false := ho5.frozen 3
        have l5 := ho5.lt
        have z2 := hd5.rs.c2.1
        have HB5 : Hid (Below w.heap.size w w5) := Lib.hid (HB4.out.trans (hd5.kp.below HB4.out.size fun i hi e => by have e : i = w1.heap.size := e; omega))
        clear hd5 ho5
        go_wp2_with fail
        go_region
        all_goals
          try go_wp2_with fail
          refine bodyPost_ret ((results_cell_tmp rfl _ _ _).trans (by simp [go_sem, *]; rfl)) rfl ?_
          exact ⟨⟨0, [], 0, [], .slice none 0 0, 8, rfl, .inr ⟨by decide, HQ.out, rfl, rfl, rfl, rfl, rfl⟩⟩, by have h := HB5.out; exact (by repeat (first | exact Below.refl _ _ | assumption | refine Below.setCell ?_ (by first | (simp; done) | omega | (simp; omega) | (simp at *; omega)) _ | refine Below.alloc ?_ (by first | (simp; done) | omega | (simp; omega) | (simp at *; omega)) _ | refine Below.drew ?_ | refine below_drewN ?_ _ | (refine Below.trans ?_ (Below.mono (by assumption) (by first | (simp; done) | omega | (simp; omega) | (simp at *; omega)))) | (refine Below.trans ?_ (Below.mono (below_regrown _ _ _) (by first | (simp; done) | omega | (simp; omega) | (simp at *; omega))))))⟩
      · have HQ : Hid (res = .ok (.mk k t n ks)) := Lib.hid (by
          rw [HPA.out]
          have h := HR.out
          rw [List.drop_eq_nil_of_le (show l.length ≤ j by omega)] at h
          exact Te.parse_ok h)
        have hjI : ¬ (j : Int) < (l.length : Int) := by omega
        go_wp2_with fail
        refine bodyPost_ret ((results_cell_tmp rfl _ _ _).trans (by simp [go_sem, *]; rfl)) rfl ?_
        refine ⟨⟨k, t, n, ks, _, 0, rfl, .inl ⟨rfl, HQ.out, ?_⟩⟩, ?_⟩
        · refine (HA.out.kp (O := fun i => i = w.heap.size) ((((((Kp.refl (fun i => i = w.heap.size) w3).setCell ⟨w.heap.size, 0, none⟩ (.inr rfl) _).setCell ⟨w.heap.size, 1, none⟩ (.inr rfl) _).setCell ⟨w.heap.size, 2, none⟩ (.inr rfl) _).setCell ⟨w.heap.size, 3, none⟩ (.inr rfl) _).alloc _) fun i _ hi e => ?_).mono fun i _ hi => ?_
          · have hi : w2.heap.size ≤ i := hi
            have e : i = w.heap.size := e
            omega
          · have hi : w2.heap.size ≤ i := hi
            show w.heap.size ≤ i
            omega
        · have h := HB3.out; exact (by repeat (first | exact Below.refl _ _ | assumption | refine Below.setCell ?_ (by first | (simp; done) | omega | (simp; omega) | (simp at *; omega)) _ | refine Below.alloc ?_ (by first | (simp; done) | omega | (simp; omega) | (simp at *; omega)) _ | refine Below.drew ?_ | (refine Below.trans ?_ (Below.mono (by assumption) (by first | (simp; done) | omega | (simp; omega) | (simp at *; omega)))) | (refine Below.trans ?_ (Below.mono (below_regrown _ _ _) (by first | (simp; done) | omega | (simp; omega) | (simp at *; omega))))))
    · have HQ : Hid (res = .error er) := Lib.hid (by rw [HPA.out]; exact Te.parse_bad hr)
      have HE := Lib.hid hne
      have en : (er == 0) = false := by simpa using hne
      have z2 := hrs.c2.1
      clear hr hrs
      have hb3l : w1.heap.size < w3.heap.size := by omega
      go_wp2_with fail
      go_region
      all_goals
        try go_wp2_with fail
        refine bodyPost_ret ((results_cell_tmp rfl _ _ _).trans (by simp [go_sem, *]; rfl)) rfl ?_
        exact ⟨⟨0, [], 0, [], .slice none 0 0, er, rfl, .inr ⟨HE.out, HQ.out, rfl, rfl, rfl, rfl, rfl⟩⟩, by have h := HB3.out; exact (by repeat (first | exact Below.refl _ _ | assumption | refine Below.setCell ?_ (by first | (simp; done) | omega | (simp; omega) | (simp at *; omega)) _ | refine Below.alloc ?_ (by first | (simp; done) | omega | (simp; omega) | (simp at *; omega)) _ | refine Below.drew ?_ | refine below_drewN ?_ _ | (refine Below.trans ?_ (Below.mono (by assumption) (by first | (simp; done) | omega | (simp; omega) | (simp at *; omega)))) | (refine Below.trans ?_ (Below.mono (below_regrown _ _ _) (by first | (simp; done) | omega | (simp; omega) | (simp at *; omega))))))⟩
  · have HQ := Lib.hid (HBD.out he)
    have HE := Lib.hid he
    have en : (er == 0) = false := by simpa using he
    go_wp2_with fail
    refine bodyPost_ret ((results_cell_tmp rfl _ _ _).trans (by simp [go_sem, *]; rfl)) rfl ?_
    exact ⟨⟨0, [], 0, [], .slice none 0 0, er, rfl, .inr ⟨HE.out, HQ.out, rfl, rfl, rfl, rfl, rfl⟩⟩, by have h := HB1.out; exact (by repeat (first | exact Below.refl _ _ | assumption | refine Below.setCell ?_ (by first | (simp; done) | omega | (simp; omega) | (simp at *; omega)) _ | refine Below.alloc ?_ (by first | (simp; done) | omega | (simp; omega) | (simp at *; omega)) _ | refine Below.drew ?_ | (refine Below.trans ?_ (Below.mono (by assumption) (by first | (simp; done) | omega | (simp; omega) | (simp at *; omega)))) | (refine Below.trans ?_ (Below.mono (below_regrown _ _ _) (by first | (simp; done) | omega | (simp; omega) | (simp at *; omega))))))⟩
end Go.Proofs.YtojmcndiooiehaaGreatDoor

namespace Go.Proofs.YtojmcndiooiehaaGreatDoor
open Go.RowKit Go.Sort
open Me

namespace Te
theorem sames_at {l m : List Nd} {k : Nat} (hl : k < l.length) (hm : k < m.length) : sames (l.drop k) (m.drop k) = (same l[k] m[k] && sames (l.drop (k + 1)) (m.drop (k + 1))) := by
  rw [List.drop_eq_getElem_cons hl, List.drop_eq_getElem_cons hm, sames]
def SamC (f : Nat) (G H : Nat → Prop) (x : Nd) : Prop := ∀ (y : Nd) (w : World) (v u : Value), wt y ≤ 1048576 → At w G x v → At w H y u → Calls Tryz.prog f #[val x v, val y u] w fun e w' => e = .returned (.bool (same x y)) ∧ Below w.heap.size w w'
end Te

set_option maxRecDepth 100000 in
set_option maxHeartbeats 8000000 in
theorem rsame_all {G H : Nat → Prop} (k1 : Int) (s1 : List UInt8) (n1 : Int) (ks1 : List Te.Nd) (k2 : Int) (s2 : List UInt8) (n2 : Int) (ks2 : List Te.Nd) (hX : ∀ x ∈ ks1, Te.SamC 9 G H x) (hw1 : ks1.length ≤ 1048576) (hw2 : Te.wt (.mk k2 s2 n2 ks2) ≤ 1048576)
    (w : World) (v u : Value) (ha : Te.At w G (.mk k1 s1 n1 ks1) v) (hb : Te.At w H (.mk k2 s2 n2 ks2) u) :
    Calls Tryz.prog 9 #[.agg #[.int .i64 k1, .string ⟨s1.toArray⟩, .int .i64 n1, v], .agg #[.int .i64 k2, .string ⟨s2.toArray⟩, .int .i64 n2, u]] w fun e w' => e = .returned (.bool (Te.same (.mk k1 s1 n1 ks1) (.mk k2 s2 n2 ks2))) ∧ Below w.heap.size w w' := by
  rw [Te.At] at ha hb
  obtain ⟨A1, c1, xs1, rfl, hr1, hk1⟩ := ha
  obtain ⟨A2, c2, xs2, rfl, hr2, hk2⟩ := hb
  have HX := Lib.hid hX
  have HRD1 := Lib.hid hr1
  have HKS1 := Lib.hid hk1
  have HRD2 := Lib.hid hr2
  have HKS2 := Lib.hid hk2
  have HWT : Hid (∀ x ∈ ks2, Te.wt x ≤ 1048576) := Lib.hid fun x hx => by have := Te.wts_mem ks2 x hx; rw [Te.wt_eq] at hw2; omega
  obtain ⟨R, hR⟩ : ∃ R, R = Te.same (.mk k1 s1 n1 ks1) (.mk k2 s2 n2 ks2) := ⟨_, rfl⟩
  rw [← hR]
  have HR : Hid (R = (decide (k1 = k2) && (decide (s1 = s2) && (decide (n1 = n2) && Te.sames ks1 ks2)))) := Lib.hid (by rw [hR, Te.same])
  have HNL := Lib.hid (Te.sames_len ks1 ks2)
  have HB2 : Hid (Below w.heap.size w ((w.alloc (.cells #[.int .i64 k1, .string ⟨s1.toArray⟩, .int .i64 n1, .slice A1 ks1.length c1] 24)).alloc (.cells #[.int .i64 k2, .string ⟨s2.toArray⟩, .int .i64 n2, .slice A2 ks2.length c2] 24))) := Lib.hid (((Below.refl w.heap.size w).alloc (Nat.le_refl _) _).alloc (by simp) _)
  clear hX hr1 hr2 hk1 hk2 hR hw2
  by_cases e1 : ¬ (k1 = k2)
  · have HQ : Hid (R = false) := Lib.hid (by rw [HR.out, decide_eq_false e1]; rfl)
    have b1 : (k1 == k2) = false := by simpa using e1
    go_enter Tryz.func9, Tryz.ntmps9
    go_wp2
    go_ret
    exact ⟨by rw [HQ.out]; rfl, HB2.out⟩
  replace e1 := Decidable.not_not.1 e1
  by_cases e2 : ¬ (s1 = s2)
  · have HQ : Hid (R = false) := Lib.hid (by rw [HR.out, decide_eq_false e2]; simp)
    have b2 : (s1 == s2) = false := by simpa using e2
    subst e1
    go_enter Tryz.func9, Tryz.ntmps9
    go_wp2
    go_ret
    exact ⟨by rw [HQ.out]; rfl, HB2.out⟩
  replace e2 := Decidable.not_not.1 e2
  by_cases e3 : ¬ (n1 = n2)
  · have HQ : Hid (R = false) := Lib.hid (by rw [HR.out, decide_eq_false e3]; simp)
    have b3 : (n1 == n2) = false := by simpa using e3
    subst e1 e2
    go_enter Tryz.func9, Tryz.ntmps9
    go_wp2
    go_ret
    exact ⟨by rw [HQ.out]; rfl, HB2.out⟩
  replace e3 := Decidable.not_not.1 e3
  have HS : Hid (R = Te.sames ks1 ks2) := Lib.hid (by rw [HR.out, decide_eq_true e1, decide_eq_true e2, decide_eq_true e3]; rfl)
  subst e1 e2 e3
  clear HR
  by_cases e4 : ¬ (ks1.length = ks2.length)
  · have HQ : Hid (R = false) := Lib.hid (by rw [HS.out, HNL.out e4])
    have b4 : ((ks1.length : Int) == (ks2.length : Int)) = false := by rw [beq_eq_false_iff_ne]; omega
    have b4' : ¬ ((ks1.length : Int) = (ks2.length : Int)) := by omega
    generalize ks1.length = m1 at *
    generalize ks2.length = m2 at *
    go_enter Tryz.func9, Tryz.ntmps9
    go_wp2
    go_ret
    exact ⟨by rw [HQ.out]; rfl, HB2.out⟩
  replace e4 := Decidable.not_not.1 e4
  obtain ⟨m, hm⟩ : ∃ m, m = ks1.length := ⟨_, rfl⟩
  have HM1 := Lib.hid hm
  have HM2 : Hid (m = ks2.length) := Lib.hid (by rw [hm, e4])
  rw [← hm] at hw1
  rw [← e4, ← hm] at HB2 ⊢
  clear e4 hm HNL
  go_enter Tryz.func9, Tryz.ntmps9
  go_wp2_with fail
  obtain ⟨w0, hw0⟩ : ∃ w0, w0 = (w.alloc (.cells #[.int .i64 k1, .string ⟨s1.toArray⟩, .int .i64 n1, .slice A1 m c1] 24)).alloc (.cells #[.int .i64 k1, .string ⟨s1.toArray⟩, .int .i64 n1, .slice A2 m c2] 24) := ⟨_, rfl⟩
  have HR1 : Hid (RowAt w0 w.heap.size 24 #[.int .i64 k1, .string ⟨s1.toArray⟩, .int .i64 n1, .slice A1 m c1]) := Lib.hid (by rw [hw0]; exact (RowAt.new w _ _).alloc _)
  have HR2 : Hid (RowAt w0 (w.heap.size + 1) 24 #[.int .i64 k1, .string ⟨s1.toArray⟩, .int .i64 n1, .slice A2 m c2]) := Lib.hid (by rw [hw0]; have := RowAt.new (w.alloc (.cells #[.int .i64 k1, .string ⟨s1.toArray⟩, .int .i64 n1, .slice A1 m c1] 24)) #[.int .i64 k1, .string ⟨s1.toArray⟩, .int .i64 n1, .slice A2 m c2] 24; simpa using this)
  have HZ : Hid (w0.heap.size = w.heap.size + 2) := Lib.hid (by rw [hw0]; simp)
  have HB0 : Hid (Below w.heap.size w w0) := Lib.hid (by rw [hw0]; exact HB2.out)
  rw [← hw0]
  clear hw0 HB2
  go_loopw [5] (fun x wr => ∃ k : Nat, x = .int .i64 k ∧ k ≤ m ∧ Hid (R = Te.sames (ks1.drop k) (ks2.drop k)) ∧ Hid (Below w0.heap.size w0 wr)) (fun x _ => m - (intOf x).toNat)
  case atStart => exact ⟨0, rfl, Nat.zero_le _, HS, Lib.hid (Below.refl _ _)⟩
  case round =>
    obtain ⟨k, rfl, hk, HRk, HW⟩ := hrel
    have hz0 := HZ.out
    have hbel : Below w.heap.size w wr := HB0.out.trans (HW.out.mono (by omega))
    have hws : w.heap.size + 2 ≤ wr.heap.size := by have := HW.out.size; omega
    have x3 : wr.cell? ⟨w.heap.size, 3, none⟩ = some (.slice A1 m c1) := ((HR1.out.below HW.out HR1.out.lt).cell 3).trans rfl
    have y3 : wr.cell? ⟨w.heap.size + 1, 3, none⟩ = some (.slice A2 m c2) := ((HR2.out.below HW.out HR2.out.lt).cell 3).trans rfl
    by_cases hltm : k < m
    · have hlt : k < ks1.length := by have := HM1.out; omega
      have hlt2 : k < ks2.length := by have := HM2.out; omega
      have hE := HRk.out.trans (Te.sames_at hlt hlt2)
      obtain ⟨b1, o1, vp, rfl, hbp, _, hatp, c0p, c1p, c2p, c3p⟩ := Te.rd_kid HRD1.out HKS1.out hlt
      have hmemp : ks1[k] ∈ ks1 := List.getElem_mem hlt
      generalize ks1[k] = xp at *
      obtain ⟨ka, sa, na, la⟩ := xp
      obtain ⟨Aa, ca, xkp, rfl, _, _⟩ := hatp.form
      have d0 : wr.cell? ⟨b1, o1 + k * 4, none⟩ = some (.int .i64 ka) := (hbel.cell (p := ⟨b1, _, none⟩) hbp).trans c0p
      have d1 : wr.cell? ⟨b1, o1 + k * 4 + 1, none⟩ = some (.string ⟨sa.toArray⟩) := (hbel.cell (p := ⟨b1, _, none⟩) hbp).trans c1p
      have d2 : wr.cell? ⟨b1, o1 + k * 4 + 2, none⟩ = some (.int .i64 na) := (hbel.cell (p := ⟨b1, _, none⟩) hbp).trans c2p
      have d3 : wr.cell? ⟨b1, o1 + k * 4 + 3, none⟩ = some (.slice Aa la.length ca) := (hbel.cell (p := ⟨b1, _, none⟩) hbp).trans c3p
      clear c0p c1p c2p c3p
      obtain ⟨b2, o2, vq, rfl, hbq, _, hatq, c0q, c1q, c2q, c3q⟩ := Te.rd_kid HRD2.out HKS2.out hlt2
      have hmemq : ks2[k] ∈ ks2 := List.getElem_mem hlt2
      generalize ks2[k] = xq at *
      obtain ⟨kb, sb, nb, lb⟩ := xq
      obtain ⟨Ab, cb, xkq, rfl, _, _⟩ := hatq.form
      have e0 : wr.cell? ⟨b2, o2 + k * 4, none⟩ = some (.int .i64 kb) := (hbel.cell (p := ⟨b2, _, none⟩) hbq).trans c0q
      have e1 : wr.cell? ⟨b2, o2 + k * 4 + 1, none⟩ = some (.string ⟨sb.toArray⟩) := (hbel.cell (p := ⟨b2, _, none⟩) hbq).trans c1q
      have e2 : wr.cell? ⟨b2, o2 + k * 4 + 2, none⟩ = some (.int .i64 nb) := (hbel.cell (p := ⟨b2, _, none⟩) hbq).trans c2q
      have e3 : wr.cell? ⟨b2, o2 + k * 4 + 3, none⟩ = some (.slice Ab lb.length cb) := (hbel.cell (p := ⟨b2, _, none⟩) hbq).trans c3q
      clear c0q c1q c2q c3q
      have hNC : Hid (∀ W, Below wr.heap.size wr W → Calls Tryz.prog 9 #[.agg #[.int .i64 ka, .string ⟨sa.toArray⟩, .int .i64 na, .slice Aa la.length ca], .agg #[.int .i64 kb, .string ⟨sb.toArray⟩, .int .i64 nb, .slice Ab lb.length cb]] W fun e w' => e = .returned (.bool (Te.same (.mk ka sa na la) (.mk kb sb nb lb))) ∧ Below W.heap.size W w') := Lib.hid fun W hW => HX.out _ hmemp _ W _ _ (HWT.out _ hmemq) (hatp.below (hbel.trans (hW.mono (by omega)))) (hatq.below (hbel.trans (hW.mono (by omega))))
      have hkI : (k : Int) < (m : Int) := by omega
      have h00 : (0 : Int) ≤ (k : Int) := by omega
      clear hlt hlt2
      clear hatp hatq hmemp hmemq hbel
      obtain ⟨q, hq⟩ : ∃ q, q = Te.same (.mk ka sa na la) (.mk kb sb nb lb) := ⟨_, rfl⟩
      rw [← hq] at hNC hE
      clear hq
      cases q
      · have HQ2 : Hid (R = false) := Lib.hid (by rw [hE]; rfl)
        clear hE
        go_wp2_with fail
        go_region_law (go_simp; (go_at_call 9; refine (hNC.out _ (by first | exact Below.refl _ _ | exact Below.drew (Below.refl _ _))).mono ?_; rintro e w6 ⟨rfl, hw6⟩; have HW6 : Hid (Below w0.heap.size w0 w6) := Lib.hid (by first | exact HW.out.trans (hw6.mono HW.out.size) | exact HW.out.drew.trans (hw6.mono HW.out.size)); clear hw6))
        all_goals
          try go_simp
          try go_wp2_with fail
          go_ret
          exact ⟨by rw [HQ2.out]; rfl, HB0.out.trans (HW6.out.mono (by omega))⟩
      · have HQ2 : Hid (R = Te.sames (ks1.drop (k + 1)) (ks2.drop (k + 1))) := Lib.hid (by rw [hE, Bool.true_and])
        clear hE
        go_wp2_with fail
        go_region_law (go_simp; (go_at_call 9; refine (hNC.out _ (by first | exact Below.refl _ _ | exact Below.drew (Below.refl _ _))).mono ?_; rintro e w6 ⟨rfl, hw6⟩; have HW6 : Hid (Below w0.heap.size w0 w6) := Lib.hid (by first | exact HW.out.trans (hw6.mono HW.out.size) | exact HW.out.drew.trans (hw6.mono HW.out.size)); clear hw6))
        all_goals
          try go_simp
          try go_wp2_with fail
          go_roundw
          case rel => exact ⟨k + 1, by go_num, by omega, HQ2, HW6⟩
          case measure => simp [intOf]; omega
    · have HQ : Hid (R = true) := Lib.hid (by rw [HRk.out, List.drop_eq_nil_of_le (by have := HM1.out; omega), List.drop_eq_nil_of_le (by have := HM2.out; omega), Te.sames])
      have hkI : ¬ (k : Int) < (m : Int) := by omega
      go_wp2_with fail
      go_ret
      exact ⟨by rw [HQ.out]; rfl, hbel⟩

theorem rsame_any (G H : Nat → Prop) : ∀ (m : Nat) (x : Te.Nd), Te.wt x ≤ m → m ≤ 1048576 → Te.SamC 9 G H x
  | 0, .mk k s n ks, h, _ => by rw [Te.wt_eq] at h; omega
  | m + 1, .mk k s n ks, h, hm => fun y w v u hy hv hu => by
    rw [Te.wt_eq] at h
    obtain ⟨k2, s2, n2, ks2⟩ := y
    exact rsame_all k s n ks k2 s2 n2 ks2 (fun x hx => rsame_any G H m x (by have := Te.wts_mem ks x hx; omega) (by omega)) (by have := Te.wts_len ks; omega) hy w v u hv hu
end Go.Proofs.YtojmcndiooiehaaGreatDoor

namespace Go.Proofs.YtojmcndiooiehaaGreatDoor
open Go.RowKit

namespace Te
def tw : List Tok → Nat
  | [] => 0
  | t :: r => 5 + t.2.length + tw r
theorem tw_drop (l : List Tok) : tw (l.drop 1) ≤ tw l := by
  cases l with
  | nil => exact Nat.le_refl _
  | cons t r => show tw r ≤ 5 + t.2.length + tw r; omega
theorem wts_app (l m : List Nd) : wts (l ++ m) = wts l + wts m := by
  induction l with
  | nil => show wts m = wts [] + wts m; rw [wts]; omega
  | cons x r ih => show wts (x :: (r ++ m)) = wts (x :: r) + wts m; rw [wts, wts, ih]; omega
theorem wt_one (x : Nd) : wts [x] = wt x := by rw [wts, wts]; rfl
theorem word_wt {s : List UInt8} {n : Nd} (h : word s = some n) : wt n ≤ 5 + s.length := by
  unfold word at h
  split at h
  · rw [← Option.some.inj h, wt, wts]; simp
  · split at h
    · rw [← Option.some.inj h, wt, wts]; simp
    · split at h
      · rw [← Option.some.inj h, wt, wts]; simp
      · split at h
        · rw [← Option.some.inj h, wt, wts]; exact Nat.le_refl _
        · cases h
theorem kids_wt {E : List Tok → Res} (h : ∀ l n r, E l = .ok (n, r) → wt n + tw r ≤ tw l) (t : List UInt8) : ∀ f acc l n r, kids E t f acc l = .ok (n, r) → wt n + tw r ≤ 5 + t.length + wts acc + tw l
  | 0, acc, l, n, r, e => by cases e
  | f + 1, acc, l, n, r, e => by
    rw [kids] at e
    cases he : E l with
    | error x => rw [he] at e; cases e
    | ok p =>
      obtain ⟨m, q⟩ := p
      have h1 := h l m q he
      have h2 := tw_drop q
      rw [he] at e
      dsimp only at e
      split at e
      · injection e with e; injection e with e1 e2
        rw [← e1, ← e2, wt, wts_app, wt_one]; omega
      · split at e
        · have := kids_wt h t f _ _ n r e
          rw [wts_app, wt_one] at this; omega
        · cases e
theorem expr_wt : ∀ d l n r, expr d l = .ok (n, r) → wt n + tw r ≤ tw l
  | 0, l, n, r, e => by cases e
  | d + 1, l, n, r, e => by
    cases l with
    | nil => rw [expr] at e; cases e
    | cons t q =>
      rw [expr] at e
      have hq := tw_drop q
      have hq2 := tw_drop (q.drop 1)
      show _ ≤ 5 + t.2.length + tw q
      split at e
      · injection e with e; injection e with e1 e2; rw [← e1, ← e2, wt, wts]; omega
      · split at e
        · cases e
        · split at e
          · split at e
            · injection e with e; injection e with e1 e2; rw [← e1, ← e2, wt, wts]; omega
            · have := kids_wt (expr_wt d) t.2 _ _ _ n r e
              rw [wts] at this; omega
          · split at e
            · rename_i m hm
              have := word_wt hm
              injection e with e; injection e with e1 e2; rw [← e1, ← e2]; omega
            · cases e
theorem tw_le (m : Nat) : ∀ l : List Tok, (∀ t ∈ l, t.2.length ≤ m) → tw l ≤ l.length * (5 + m)
  | [], _ => Nat.zero_le _
  | t :: r, h => by
    have h1 := h t (by simp)
    have h2 := tw_le m r fun x hx => h x (List.mem_cons_of_mem _ hx)
    show 5 + t.2.length + tw r ≤ (r.length + 1) * (5 + m)
    rw [Nat.add_mul]; omega
theorem parse_wt {l : List Tok} {n : Nd} (h : parse l = .ok n) : wt n ≤ tw l := by
  unfold parse at h
  cases he : expr 64 l with
  | error e => rw [he] at h; cases h
  | ok p =>
    obtain ⟨m, r⟩ := p
    rw [he] at h
    have := expr_wt 64 l m r he
    have h : (if r = [] then Except.ok m else Except.error (8 : Int)) = .ok n := h
    split at h
    · injection h with h; rw [← h]; omega
    · cases h
theorem nd_wt (s : List UInt8) (hs : s.length ≤ 300) : wt (ndOf (parseS s)) ≤ 1048576 := by
  cases h : parseS s with
  | error e => show wt nought ≤ _; rw [wt, wts]; simp
  | ok n =>
    show wt n ≤ _
    unfold parseS at h
    rw [if_neg (by omega)] at h
    cases hx : Lx.lex s with
    | none => rw [hx] at h; cases h
    | some x =>
      rw [hx] at h
      have h1 := parse_wt h
      have h2 := tw_le 300 x fun t ht => Nat.le_trans (Lx.lex_len hx t ht) hs
      have h3 := Lx.lex_count hx
      have : x.length * (5 + 300) ≤ 300 * 305 := Nat.mul_le_mul (by omega) (by omega)
      omega
end Te
end Go.Proofs.YtojmcndiooiehaaGreatDoor
