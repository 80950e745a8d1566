/-
  TeRd: CONTRACTS: chapter 15: the document's Depth.
  TeSm: CONTRACTS: chapter 15: the program's Same.
  TeHv: CONTRACTS: chapter 15: the law's heavy.
-/
import Derived.Test.YtojmcndiooiehaaGreatDoorM3
import Derived.Test.YtojmcndiooiehaaGreatDoorJ36
import Derived.Test.YtojmcndiooiehaaGreatDoorJ25

set_option linter.unusedSimpArgs false
set_option linter.unusedVariables false
namespace Go.Proofs.YtojmcndiooiehaaGreatDoor
open Go.RowKit Go.Sort
open Me

set_option maxRecDepth 100000 in
set_option maxHeartbeats 8000000 in
theorem rdep_call {G : Nat → Prop} (s : List UInt8) (n : Int) (ks : List Te.Nd) (hX : ∀ x ∈ ks, Te.DepC 17 G x) (hw : Te.wts ks ≤ 1048576) (w : World) (v : Value) (hat : Te.At w G (.mk 1 s n ks) v) :
    Calls Tryz.prog 17 #[.agg #[.int .i64 1, .string ⟨s.toArray⟩, .int .i64 n, v]] w fun e w' => e = .returned (.int .i64 ((Te.dep (.mk 1 s n ks) : Nat) : Int)) ∧ Below w.heap.size w w' := by
  rw [Te.At] at hat
  obtain ⟨A, c, xs, rfl, hr, ha⟩ := hat
  have HX := Lib.hid hX
  have HRD := Lib.hid hr
  have HKS := Lib.hid ha
  have hkl : ks.length ≤ 1048576 := by have := Te.wts_len ks; omega
  have HE : Hid (Te.dep (.mk 1 s n ks) = Te.deps ks + 1) := Lib.hid (by rw [Te.dep, if_pos rfl])
  have hD := Te.deps_wt ks
  generalize Te.dep (.mk 1 s n ks) = D at *
  have HS : Hid (max 0 (Te.deps (ks.drop 0)) = Te.deps ks) := Lib.hid (Nat.zero_max _)
  generalize Te.deps ks = D0 at *
  obtain ⟨w0, hw0⟩ : ∃ w0, w0 = w.alloc (.cells #[.int .i64 1, .string ⟨s.toArray⟩, .int .i64 n, .slice A ks.length c] 24) := ⟨_, rfl⟩
  have HB0 : Hid (Below w.heap.size w w0) := Lib.hid (by rw [hw0]; exact (Below.refl w.heap.size w).alloc (Nat.le_refl _) _)
  have HR1 : Hid (RowAt w0 w.heap.size 24 #[.int .i64 1, .string ⟨s.toArray⟩, .int .i64 n, .slice A ks.length c]) := Lib.hid (by rw [hw0]; exact RowAt.new w _ _)
  have HZ : Hid (w0.heap.size = w.heap.size + 1) := Lib.hid (by rw [hw0]; simp)
  clear hX hr ha
  go_enter Tryz.func17, Tryz.ntmps17
  go_wp2_with fail
  rw [← hw0]
  clear hw0
  go_loopw [3, 4] (fun y x wr => ∃ k bl : Nat, x = .int .i64 k ∧ y = .int .i64 bl ∧ k ≤ ks.length ∧ bl ≤ 1048576 ∧ Hid (max bl (Te.deps (ks.drop k)) = D0) ∧ Hid (Below w0.heap.size w0 wr)) (fun _ x _ => ks.length - (intOf x).toNat)
  case atStart => exact ⟨0, 0, rfl, rfl, Nat.zero_le _, Nat.zero_le _, HS, Lib.hid (Below.refl _ _)⟩
  case round =>
    obtain ⟨k, bl, rfl, rfl, hk, hbl, HM, HW⟩ := hrel
    have hz0 := HZ.out
    have hbel : Below w.heap.size w wr := HB0.out.trans (HW.out.mono (by omega))
    have hws : w.heap.size + 1 ≤ wr.heap.size := by have := HW.out.size; omega
    have x3 : wr.cell? ⟨w.heap.size, 3, none⟩ = some (.slice A ks.length c) := ((HR1.out.below HW.out HR1.out.lt).cell 3).trans rfl
    have x0 : wr.cell? ⟨w.heap.size, 0, none⟩ = some (.int .i64 1) := ((HR1.out.below HW.out HR1.out.lt).cell 0).trans rfl
    by_cases hlt : k < ks.length
    · have hM := HM.out
      rw [Te.deps_at hlt] at hM
      obtain ⟨b1, o1, v, rfl, hb, _, hat, c0, c1, c2, c3⟩ := Te.rd_kid HRD.out HKS.out hlt
      have hmem : ks[k] ∈ ks := List.getElem_mem hlt
      generalize ks[k] = x at *
      obtain ⟨kk, ss, nn, kks⟩ := x
      obtain ⟨Ak, ck, xk, rfl, _, _⟩ := hat.form
      have d0 : wr.cell? ⟨b1, o1 + k * 4, none⟩ = some (.int .i64 kk) := (hbel.cell (p := ⟨b1, _, none⟩) hb).trans c0
      have d1 : wr.cell? ⟨b1, o1 + k * 4 + 1, none⟩ = some (.string ⟨ss.toArray⟩) := (hbel.cell (p := ⟨b1, _, none⟩) hb).trans c1
      have d2 : wr.cell? ⟨b1, o1 + k * 4 + 2, none⟩ = some (.int .i64 nn) := (hbel.cell (p := ⟨b1, _, none⟩) hb).trans c2
      have d3 : wr.cell? ⟨b1, o1 + k * 4 + 3, none⟩ = some (.slice Ak kks.length ck) := (hbel.cell (p := ⟨b1, _, none⟩) hb).trans c3
      clear c0 c1 c2 c3
      have hNC : Hid (∀ W, Below wr.heap.size wr W → Calls Tryz.prog 17 #[.agg #[.int .i64 kk, .string ⟨ss.toArray⟩, .int .i64 nn, .slice Ak kks.length ck]] W fun e w' => e = .returned (.int .i64 ((Te.dep (.mk kk ss nn kks) : Nat) : Int)) ∧ Below W.heap.size W w') := Lib.hid fun W hW => HX.out _ hmem W _ (hat.below (hbel.trans (hW.mono (by omega))))
      have hkI : (k : Int) < (ks.length : Int) := by omega
      have h00 : (0 : Int) ≤ (k : Int) := by omega
      generalize Te.dep (.mk kk ss nn kks) = q at *
      have hql : q ≤ 1048576 := by omega
      have HM2 : Hid (max (max bl q) (Te.deps (ks.drop (k + 1))) = D0) := Lib.hid (by rw [← hM]; omega)
      clear hat hmem hbel hM HM
      go_wp2_with (go_at_call 17; go_must (refine (hNC.out _ (Below.refl _ _)).mono ?_; rintro e w6 ⟨rfl, hw6⟩; have HW6 : Hid (Below w0.heap.size w0 w6) := Lib.hid (HW.out.trans (hw6.mono HW.out.size)); clear hw6))
      go_roundw
      case rel => exact ⟨k + 1, max bl q, by go_num, congrArg _ (by omega), by omega, by omega, HM2, HW6⟩
      case measure => simp [intOf]; omega
    · have hkI : ¬ (k : Int) < (ks.length : Int) := by omega
      have HM2 : Hid (bl = D0) := Lib.hid (by have := HM.out; rw [List.drop_eq_nil_of_le (by omega), Te.deps] at this; omega)
      have kw : IntKind.i64.wrap ((bl : Int) + 1) = (bl : Int) + 1 := IntWalk.i64_in _ (by omega)
      have HBL := Lib.hid hbel
      clear hbel
      go_wp2_with fail
      go_ret
      exact ⟨by rw [HE.out, ← HM2.out]; simp, HBL.out⟩

set_option maxRecDepth 100000 in
set_option maxHeartbeats 8000000 in
theorem rdep_leaf (k : Int) (hk : k ≠ 1) (s : List UInt8) (n : Int) (ks : List Te.Nd) (A : Option Addr) (m c : Nat) (w : World) :
    Calls Tryz.prog 17 #[.agg #[.int .i64 k, .string ⟨s.toArray⟩, .int .i64 n, .slice A m c]] w fun e w' => e = .returned (.int .i64 ((Te.dep (.mk k s n ks) : Nat) : Int)) ∧ Below w.heap.size w w' := by
  have HE : Hid (Te.dep (.mk k s n ks) = 1) := Lib.hid (by rw [Te.dep, if_neg hk])
  generalize Te.dep (.mk k s n ks) = D at *
  have kb : (k == 1) = false := by simpa using hk
  have HB : Hid (Below w.heap.size w (w.alloc (.cells #[.int .i64 k, .string ⟨s.toArray⟩, .int .i64 n, .slice A m c] 24))) := Lib.hid ((Below.refl w.heap.size w).alloc (Nat.le_refl _) _)
  obtain ⟨w0, hw0⟩ : ∃ w0, w0 = w.alloc (.cells #[.int .i64 k, .string ⟨s.toArray⟩, .int .i64 n, .slice A m c] 24) := ⟨_, rfl⟩
  have hr : RowAt w0 w.heap.size 24 #[.int .i64 k, .string ⟨s.toArray⟩, .int .i64 n, .slice A m c] := by rw [hw0]; exact RowAt.new w _ _
  have x3 : w0.cell? ⟨w.heap.size, 3, none⟩ = some (.slice A m c) := (hr.cell 3).trans rfl
  have x0 : w0.cell? ⟨w.heap.size, 0, none⟩ = some (.int .i64 k) := (hr.cell 0).trans rfl
  rw [← hw0] at HB
  clear hr
  go_enter Tryz.func17, Tryz.ntmps17
  go_wp2_with fail
  rw [← hw0]
  clear hw0
  go_loopw [3, 4] (fun y x wr => x = .int .i64 0 ∧ y = .int .i64 0 ∧ Hid (w0 = wr)) (fun _ _ _ => 0)
  case atStart => exact ⟨rfl, rfl, Lib.hid rfl⟩
  case round =>
    obtain ⟨rfl, rfl, HW⟩ := hrel
    obtain rfl := HW.out
    by_cases hm : 0 < m
    · have hmI : (0 : Int) < (m : Int) := by omega
      go_wp2_with fail
      go_ret
      exact ⟨by rw [HE.out]; rfl, HB.out⟩
    · have hmI : ¬ (0 : Int) < (m : Int) := by omega
      go_wp2_with fail
      go_ret
      exact ⟨by rw [HE.out]; rfl, HB.out⟩

theorem rdep_any (G : Nat → Prop) : ∀ (m : Nat) (x : Te.Nd), Te.wt x ≤ m → m ≤ 1048576 → Te.DepC 17 G x
  | 0, .mk k s n ks, h, _ => by rw [Te.wt_eq] at h; omega
  | m + 1, .mk k s n ks, h, hm => fun w v hat => by
    rw [Te.wt_eq] at h
    by_cases hk : k = 1
    · subst hk
      exact rdep_call s n ks (fun x hx => rdep_any G m x (by have := Te.wts_mem ks x hx; omega) (by omega)) (by omega) w v hat
    · rw [Te.At] at hat
      obtain ⟨A, c, xs, rfl, _, _⟩ := hat
      exact rdep_leaf k hk s n ks A ks.length c w
end Go.Proofs.YtojmcndiooiehaaGreatDoor

namespace Go.Proofs.YtojmcndiooiehaaGreatDoor
open Go.RowKit Go.Sort
open Me

set_option maxRecDepth 100000 in
set_option maxHeartbeats 8000000 in
theorem equal_any {G H : Nat → Prop} (ks1 ks2 : List Te.Nd) (hX : ∀ x ∈ ks1, Te.SamC 18 G H x) (hw1 : ks1.length ≤ 1048576) (hw2 : ∀ x ∈ ks2, Te.wt x ≤ 1048576) (A1 A2 : Option Addr) (c1 c2 : Nat) (xs1 xs2 : List Value)
    (w : World) (hr1 : Rd w G A1 xs1) (hk1 : Te.Ats w G ks1 xs1) (hr2 : Rd w H A2 xs2) (hk2 : Te.Ats w H ks2 xs2) :
    Calls Tryz.prog 29 #[.slice A1 ks1.length c1, .slice A2 ks2.length c2, (.func (.func 18) #[] #[])] w fun e w' => e = .returned (.bool (Te.sames ks1 ks2)) ∧ Below w.heap.size w w' := by
  have HX := Lib.hid hX
  have HRD1 := Lib.hid hr1
  have HKS1 := Lib.hid hk1
  have HRD2 := Lib.hid hr2
  have HKS2 := Lib.hid hk2
  have HWT := Lib.hid hw2
  obtain ⟨R, hR⟩ : ∃ R, R = Te.sames ks1 ks2 := ⟨_, rfl⟩
  rw [← hR]
  have HS := Lib.hid hR
  have HNL := Lib.hid (Te.sames_len ks1 ks2)
  clear hX hr1 hr2 hk1 hk2 hw2 hR
  by_cases e4 : ¬ ks1.length = ks2.length
  · have HQ : Hid (R = false) := Lib.hid (by rw [HS.out, HNL.out e4])
    have b4 : ((ks1.length : Int) == (ks2.length : Int)) = false := by rw [beq_eq_false_iff_ne]; omega
    generalize ks1.length = m1 at *
    generalize ks2.length = m2 at *
    go_enter Tryz.func29, Tryz.ntmps29
    go_wp2
    go_ret
    exact ⟨by rw [HQ.out]; rfl, Below.refl _ _⟩
  replace e4 := Decidable.not_not.1 e4
  obtain ⟨m, hm⟩ : ∃ m, m = ks1.length := ⟨_, rfl⟩
  have HM1 := Lib.hid hm
  have HM2 : Hid (m = ks2.length) := Lib.hid (by rw [hm, e4])
  rw [← hm] at hw1
  rw [← e4, ← hm]
  clear e4 hm HNL
  have HS : Hid (R = Te.sames (ks1.drop 0) (ks2.drop 0)) := HS
  go_enter Tryz.func29, Tryz.ntmps29
  go_wp2_with fail
  go_loopw [7, 8, 9, 17] (fun _ _ _ x wr => ∃ k : Nat, x = .int .i64 k ∧ k ≤ m ∧ Hid (R = Te.sames (ks1.drop k) (ks2.drop k)) ∧ Hid (Below w.heap.size w wr)) (fun _ _ _ x _ => m - (intOf x).toNat)
  case atStart => exact ⟨0, rfl, Nat.zero_le _, HS, Lib.hid (Below.refl _ _)⟩
  case round =>
    obtain ⟨k, rfl, hk, HRk, HW⟩ := hrel
    have hbel := HW.out
    have hws := hbel.size
    by_cases hltm : k < m
    · have hlt : k < ks1.length := by have := HM1.out; omega
      have hlt2 : k < ks2.length := by have := HM2.out; omega
      have hE := HRk.out.trans (Te.sames_at hlt hlt2)
      obtain ⟨b1, o1, vp, rfl, hbp, _, hatp, c0p, c1p, c2p, c3p⟩ := Te.rd_kid HRD1.out HKS1.out hlt
      have hmemp : ks1[k] ∈ ks1 := List.getElem_mem hlt
      generalize ks1[k] = xp at *
      obtain ⟨ka, sa, na, la⟩ := xp
      obtain ⟨Aa, ca, xkp, rfl, _, _⟩ := hatp.form
      have d0 : wr.cell? ⟨b1, o1 + k * 4, none⟩ = some (.int .i64 ka) := (hbel.cell (p := ⟨b1, _, none⟩) hbp).trans c0p
      have d1 : wr.cell? ⟨b1, o1 + k * 4 + 1, none⟩ = some (.string ⟨sa.toArray⟩) := (hbel.cell (p := ⟨b1, _, none⟩) hbp).trans c1p
      have d2 : wr.cell? ⟨b1, o1 + k * 4 + 2, none⟩ = some (.int .i64 na) := (hbel.cell (p := ⟨b1, _, none⟩) hbp).trans c2p
      have d3 : wr.cell? ⟨b1, o1 + k * 4 + 3, none⟩ = some (.slice Aa la.length ca) := (hbel.cell (p := ⟨b1, _, none⟩) hbp).trans c3p
      clear c0p c1p c2p c3p
      obtain ⟨b2, o2, vq, rfl, hbq, _, hatq, c0q, c1q, c2q, c3q⟩ := Te.rd_kid HRD2.out HKS2.out hlt2
      have hmemq : ks2[k] ∈ ks2 := List.getElem_mem hlt2
      generalize ks2[k] = xq at *
      obtain ⟨kb, sb, nb, lb⟩ := xq
      obtain ⟨Ab, cb, xkq, rfl, _, _⟩ := hatq.form
      have e0 : wr.cell? ⟨b2, o2 + k * 4, none⟩ = some (.int .i64 kb) := (hbel.cell (p := ⟨b2, _, none⟩) hbq).trans c0q
      have e1 : wr.cell? ⟨b2, o2 + k * 4 + 1, none⟩ = some (.string ⟨sb.toArray⟩) := (hbel.cell (p := ⟨b2, _, none⟩) hbq).trans c1q
      have e2 : wr.cell? ⟨b2, o2 + k * 4 + 2, none⟩ = some (.int .i64 nb) := (hbel.cell (p := ⟨b2, _, none⟩) hbq).trans c2q
      have e3 : wr.cell? ⟨b2, o2 + k * 4 + 3, none⟩ = some (.slice Ab lb.length cb) := (hbel.cell (p := ⟨b2, _, none⟩) hbq).trans c3q
      clear c0q c1q c2q c3q
      have hNC : Hid (∀ W, Below wr.heap.size wr W → Calls Tryz.prog 18 #[.agg #[.int .i64 ka, .string ⟨sa.toArray⟩, .int .i64 na, .slice Aa la.length ca], .agg #[.int .i64 kb, .string ⟨sb.toArray⟩, .int .i64 nb, .slice Ab lb.length cb]] W fun e w' => e = .returned (.bool (Te.same (.mk ka sa na la) (.mk kb sb nb lb))) ∧ Below W.heap.size W w') := Lib.hid fun W hW => HX.out _ hmemp _ W _ _ (HWT.out _ hmemq) (hatp.below (hbel.trans (hW.mono (by omega)))) (hatq.below (hbel.trans (hW.mono (by omega))))
      have hkI : (k : Int) < (m : Int) := by omega
      have h00 : (0 : Int) ≤ (k : Int) := by omega
      have HBA : Hid (Below w.heap.size w ((wr.alloc (.cells #[.int .i64 ka, .string ⟨sa.toArray⟩, .int .i64 na, .slice Aa la.length ca] 24)).alloc (.cells #[.int .i64 kb, .string ⟨sb.toArray⟩, .int .i64 nb, .slice Ab lb.length cb] 24))) := Lib.hid ((hbel.alloc hws _).alloc (by simp; omega) _)
      have hb1w : b1 < wr.heap.size := by omega
      have hb2w : b2 < wr.heap.size := by omega
      have HW2 : Hid (Below wr.heap.size wr ((wr.alloc (.cells #[.int .i64 ka, .string ⟨sa.toArray⟩, .int .i64 na, .slice Aa la.length ca] 24)).alloc (.cells #[.int .i64 kb, .string ⟨sb.toArray⟩, .int .i64 nb, .slice Ab lb.length cb] 24))) := Lib.hid (((Below.refl _ _).alloc (Nat.le_refl _) _).alloc (by simp) _)
      obtain ⟨q, hq⟩ : ∃ q, q = Te.same (.mk ka sa na la) (.mk kb sb nb lb) := ⟨_, rfl⟩
      rw [← hq] at hNC hE
      clear hq hatp hatq hmemp hmemq hbel hlt hlt2
      by_cases hk0 : k = 0
      · subst hk0
        simp only [Nat.zero_mul, Nat.add_zero] at d0 d1 d2 d3 e0 e1 e2 e3
        cases q
        · have HQ2 : Hid (R = false) := Lib.hid (by rw [hE]; rfl)
          clear hE
          go_wp2_with (go_at_call 18; go_must (refine (hNC.out _ HW2.out).mono ?_; rintro e w6 ⟨rfl, hw6⟩; have HW6 : Hid (Below w.heap.size w w6) := Lib.hid (HBA.out.trans (hw6.mono (by simp; omega))); clear hw6))
          go_ret
          exact ⟨by rw [HQ2.out]; rfl, HW6.out⟩
        · have HQ2 : Hid (R = Te.sames (ks1.drop (0 + 1)) (ks2.drop (0 + 1))) := Lib.hid (by rw [hE, Bool.true_and])
          clear hE
          go_wp2_with (go_at_call 18; go_must (refine (hNC.out _ HW2.out).mono ?_; rintro e w6 ⟨rfl, hw6⟩; have HW6 : Hid (Below w.heap.size w w6) := Lib.hid (HBA.out.trans (hw6.mono (by simp; omega))); clear hw6))
          go_roundw
          case rel => exact ⟨0 + 1, by go_num, by omega, HQ2, HW6⟩
          case measure => simp [intOf]; omega
      · cases q
        · have HQ2 : Hid (R = false) := Lib.hid (by rw [hE]; rfl)
          clear hE
          go_wp2_with (go_at_call 18; go_must (refine (hNC.out _ HW2.out).mono ?_; rintro e w6 ⟨rfl, hw6⟩; have HW6 : Hid (Below w.heap.size w w6) := Lib.hid (HBA.out.trans (hw6.mono (by simp; omega))); clear hw6))
          go_ret
          exact ⟨by rw [HQ2.out]; rfl, HW6.out⟩
        · have HQ2 : Hid (R = Te.sames (ks1.drop (k + 1)) (ks2.drop (k + 1))) := Lib.hid (by rw [hE, Bool.true_and])
          clear hE
          go_wp2_with (go_at_call 18; go_must (refine (hNC.out _ HW2.out).mono ?_; rintro e w6 ⟨rfl, hw6⟩; have HW6 : Hid (Below w.heap.size w w6) := Lib.hid (HBA.out.trans (hw6.mono (by simp; omega))); clear hw6))
          go_roundw
          case rel => exact ⟨k + 1, by go_num, by omega, HQ2, HW6⟩
          case measure => simp [intOf]; omega
    · have HQ : Hid (R = true) := Lib.hid (by rw [HRk.out, List.drop_eq_nil_of_le (by have := HM1.out; omega), List.drop_eq_nil_of_le (by have := HM2.out; omega), Te.sames])
      have hkI : ¬ (k : Int) < (m : Int) := by omega
      go_wp2_with fail
      go_ret
      exact ⟨by rw [HQ.out]; rfl, HW.out⟩

set_option maxRecDepth 100000 in
set_option maxHeartbeats 8000000 in
theorem tsame_all {G H : Nat → Prop} (k1 : Int) (s1 : List UInt8) (n1 : Int) (ks1 : List Te.Nd) (k2 : Int) (s2 : List UInt8) (n2 : Int) (ks2 : List Te.Nd) (hX : ∀ x ∈ ks1, Te.SamC 18 G H x) (hw1 : ks1.length ≤ 1048576) (hw2 : Te.wt (.mk k2 s2 n2 ks2) ≤ 1048576)
    (w : World) (v u : Value) (ha : Te.At w G (.mk k1 s1 n1 ks1) v) (hb : Te.At w H (.mk k2 s2 n2 ks2) u) :
    Calls Tryz.prog 18 #[.agg #[.int .i64 k1, .string ⟨s1.toArray⟩, .int .i64 n1, v], .agg #[.int .i64 k2, .string ⟨s2.toArray⟩, .int .i64 n2, u]] w fun e w' => e = .returned (.bool (Te.same (.mk k1 s1 n1 ks1) (.mk k2 s2 n2 ks2))) ∧ Below w.heap.size w w' := by
  rw [Te.At] at ha hb
  obtain ⟨A1, c1, xs1, rfl, hr1, hk1⟩ := ha
  obtain ⟨A2, c2, xs2, rfl, hr2, hk2⟩ := hb
  have hW2 : ∀ x ∈ ks2, Te.wt x ≤ 1048576 := fun x hx => by have := Te.wts_mem ks2 x hx; rw [Te.wt_eq] at hw2; omega
  have HEQ : Hid (∀ W, Below w.heap.size w W → Calls Tryz.prog 29 #[.slice A1 ks1.length c1, .slice A2 ks2.length c2, (.func (.func 18) #[] #[])] W fun e w' => e = .returned (.bool (Te.sames ks1 ks2)) ∧ Below W.heap.size W w') := Lib.hid fun W hW => equal_any ks1 ks2 hX hw1 hW2 A1 A2 c1 c2 xs1 xs2 W (hr1.below hW) (hk1.below hW) (hr2.below hW) (hk2.below hW)
  obtain ⟨R, hR⟩ : ∃ R, R = Te.same (.mk k1 s1 n1 ks1) (.mk k2 s2 n2 ks2) := ⟨_, rfl⟩
  rw [← hR]
  have HR : Hid (R = (decide (k1 = k2) && (decide (s1 = s2) && (decide (n1 = n2) && Te.sames ks1 ks2)))) := Lib.hid (by rw [hR, Te.same])
  clear hX hr1 hr2 hk1 hk2 hR hw2 hW2 hw1
  generalize Te.sames ks1 ks2 = q at *
  generalize ks1.length = m1 at *
  generalize ks2.length = m2 at *
  have HB2 : Hid (Below w.heap.size w ((w.alloc (.cells #[.int .i64 k1, .string ⟨s1.toArray⟩, .int .i64 n1, .slice A1 m1 c1] 24)).alloc (.cells #[.int .i64 k2, .string ⟨s2.toArray⟩, .int .i64 n2, .slice A2 m2 c2] 24))) := Lib.hid (((Below.refl w.heap.size w).alloc (Nat.le_refl _) _).alloc (by simp) _)
  by_cases e1 : ¬ k1 = k2
  · have HQ : Hid (R = false) := Lib.hid (by rw [HR.out, decide_eq_false e1]; rfl)
    have b1 : (k1 == k2) = false := by simpa using e1
    go_enter Tryz.func18, Tryz.ntmps18
    go_wp2
    go_ret
    exact ⟨by rw [HQ.out]; rfl, HB2.out⟩
  replace e1 := Decidable.not_not.1 e1
  by_cases e2 : ¬ s1 = s2
  · have HQ : Hid (R = false) := Lib.hid (by rw [HR.out, decide_eq_false e2]; simp)
    have b2 : (s1 == s2) = false := by simpa using e2
    subst e1
    go_enter Tryz.func18, Tryz.ntmps18
    go_wp2
    go_ret
    exact ⟨by rw [HQ.out]; rfl, HB2.out⟩
  replace e2 := Decidable.not_not.1 e2
  by_cases e3 : ¬ n1 = n2
  · have HQ : Hid (R = false) := Lib.hid (by rw [HR.out, decide_eq_false e3]; simp)
    have b3 : (n1 == n2) = false := by simpa using e3
    subst e1 e2
    go_enter Tryz.func18, Tryz.ntmps18
    go_wp2
    go_ret
    exact ⟨by rw [HQ.out]; rfl, HB2.out⟩
  replace e3 := Decidable.not_not.1 e3
  have HQ : Hid (R = q) := Lib.hid (by rw [HR.out, decide_eq_true e1, decide_eq_true e2, decide_eq_true e3]; rfl)
  subst e1 e2 e3
  clear HR
  go_enter Tryz.func18, Tryz.ntmps18
  go_wp2_with (go_at_call 29; go_must (refine (HEQ.out _ HB2.out).mono ?_; rintro e w6 ⟨rfl, hw6⟩; have HW6 : Hid (Below w.heap.size w w6) := Lib.hid (HB2.out.trans (hw6.mono (by simp; omega))); clear hw6))
  go_ret
  exact ⟨by rw [HQ.out]; rfl, HW6.out⟩

theorem tsame_any (G H : Nat → Prop) : ∀ (m : Nat) (x : Te.Nd), Te.wt x ≤ m → m ≤ 1048576 → Te.SamC 18 G H x
  | 0, .mk k s n ks, h, _ => by rw [Te.wt_eq] at h; omega
  | m + 1, .mk k s n ks, h, hm => fun y w v u hy hv hu => by
    rw [Te.wt_eq] at h
    obtain ⟨k2, s2, n2, ks2⟩ := y
    exact tsame_all k s n ks k2 s2 n2 ks2 (fun x hx => tsame_any G H m x (by have := Te.wts_mem ks x hx; omega) (by omega)) (by have := Te.wts_len ks; omega) hy w v u hv hu
end Go.Proofs.YtojmcndiooiehaaGreatDoor

namespace Go.Proofs.YtojmcndiooiehaaGreatDoor
open Go.RowKit Go.Sort
open Me

namespace Te
mutual
/-- Texts that fit a machine. -/
def Tl : Nd → Prop
  | .mk _ s _ ks => s.length ≤ 140737488355328 ∧ Tls ks
def Tls : List Nd → Prop
  | [] => True
  | x :: r => Tl x ∧ Tls r
end
theorem Tls.mem : ∀ {l : List Nd}, Tls l → ∀ x ∈ l, Tl x
  | [], _, x, hx => by cases hx
  | y :: r, h, x, hx => by
    rw [Tls] at h
    rcases List.mem_cons.1 hx with rfl | hx
    · exact h.1
    · exact Tls.mem h.2 x hx
theorem wts_take (l : List Nd) (k : Nat) (h : k < l.length) : wts (l.take (k + 1)) = wts (l.take k) + wt l[k] := by
  induction l generalizing k with
  | nil => cases h
  | cons x r ih =>
    cases k with
    | zero =>
      show wts (x :: r.take 0) = wts [] + wt x
      rw [List.take_zero]
      simp only [wts]; omega
    | succ k =>
      have hk : k < r.length := by simpa using h
      have := ih k hk
      show wts (x :: r.take (k + 1)) = wts (x :: r.take k) + wt r[k]
      rw [wts, wts, this]; omega
theorem wts_take_len (l : List Nd) (k : Nat) (h : k ≤ l.length) : 5 * k ≤ wts (l.take k) := by
  have := wts_len (l.take k)
  rw [List.length_take, Nat.min_eq_left h] at this
  exact this
def HvC (G : Nat → Prop) (x : Nd) : Prop := ∀ (w : World) (v : Value) (left : Int), 0 ≤ left → left ≤ 300 → At w G x v → Calls Tryz.prog 11 #[val x v, .int .i64 left] w fun e w' => ∃ r : Int, e = .returned (.int .i64 r) ∧ r ≤ 300 ∧ -281474976710656 ≤ r ∧ (0 ≤ r → r = left - (wt x : Int)) ∧ Below w.heap.size w w'
end Te

set_option maxRecDepth 100000 in
set_option maxHeartbeats 8000000 in
theorem heavy_call {G : Nat → Prop} (kd : Int) (s : List UInt8) (n : Int) (ks : List Te.Nd) (hX : ∀ x ∈ ks, Te.HvC G x) (hs : s.length ≤ 140737488355328) (w : World) (v : Value) (left : Int) (hl0 : 0 ≤ left) (hl1 : left ≤ 300) (hat : Te.At w G (.mk kd s n ks) v) :
    Calls Tryz.prog 11 #[.agg #[.int .i64 kd, .string ⟨s.toArray⟩, .int .i64 n, v], .int .i64 left] w fun e w' => ∃ r : Int, e = .returned (.int .i64 r) ∧ r ≤ 300 ∧ -281474976710656 ≤ r ∧ (0 ≤ r → r = left - (Te.wt (.mk kd s n ks) : Int)) ∧ Below w.heap.size w w' := by
  rw [Te.At] at hat
  obtain ⟨A, c, xs, rfl, hr, ha⟩ := hat
  have HX := Lib.hid hX
  have HRD := Lib.hid hr
  have HKS := Lib.hid ha
  have HWT : Hid (Te.wt (.mk kd s n ks) = 5 + s.length + Te.wts ks) := Lib.hid (Te.wt_eq kd s n ks)
  generalize Te.wt (.mk kd s n ks) = Wt at *
  obtain ⟨w0, hw0⟩ : ∃ w0, w0 = w.alloc (.cells #[.int .i64 kd, .string ⟨s.toArray⟩, .int .i64 n, .slice A ks.length c] 24) := ⟨_, rfl⟩
  have HB0 : Hid (Below w.heap.size w w0) := Lib.hid (by rw [hw0]; exact (Below.refl w.heap.size w).alloc (Nat.le_refl _) _)
  have HR1 : Hid (RowAt w0 w.heap.size 24 #[.int .i64 kd, .string ⟨s.toArray⟩, .int .i64 n, .slice A ks.length c]) := Lib.hid (by rw [hw0]; exact RowAt.new w _ _)
  have HZ : Hid (w0.heap.size = w.heap.size + 1) := Lib.hid (by rw [hw0]; simp)
  have k5 : IntKind.i64.wrap (left - 5) = left - 5 := IntWalk.i64_in _ (by omega)
  have k6 : IntKind.i64.wrap (left - 5 - (s.length : Int)) = left - 5 - (s.length : Int) := IntWalk.i64_in _ (by omega)
  clear hX hr ha
  go_enter Tryz.func11, Tryz.ntmps11
  go_wp2_with fail
  rw [← hw0]
  clear hw0
  go_loopw [1, 5] (fun y x wr => ∃ (k : Nat) (r : Int), x = .int .i64 k ∧ y = .int .i64 r ∧ k ≤ ks.length ∧ r ≤ 300 ∧ -281474976710656 ≤ r ∧ Hid (0 ≤ r → r = left - 5 - (s.length : Int) - (Te.wts (ks.take k) : Int)) ∧ Hid (Below w0.heap.size w0 wr)) (fun _ x _ => ks.length - (intOf x).toNat)
  case atStart => exact ⟨0, left - 5 - (s.length : Int), rfl, by first | rfl | go_num, Nat.zero_le _, by omega, by omega, Lib.hid (fun _ => by rw [List.take_zero, Te.wts]; simp), Lib.hid (Below.refl _ _)⟩
  case round =>
    obtain ⟨k, r, rfl, rfl, hk, hr3, hrl, HM, HW⟩ := hrel
    have hz0 := HZ.out
    have hbel : Below w.heap.size w wr := HB0.out.trans (HW.out.mono (by omega))
    have hws : w.heap.size + 1 ≤ wr.heap.size := by have := HW.out.size; omega
    have x3 : wr.cell? ⟨w.heap.size, 3, none⟩ = some (.slice A ks.length c) := ((HR1.out.below HW.out HR1.out.lt).cell 3).trans rfl
    by_cases hlt : k < ks.length
    · have hkI : (k : Int) < (ks.length : Int) := by omega
      by_cases hr0 : 0 ≤ r
      · have hM := HM.out hr0
        have h5k := Te.wts_take_len ks k hk
        have hk60 : k ≤ 60 := by omega
        have hT := Te.wts_take ks k hlt
        obtain ⟨b1, o1, v, rfl, hb, _, hat, c0, c1, c2, c3⟩ := Te.rd_kid HRD.out HKS.out hlt
        have hmem : ks[k] ∈ ks := List.getElem_mem hlt
        generalize ks[k] = x at *
        obtain ⟨kk, ss, nn, kks⟩ := x
        obtain ⟨Ak, ck, xk, rfl, _, _⟩ := hat.form
        have d0 : wr.cell? ⟨b1, o1 + k * 4, none⟩ = some (.int .i64 kk) := (hbel.cell (p := ⟨b1, _, none⟩) hb).trans c0
        have d1 : wr.cell? ⟨b1, o1 + k * 4 + 1, none⟩ = some (.string ⟨ss.toArray⟩) := (hbel.cell (p := ⟨b1, _, none⟩) hb).trans c1
        have d2 : wr.cell? ⟨b1, o1 + k * 4 + 2, none⟩ = some (.int .i64 nn) := (hbel.cell (p := ⟨b1, _, none⟩) hb).trans c2
        have d3 : wr.cell? ⟨b1, o1 + k * 4 + 3, none⟩ = some (.slice Ak kks.length ck) := (hbel.cell (p := ⟨b1, _, none⟩) hb).trans c3
        clear c0 c1 c2 c3
        have hNC : Hid (∀ W, Below wr.heap.size wr W → Calls Tryz.prog 11 #[.agg #[.int .i64 kk, .string ⟨ss.toArray⟩, .int .i64 nn, .slice Ak kks.length ck], .int .i64 r] W fun e w' => ∃ r2 : Int, e = .returned (.int .i64 r2) ∧ r2 ≤ 300 ∧ -281474976710656 ≤ r2 ∧ (0 ≤ r2 → r2 = r - (Te.wt (.mk kk ss nn kks) : Int)) ∧ Below W.heap.size W w') := Lib.hid fun W hW => HX.out _ hmem W _ r hr0 hr3 (hat.below (hbel.trans (hW.mono (by omega))))
        generalize Te.wt (.mk kk ss nn kks) = q at *
        have HT := Lib.hid hT
        have HMM := Lib.hid hM
        have h00 : (0 : Int) ≤ (k : Int) := by omega
        clear hat hmem hbel hT hM h5k HM
        have hdo : o1 + k * 4 = o1 + k * 4 := rfl
        go_wp2_with (go_at_call 11; go_must (refine (hNC.out _ (Below.refl _ _)).mono ?_; rintro e w6 ⟨r2, rfl, hr23, hr2l, hr2e, hw6⟩; have HW6 : Hid (Below w0.heap.size w0 w6) := Lib.hid (HW.out.trans (hw6.mono HW.out.size)); have HE2 := Lib.hid hr2e; clear hw6 hr2e))
        go_roundw
        case rel => exact ⟨k + 1, r2, by go_num, rfl, by omega, hr23, hr2l, Lib.hid (fun h => by have h1 := HE2.out h; have h2 := HMM.out; have h3 := HT.out; rw [h3]; push_cast; omega), HW6⟩
        case measure => simp [intOf]; omega
      · have HN := Lib.hid hr0
        go_wp2_with fail
        go_ret
        exact ⟨r, rfl, hr3, hrl, fun h => by have := HN.out; omega, hbel⟩
    · have hkI : ¬ (k : Int) < (ks.length : Int) := by omega
      have HQ : Hid (0 ≤ r → r = left - (Wt : Int)) := Lib.hid fun h => by
        have h1 := HM.out h
        rw [List.take_of_length_le (by omega)] at h1
        have h2 := HWT.out
        rw [h2]; push_cast; omega
      go_wp2_with fail
      go_ret
      exact ⟨r, rfl, hr3, hrl, HQ.out, hbel⟩

theorem heavy_any (G : Nat → Prop) : ∀ (m : Nat) (x : Te.Nd), Te.wt x ≤ m → Te.Tl x → Te.HvC G x
  | 0, .mk k s n ks, h, _ => by rw [Te.wt_eq] at h; omega
  | m + 1, .mk k s n ks, h, ht => fun w v left h0 h1 hat => by
    rw [Te.wt_eq] at h
    rw [Te.Tl] at ht
    exact heavy_call k s n ks (fun x hx => heavy_any G m x (by have := Te.wts_mem ks x hx; omega) (ht.2.mem x hx)) ht.1 w v left h0 h1 hat
end Go.Proofs.YtojmcndiooiehaaGreatDoor
