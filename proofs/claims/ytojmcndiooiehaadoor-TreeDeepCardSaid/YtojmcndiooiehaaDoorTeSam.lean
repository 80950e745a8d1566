/-
  CONTRACTS: chapter 15: the document's Same.
-/
import Derived.Test.YtojmcndiooiehaaDoorTeKn
import Derived.Deep.RegionLaw
namespace Go.Proofs.YtojmcndiooiehaaDoor
open Go.RowKit Go.Sort
open Me

namespace Te
theorem sames_at {l m : List Nd} {k : Nat} (hl : k < l.length) (hm : k < m.length) : sames (l.drop k) (m.drop k) = (same l[k] m[k] && sames (l.drop (k + 1)) (m.drop (k + 1))) := by
  rw [List.drop_eq_getElem_cons hl, List.drop_eq_getElem_cons hm, sames]
def SamC (f : Nat) (G H : Nat → Prop) (x : Nd) : Prop := ∀ (y : Nd) (w : World) (v u : Value), wt y ≤ 1048576 → At w G x v → At w H y u → Calls Tryd.prog f #[val x v, val y u] w fun e w' => e = .returned (.bool (same x y)) ∧ Below w.heap.size w w'
end Te

set_option maxRecDepth 100000 in
set_option maxHeartbeats 8000000 in
theorem rsame_all {G H : Nat → Prop} (k1 : Int) (s1 : List UInt8) (n1 : Int) (ks1 : List Te.Nd) (k2 : Int) (s2 : List UInt8) (n2 : Int) (ks2 : List Te.Nd) (hX : ∀ x ∈ ks1, Te.SamC 6 G H x) (hw1 : ks1.length ≤ 1048576) (hw2 : Te.wt (.mk k2 s2 n2 ks2) ≤ 1048576)
    (w : World) (v u : Value) (ha : Te.At w G (.mk k1 s1 n1 ks1) v) (hb : Te.At w H (.mk k2 s2 n2 ks2) u) :
    Calls Tryd.prog 6 #[.agg #[.int .i64 k1, .string ⟨s1.toArray⟩, .int .i64 n1, v], .agg #[.int .i64 k2, .string ⟨s2.toArray⟩, .int .i64 n2, u]] w fun e w' => e = .returned (.bool (Te.same (.mk k1 s1 n1 ks1) (.mk k2 s2 n2 ks2))) ∧ Below w.heap.size w w' := by
  rw [Te.At] at ha hb
  obtain ⟨A1, c1, xs1, rfl, hr1, hk1⟩ := ha
  obtain ⟨A2, c2, xs2, rfl, hr2, hk2⟩ := hb
  have HX := Lib.hid hX
  have HRD1 := Lib.hid hr1
  have HKS1 := Lib.hid hk1
  have HRD2 := Lib.hid hr2
  have HKS2 := Lib.hid hk2
  have HWT : Hid (∀ x ∈ ks2, Te.wt x ≤ 1048576) := Lib.hid fun x hx => by have := Te.wts_mem ks2 x hx; rw [Te.wt_eq] at hw2; omega
  obtain ⟨R, hR⟩ : ∃ R, R = Te.same (.mk k1 s1 n1 ks1) (.mk k2 s2 n2 ks2) := ⟨_, rfl⟩
  rw [← hR]
  have HR : Hid (R = (decide (k1 = k2) && (decide (s1 = s2) && (decide (n1 = n2) && Te.sames ks1 ks2)))) := Lib.hid (by rw [hR, Te.same])
  have HNL := Lib.hid (Te.sames_len ks1 ks2)
  have HB2 : Hid (Below w.heap.size w ((w.alloc (.cells #[.int .i64 k1, .string ⟨s1.toArray⟩, .int .i64 n1, .slice A1 ks1.length c1] 25)).alloc (.cells #[.int .i64 k2, .string ⟨s2.toArray⟩, .int .i64 n2, .slice A2 ks2.length c2] 25))) := Lib.hid (((Below.refl w.heap.size w).alloc (Nat.le_refl _) _).alloc (by simp) _)
  clear hX hr1 hr2 hk1 hk2 hR hw2
  by_cases e1 : ¬ (k1 = k2)
  · have HQ : Hid (R = false) := Lib.hid (by rw [HR.out, decide_eq_false e1]; rfl)
    have b1 : (k1 == k2) = false := by simpa using e1
    go_enter Tryd.func6, Tryd.ntmps6
    go_wp2
    go_ret
    exact ⟨by rw [HQ.out]; rfl, HB2.out⟩
  replace e1 := Decidable.not_not.1 e1
  by_cases e2 : ¬ (s1 = s2)
  · have HQ : Hid (R = false) := Lib.hid (by rw [HR.out, decide_eq_false e2]; simp)
    have b2 : (s1 == s2) = false := by simpa using e2
    subst e1
    go_enter Tryd.func6, Tryd.ntmps6
    go_wp2
    go_ret
    exact ⟨by rw [HQ.out]; rfl, HB2.out⟩
  replace e2 := Decidable.not_not.1 e2
  by_cases e3 : ¬ (n1 = n2)
  · have HQ : Hid (R = false) := Lib.hid (by rw [HR.out, decide_eq_false e3]; simp)
    have b3 : (n1 == n2) = false := by simpa using e3
    subst e1 e2
    go_enter Tryd.func6, Tryd.ntmps6
    go_wp2
    go_ret
    exact ⟨by rw [HQ.out]; rfl, HB2.out⟩
  replace e3 := Decidable.not_not.1 e3
  have HS : Hid (R = Te.sames ks1 ks2) := Lib.hid (by rw [HR.out, decide_eq_true e1, decide_eq_true e2, decide_eq_true e3]; rfl)
  subst e1 e2 e3
  clear HR
  by_cases e4 : ¬ (ks1.length = ks2.length)
  · have HQ : Hid (R = false) := Lib.hid (by rw [HS.out, HNL.out e4])
    have b4 : ((ks1.length : Int) == (ks2.length : Int)) = false := by rw [beq_eq_false_iff_ne]; omega
    have b4' : ¬ ((ks1.length : Int) = (ks2.length : Int)) := by omega
    generalize ks1.length = m1 at *
    generalize ks2.length = m2 at *
    go_enter Tryd.func6, Tryd.ntmps6
    go_wp2
    go_ret
    exact ⟨by rw [HQ.out]; rfl, HB2.out⟩
  replace e4 := Decidable.not_not.1 e4
  obtain ⟨m, hm⟩ : ∃ m, m = ks1.length := ⟨_, rfl⟩
  have HM1 := Lib.hid hm
  have HM2 : Hid (m = ks2.length) := Lib.hid (by rw [hm, e4])
  rw [← hm] at hw1
  rw [← e4, ← hm] at HB2 ⊢
  clear e4 hm HNL
  go_enter Tryd.func6, Tryd.ntmps6
  go_wp2_with fail
  obtain ⟨w0, hw0⟩ : ∃ w0, w0 = (w.alloc (.cells #[.int .i64 k1, .string ⟨s1.toArray⟩, .int .i64 n1, .slice A1 m c1] 25)).alloc (.cells #[.int .i64 k1, .string ⟨s1.toArray⟩, .int .i64 n1, .slice A2 m c2] 25) := ⟨_, rfl⟩
  have HR1 : Hid (RowAt w0 w.heap.size 25 #[.int .i64 k1, .string ⟨s1.toArray⟩, .int .i64 n1, .slice A1 m c1]) := Lib.hid (by rw [hw0]; exact (RowAt.new w _ _).alloc _)
  have HR2 : Hid (RowAt w0 (w.heap.size + 1) 25 #[.int .i64 k1, .string ⟨s1.toArray⟩, .int .i64 n1, .slice A2 m c2]) := Lib.hid (by rw [hw0]; have := RowAt.new (w.alloc (.cells #[.int .i64 k1, .string ⟨s1.toArray⟩, .int .i64 n1, .slice A1 m c1] 25)) #[.int .i64 k1, .string ⟨s1.toArray⟩, .int .i64 n1, .slice A2 m c2] 25; simpa using this)
  have HZ : Hid (w0.heap.size = w.heap.size + 2) := Lib.hid (by rw [hw0]; simp)
  have HB0 : Hid (Below w.heap.size w w0) := Lib.hid (by rw [hw0]; exact HB2.out)
  rw [← hw0]
  clear hw0 HB2
  go_loopw [5] (fun x wr => ∃ k : Nat, x = .int .i64 k ∧ k ≤ m ∧ Hid (R = Te.sames (ks1.drop k) (ks2.drop k)) ∧ Hid (Below w0.heap.size w0 wr)) (fun x _ => m - (intOf x).toNat)
  case atStart => exact ⟨0, rfl, Nat.zero_le _, HS, Lib.hid (Below.refl _ _)⟩
  case round =>
    obtain ⟨k, rfl, hk, HRk, HW⟩ := hrel
    have hz0 := HZ.out
    have hbel : Below w.heap.size w wr := HB0.out.trans (HW.out.mono (by omega))
    have hws : w.heap.size + 2 ≤ wr.heap.size := by have := HW.out.size; omega
    have x3 : wr.cell? ⟨w.heap.size, 3, none⟩ = some (.slice A1 m c1) := ((HR1.out.below HW.out HR1.out.lt).cell 3).trans rfl
    have y3 : wr.cell? ⟨w.heap.size + 1, 3, none⟩ = some (.slice A2 m c2) := ((HR2.out.below HW.out HR2.out.lt).cell 3).trans rfl
    by_cases hltm : k < m
    · have hlt : k < ks1.length := by have := HM1.out; omega
      have hlt2 : k < ks2.length := by have := HM2.out; omega
      have hE := HRk.out.trans (Te.sames_at hlt hlt2)
      obtain ⟨b1, o1, vp, rfl, hbp, _, hatp, c0p, c1p, c2p, c3p⟩ := Te.rd_kid HRD1.out HKS1.out hlt
      have hmemp : ks1[k] ∈ ks1 := List.getElem_mem hlt
      generalize ks1[k] = xp at *
      obtain ⟨ka, sa, na, la⟩ := xp
      obtain ⟨Aa, ca, xkp, rfl, _, _⟩ := hatp.form
      have d0 : wr.cell? ⟨b1, o1 + k * 4, none⟩ = some (.int .i64 ka) := (hbel.cell (p := ⟨b1, _, none⟩) hbp).trans c0p
      have d1 : wr.cell? ⟨b1, o1 + k * 4 + 1, none⟩ = some (.string ⟨sa.toArray⟩) := (hbel.cell (p := ⟨b1, _, none⟩) hbp).trans c1p
      have d2 : wr.cell? ⟨b1, o1 + k * 4 + 2, none⟩ = some (.int .i64 na) := (hbel.cell (p := ⟨b1, _, none⟩) hbp).trans c2p
      have d3 : wr.cell? ⟨b1, o1 + k * 4 + 3, none⟩ = some (.slice Aa la.length ca) := (hbel.cell (p := ⟨b1, _, none⟩) hbp).trans c3p
      clear c0p c1p c2p c3p
      obtain ⟨b2, o2, vq, rfl, hbq, _, hatq, c0q, c1q, c2q, c3q⟩ := Te.rd_kid HRD2.out HKS2.out hlt2
      have hmemq : ks2[k] ∈ ks2 := List.getElem_mem hlt2
      generalize ks2[k] = xq at *
      obtain ⟨kb, sb, nb, lb⟩ := xq
      obtain ⟨Ab, cb, xkq, rfl, _, _⟩ := hatq.form
      have e0 : wr.cell? ⟨b2, o2 + k * 4, none⟩ = some (.int .i64 kb) := (hbel.cell (p := ⟨b2, _, none⟩) hbq).trans c0q
      have e1 : wr.cell? ⟨b2, o2 + k * 4 + 1, none⟩ = some (.string ⟨sb.toArray⟩) := (hbel.cell (p := ⟨b2, _, none⟩) hbq).trans c1q
      have e2 : wr.cell? ⟨b2, o2 + k * 4 + 2, none⟩ = some (.int .i64 nb) := (hbel.cell (p := ⟨b2, _, none⟩) hbq).trans c2q
      have e3 : wr.cell? ⟨b2, o2 + k * 4 + 3, none⟩ = some (.slice Ab lb.length cb) := (hbel.cell (p := ⟨b2, _, none⟩) hbq).trans c3q
      clear c0q c1q c2q c3q
      have hNC : Hid (∀ W, Below wr.heap.size wr W → Calls Tryd.prog 6 #[.agg #[.int .i64 ka, .string ⟨sa.toArray⟩, .int .i64 na, .slice Aa la.length ca], .agg #[.int .i64 kb, .string ⟨sb.toArray⟩, .int .i64 nb, .slice Ab lb.length cb]] W fun e w' => e = .returned (.bool (Te.same (.mk ka sa na la) (.mk kb sb nb lb))) ∧ Below W.heap.size W w') := Lib.hid fun W hW => HX.out _ hmemp _ W _ _ (HWT.out _ hmemq) (hatp.below (hbel.trans (hW.mono (by omega)))) (hatq.below (hbel.trans (hW.mono (by omega))))
      have hkI : (k : Int) < (m : Int) := by omega
      have h00 : (0 : Int) ≤ (k : Int) := by omega
      clear hlt hlt2
      clear hatp hatq hmemp hmemq hbel
      obtain ⟨q, hq⟩ : ∃ q, q = Te.same (.mk ka sa na la) (.mk kb sb nb lb) := ⟨_, rfl⟩
      rw [← hq] at hNC hE
      clear hq
      cases q
      · have HQ2 : Hid (R = false) := Lib.hid (by rw [hE]; rfl)
        clear hE
        go_wp2_with fail
        go_region_law (go_simp; (go_at_call 6; refine (hNC.out _ (by first | exact Below.refl _ _ | exact Below.drew (Below.refl _ _))).mono ?_; rintro e w6 ⟨rfl, hw6⟩; have HW6 : Hid (Below w0.heap.size w0 w6) := Lib.hid (by first | exact HW.out.trans (hw6.mono HW.out.size) | exact HW.out.drew.trans (hw6.mono HW.out.size)); clear hw6))
        all_goals
          try go_simp
          try go_wp2_with fail
          go_ret
          exact ⟨by rw [HQ2.out]; rfl, HB0.out.trans (HW6.out.mono (by omega))⟩
      · have HQ2 : Hid (R = Te.sames (ks1.drop (k + 1)) (ks2.drop (k + 1))) := Lib.hid (by rw [hE, Bool.true_and])
        clear hE
        go_wp2_with fail
        go_region_law (go_simp; (go_at_call 6; refine (hNC.out _ (by first | exact Below.refl _ _ | exact Below.drew (Below.refl _ _))).mono ?_; rintro e w6 ⟨rfl, hw6⟩; have HW6 : Hid (Below w0.heap.size w0 w6) := Lib.hid (by first | exact HW.out.trans (hw6.mono HW.out.size) | exact HW.out.drew.trans (hw6.mono HW.out.size)); clear hw6))
        all_goals
          try go_simp
          try go_wp2_with fail
          go_roundw
          case rel => exact ⟨k + 1, by go_num, by omega, HQ2, HW6⟩
          case measure => simp [intOf]; omega
    · have HQ : Hid (R = true) := Lib.hid (by rw [HRk.out, List.drop_eq_nil_of_le (by have := HM1.out; omega), List.drop_eq_nil_of_le (by have := HM2.out; omega), Te.sames])
      have hkI : ¬ (k : Int) < (m : Int) := by omega
      go_wp2_with fail
      go_ret
      exact ⟨by rw [HQ.out]; rfl, hbel⟩

theorem rsame_any (G H : Nat → Prop) : ∀ (m : Nat) (x : Te.Nd), Te.wt x ≤ m → m ≤ 1048576 → Te.SamC 6 G H x
  | 0, .mk k s n ks, h, _ => by rw [Te.wt_eq] at h; omega
  | m + 1, .mk k s n ks, h, hm => fun y w v u hy hv hu => by
    rw [Te.wt_eq] at h
    obtain ⟨k2, s2, n2, ks2⟩ := y
    exact rsame_all k s n ks k2 s2 n2 ks2 (fun x hx => rsame_any G H m x (by have := Te.wts_mem ks x hx; omega) (by omega)) (by have := Te.wts_len ks; omega) hy w v u hv hu
end Go.Proofs.YtojmcndiooiehaaDoor
