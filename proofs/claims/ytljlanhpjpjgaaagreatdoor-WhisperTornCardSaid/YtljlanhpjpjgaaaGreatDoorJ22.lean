/- WpLa WqPure WqEq -/
import Derived.Test.YtljlanhpjpjgaaaGreatDoorJ1
import Derived.Test.YtljlanhpjpjgaaaGreatDoorJ21
import Derived.Test.YtljlanhpjpjgaaaGreatDoorJ13
import Derived.Test.YtljlanhpjpjgaaaGreatDoorJ14
import Derived.Test.YtljlanhpjpjgaaaGreatDoorJ8
namespace Go.Proofs.YtljlanhpjpjgaaaGreatDoor
set_option maxRecDepth 100000
set_option maxHeartbeats 8000000
section
open Go.RowKit Go.Sort
open Fx (Vl)
open Me
open Wp
namespace Wp
theorem passes_no {S : Vf.Sv} {n : List UInt8} {h : Hd} {i : Nat} {t : Int} (e : (passes S n h i t).2 = false) : (passes S n h i t).1 = S := by
 unfold passes at e ⊢
 dsimp only at e ⊢
 split at e
 ·rename_i hh; rw [if_pos hh]
 ·cases e
theorem climb_no {n : List UInt8} {h : Hd} {t : Int} {m : Nat} {S : Vf.Sv} {k : Nat} (e : (passes S n h k t).2 = false) : climb n h t m S k = S := by
 cases m with
 | zero => rfl
 | succ m => unfold climb; rw [if_neg (by rw [e]; exact Bool.false_ne_true)]
theorem climb_yes {n : List UInt8} {h : Hd} {t : Int} {m : Nat} {S : Vf.Sv} {k : Nat} (e : (passes S n h k t).2 = true) : climb n h t (m + 1) S k = climb n h t m (passes S n h k t).1 (k + 1) := by
 conv => lhs; unfold climb
 rw [if_pos e]
theorem first_yes {h : Hd} {d : Int} {m i : Nat} (e : d < h.step i * h.cnt i) : first h d (m + 1) i = some i := by unfold first; rw [if_pos e]
theorem first_no {h : Hd} {d : Int} {m i : Nat} (e : ¬ d < h.step i * h.cnt i) : first h d (m + 1) i = first h d m (i + 1) := by
 conv => lhs; unfold first
 rw [if_neg e]
theorem lays_bad {S : Vf.Sv} {n : List UInt8} {h : Hd} {now : Int} {p : Int × Int} (e : p.1 < 1 ∨ now < p.1 ∨ Fx.inR p.2 = false) : lays S n h now p = (S, false) := by unfold lays; rw [if_pos e]
theorem lays_none {S : Vf.Sv} {n : List UInt8} {h : Hd} {now : Int} {p : Int × Int} (e : ¬ (p.1 < 1 ∨ now < p.1 ∨ Fx.inR p.2 = false)) (hf : first h (now - p.1) h.l.length 0 = none) : lays S n h now p = (S, false) := by unfold lays; rw [if_neg e, hf]
theorem lays_zero {S : Vf.Sv} {n : List UInt8} {h : Hd} {now : Int} {p : Int × Int} {i : Nat} (e : ¬ (p.1 < 1 ∨ now < p.1 ∨ Fx.inR p.2 = false)) (hf : first h (now - p.1) h.l.length 0 = some i) (hz : Sl.al p.1 (h.step i) = 0) : lays S n h now p = (S, false) := by
 unfold lays; rw [if_neg e, hf]
 dsimp only
 rw [if_pos hz]
theorem lays_yes {S : Vf.Sv} {n : List UInt8} {h : Hd} {now : Int} {p : Int × Int} {i : Nat} (e : ¬ (p.1 < 1 ∨ now < p.1 ∨ Fx.inR p.2 = false)) (hf : first h (now - p.1) h.l.length 0 = some i) (hz : ¬ Sl.al p.1 (h.step i) = 0) : lays S n h now p = (climb n h p.1 (h.l.length - 1 - i) (write S n h i p.1 p.2) i, true) := by
 unfold lays; rw [if_neg e, hf]
 dsimp only
 rw [if_neg hz]
end Wp
theorem rlays_any {w : World} {V : Nat → Prop} {c x fs : Nat} {S : Vf.Sv} {n : List UInt8} {h : Hd} {A : Option Addr} {cap : Nat} (ro : RO w V fs c S) (hc : c ≤ 999900) (f : FileR w x fs n h A cap) (hx : V x) (hA : ∀ a, A = some a → V a.block) (hv : h.val = true) (now : Int) (hn1 : 1 ≤ now) (hn2 : now ≤ 4294967295) (pa pn : Int) :
 Calls Tryz.prog 26 #[.pointer (some ⟨x, 0, none⟩), .int .i64 now, .agg #[.int .i64 pa, .int .i64 pn]] w fun e w' => e = .returned (.bool (lays S n h now (pa, pn)).2) ∧ RO w' V fs (c + 27) (lays S n h now (pa, pn)).1 ∧ Kp (fun b => ¬ V b) w w' := by
 have HIS : Hid (∀ W, Calls Tryz.prog 53 #[.agg #[.bool true, .int .i64 pn]] W fun e w' => e = .returned (.bool (Fx.inR pn)) ∧ Below W.heap.size W w') := Lib.hid fun W => refIsV_any true pn W
 have HRO := Lib.hid ro
 have HF := Lib.hid f
 have hX : Below w.heap.size w (w.alloc (.cells #[.int .i64 pa, .int .i64 pn] 27)) := (Below.refl _ _).alloc (Nat.le_refl _) _
 have bad : Hid (pa < 1 ∨ now < pa ∨ Fx.inR pn = false → ∀ W, Below w.heap.size w W → .bool false = Value.bool (lays S n h now (pa, pn)).2 ∧ RO W V fs (c + 27) (lays S n h now (pa, pn)).1 ∧ Kp (fun b => ¬ V b) w W) := Lib.hid fun e W hb => by
  rw [lays_bad (p := (pa, pn)) e]
  exact ⟨rfl, (ro.below hb).more (by omega) (fun _ h => h), Kp.of_below hb⟩
 clear ro f
 by_cases k1 : pa < 1
 ·have HB := Lib.hid (bad.out (.inl k1))
  clear bad
  go_enter Tryz.func26, Tryz.ntmps26
  go_wp2_with fail
  go_ret
  obtain ⟨e1, e2, e3⟩ := HB.out _ hX
  exact ⟨by rw [← e1]; rfl, e2, e3⟩
 by_cases k2 : now < pa
 ·have HB := Lib.hid (bad.out (.inr (.inl k2)))
  clear bad
  go_enter Tryz.func26, Tryz.ntmps26
  go_wp2_with fail
  go_ret
  obtain ⟨e1, e2, e3⟩ := HB.out _ hX
  exact ⟨by rw [← e1]; rfl, e2, e3⟩
 cases k3 : Fx.inR pn
 ·have HB := Lib.hid (bad.out (.inr (.inr k3)))
  rw [k3] at HIS
  clear bad k3
  go_enter Tryz.func26, Tryz.ntmps26
  go_wp2_with (go_at_call 53; (((with_reducible refine (HIS.out _).mono ?_)); rintro e w1 ⟨rfl, hb1⟩; obtain ⟨hc1, hf1⟩ := bcell hb1; (try have hq1w : w.heap.size < w1.heap.size := Bz hb1); have hs1 := hb1.size; (try simp at hs1)))
  go_ret
  obtain ⟨e1, e2, e3⟩ := HB.out w1 (hX.trans (hb1.mono hX.size))
  exact ⟨by rw [← e1]; rfl, e2, e3⟩
 have hgood : ¬ (pa < 1 ∨ now < pa ∨ Fx.inR pn = false) := by rintro (e | e | e); exact k1 e; exact k2 e; rw [k3] at e; cases e
 have HG := Lib.hid hgood
 rw [k3] at HIS
 clear bad k3 hgood
 obtain ⟨b, off, rfl, ha⟩ := HF.out.ars.2 (by have := Hd.len hv; omega)
 obtain ⟨V', hV'⟩ : ∃ V' : Nat → Prop, ∀ i, V' i ↔ (V i ∨ i = w.heap.size) := ⟨_, fun _ => Iff.rfl⟩
 have HV := Lib.hid hV'
 have HROX : Hid (RO (w.alloc (.cells #[.int .i64 pa, .int .i64 pn] 27)) V' fs c S) := Lib.hid (HRO.out.add hX fun i hi => ((hV' i).1 hi).imp id (fun e => by subst e; exact ⟨Nat.le_refl _, by simp⟩))
 have hxl := HF.out.row.lt
 clear hV' ha
 go_enter Tryz.func26, Tryz.ntmps26
 go_wp2_with (go_at_call 53; (((with_reducible refine (HIS.out _).mono ?_)); rintro e w1 ⟨rfl, hb1⟩; obtain ⟨hc1, hf1⟩ := bcell hb1; (try have hq1w : w.heap.size < w1.heap.size := Bz hb1); have hs1 := hb1.size; (try simp at hs1)))
 have HB1 := Lib.hid hb1
 have hs1' : w.heap.size + 1 ≤ w1.heap.size := by have := hb1.size; simp at this; omega
 have HFX : Hid (FileR w1 x fs n h (some ⟨b, off, none⟩) cap) := Lib.hid (HF.out.below (lowBox' (hb1.mono (by simp))))
 have HRO1 : Hid (RO w1 V' fs c S) := Lib.hid (HROX.out.below hb1)
 have HBX : Hid (RowAt w1 w.heap.size 27 #[.int .i64 pa, .int .i64 pn]) := Lib.hid ((RowAt.new w _ _).below hb1 (by simp))
 have HBW : Hid (Below w.heap.size w w1) := Lib.hid (lowBox' (hb1.mono (by simp)))
 have hlen := Hd.len hv
 have HNM := Lib.hid (Hd.nums hv)
 clear hb1 hc1 hf1 hq1w hs1 HROX HF
 obtain ⟨N, hN⟩ : ∃ N, Hid (N = h.l.length) := ⟨_, Lib.hid rfl⟩
 rw [← hN.out] at hlen
 obtain ⟨d, hd⟩ : ∃ d, now - pa = d := ⟨_, rfl⟩
 have HD := Lib.hid hd
 have hd0 : 0 ≤ d ∧ d ≤ 4294967295 := by omega
 go_loopw [7] (fun u wr => ∃ i : Nat, i ≤ N ∧ u = .int .i64 i ∧ Hid (first h d N 0 = first h d (N - i) i) ∧ Below w1.heap.size w1 wr) (fun u _ => N - (intOf u).toNat)
 case atStart => exact ⟨0, Nat.zero_le _, rfl, Lib.hid rfl, Below.refl _ _⟩
 case round =>
  obtain ⟨i, hi, rfl, HFI, hbel⟩ := hrel
  have HB := Lib.hid hbel
  have hws := hbel.size
  have HFR := Lib.hid (HFX.out.below hbel)
  have HRR := Lib.hid (HRO1.out.below hbel)
  have HBR := Lib.hid (HBX.out.below hbel HBX.out.lt)
  have HWR : Hid (Below w.heap.size w wr) := Lib.hid (HBW.out.trans (hbel.mono HBW.out.size))
  have y4 : wr.cell? ⟨x, 4, none⟩ = some (.slice (some ⟨b, off, none⟩) N cap) := by rw [hN.out]; exact HFR.out.row.cell 4
  have g0 : wr.cell? ⟨w.heap.size, 0, none⟩ = some (.int .i64 pa) := HBR.out.cell 0
  have g1 : wr.cell? ⟨w.heap.size, 1, none⟩ = some (.int .i64 pn) := HBR.out.cell 1
  have hgl := HBR.out.lt
  have hxr := HFR.out.row.lt
  clear hbel
  by_cases hlt : i < N
  ·obtain ⟨b', off', eb, ha⟩ := HFR.out.ars.2 (by rw [← hN.out]; omega)
   injection eb with eb; injection eb with eb1 eb2
   subst eb1 eb2
   obtain ⟨⟨n1, n2⟩, n3, n4⟩ := HNM.out i (by rw [← hN.out]; exact hlt)
   have s0 : wr.cell? ⟨b, off + i * 2, none⟩ = some (.int .i64 (h.step i)) := ha.st i (by rw [← hN.out]; exact hlt)
   have s1 : wr.cell? ⟨b, off + i * 2 + 1, none⟩ = some (.int .i64 (h.cnt i)) := ha.ct i (by rw [← hN.out]; exact hlt)
   have hbl := ha.lt
   have hiN : (i : Int) < (N : Int) := by omega
   have hi0 : (0 : Int) ≤ (i : Int) := by omega
   obtain ⟨m, hm⟩ : ∃ m, N - i = m + 1 := ⟨N - i - 1, by omega⟩
   have HM := Lib.hid hm
   clear ha hm
   have hsc : 0 ≤ h.step i * h.cnt i ∧ h.step i * h.cnt i ≤ 281474976710656 := ⟨Int.mul_nonneg (by omega) (by omega), by have := Int.mul_le_mul n2 n4 (by omega) (by omega); omega⟩
   obtain ⟨sc, hsce⟩ : ∃ sc, h.step i * h.cnt i = sc := ⟨_, rfl⟩
   have HSC := Lib.hid hsce
   rw [hsce] at hsc
   obtain ⟨u0, hu0⟩ : ∃ u, Hid (u = h.step i) := ⟨_, Lib.hid rfl⟩
   obtain ⟨u1, hu1⟩ : ∃ u, Hid (u = h.cnt i) := ⟨_, Lib.hid rfl⟩
   rw [← hu0.out, ← hu1.out] at hsce
   rw [← hu0.out] at s0 n1 n2
   rw [← hu1.out] at s1 n3 n4
   have hwsc : IntKind.i64.wrap sc = sc := IntWalk.i64_in _ (by omega)
   have hwd : IntKind.i64.wrap d = d := IntWalk.i64_in _ (by omega)
   by_cases hcov : d < sc
   ·have HFS : Hid (first h d N 0 = some i) := Lib.hid (by rw [HFI.out, HM.out, first_yes (by rw [HSC.out]; exact hcov)])
    have HAL : Hid (∀ W, Calls Tryz.prog 54 #[.int .i64 pa, .int .i64 u0] W fun e w' => e = .returned (.int .i64 (Sl.al pa u0)) ∧ W = w') := Lib.hid fun W => ralign_any pa _ (by omega) W
    obtain ⟨g, hg⟩ : ∃ g, Hid (g = Sl.al pa u0) := ⟨_, Lib.hid rfl⟩
    rw [← hg.out] at HAL
    by_cases hg0 : g = 0
    ·have HQ : Hid (lays S n h now (pa, pn) = (S, false)) := Lib.hid (lays_zero (p := (pa, pn)) HG.out (by show first h (now - pa) h.l.length 0 = _; rw [HD.out, ← hN.out]; exact HFS.out) (by show Sl.al pa (h.step i) = 0; rw [← hu0.out, ← hg.out]; exact hg0))
     have hgz : (g == 0) = true := by simpa using hg0
     clear hg0
     go_wp2_with (go_at_call 54; ((with_reducible refine (HAL.out _).mono ?_); rintro e w' ⟨rfl, rfl⟩))
     go_ret
     have hbb : Below w.heap.size w (wr.alloc (.cells #[.int .i64 u0, .int .i64 u1] 56)) := HWR.out.alloc HWR.out.size _
     exact ⟨by rw [HQ.out]; rfl, by rw [HQ.out]; exact (HRO.out.below hbb).more (by omega) (fun _ h => h), Kp.of_below hbb⟩
    have hgz : (g == 0) = false := by simpa using hg0
    have HQ : Hid (lays S n h now (pa, pn) = (climb n h pa (N - 1 - i) (write S n h i pa pn) i, true)) := Lib.hid (by rw [hN.out]; exact lays_yes (p := (pa, pn)) HG.out (by show first h (now - pa) h.l.length 0 = _; rw [HD.out, ← hN.out]; exact HFS.out) (by show ¬ Sl.al pa (h.step i) = 0; rw [← hu0.out, ← hg.out]; exact hg0))
    have HRW : Hid (∀ W, Below wr.heap.size wr W → Calls Tryz.prog 55 #[.pointer (some ⟨x, 0, none⟩), .int .i64 (i : Int), .int .i64 pa, .int .i64 pn] W (Wrote W V' fs (c + 3) (write S n h i pa pn))) := Lib.hid fun W hb => rwrite_any (HRR.out.below hb) (by omega) (HFR.out.below hb) ((HV.out x).2 (.inl hx)) (fun a e => (HV.out _).2 (.inl (hA a e))) hv i (by rw [← hN.out]; exact hlt) pa pn (by omega)
    have HVX : Hid (V' x ∧ V' b ∧ V' w.heap.size) := Lib.hid ⟨(HV.out x).2 (.inl hx), (HV.out b).2 (.inl (hA _ rfl)), (HV.out _).2 (.inr rfl)⟩
    clear hg0 HFS HFI
    generalize write S n h i pa pn = S1 at *
    go_wp2_with first
     | (go_at_call 54; ((with_reducible refine (HAL.out _).mono ?_); rintro e w' ⟨rfl, rfl⟩))
     | (go_at_call 55; (with_reducible refine (HRW.out _ ((Below.refl _ _).alloc (Nat.le_refl _) _)).mono ?_); rintro e w5 ⟨rfl, hro5, hk5⟩; have HRO5 := Lib.hid hro5; have HK5 : Hid (Kp (fun b => ¬ V' b) wr w5) := Lib.hid ((Kp.of_below ((Below.refl _ _).alloc (Nat.le_refl _) _)).trans hk5 (fun _ _ h => h)); clear hro5 hk5)
    have hKB : Hid (∀ W, Kp (fun b => ¬ V' b) wr W → FileR W x fs n h (some ⟨b, off, none⟩) cap ∧ RowAt W w.heap.size 27 #[.int .i64 pa, .int .i64 pn] ∧ Kp (fun b => ¬ V b) w W) := Lib.hid fun W hk =>
     ⟨HFR.out.keep hk HVX.out.1 (fun a e => by cases e; exact HVX.out.2.1), (hk.block _ hgl (fun o => o HVX.out.2.2)).trans HBR.out, (Kp.of_below HWR.out).trans (hk.mono (fun i _ ho hv => ho ((HV.out i).2 (.inl hv)))) (fun _ _ h => h)⟩
    obtain ⟨wo, hwo⟩ : ∃ wo, wo = wr := ⟨_, rfl⟩
    subst hwo
    clear s0 s1 y4 g0 g1
    go_loopw [9] (fun u wr => ∃ (k : Nat) (Sk : Vf.Sv), i ≤ k ∧ k < N ∧ u = .int .i64 k ∧ Hid (RO wr V' fs (c + 3 + 3 * (k - i)) Sk) ∧ Hid (Kp (fun b => ¬ V' b) wo wr) ∧ Hid (climb n h pa (N - 1 - i) S1 i = climb n h pa (N - 1 - k) Sk k)) (fun u _ => N - (intOf u).toNat)
    case atStart => exact ⟨i, S1, Nat.le_refl _, hlt, rfl, by rw [Nat.sub_self]; exact HRO5, HK5, Lib.hid rfl⟩
    case round =>
     obtain ⟨k, Sk, hik, hkN, rfl, HROk, HKk, HCk⟩ := hrel
     obtain ⟨hfq, hrq, _⟩ := hKB.out wr HKk.out
     have HFQ := Lib.hid hfq
     have z4 : wr.cell? ⟨x, 4, none⟩ = some (.slice (some ⟨b, off, none⟩) N cap) := by rw [hN.out]; exact hfq.row.cell 4
     have zg : wr.cell? ⟨w.heap.size, 0, none⟩ = some (.int .i64 pa) := hrq.cell 0
     have hxq := hfq.row.lt
     have hgq := hrq.lt
     clear hfq hrq
     obtain ⟨k', hk'⟩ : ∃ k', Hid (k' = k + 1) := ⟨_, Lib.hid rfl⟩
     have hkk : (k : Int) + 1 = (k' : Int) := by rw [hk'.out]; rfl
     have hwk : IntKind.i64.wrap (k' : Int) = (k' : Int) := IntWalk.i64_in _ (by omega)
     by_cases hk1 : k' < N
     ·have hkI : (k' : Int) < (N : Int) := by omega
      have HPS : Hid (∀ W, W = wr → Calls Tryz.prog 56 #[.pointer (some ⟨x, 0, none⟩), .int .i64 (k : Int), .int .i64 pa] W fun e w' => e = .returned (.bool (passes Sk n h k pa).2) ∧ RO w' V' fs (c + 3 + 3 * (k - i) + 3) (passes Sk n h k pa).1 ∧ Kp (fun b => ¬ V' b) W w') := Lib.hid fun W e => by
       subst e
       exact rpasses_any HROk.out (by omega) HFQ.out HVX.out.1 (fun a e => by cases e; exact HVX.out.2.1) hv k (by rw [← hN.out, ← hk'.out]; exact hk1) pa (by omega) (by omega)
      have HCN : Hid ((passes Sk n h k pa).2 = false → (passes Sk n h k pa).1 = Sk ∧ climb n h pa (N - 1 - k) Sk k = Sk) := Lib.hid fun e => ⟨passes_no e, climb_no e⟩
      have HCY : Hid ((passes Sk n h k pa).2 = true → climb n h pa (N - 1 - k) Sk k = climb n h pa (N - 1 - k') (passes Sk n h k pa).1 k') := Lib.hid fun e => by
       have e1 : N - 1 - k = (N - 1 - k') + 1 := by have := hk'.out; omega
       rw [e1, climb_yes e, hk'.out]
      generalize hpr : passes Sk n h k pa = R at *
      clear hpr
      obtain ⟨R1, R2⟩ := R
      cases R2
      ·obtain ⟨e1, e2⟩ := HCN.out rfl
       have HE1 : Hid (R1 = Sk) := Lib.hid e1
       have HE2 := Lib.hid e2
       clear HCY HCN e1 e2
       go_wp2_with (go_at_call 56; (with_reducible refine (HPS.out _ rfl).mono ?_); rintro e w7 ⟨rfl, hro7, hk7⟩; have HRO7 := Lib.hid hro7; have HK7 := Lib.hid hk7; clear hro7 hk7)
       go_ret
       exact ⟨by rw [HQ.out]; rfl, by
        rw [HQ.out, HCk.out, HE2.out]
        have h7 := HRO7.out
        rw [HE1.out] at h7
        exact h7.more (by omega) (fun i hi => (HV.out i).2 (.inl hi)), (hKB.out _ (HKk.out.trans HK7.out (fun _ _ h => h))).2.2⟩
      ·have HE2 := Lib.hid (HCY.out rfl)
       clear HCY HCN
       go_wp2_with (go_at_call 56; (with_reducible refine (HPS.out _ rfl).mono ?_); rintro e w7 ⟨rfl, hro7, hk7⟩; have HRO7 := Lib.hid hro7; have HK7 := Lib.hid hk7; clear hro7 hk7)
       go_roundw
       case rel => exact ⟨k', R1, by have := hk'.out; omega, hk1, by go_num, Lib.hid (HRO7.out.more (by have := hk'.out; omega) (fun _ h => h)), Lib.hid (HKk.out.trans HK7.out (fun _ _ h => h)), Lib.hid (by rw [HCk.out, HE2.out])⟩
       case measure => simp [intOf]; omega
     ·have hkI : ¬ (k' : Int) < (N : Int) := by omega
      have HE2 : Hid (climb n h pa (N - 1 - k) Sk k = Sk) := Lib.hid (by rw [show N - 1 - k = 0 by have := hk'.out; omega]; rfl)
      go_wp2_with fail
      go_ret
      exact ⟨by rw [HQ.out]; rfl, by
       rw [HQ.out, HCk.out, HE2.out]
       exact HROk.out.more (by omega) (fun i hi => (HV.out i).2 (.inl hi)), (hKB.out _ HKk.out).2.2⟩
   ·have HFN : Hid (first h d N 0 = first h d (N - (i + 1)) (i + 1)) := Lib.hid (by rw [HFI.out, HM.out, first_no (by rw [HSC.out]; exact hcov)]; congr 1; have := HM.out; omega)
    go_wp2_with fail
    go_roundw
    case rel => exact ⟨i + 1, by omega, by go_num, HFN, HB.out.alloc hws _⟩
    case measure => simp [intOf]; omega
  ·have hiN : i = N := by omega
   have HQ : Hid (lays S n h now (pa, pn) = (S, false)) := Lib.hid (lays_none (p := (pa, pn)) HG.out (by show first h (now - pa) h.l.length 0 = none; rw [HD.out, ← hN.out, HFI.out, hiN, Nat.sub_self]; rfl))
   have hiI : ¬ (i : Int) < (N : Int) := by omega
   go_wp2_with fail
   go_ret
   exact ⟨by rw [HQ.out]; rfl, by rw [HQ.out]; exact (HRO.out.below HWR.out).more (by omega) (fun _ h => h), Kp.of_below HWR.out⟩
end
section
open Go.RowKit
open Fx (Vl)
namespace Vf
theorem goes_two (m p : List UInt8) (off : Nat) (i : Int) (k : Nat) (x : Fl) (l : List Fl) : goes ⟨2, m, off, p⟩ i k (x :: l) = (if (k : Int) = i then ⟨x.name, upd x.b off p⟩ else x) :: goes ⟨2, m, off, p⟩ i (k + 1) l := by
 rw [goes]
 unfold one
 by_cases h : (k : Int) = i
 ·rw [if_pos ⟨h, rfl⟩, if_pos h]; rfl
 ·rw [if_neg (fun e => h e.1), if_neg (fun e => h e.1), if_neg h]; rfl
theorem goes_two_ix (n m p : List UInt8) (off : Nat) (i : Int) : ∀ (l : List Fl) (k j : Nat), ixFrom n j (goes ⟨2, m, off, p⟩ i k l) = ixFrom n j l
 | [], _, _ => rfl
 | x :: l, k, j => by
   rw [goes_two, ixFrom, ixFrom, goes_two_ix n m p off i l (k + 1) (j + 1)]
   by_cases h : (k : Int) = i
   ·rw [if_pos h]
   ·rw [if_neg h]
theorem goes_two_get (m p : List UInt8) (off : Nat) : ∀ (l : List Fl) (k j : Nat) (i : Nat), k + j = i → (h : j < l.length) → (goes ⟨2, m, off, p⟩ (i : Int) k l)[j]? = some ⟨l[j].name, upd l[j].b off p⟩
 | [], _, _, _, _, h => by simp at h
 | x :: l, k, 0, i, e, h => by
   rw [goes_two, if_pos (by omega)]
   rfl
 | x :: l, k, j + 1, i, e, h => by
   rw [goes_two, List.getElem?_cons_succ, goes_two_get m p off l (k + 1) j i (by omega) (by simpa using h)]
   rfl
structure Has (l : List Fl) (n B : List UInt8) : Prop where
 is : Vf.is n = true
 at_ : ∃ (k : Nat) (nm : List UInt8), Vf.ix l n = (k : Int) ∧ l[k]? = some ⟨nm, B⟩
theorem Has.of_size {l : List Fl} {n : List UInt8} (h : (size l n).2 = 0) : ∃ B, Has l n B ∧ (size l n).1 = (B.length : Int) := by
 unfold size at h ⊢
 by_cases h1 : Vf.is n = false
 ·rw [if_pos h1] at h; cases h
 rw [if_neg h1] at h ⊢
 by_cases h2 : ix l n < 0
 ·rw [if_pos h2] at h; cases h
 rw [if_neg h2]
 have hb := ix_bd l n
 have hlt : (ix l n).toNat < l.length := by omega
 refine ⟨(l.getD (ix l n).toNat ⟨[], []⟩).b, ⟨by simpa using h1, (ix l n).toNat, l[(ix l n).toNat].name, by omega, ?_⟩, rfl⟩
 rw [List.getD_eq_getElem?_getD, List.getElem?_eq_getElem hlt]
 rfl
section
variable {l : List Fl} {n B : List UInt8} (h : Has l n B)
include h
theorem Has.size_eq : Vf.size l n = ((B.length : Int), 0) := by
 obtain ⟨k, nm, h1, h2⟩ := h.at_
 unfold Vf.size
 rw [if_neg (by simp [h.is]), if_neg (by omega), h1, Int.toNat_natCast, List.getD_eq_getElem?_getD, h2]
 rfl
theorem Has.bytes : bytesAt l n = B := by
 obtain ⟨k, nm, h1, h2⟩ := h.at_
 unfold bytesAt
 rw [h1, Int.toNat_natCast, List.getD_eq_getElem?_getD, h2]
 rfl
theorem Has.read_eq {t m : Int} (ht : 0 ≤ t) (hm : 0 ≤ m) (hb : t + m ≤ (B.length : Int)) : Vf.read l n t m = ((B.drop t.toNat).take m.toNat, 0) := by
 obtain ⟨k, nm, h1, h2⟩ := h.at_
 unfold Vf.read
 rw [if_neg (by simp [h.is]), if_neg (by omega), h.bytes, if_neg (by omega)]
end
theorem Has.write_eq {S : Sv} {n B : List UInt8} (h : Has S.now n B) {t : Int} {b : List UInt8} (ht : 0 ≤ t) (hb : t + (b.length : Int) ≤ (B.length : Int)) : Has (Vf.write S n t b).1.now n (upd B t.toNat b) ∧ Vf.write S n t b = (S.act ⟨2, n, t.toNat, b⟩, 0) := by
 obtain ⟨k, nm, h1, h2⟩ := h.at_
 have hl : lenAt S.now n = B.length := by
  unfold lenAt
  rw [h1, Int.toNat_natCast, List.getD_eq_getElem?_getD, h2]
  rfl
 have e : Vf.write S n t b = (S.act ⟨2, n, t.toNat, b⟩, 0) := by
  unfold Vf.write
  rw [if_neg (by simp [h.is]), if_neg (by omega), if_neg (by rw [hl]; omega)]
 refine ⟨⟨h.is, k, nm, ?_, ?_⟩, e⟩
 ·rw [e]
  show ix (does S.now ⟨2, n, t.toNat, b⟩) n = _
  unfold does
  rw [if_neg (by simp), List.append_nil]
  show ixFrom n 0 (goes ⟨2, n, t.toNat, b⟩ _ 0 S.now) = _
  rw [goes_two_ix]
  exact h1
 ·rw [e]
  show (does S.now ⟨2, n, t.toNat, b⟩)[k]? = _
  unfold does
  rw [if_neg (by simp), List.append_nil, h1]
  have hk := (List.getElem?_eq_some_iff.1 h2)
  obtain ⟨hk1, hk2⟩ := hk
  rw [goes_two_get n b t.toNat S.now 0 k k (by omega) hk1, hk2]
end Vf
namespace Wp
open Vf (Has upd)
def slot (B : List UInt8) (o : Nat) : Int × Int := pt ((B.drop o).take 12)
def side (B : List UInt8) (o n : Nat) : List (Int × Int) := (List.range n).map fun k => slot B (o + 12 * k)
theorem side_len (B : List UInt8) (o n : Nat) : (side B o n).length = n := by unfold side; simp
theorem slot_cut {B : List UInt8} {o n k : Nat} (hk : k < n) : ((((B.drop o).take (12 * n)).drop (12 * k)).take 12) = (B.drop (o + 12 * k)).take 12 := by
 rw [List.drop_take, List.drop_drop, List.take_take]
 congr 1
 omega
def round (B : List UInt8) (o c p n : Nat) : List (Int × Int) := side B (o + 12 * p) (min n (c - p)) ++ side B o (n - min n (c - p))
theorem round_len (B : List UInt8) (o c p n : Nat) : (round B o c p n).length = n := by unfold round; rw [List.length_append, side_len, side_len]; omega
theorem round_get {B : List UInt8} {o c p n k : Nat} (hp : p < c) (hn : n ≤ c) (hk : k < n) : (round B o c p n)[k]? = some (slot B (o + 12 * ((p + k) % c))) := by
 unfold round
 by_cases h : k < min n (c - p)
 ·rw [List.getElem?_append_left (by rw [side_len]; exact h)]
  have e : (p + k) % c = p + k := Nat.mod_eq_of_lt (by omega)
  unfold side
  rw [List.getElem?_map, List.getElem?_range h, e]
  show some (slot B _) = _
  congr 2; omega
 ·rw [List.getElem?_append_right (by rw [side_len]; omega), side_len]
  have e : (p + k) % c = p + k - c := by
   rw [Nat.mod_eq_sub_mod (by omega)]
   exact Nat.mod_eq_of_lt (by omega)
  unfold side
  rw [List.getElem?_map, List.getElem?_range (by omega), e]
  show some (slot B _) = _
  congr 2; omega
theorem round_all {B : List UInt8} {o c : Nat} : round B o c 0 c = side B o c := by
 unfold round
 rw [Nat.sub_zero, Nat.min_self, Nat.sub_self, Nat.mul_zero, Nat.add_zero]
 unfold side
 simp
def holds (s st : Int) (ps : List (Int × Int)) (k : Nat) : Vl := let p := ps.getD k (0, 0); if p.1 > 0 ∧ p.1 = st + (k : Int) * s then Fx.of p.2 else Fx.none
def held (s st : Int) (ps : List (Int × Int)) (n : Nat) : List Vl := (List.range n).map (holds s st ps)
theorem held_len (s st : Int) (ps : List (Int × Int)) (n : Nat) : (held s st ps n).length = n := by unfold held; simp
structure Fits (l : List Vf.Fl) (n : List UInt8) (h : Hd) (B : List UInt8) : Prop where
 has : Has l n B
 val : h.val = true
 size : (B.length : Int) = h.size
theorem size_eq {h : Hd} (hv : h.val = true) : h.size = Wh.ends h.l h.l.length := by
 have hv' : Wh.val h.ag h.xf h.l = true := hv
 unfold Hd.size Wh.size
 rw [if_pos hv']
theorem offs_eq {h : Hd} (hv : h.val = true) {i : Nat} (hi : i < h.l.length) : h.offs (i : Int) = Wh.ends h.l i := by
 have hv' : Wh.val h.ag h.xf h.l = true := hv
 unfold Hd.offs Wh.offs
 rw [if_pos ⟨hv', by omega, by omega⟩, Int.toNat_natCast]
theorem sm_mono {l : List (Int × Int)} {i : Nat} : ∀ k, (∀ j, j < k → 1 ≤ (Wh.At l j).2) → i < k → Wh.sm l i + 12 * (Wh.At l i).2 ≤ Wh.sm l k
 | 0, _, h => by omega
 | k + 1, hc, h => by
   have e1 : Wh.sm l (k + 1) = Wh.sm l k + 12 * (Wh.At l k).2 := rfl
   rw [e1]
   by_cases e : i = k
   ·subst e; exact Int.le_refl _
   ·have h1 := sm_mono (l := l) (i := i) k (fun j hj => hc j (by omega)) (by omega)
    have h2 := hc k (by omega)
    omega
theorem ring_in {h : Hd} (hv : h.val = true) {i : Nat} (hi : i < h.l.length) : 16 + 12 * (h.l.length : Int) ≤ h.offs (i : Int) ∧ h.offs (i : Int) + 12 * h.cnt i ≤ h.size := by
 obtain ⟨_, _, _, ha⟩ := Wh.val_t hv
 obtain ⟨a1, a2, a3, a4, a5⟩ := Wh.av_t ha
 have hc : ∀ j, j < h.l.length → 1 ≤ (Wh.At h.l j).2 := fun j hj => ((Wh.alls_num hj a3).2).1
 rw [size_eq hv, offs_eq hv hi]
 unfold Wh.ends
 have h1 := sm_mono (l := h.l) (i := i) h.l.length hc hi
 have h0 : 0 ≤ Wh.sm h.l i := by
  have : ∀ m, m ≤ h.l.length → 0 ≤ Wh.sm h.l m := fun m => by
   induction m with
   | zero => intro _; exact Int.le_refl _
   | succ m ih => intro hm; unfold Wh.sm; have := ih (by omega); have := hc m (by omega); omega
  exact this i (by omega)
 show _ ∧ _ + 12 * (Wh.At h.l i).2 ≤ _
 omega
theorem Fits.ring {l : List Vf.Fl} {n : List UInt8} {h : Hd} {B : List UInt8} (f : Fits l n h B) {i : Nat} (hi : i < h.l.length) : 28 ≤ h.offs (i : Int) ∧ h.offs (i : Int) + 12 * h.cnt i ≤ (B.length : Int) := by
 have h1 := ring_in f.val hi
 rw [f.size]
 omega
end Wp
end
section
open Go.RowKit
open Fx (Vl)
open Vf (Has upd)
namespace Wp
theorem al_step {s st : Int} {k : Nat} (hs : 1 ≤ s) (h0 : 0 ≤ st) (ha : Sl.al st s = st) : 0 ≤ st + (k : Int) * s ∧ Sl.al (st + (k : Int) * s) s = st + (k : Int) * s ∧ (st + (k : Int) * s) / s = st / s + (k : Int) := by
 have h1 : 0 ≤ (k : Int) * s := Int.mul_nonneg (by omega) (by omega)
 have h2 : (st + (k : Int) * s) / s = st / s + (k : Int) := Int.add_mul_ediv_right _ _ (by omega)
 refine ⟨by omega, ?_, h2⟩
 rw [Sl.al_mul hs (by omega), h2, Int.mul_add, ← Sl.al_mul hs h0, ha, Int.mul_comm]
theorem pl_al {s c t : Int} (hs : 1 ≤ s) (h0 : 0 ≤ t) : Sl.pl s c (Sl.al t s) = Sl.pl s c t := by
 have hb := Sl.al_bd hs h0
 unfold Sl.pl
 by_cases hc : c < 1
 ·rw [if_pos (.inr (.inl hc)), if_pos (.inr (.inl hc))]
 ·rw [if_neg (by omega), if_neg (by omega), Sl.al_div hs h0]
section
variable {l : List Vf.Fl} {n : List UInt8} {h : Hd} {B : List UInt8} (f : Fits l n h B)
include f
theorem Fits.slot_in {i : Nat} (hi : i < h.l.length) (t : Int) (ht : 0 ≤ t) : 28 ≤ at_ h i t ∧ at_ h i t + 12 ≤ (B.length : Int) := by
 have h1 := f.ring hi
 obtain ⟨⟨n1, n2⟩, n3, n4⟩ := Hd.nums f.val i hi
 have h2 := Sl.pl_bd n1 n3 ht
 unfold at_
 omega
theorem Fits.value_eq {i : Nat} (hi : i < h.l.length) (t : Int) (ht : 0 ≤ t) : value l n h i t = if Sl.al t (h.step i) ≤ 0 ∨ (slot B (at_ h i t).toNat).1 ≠ Sl.al t (h.step i) then Fx.none else Fx.of (slot B (at_ h i t).toNat).2 := by
 have h1 := f.slot_in hi t ht
 unfold value
 dsimp only
 rw [f.has.read_eq (by omega) (by omega) (by omega)]
 rfl
theorem Fits.held_eq {i : Nat} (hi : i < h.l.length) {st : Int} (h0 : 0 ≤ st) (ha : Sl.al st (h.step i) = st) {m c P : Nat} (hc : h.cnt i = (c : Int)) (hm : m ≤ c) (hP : Sl.pl (h.step i) (h.cnt i) st = (P : Int)) :
 held (h.step i) st (round B (h.offs (i : Int)).toNat c P m) m = (List.range m).map fun (k : Nat) => value l n h i (st + (k : Int) * h.step i) := by
 obtain ⟨⟨n1, n2⟩, n3, n4⟩ := Hd.nums f.val i hi
 have hr := f.ring hi
 have hPc : P < c := by have := Sl.pl_bd n1 n3 h0; omega
 unfold held
 apply List.map_congr_left
 intro k hk
 have hk' : k < m := List.mem_range.1 hk
 obtain ⟨q1, q2, q3⟩ := al_step (k := k) n1 h0 ha
 have hpl : Sl.pl (h.step i) (h.cnt i) (st + (k : Int) * h.step i) = (((P + k) % c : Nat) : Int) := by
  rw [Sl.pl_eq n1 n3 q1, q3, ← Int.emod_add_emod, ← Sl.pl_eq n1 n3 h0, hP, hc]
  rfl
 have hat : (at_ h i (st + (k : Int) * h.step i)).toNat = (h.offs (i : Int)).toNat + 12 * ((P + k) % c) := by
  unfold at_
  rw [hpl]
  omega
 rw [f.value_eq hi _ q1, hat, q2]
 unfold holds
 dsimp only
 rw [List.getD_eq_getElem?_getD, round_get hPc hm hk', Option.getD_some]
 by_cases e : (slot B ((h.offs (i : Int)).toNat + 12 * ((P + k) % c))).1 > 0 ∧ (slot B ((h.offs (i : Int)).toNat + 12 * ((P + k) % c))).1 = st + (k : Int) * h.step i
 ·rw [if_pos e, if_neg (by omega)]
 ·rw [if_neg e, if_pos (by omega)]
end
theorem step_dvd {h : Hd} (hv : h.val = true) {i : Nat} (hi : i + 1 < h.l.length) : h.step (i + 1) % h.step i = 0 ∧ h.step (i + 1) / h.step i ≤ h.cnt i ∧ h.step i * h.cnt i < h.step (i + 1) * h.cnt (i + 1) := by
 obtain ⟨_, _, _, ha⟩ := Wh.val_t hv
 obtain ⟨a1, a2, a3, a4, a5⟩ := Wh.av_t ha
 have hs := Wh.alls_stp hi a3
 unfold Wh.stp Wh.fol at hs
 simp only [Bool.and_eq_true, Bool.or_eq_true, decide_eq_true_eq, Nat.add_sub_cancel] at hs
 rcases hs.2 with e | e
 ·omega
 ·exact ⟨e.1.1.2, e.2, e.1.2⟩
theorem al_fine {h : Hd} (hv : h.val = true) {i : Nat} (hi : i + 1 < h.l.length) {t : Int} (ht : 0 ≤ t) : Sl.al (Sl.al t (h.step (i + 1))) (h.step i) = Sl.al t (h.step (i + 1)) := by
 obtain ⟨⟨n1, n2⟩, _⟩ := Hd.nums hv i (by omega)
 obtain ⟨⟨m1, m2⟩, _⟩ := Hd.nums hv (i + 1) hi
 have h1 := (step_dvd hv hi).1
 have hb := Sl.al_bd m1 ht
 rw [Sl.al_mul n1 hb.1, Sl.al_mul m1 ht]
 apply Int.mul_ediv_cancel_of_emod_eq_zero
 rw [Int.mul_emod, h1, Int.zero_mul, Int.zero_emod]
theorem Fits.vals_eq {l : List Vf.Fl} {n : List UInt8} {h : Hd} {B : List UInt8} (f : Fits l n h B) {i : Nat} (hi : i + 1 < h.l.length) {t : Int} (ht : 0 ≤ t) {c P : Nat} (hc : h.cnt i = (c : Int)) (hP : Sl.pl (h.step i) (h.cnt i) (Sl.al t (h.step (i + 1))) = (P : Int)) :
 vals l n h i t (many h i) = held (h.step i) (Sl.al t (h.step (i + 1))) (round B (h.offs (i : Int)).toNat c P (many h i)) (many h i) := by
 obtain ⟨⟨m1, m2⟩, _⟩ := Hd.nums f.val (i + 1) hi
 have hb := Sl.al_bd m1 ht
 have hm := many_bd f.val i hi
 have hd := (step_dvd f.val hi).2.1
 rw [f.held_eq (by omega) hb.1 (al_fine f.val hi ht) hc (by omega) hP]
 rfl
def put (B : List UInt8) (o : Nat) (t u : Int) : List UInt8 := upd B o (Sl.beb (Sl.lim t) 4 ++ Sl.beb u 8)
theorem upd_mid {X Y Z p : List UInt8} (h : Y.length = p.length) : upd (X ++ (Y ++ Z)) X.length p = X ++ (p ++ Z) := by
 have h1 : (X ++ (Y ++ Z)).drop (X.length + Y.length) = Z := by
  rw [← List.append_assoc, ← List.length_append]
  exact List.drop_left
 unfold upd
 rw [List.take_left, ← h, h1, List.append_assoc]
theorem upd_upd {B p q r : List UInt8} {o : Nat} (h1 : p.length = r.length) (ho : o + r.length + q.length ≤ B.length) : upd (upd (upd B o p) (o + r.length) q) o r = upd B o (r ++ q) := by
 obtain ⟨X, Y, Z, T, hB, hX, hY, hZ⟩ : ∃ X Y Z T : List UInt8, B = X ++ (Y ++ (Z ++ T)) ∧ X.length = o ∧ Y.length = r.length ∧ Z.length = q.length := by
  refine ⟨B.take o, (B.drop o).take r.length, ((B.drop o).drop r.length).take q.length, ((B.drop o).drop r.length).drop q.length, ?_, ?_, ?_, ?_⟩
  ·rw [List.take_append_drop, List.take_append_drop, List.take_append_drop]
  ·rw [List.length_take]; omega
  ·rw [List.length_take, List.length_drop]; omega
  ·rw [List.length_take, List.length_drop, List.length_drop]; omega
 subst hB hX
 have e1 := upd_mid (X := X) (Y := Y) (Z := Z ++ T) (p := p) (by omega)
 have e2 := upd_mid (X := X ++ p) (Y := Z) (Z := T) (p := q) hZ
 have e3 := upd_mid (X := X) (Y := p) (Z := q ++ T) (p := r) h1
 have e4 := upd_mid (X := X) (Y := Y ++ Z) (Z := T) (p := r ++ q) (by rw [List.length_append, List.length_append]; omega)
 rw [List.length_append, h1, List.append_assoc, List.append_assoc] at e2
 rw [List.append_assoc, List.append_assoc] at e4
 rw [e1, e2, e3, e4]
theorem put_len {B : List UInt8} {o : Nat} {t u : Int} (h : o + 12 ≤ B.length) : (put B o t u).length = B.length := by
 unfold put
 exact Vf.upd_len (by rw [List.length_append]; exact h)
theorem Fits.write {S : Vf.Sv} {n : List UInt8} {h : Hd} {B : List UInt8} (f : Fits S.now n h B) {i : Nat} (hi : i < h.l.length) (t u : Int) (ht : 0 ≤ t) : Fits (write S n h i t u).now n h (put B (at_ h i t).toNat (Sl.al t (h.step i)) u) := by
 have hb := f.slot_in hi t ht
 have l4 : (Sl.beb (Sl.lim (Sl.al t (h.step i))) 4).length = 4 := rfl
 have l8 : (Sl.beb u 8).length = 8 := rfl
 obtain ⟨k1, _⟩ := f.has.write_eq (t := at_ h i t) (b := [0, 0, 0, 0]) (by omega) (by simp; omega)
 have n1 : (upd B (at_ h i t).toNat [0, 0, 0, 0]).length = B.length := Vf.upd_len (by simp; omega)
 obtain ⟨k2, _⟩ := k1.write_eq (t := at_ h i t + 4) (b := Sl.beb u 8) (by omega) (by rw [n1, l8]; omega)
 have n2 : (upd (upd B (at_ h i t).toNat [0, 0, 0, 0]) (at_ h i t + 4).toNat (Sl.beb u 8)).length = B.length := by rw [Vf.upd_len (by rw [n1, l8]; omega), n1]
 obtain ⟨k3, _⟩ := k2.write_eq (t := at_ h i t) (b := Sl.beb (Sl.lim (Sl.al t (h.step i))) 4) (by omega) (by rw [n2, l4]; omega)
 have e : upd (upd (upd B (at_ h i t).toNat [0, 0, 0, 0]) (at_ h i t + 4).toNat (Sl.beb u 8)) (at_ h i t).toNat (Sl.beb (Sl.lim (Sl.al t (h.step i))) 4) = put B (at_ h i t).toNat (Sl.al t (h.step i)) u := by
  have := upd_upd (B := B) (p := [0, 0, 0, 0]) (q := Sl.beb u 8) (r := Sl.beb (Sl.lim (Sl.al t (h.step i))) 4) (o := (at_ h i t).toNat) rfl (by rw [l4, l8]; omega)
  rw [l4] at this
  rw [show (at_ h i t + 4).toNat = (at_ h i t).toNat + 4 by omega]
  exact this
 rw [e] at k3
 exact ⟨k3, f.val, by rw [put_len (by omega)]; exact f.size⟩
theorem Fits.passes {S : Vf.Sv} {n : List UInt8} {h : Hd} {B : List UInt8} (f : Fits S.now n h B) {i : Nat} (hi : i + 1 < h.l.length) (t : Int) (ht : 0 ≤ t) : ∃ B', Fits (passes S n h i t).1.now n h B' := by
 unfold Wp.passes
 dsimp only
 split
 ·exact ⟨B, f⟩
 ·exact ⟨_, f.write hi t _ ht⟩
theorem Fits.climb {n : List UInt8} {h : Hd} {t : Int} (ht : 0 ≤ t) : ∀ (m : Nat) (S : Vf.Sv) (k : Nat) (B : List UInt8), Fits S.now n h B → k + m < h.l.length → ∃ B', Fits (climb n h t m S k).now n h B'
 | 0, S, k, B, f, _ => ⟨B, f⟩
 | m + 1, S, k, B, f, hk => by
   unfold Wp.climb
   split
   ·obtain ⟨B1, f1⟩ := f.passes (i := k) (by omega) t ht
    exact Fits.climb ht m _ (k + 1) B1 f1 (by omega)
   ·exact ⟨B, f⟩
theorem first_lt {h : Hd} {d : Int} : ∀ (m i : Nat) {j : Nat}, first h d m i = some j → i ≤ j ∧ j < i + m
 | 0, _, _, e => by cases e
 | m + 1, i, j, e => by
   unfold first at e
   split at e
   ·cases e; omega
   ·have := first_lt m (i + 1) e; omega
theorem Fits.lays {S : Vf.Sv} {n : List UInt8} {h : Hd} {B : List UInt8} (f : Fits S.now n h B) (now : Int) (p : Int × Int) : ∃ B', Fits (lays S n h now p).1.now n h B' := by
 unfold Wp.lays
 split
 ·exact ⟨B, f⟩
 ·rename_i hg
  split
  ·exact ⟨B, f⟩
  ·rename_i i e
   have hi := first_lt _ _ e
   split
   ·exact ⟨B, f⟩
   ·exact Fits.climb (by omega) _ _ _ _ (f.write (by omega) p.1 p.2 (by omega)) (by omega)
end Wp
namespace Wh
theorem byt_take {L : List UInt8} {k j : Nat} (h : j < k) : byt (L.take k) j = byt L j := by
 unfold byt
 rw [List.getD_eq_getElem?_getD, List.getD_eq_getElem?_getD, List.getElem?_take_of_lt h]
theorem nm_take {L : List UInt8} {k j : Nat} (h : j + 4 ≤ k) : nm (L.take k) j = nm L j := by
 unfold nm
 rw [byt_take (by omega), byt_take (by omega), byt_take (by omega), byt_take (by omega)]
theorem archs_take {L : List UInt8} {k m : Nat} (h : 16 + 12 * m ≤ k) : archs (L.take k) m = archs L m := by
 unfold archs
 apply List.map_congr_left
 intro i hi
 have := List.mem_range.1 hi
 rw [nm_take (by omega), nm_take (by omega)]
theorem rok_take {L : List UInt8} {k : Nat} (hk : 112 ≤ k) : rok (L.take k) = rok L := by
 have h0 := nm_bd L 12
 unfold rok
 rw [nm_take (j := 12) (by omega), List.length_take, Bool.eq_iff_iff]
 simp only [Bool.and_eq_true, decide_eq_true_eq]
 omega
theorem cand_take {L : List UInt8} {k : Nat} (hk : 112 ≤ k) (h : rok L = true) : cand (L.take k) = cand L := by
 have h0 := nm_bd L 12
 obtain ⟨h1, h2, h3⟩ := rok_t h
 unfold cand
 rw [nm_take (j := 12) (by omega), archs_take (by omega)]
theorem enc_bd (ag xf : Int) (l : List (Int × Int)) : (enc ag xf l).length ≤ 112 := by
 unfold enc
 split
 ·rename_i hv
  obtain ⟨_, _, _, ha⟩ := val_t hv
  obtain ⟨a1, a2, a3, a4, a5⟩ := av_t ha
  rw [fours_len, ints_len]
  omega
 ·simp
theorem dok_take {L : List UInt8} {k : Nat} (hk : 112 ≤ k) : dok (L.take k) = dok L := by
 cases h : rok L
 ·rw [dok_r h, dok_r (by rw [rok_take hk]; exact h)]
 ·have hb := enc_bd (nm L 0) (nm L 8) (cand L)
  unfold dok encL
  rw [rok_take hk, cand_take hk h, nm_take (j := 0) (by omega), nm_take (j := 8) (by omega), List.length_take, List.take_take, Nat.min_eq_left (by omega : (enc (nm L 0) (nm L 8) (cand L)).length ≤ k)]
  congr 1
  rw [Bool.eq_iff_iff]
  simp only [decide_eq_true_eq]
  refine ⟨fun e => ⟨by omega, e.2⟩, fun e => ⟨by omega, e.2⟩⟩
theorem heads_take {L : List UInt8} {k : Nat} (hk : 112 ≤ k) : dag (L.take k) = dag L ∧ dxf (L.take k) = dxf L ∧ dl (L.take k) = dl L ∧ derr (L.take k) = derr L := by
 have e := dok_take (L := L) hk
 cases h : dok L
 ·rw [h] at e
  obtain ⟨a1, a2, a3, a4⟩ := dok_f h
  obtain ⟨b1, b2, b3, b4⟩ := dok_f e
  rw [a1, a2, a3, a4, b1, b2, b3, b4]
  exact ⟨rfl, rfl, rfl, rfl⟩
 ·rw [h] at e
  obtain ⟨a1, a2, a3, a4⟩ := dok_t h
  obtain ⟨b1, b2, b3, b4⟩ := dok_t e
  have hr : rok L = true := by
   cases e : rok L
   ·rw [dok_r e] at h; cases h
   ·rfl
  rw [a1, a2, a3, a4, b1, b2, b3, b4, nm_take (j := 0) (by omega), nm_take (j := 8) (by omega), cand_take hk hr]
  exact ⟨rfl, rfl, rfl, rfl⟩
end Wh
end
end Go.Proofs.YtljlanhpjpjgaaaGreatDoor
