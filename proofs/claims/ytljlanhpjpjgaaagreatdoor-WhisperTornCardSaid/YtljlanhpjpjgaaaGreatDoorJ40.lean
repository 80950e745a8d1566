/- WqWr -/
import Derived.Test.YtljlanhpjpjgaaaGreatDoorJ1
import Derived.Test.YtljlanhpjpjgaaaGreatDoorJ35
import Derived.Test.YtljlanhpjpjgaaaGreatDoorJ33
import Derived.Test.YtljlanhpjpjgaaaGreatDoorJ15
import Derived.Test.YtljlanhpjpjgaaaGreatDoorJ22
namespace Go.Proofs.YtljlanhpjpjgaaaGreatDoor
set_option maxRecDepth 100000
set_option maxHeartbeats 8000000
section
open Go.RowKit Go.Sort
open Fx (Vl)
open Me
open Wp
namespace Wp
structure Gv (w : World) : Prop where
 c0 : w.cell? ⟨0, 0, none⟩ = some (.int .i64 0)
 c1 : w.cell? ⟨0, 1, none⟩ = some (.int .i64 4)
 c2 : w.cell? ⟨0, 2, none⟩ = some (.int .i64 0)
 lt : 0 < w.heap.size
theorem Gv.keep {w w' : World} {V : Nat → Prop} (h : Gv w) (hV : V 0) (k : Kp (fun b => ¬ V b) w w') : Gv w' :=
 ⟨(k.cell (p := ⟨0, 0, none⟩) h.lt (fun o => o hV)).trans h.c0, (k.cell (p := ⟨0, 1, none⟩) h.lt (fun o => o hV)).trans h.c1, (k.cell (p := ⟨0, 2, none⟩) h.lt (fun o => o hV)).trans h.c2, Nat.lt_of_lt_of_le h.lt k.size⟩
theorem Gv.below {w w' : World} (h : Gv w) (k : Below w.heap.size w w') : Gv w' :=
 ⟨(k.cell (p := ⟨0, 0, none⟩) h.lt).trans h.c0, (k.cell (p := ⟨0, 1, none⟩) h.lt).trans h.c1, (k.cell (p := ⟨0, 2, none⟩) h.lt).trans h.c2, Nat.lt_of_lt_of_le h.lt k.size⟩
def rows3 (S : Vf.Sv) (n : List UInt8) (a : Int) (L2 L3 : List UInt8) : Nat → Vf.Sv
 | 0 => S
 | 1 => (Vf.write S n a [0, 0, 0, 0]).1
 | 2 => (Vf.write (Vf.write S n a [0, 0, 0, 0]).1 n (a + 4) L2).1
 | _ => (Vf.write (Vf.write (Vf.write S n a [0, 0, 0, 0]).1 n (a + 4) L2).1 n a L3).1
theorem ps_oneG {g : Nat} {G V : Nat → Prop} {w : World} {v : Value} {L : List UInt8} (h : Bs w G v L) (hg : RowAt w g 45 #[v]) (hV : ∀ i, G i → V i) (hVg : V g) : Vf.Ps w V (.slice (some ⟨g, 0, none⟩) 1 1) [L] := by
 obtain ⟨A, c, e, h1, h2, hr⟩ := h
 refine ⟨some ⟨g, 0, none⟩, 1, [v], rfl, Nat.le_refl _, by unfold maxLen; omega, fun _ => ⟨_, rfl, hg.lt, hVg, fun j u hu => ?_⟩, ⟨[v], [], rfl, ⟨v, rfl, A, c, e, h1, h2, hr.mono fun i _ hb => hV i hb⟩, rfl⟩⟩
 rw [Addr.add_lit, Nat.zero_add, hg.cell]
 simpa using hu
end Wp
theorem write_any7 {w : World} {V : Nat → Prop} {c fs : Nat} {S : Vf.Sv} {n : List UInt8} {h : Hd} {A : Option Addr} {cap : Nat} (ro : PO w V fs c S) (hc : c ≤ 499000) (hg : Gv w) (hV0 : V 0) (hv : h.val = true) (ix : Nat) (hi : ix < h.l.length) (t u : Int) (ht0 : 0 ≤ t) (ht : t ≤ 4294967295) :
 Calls Tryz.prog 74 #[ringV h ix A cap fs n, .agg #[.int .i64 t, .int .i64 u]] w fun e w' => e = .returned (.bool (decide (Sl.al t (h.step ix) ≠ 0))) ∧ PO w' V fs (c + 3) (if Sl.al t (h.step ix) = 0 then S else write S n h ix t u) ∧ Kp (fun b => ¬ V b) w w' := by
 obtain ⟨⟨n1, n2⟩, n3, n4⟩ := Hd.nums hv ix hi
 have hab := Sl.al_bd n1 ht0
 have HAL : Hid (∀ W, Calls Tryz.prog 87 #[.int .i64 t, .int .i64 (h.step ix)] W fun e w' => e = .returned (.int .i64 (Sl.al t (h.step ix))) ∧ W = w') := Lib.hid fun W => align_any t _ (by omega) W
 have HPL : Hid (∀ W, Calls Tryz.prog 104 #[.agg #[.int .i64 (h.step ix), .int .i64 (h.cnt ix)], .int .i64 (Sl.al t (h.step ix))] W fun e w' => e = .returned (.int .i64 (Sl.pl (h.step ix) (h.cnt ix) t)) ∧ Below W.heap.size W w') := Lib.hid fun W => by
  have h := place_any (h.step ix) (h.cnt ix) (Sl.al t (h.step ix)) (by omega) W
  rw [pl_al n1 ht0] at h
  exact h
 have HWS : Hid (∀ W, Calls Tryz.prog 105 #[.agg #[.int .i64 (Sl.al t (h.step ix)), .int .i64 u]] W fun e w' => ∃ v, e = .returned v ∧ Wr3M W.heap.size w' v (Sl.beb u 8) (Sl.beb (Sl.lim (Sl.al t (h.step ix))) 4) ∧ Below W.heap.size W w') := Lib.hid fun W => swrites_anyM _ _ W
 have HQ : Hid (write S n h ix t u = rows3 S n (at_ h ix t) (Sl.beb u 8) (Sl.beb (Sl.lim (Sl.al t (h.step ix))) 4) 3) := Lib.hid rfl
 have HAT : Hid (at_ h ix t = h.offs (ix : Int) + 12 * Sl.pl (h.step ix) (h.cnt ix) t) := Lib.hid rfl
 have hpb := Sl.pl_bd n1 n3 ht0
 have hob := Hd.offs_bd hv (ix : Int)
 have hb8 : (Sl.beb u 8).length = 8 := rfl
 have hb4 : (Sl.beb (Sl.lim (Sl.al t (h.step ix))) 4).length = 4 := rfl
 have HRO := Lib.hid ro
 have HG := Lib.hid hg
 unfold ringV
 clear ro hg
 generalize write S n h ix t u = Q at *
 generalize at_ h ix t = a at *
 generalize Sl.al t (h.step ix) = g at *
 generalize Sl.pl (h.step ix) (h.cnt ix) t = pl at *
 generalize Sl.beb (Sl.lim g) 4 = L3 at *
 generalize Sl.beb u 8 = L2 at *
 generalize h.step ix = s at *
 generalize h.cnt ix = k at *
 generalize h.offs (ix : Int) = of_ at *
 generalize h.l.length = hln at *
 generalize h.ag = ag at *
 generalize h.xf = xf at *
 obtain ⟨m12, hm12⟩ : ∃ m12, 12 * pl = m12 := ⟨_, rfl⟩
 obtain ⟨ad, had⟩ : ∃ ad, of_ + m12 = ad := ⟨_, rfl⟩
 have hw1 : IntKind.i64.wrap m12 = m12 := IntWalk.i64_in _ (by omega)
 have hw2 : IntKind.i64.wrap ad = ad := IntWalk.i64_in _ (by omega)
 have HAD : Hid (a = ad) := Lib.hid (by rw [HAT.out, hm12, had])
 have hadb : 0 ≤ ad ∧ ad ≤ 2300000000 := by omega
 clear HAT
 obtain rfl := HAD.out
 by_cases hg0 : g = 0
 ·have hgz : (g == 0) = true := by simpa using hg0
  obtain ⟨bb, hbb⟩ : ∃ bb, bb = decide (g ≠ 0) := ⟨_, rfl⟩
  have HBB : Hid (bb = false) := Lib.hid (by rw [hbb]; simp [hg0])
  rw [← hbb, if_pos hg0]
  clear hbb hg0
  go_enter Tryz.func74, Tryz.ntmps74
  go_wp2_with (go_at_call 87; ((with_reducible refine (HAL.out _).mono ?_); rintro e w' ⟨rfl, rfl⟩))
  go_ret
  have hB : Below w.heap.size w ((w.alloc (.cells #[.int .i64 s, .int .i64 k, .int .i64 ag, .int .i64 xf, .slice A hln cap, .pointer (some ⟨fs, 0, none⟩), .string ⟨n.toArray⟩, .int .i64 of_] 100)).alloc (.cells #[.int .i64 g, .int .i64 u] 27)) := ((Below.refl _ _).alloc (Nat.le_refl _) _).alloc (by simp) _
  exact ⟨by rw [HBB.out]; rfl, (HRO.out.below hB).more (by omega) (fun _ h => h), Kp.of_below hB⟩
 ·have hgz : (g == 0) = false := by simpa using hg0
  obtain ⟨bb, hbb⟩ : ∃ bb, bb = decide (g ≠ 0) := ⟨_, rfl⟩
  have HBB : Hid (bb = true) := Lib.hid (by rw [hbb]; simp [hg0])
  rw [← hbb, if_neg hg0]
  clear hbb hg0
  go_enter Tryz.func74, Tryz.ntmps74
  go_wp2_with (go_at_call 87; ((with_reducible refine (HAL.out _).mono ?_); rintro e w' ⟨rfl, rfl⟩))
  obtain ⟨X, hXe⟩ : ∃ X, X = (w.alloc (.cells #[.int .i64 s, .int .i64 k, .int .i64 ag, .int .i64 xf, .slice A hln cap, .pointer (some ⟨fs, 0, none⟩), .string ⟨n.toArray⟩, .int .i64 of_] 100)).alloc (.cells #[.int .i64 g, .int .i64 u] 27) := ⟨_, rfl⟩
  have HX : Hid (Below w.heap.size w X) := Lib.hid (by rw [hXe]; exact ((Below.refl _ _).alloc (Nat.le_refl _) _).alloc (by simp) _)
  have HXS : Hid (X.heap.size = w.heap.size + 2) := Lib.hid (by rw [hXe]; simp)
  obtain ⟨p, hp⟩ : ∃ p, p = w.heap.size := ⟨_, rfl⟩
  obtain ⟨q, hq⟩ : ∃ q, q = w.heap.size + 1 := ⟨_, rfl⟩
  have HPQ : Hid (p = w.heap.size ∧ q = w.heap.size + 1) := Lib.hid ⟨hp, hq⟩
  have HRP : Hid (RowAt X p 100 #[.int .i64 s, .int .i64 k, .int .i64 ag, .int .i64 xf, .slice A hln cap, .pointer (some ⟨fs, 0, none⟩), .string ⟨n.toArray⟩, .int .i64 of_]) := Lib.hid (by rw [hXe, hp]; exact (RowAt.new w _ _).alloc _)
  have HRQ : Hid (RowAt X q 27 #[.int .i64 g, .int .i64 u]) := Lib.hid (by rw [hXe, hq]; exact RowAt.new' (by simp))
  rw [← hXe, ← hq, ← hp]
  clear hXe hp hq
  have e0 : X.cell? ⟨p, 0, none⟩ = some (.int .i64 s) := HRP.out.cell 0
  have e1 : X.cell? ⟨p, 1, none⟩ = some (.int .i64 k) := HRP.out.cell 1
  have e7 : X.cell? ⟨p, 7, none⟩ = some (.int .i64 of_) := HRP.out.cell 7
  have f0 : X.cell? ⟨q, 0, none⟩ = some (.int .i64 g) := HRQ.out.cell 0
  have f1 : X.cell? ⟨q, 1, none⟩ = some (.int .i64 u) := HRQ.out.cell 1
  have hpX := HRP.out.lt
  have hqX := HRQ.out.lt
  obtain ⟨kc, kf⟩ := kgrown X
  refine wp_region_quiet_below (by kernel_rfl) (by kernel_rfl) ?_
  repeat (go_big_quiet_step (first
   | (go_at_call 104; exact Calls.regrown_of (HPL.out _))))
  refine wpQuiet_nil ?_
  intro _ hw'
  obtain ⟨⟨dq, osq⟩, hw''⟩ := hw'
  subst hw''
  obtain ⟨wy, hwy⟩ : ∃ wy, wy = Go.Sort.grow (redrawn X dq) osq := ⟨_, rfl⟩
  have hBy : Below X.heap.size X wy := by rw [hwy]; exact below_regrown _ _ _
  rw [← hwy]
  have g0 : wy.cell? ⟨q, 0, none⟩ = some (.int .i64 g) := (hBy.cell (p := ⟨q, 0, none⟩) hqX).trans f0
  have g1 : wy.cell? ⟨q, 1, none⟩ = some (.int .i64 u) := (hBy.cell (p := ⟨q, 1, none⟩) hqX).trans f1
  have hsy := hBy.size
  have HBY : Hid (Below w.heap.size w wy) := Lib.hid (HX.out.trans (hBy.mono HX.out.size))
  have HRPy := Lib.hid (HRP.out.below hBy hpX)
  have HSY : Hid (w.heap.size + 2 ≤ wy.heap.size) := Lib.hid (by have := HXS.out; omega)
  clear hBy hwy e0 e1 e7 f0 f1 kc kf hqX hpX hsy
  go_wp2_with (go_at_call 105; (with_reducible refine (HWS.out _).mono ?_); rintro e w2 ⟨v2, rfl, hw3, hb2⟩; have hbb : Below w.heap.size w w2 := HBY.out.trans (hb2.mono HBY.out.size); have HB2 := Lib.hid hbb; have hs2 := hb2.size; have HRP2 := Lib.hid (HRPy.out.below hb2 HRPy.out.lt); obtain ⟨pr, v1, v2', v3, rfl, hp, hrow, hr1, hr2, hr3⟩ := hw3; have HROW := Lib.hid hrow; have HR1 := Lib.hid hr1; have HR2 := Lib.hid hr2; have HR3 := Lib.hid hr3; obtain ⟨A1, n1, q1, rfl⟩ : ∃ A n q, v1 = .slice A n q := (by obtain ⟨A, c, e, _⟩ := hr1; exact ⟨A, _, c, e⟩); obtain ⟨A2, n2, q2, rfl⟩ : ∃ A n q, v2' = .slice A n q := (by obtain ⟨A, c, e, _⟩ := hr2; exact ⟨A, _, c, e⟩); obtain ⟨A3, n3, q3, rfl⟩ : ∃ A n q, v3 = .slice A n q := (by obtain ⟨A, c, e, _⟩ := hr3; exact ⟨A, _, c, e⟩); clear hb2 hbb hrow hr1 hr2 hr3)
  obtain ⟨V', hV'⟩ : ∃ V' : Nat → Prop, ∀ i, V' i ↔ (V i ∨ (w.heap.size ≤ i ∧ i < w2.heap.size)) := ⟨_, fun _ => Iff.rfl⟩
  have HV := Lib.hid hV'
  have HRO2 : Hid (PO w2 V' fs c S) := Lib.hid (HRO.out.add HB2.out fun i hi => (hV' i).1 hi)
  have hpl := HROW.out.lt
  have HVp : Hid (V' p ∧ V' pr ∧ V' 0 ∧ ∀ i, wy.heap.size ≤ i → i < w2.heap.size → V' i) := Lib.hid ⟨(hV' p).2 (.inr (by have := HPQ.out.1; have := HSY.out; omega)), (hV' pr).2 (.inr (by have := HSY.out; omega)), (hV' 0).2 (.inl hV0), fun i h1 h2 => (hV' i).2 (.inr ⟨by have := HSY.out; omega, h2⟩)⟩
  have HG2 := Lib.hid (HG.out.below HB2.out)
  have HT1 : Hid (Bs w2 (fun i => wy.heap.size ≤ i ∧ i < w2.heap.size) (.slice A1 n1 q1) [0, 0, 0, 0]) := Lib.hid (Bs.mono HR1.out fun i hi hb => ⟨hb, hi⟩)
  have HT2 : Hid (Bs w2 (fun i => wy.heap.size ≤ i ∧ i < w2.heap.size) (.slice A2 n2 q2) L2) := Lib.hid (Bs.mono HR2.out fun i hi hb => ⟨hb, hi⟩)
  have HT3 : Hid (Bs w2 (fun i => wy.heap.size ≤ i ∧ i < w2.heap.size) (.slice A3 n3 q3) L3) := Lib.hid (Bs.mono HR3.out fun i hi hb => ⟨hb, hi⟩)
  have HF : Hid (∀ W, Kp (fun b => ¬ V' b) w2 W → (W.cell? ⟨p, 5, none⟩ = some (.pointer (some ⟨fs, 0, none⟩)) ∧ W.cell? ⟨p, 6, none⟩ = some (.string ⟨n.toArray⟩)) ∧ (W.cell? ⟨pr, 0, none⟩ = some (.slice A1 n1 q1) ∧ W.cell? ⟨pr, 1, none⟩ = some (.slice A2 n2 q2) ∧ W.cell? ⟨pr, 2, none⟩ = some (.slice A3 n3 q3)) ∧ Gv W ∧ p < W.heap.size ∧ pr < W.heap.size) := Lib.hid fun W hk =>
   have k1 : RowAt W p 100 #[.int .i64 s, .int .i64 k, .int .i64 ag, .int .i64 xf, .slice A hln cap, .pointer (some ⟨fs, 0, none⟩), .string ⟨n.toArray⟩, .int .i64 of_] := (hk.block p HRP2.out.lt (fun o => o HVp.out.1)).trans HRP2.out
   have k2 : RowAt W pr 45 #[.slice A1 n1 q1, .slice A2 n2 q2, .slice A3 n3 q3] := (hk.block pr HROW.out.lt (fun o => o HVp.out.2.1)).trans HROW.out
   ⟨⟨k1.cell 5, k1.cell 6⟩, ⟨k2.cell 0, k2.cell 1, k2.cell 2⟩, HG2.out.keep HVp.out.2.2.1 hk, k1.lt, k2.lt⟩
  clear hV' g0 g1 hp hs2 hpl
  go_wp2_with fail
  go_loopw [6, 7, 30] (fun _ _ x wr => ∃ kk : Nat, kk ≤ 3 ∧ x = .int .i64 kk ∧ Hid (PO wr V' fs (c + kk) (rows3 S n a L2 L3 kk)) ∧ Hid (Kp (fun b => ¬ V' b) w2 wr)) (fun _ _ x _ => 3 - (intOf x).toNat)
  case atStart => exact ⟨0, by omega, rfl, HRO2, Lib.hid (Kp.refl _ _)⟩
  case round =>
   obtain ⟨kk, hkk, rfl, HROk, HKk⟩ := hrel
   obtain ⟨⟨k5, k6⟩, ⟨r0, r1, r2⟩, ⟨o0, o1, o2, ol⟩, hpw, hprw⟩ := HF.out wr HKk.out
   have HFIN : Hid (∀ W, PO W V' fs (c + 3) (rows3 S n a L2 L3 3) → Kp (fun b => ¬ V' b) w2 W → PO W V fs (c + 3) Q ∧ Kp (fun b => ¬ V b) w W) := Lib.hid fun W h1 h2 => ⟨by rw [HQ.out]; exact h1.more (Nat.le_refl _) (fun i hi => (HV.out i).2 (.inl hi)), (Kp.of_below HB2.out).trans (h2.mono (fun i _ ho hv => ho ((HV.out i).2 (.inl hv)))) (fun _ _ h => h)⟩
   have hcase : kk = 0 ∨ kk = 1 ∨ kk = 2 ∨ kk = 3 := by omega
   rcases hcase with rfl | rfl | rfl | rfl
   ·have HWk : Hid (∀ W b0, Below wr.heap.size wr W → wr.heap.size ≤ b0 → RowAt W b0 45 #[.slice A1 n1 q1] → Calls Tryz.prog 40 #[.pointer (some ⟨fs, 0, none⟩), .string ⟨n.toArray⟩, .int .i64 a, .slice (some ⟨b0, 0, none⟩) 1 1] W fun e w' => ∃ r, e = .returned (.int .i64 r) ∧ PO w' V' fs (c + 0 + 1) (rows3 S n a L2 L3 1) ∧ Kp (fun b => ¬ V' b) wr w') := Lib.hid fun W b0 hb hb0 hg => by
     have hW := hb.size
     obtain ⟨V2, hV2⟩ : ∃ V2 : Nat → Prop, ∀ i, V2 i ↔ (V' i ∨ (wr.heap.size ≤ i ∧ i < W.heap.size)) := ⟨_, fun _ => Iff.rfl⟩
     have hro2 : PO W V2 fs (c + 0) (rows3 S n a L2 L3 0) := HROk.out.add hb fun i hi => (hV2 i).1 hi
     have hbt : Bs W (fun i => wy.heap.size ≤ i ∧ i < w2.heap.size) (.slice A1 n1 q1) [0, 0, 0, 0] := ((HT1.out.keep HKk.out.size (fun i hi hb => HKk.out.block i hi (fun o => o (HVp.out.2.2.2 i hb.1 hb.2)))).keep hb.size (fun i hi _ => hb.block i hi))
     have hsub : ∀ i, V' i → V2 i := fun i hi => (hV2 i).2 (.inl hi)
     have h := powrite hro2 (by omega) n a (by omega) [[0, 0, 0, 0]] _ (ps_oneG hbt hg (fun i hb => hsub i (HVp.out.2.2.2 i hb.1 hb.2)) ((hV2 b0).2 (.inr ⟨hb0, hg.lt⟩))) (by simp) (by rw [one_flat]; simp)
     rw [one_flat] at h
     exact h.mono fun e w' ⟨h1, h2, h3⟩ => ⟨_, h1, h2.more (Nat.le_refl _) hsub, (Kp.of_below hb).trans (h3.mono fun i _ ho hv => ho (hsub i hv)) (fun _ _ h => h)⟩
    have hk1 : ((0 : Nat) : Int) < 3 := by omega
    go_wp2_with fail
    go_region_held3 (fun W => W.cell? ⟨p, 5, none⟩ = some (.pointer (some ⟨fs, 0, none⟩)) ∧ W.cell? ⟨p, 6, none⟩ = some (.string ⟨n.toArray⟩) ∧ W.cell? ⟨0, 0, none⟩ = some (.int .i64 0)) (first | exact ⟨k5, k6, o0⟩ | exact ⟨y5, y6, yo⟩ | go_keep)
     (first | (go_at_call 40; (with_reducible refine (HWk.out _ _ Bqn (by simp) (by first | exact RowAt.new _ _ _ | exact (RowAt.new _ _ _).drew | exact (RowAt.new _ _ _).drewN _)).mono ?_); rintro e w3 ⟨r1x, rfl, ro1, hk1x⟩; have hkk3 : Kp (fun b => ¬ V' b) w2 w3 := HKk.out.trans hk1x (fun _ _ h => h); have HK3 := Lib.hid hkk3; have HRO3 := Lib.hid ro1; obtain ⟨⟨y5, y6⟩, _, ⟨z0, z1, z2, _⟩, yp, ypr⟩ := HF.out w3 hkk3; have yo := z0; clear hk1x hkk3 ro1))
    go_wp2_with fail
    go_roundw
    case rel => exact ⟨1, by omega, by go_num, HRO3, HK3⟩
    case measure => simp [intOf]
   ·obtain ⟨a4, ha4⟩ : ∃ a4, a + 4 = a4 := ⟨_, rfl⟩
    have hw4 : IntKind.i64.wrap a4 = a4 := IntWalk.i64_in _ (by omega)
    have HWk : Hid (∀ W b0, Below wr.heap.size wr W → wr.heap.size ≤ b0 → RowAt W b0 45 #[.slice A2 n2 q2] → Calls Tryz.prog 40 #[.pointer (some ⟨fs, 0, none⟩), .string ⟨n.toArray⟩, .int .i64 a4, .slice (some ⟨b0, 0, none⟩) 1 1] W fun e w' => ∃ r, e = .returned (.int .i64 r) ∧ PO w' V' fs (c + 1 + 1) (rows3 S n a L2 L3 2) ∧ Kp (fun b => ¬ V' b) wr w') := Lib.hid fun W b0 hb hb0 hg => by
     have hW := hb.size
     obtain ⟨V2, hV2⟩ : ∃ V2 : Nat → Prop, ∀ i, V2 i ↔ (V' i ∨ (wr.heap.size ≤ i ∧ i < W.heap.size)) := ⟨_, fun _ => Iff.rfl⟩
     have hro2 : PO W V2 fs (c + 1) (rows3 S n a L2 L3 1) := HROk.out.add hb fun i hi => (hV2 i).1 hi
     have hbt : Bs W (fun i => wy.heap.size ≤ i ∧ i < w2.heap.size) (.slice A2 n2 q2) L2 := ((HT2.out.keep HKk.out.size (fun i hi hb => HKk.out.block i hi (fun o => o (HVp.out.2.2.2 i hb.1 hb.2)))).keep hb.size (fun i hi _ => hb.block i hi))
     have hsub : ∀ i, V' i → V2 i := fun i hi => (hV2 i).2 (.inl hi)
     have h := powrite hro2 (by omega) n (a + 4) (by omega) [L2] _ (ps_oneG hbt hg (fun i hb => hsub i (HVp.out.2.2.2 i hb.1 hb.2)) ((hV2 b0).2 (.inr ⟨hb0, hg.lt⟩))) (by simp) (by rw [one_flat]; omega)
     rw [one_flat] at h
     rw [ha4] at h
     exact h.mono fun e w' ⟨h1, h2, h3⟩ => ⟨_, h1, (show PO w' _ fs (c + 1 + 1) (Vf.write (rows3 S n a L2 L3 1) n (a + 4) L2).1 by rw [ha4]; exact h2).more (Nat.le_refl _) hsub, (Kp.of_below hb).trans (h3.mono fun i _ ho hv => ho (hsub i hv)) (fun _ _ h => h)⟩
    have hk1 : ((1 : Nat) : Int) < 3 := by omega
    go_wp2_with fail
    go_region_held3 (fun W => W.cell? ⟨p, 5, none⟩ = some (.pointer (some ⟨fs, 0, none⟩)) ∧ W.cell? ⟨p, 6, none⟩ = some (.string ⟨n.toArray⟩) ∧ W.cell? ⟨0, 1, none⟩ = some (.int .i64 4)) (first | exact ⟨k5, k6, o1⟩ | exact ⟨y5, y6, yo⟩ | go_keep)
     (first | (go_at_call 40; (with_reducible refine (HWk.out _ _ Bqn (by simp) (by first | exact RowAt.new _ _ _ | exact (RowAt.new _ _ _).drew | exact (RowAt.new _ _ _).drewN _)).mono ?_); rintro e w3 ⟨r1x, rfl, ro1, hk1x⟩; have hkk3 : Kp (fun b => ¬ V' b) w2 w3 := HKk.out.trans hk1x (fun _ _ h => h); have HK3 := Lib.hid hkk3; have HRO3 := Lib.hid ro1; obtain ⟨⟨y5, y6⟩, _, ⟨z0, z1, z2, _⟩, yp, ypr⟩ := HF.out w3 hkk3; have yo := z1; clear hk1x hkk3 ro1))
    go_wp2_with fail
    go_roundw
    case rel => exact ⟨2, by omega, by go_num, HRO3, HK3⟩
    case measure => simp [intOf]
   ·have HWk : Hid (∀ W b0, Below wr.heap.size wr W → wr.heap.size ≤ b0 → RowAt W b0 45 #[.slice A3 n3 q3] → Calls Tryz.prog 40 #[.pointer (some ⟨fs, 0, none⟩), .string ⟨n.toArray⟩, .int .i64 a, .slice (some ⟨b0, 0, none⟩) 1 1] W fun e w' => ∃ r, e = .returned (.int .i64 r) ∧ PO w' V' fs (c + 2 + 1) (rows3 S n a L2 L3 3) ∧ Kp (fun b => ¬ V' b) wr w') := Lib.hid fun W b0 hb hb0 hg => by
     have hW := hb.size
     obtain ⟨V2, hV2⟩ : ∃ V2 : Nat → Prop, ∀ i, V2 i ↔ (V' i ∨ (wr.heap.size ≤ i ∧ i < W.heap.size)) := ⟨_, fun _ => Iff.rfl⟩
     have hro2 : PO W V2 fs (c + 2) (rows3 S n a L2 L3 2) := HROk.out.add hb fun i hi => (hV2 i).1 hi
     have hbt : Bs W (fun i => wy.heap.size ≤ i ∧ i < w2.heap.size) (.slice A3 n3 q3) L3 := ((HT3.out.keep HKk.out.size (fun i hi hb => HKk.out.block i hi (fun o => o (HVp.out.2.2.2 i hb.1 hb.2)))).keep hb.size (fun i hi _ => hb.block i hi))
     have hsub : ∀ i, V' i → V2 i := fun i hi => (hV2 i).2 (.inl hi)
     have h := powrite hro2 (by omega) n a (by omega) [L3] _ (ps_oneG hbt hg (fun i hb => hsub i (HVp.out.2.2.2 i hb.1 hb.2)) ((hV2 b0).2 (.inr ⟨hb0, hg.lt⟩))) (by simp) (by rw [one_flat]; omega)
     rw [one_flat] at h
     exact h.mono fun e w' ⟨h1, h2, h3⟩ => ⟨_, h1, h2.more (Nat.le_refl _) hsub, (Kp.of_below hb).trans (h3.mono fun i _ ho hv => ho (hsub i hv)) (fun _ _ h => h)⟩
    have hk1 : ((2 : Nat) : Int) < 3 := by omega
    go_wp2_with fail
    go_region_held3 (fun W => W.cell? ⟨p, 5, none⟩ = some (.pointer (some ⟨fs, 0, none⟩)) ∧ W.cell? ⟨p, 6, none⟩ = some (.string ⟨n.toArray⟩) ∧ W.cell? ⟨0, 2, none⟩ = some (.int .i64 0)) (first | exact ⟨k5, k6, o2⟩ | exact ⟨y5, y6, yo⟩ | go_keep)
     (first | (go_at_call 40; (with_reducible refine (HWk.out _ _ Bqn (by simp) (by first | exact RowAt.new _ _ _ | exact (RowAt.new _ _ _).drew | exact (RowAt.new _ _ _).drewN _)).mono ?_); rintro e w3 ⟨r1x, rfl, ro1, hk1x⟩; have hkk3 : Kp (fun b => ¬ V' b) w2 w3 := HKk.out.trans hk1x (fun _ _ h => h); have HK3 := Lib.hid hkk3; have HRO3 := Lib.hid ro1; obtain ⟨⟨y5, y6⟩, _, ⟨z0, z1, z2, _⟩, yp, ypr⟩ := HF.out w3 hkk3; have yo := z2; clear hk1x hkk3 ro1))
    go_wp2_with fail
    go_roundw
    case rel => exact ⟨3, by omega, by go_num, HRO3, HK3⟩
    case measure => simp [intOf]
   ·go_wp2_with fail
    go_ret
    exact ⟨by rw [HBB.out]; rfl, HFIN.out _ HROk.out HKk.out⟩
end
end Go.Proofs.YtljlanhpjpjgaaaGreatDoor
