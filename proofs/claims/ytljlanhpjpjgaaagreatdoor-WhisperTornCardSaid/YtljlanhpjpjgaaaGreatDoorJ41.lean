/- WqSt -/
import Derived.Test.YtljlanhpjpjgaaaGreatDoorJ1
import Derived.Test.YtljlanhpjpjgaaaGreatDoorJ39
import Derived.Test.YtljlanhpjpjgaaaGreatDoorJ40
import Derived.Test.YtljlanhpjpjgaaaGreatDoorJ29
import Derived.Test.YtljlanhpjpjgaaaGreatDoorJ34
namespace Go.Proofs.YtljlanhpjpjgaaaGreatDoor
set_option maxRecDepth 100000
set_option maxHeartbeats 8000000
section
open Go.RowKit Go.Sort
open Fx (Vl)
open Me
open Wp
namespace Wp
theorem fnd_none {h : Hd} {d : Int} (e : first h d h.l.length 0 = none) : find h d = -1 := by unfold find; rw [e]
theorem fnd_some {h : Hd} {d : Int} {i : Nat} (e : first h d h.l.length 0 = some i) : find h d = (i : Int) := by unfold find; rw [e]
theorem passes_eq {S : Vf.Sv} {n : List UInt8} {h : Hd} {i : Nat} {t : Int} {v : Vl} (e : Ag.put h.ag h.xf (vals S.now n h i t (many h i)) = v) : passes S n h i t = if v.ok = false ∨ Sl.al t (h.step (i + 1)) = 0 then (S, false) else (write S n h (i + 1) t v.n, true) := by unfold passes; dsimp only; rw [e]
end Wp
theorem store_any {w : World} {V : Nat → Prop} {c fs : Nat} {S : Vf.Sv} {n : List UInt8} {h : Hd} {B : List UInt8} {A : Option Addr} {cap : Nat} (ro : PO w V fs c S) (hc : c ≤ 498000) (hg : Gv w) (hV0 : V 0) (f : Fits S.now n h B) (hr : Row w A h.l cap) (hA : ∀ a, A = some a → V a.block) (now : Int) (hn1 : 1 ≤ now) (hn2 : now ≤ 4294967295) (pa pn : Int) :
 Calls Tryz.prog 34 #[fileV h A cap fs n, .int .i64 now, .agg #[.int .i64 pa, .int .i64 pn]] w fun e w' => e = .returned (.bool (lays S n h now (pa, pn)).2) ∧ PO w' V fs (c + 27) (lays S n h now (pa, pn)).1 ∧ Kp (fun b => ¬ V b) w w' := by
 have hfd : ∀ (W : World) (b : Bool) (m : Int), (Instr.field 110 (.agg #[.bool b, .int .i64 m]) 0).run Tryz.prog W = .ok (.bool b) W := fun _ _ _ => by kernel_rfl
 have hv := f.val
 have hlen := Hd.len hv
 have HOF : Hid (∀ W, Calls Tryz.prog 72 #[.int .i64 pn] W fun e w' => e = .returned (.agg #[.bool (Fx.of pn).ok, .int .i64 (Fx.of pn).n]) ∧ Below W.heap.size W w') := Lib.hid fun W => of_any pn W
 have HRO := Lib.hid ro
 have HG := Lib.hid hg
 have HFI := Lib.hid f
 have HROW := Lib.hid hr
 have bad : Hid (pa < 1 ∨ now < pa ∨ Fx.inR pn = false → ∀ W, Below w.heap.size w W → .bool false = Value.bool (lays S n h now (pa, pn)).2 ∧ PO W V fs (c + 27) (lays S n h now (pa, pn)).1 ∧ Kp (fun b => ¬ V b) w W) := Lib.hid fun e W hb => by
  rw [lays_bad (p := (pa, pn)) e]
  exact ⟨rfl, (ro.below hb).more (by omega) (fun _ h => h), Kp.of_below hb⟩
 have HCV : Hid (∀ W, Below w.heap.size w W → 1 ≤ pa → Calls Tryz.prog 73 #[fileV h A cap fs n, .int .i64 now, .int .i64 pa] W fun e w' => e = .returned (.int .i64 (if pa ≤ now then find h (now - pa) else -1)) ∧ Below W.heap.size W w') := Lib.hid fun W hb h1 => covering_any (hr.below hb) hv now pa (now - pa) h1 hn2 rfl
 clear ro hg f hr
 unfold fileV
 obtain ⟨nb, hnb⟩ : ∃ nb : ByteArray, nb = ⟨n.toArray⟩ := ⟨_, rfl⟩
 obtain ⟨hln, hN⟩ : ∃ N, N = h.l.length := ⟨_, rfl⟩
 obtain ⟨ag, hag⟩ : ∃ a, a = h.ag := ⟨_, rfl⟩
 obtain ⟨xf, hxf⟩ : ∃ a, a = h.xf := ⟨_, rfl⟩
 have HFV : Hid (fileV h A cap fs n = .agg #[.int .i64 ag, .int .i64 xf, .slice A hln cap, .pointer (some ⟨fs, 0, none⟩), .string nb]) := Lib.hid (by rw [hnb, hN, hag, hxf]; rfl)
 rw [HFV.out] at HCV
 have HNN := Lib.hid hN
 rw [← hnb, ← hN, ← hag, ← hxf]
 rw [← hN] at hlen
 clear hnb hN hag hxf
 have hX : Below w.heap.size w ((w.alloc (.cells #[.int .i64 ag, .int .i64 xf, .slice A hln cap, .pointer (some ⟨fs, 0, none⟩), .string nb] 84)).alloc (.cells #[.int .i64 pa, .int .i64 pn] 27)) := ((Below.refl _ _).alloc (Nat.le_refl _) _).alloc (by simp) _
 by_cases k1 : pa < 1
 ·have HB := Lib.hid (bad.out (.inl k1))
  clear bad
  go_enter Tryz.func34, Tryz.ntmps34
  go_wp2_with fail
  go_ret
  obtain ⟨e1, e2, e3⟩ := HB.out _ hX
  exact ⟨by rw [← e1]; rfl, e2, e3⟩
 have k1' : 1 ≤ pa := by omega
 cases k3 : Fx.inR pn
 ·have HB := Lib.hid (bad.out (.inr (.inr k3)))
  have HOV : Hid (Fx.of pn = Fx.none) := Lib.hid (by unfold Fx.of; rw [k3]; rfl)
  rw [HOV.out] at HOF
  have HOF' : Hid (∀ W, Calls Tryz.prog 72 #[.int .i64 pn] W fun e w' => e = .returned (.agg #[.bool false, .int .i64 0]) ∧ Below W.heap.size W w') := Lib.hid fun W => HOF.out W
  clear bad k3 HOF
  go_enter Tryz.func34, Tryz.ntmps34
  go_wp2_with (go_at_call 72; ((with_reducible refine (HOF'.out _).mono ?_); rintro e w2 ⟨rfl, hb2⟩; have HB2 : Hid (Below w.heap.size w w2) := Lib.hid (hX.trans (hb2.mono hX.size)); clear hb2))
  go_ret
  obtain ⟨e1, e2, e3⟩ := HB.out _ HB2.out
  exact ⟨by rw [← e1]; rfl, e2, e3⟩
 have HOV : Hid (Fx.of pn = ⟨true, pn⟩) := Lib.hid (by unfold Fx.of; rw [k3]; rfl)
 rw [HOV.out] at HOF
 have HOF' : Hid (∀ W, Calls Tryz.prog 72 #[.int .i64 pn] W fun e w' => e = .returned (.agg #[.bool true, .int .i64 pn]) ∧ Below W.heap.size W w') := Lib.hid fun W => HOF.out W
 clear HOF
 have HCV' := Lib.hid fun W hb => HCV.out W hb k1'
 obtain ⟨X, hXe⟩ : ∃ X, X = (w.alloc (.cells #[.int .i64 ag, .int .i64 xf, .slice A hln cap, .pointer (some ⟨fs, 0, none⟩), .string nb] 84)).alloc (.cells #[.int .i64 pa, .int .i64 pn] 27) := ⟨_, rfl⟩
 have HX : Hid (Below w.heap.size w X) := Lib.hid (by rw [hXe]; exact hX)
 have HXS : Hid (X.heap.size = w.heap.size + 2) := Lib.hid (by rw [hXe]; simp)
 obtain ⟨p, hp⟩ : ∃ p, p = w.heap.size := ⟨_, rfl⟩
 obtain ⟨q, hq⟩ : ∃ q, q = w.heap.size + 1 := ⟨_, rfl⟩
 have HPQ : Hid (p = w.heap.size ∧ q = w.heap.size + 1) := Lib.hid ⟨hp, hq⟩
 have HRP : Hid (RowAt X p 84 #[.int .i64 ag, .int .i64 xf, .slice A hln cap, .pointer (some ⟨fs, 0, none⟩), .string nb]) := Lib.hid (by rw [hXe, hp]; exact (RowAt.new w _ _).alloc _)
 have HRQ : Hid (RowAt X q 27 #[.int .i64 pa, .int .i64 pn]) := Lib.hid (by rw [hXe, hq]; exact RowAt.new' (by simp))
 have HXE := Lib.hid hXe
 have hpXX : p < X.heap.size := HRP.out.lt
 have hqXX : q < X.heap.size := HRQ.out.lt
 clear hXe hp hq hX
 obtain ⟨u, hu⟩ : ∃ u, u = if pa ≤ now then find h (now - pa) else -1 := ⟨_, rfl⟩
 have HU := Lib.hid hu
 rw [← hu] at HCV'
 clear hu
 by_cases hcov : pa ≤ now ∧ ∃ i, first h (now - pa) h.l.length 0 = some i
 ·obtain ⟨hle, i0, hf0⟩ := hcov
  have hi0 : i0 < hln := by have := first_lt _ _ hf0; have := HNN.out; omega
  have HU2 : Hid (u = (i0 : Int)) := Lib.hid (by rw [HU.out, if_pos hle, fnd_some hf0])
  have hgood : ¬ (pa < 1 ∨ now < pa ∨ Fx.inR pn = false) := by rintro (e | e | e); exact k1 e; omega; rw [k3] at e; cases e
  have HF0 : Hid (¬ (pa < 1 ∨ now < pa ∨ Fx.inR pn = false) ∧ first h (now - (pa, pn).1) h.l.length 0 = some i0) := Lib.hid ⟨hgood, hf0⟩
  clear bad k3 hgood hf0 HCV k1
  rw [HU2.out] at HCV'
  obtain ⟨rv, hrv⟩ : ∃ rv : Nat → Value, ∀ i, rv i = ringV h i A cap fs n := ⟨_, fun _ => rfl⟩
  have HRV := Lib.hid hrv
  obtain ⟨V', hV'⟩ : ∃ V' : Nat → Prop, ∀ i, V' i ↔ (V i ∨ i = p ∨ i = q) := ⟨_, fun _ => Iff.rfl⟩
  have HV := Lib.hid hV'
  have HVP : Hid (V' p ∧ V' q ∧ V' 0 ∧ ∀ a, A = some a → V' a.block) := Lib.hid ⟨(hV' p).2 (.inr (.inl rfl)), (hV' q).2 (.inr (.inr rfl)), (hV' 0).2 (.inl hV0), fun a e => (hV' _).2 (.inl (hA a e))⟩
  have HROX : Hid (PO X V' fs c S) := Lib.hid (HRO.out.add HX.out fun i hi => by
   rcases (hV' i).1 hi with h | rfl | rfl
   ·exact .inl h
   ·have := HPQ.out.1; exact .inr ⟨by omega, hpXX⟩
   ·have := HPQ.out.2; exact .inr ⟨by omega, hqXX⟩)
  have HOUT : Hid (∀ W S', PO W V' fs (c + 27) S' → Kp (fun b => ¬ V' b) X W → PO W V fs (c + 27) S' ∧ Kp (fun b => ¬ V b) w W) := Lib.hid fun W S' h1 h2 => ⟨h1.more (Nat.le_refl _) (fun i hi => (hV' i).2 (.inl hi)), (Kp.of_below HX.out).trans (h2.mono (fun i _ ho hv => ho ((hV' i).2 (.inl hv)))) (fun _ _ h => h)⟩
  have HK : Hid (∀ W, Kp (fun b => ¬ V' b) X W → RowAt W p 84 #[.int .i64 ag, .int .i64 xf, .slice A hln cap, .pointer (some ⟨fs, 0, none⟩), .string nb] ∧ RowAt W q 27 #[.int .i64 pa, .int .i64 pn] ∧ Row W A h.l cap ∧ Gv W) := Lib.hid fun W hk => by
   have hrX := HROW.out.below HX.out
   refine ⟨(hk.block p hpXX (fun o => o HVP.out.1)).trans HRP.out, (hk.block q hqXX (fun o => o HVP.out.2.1)).trans HRQ.out, row_kept hrX fun a e => hk.block _ ?_ (fun o => o (HVP.out.2.2.2 a e)), (HG.out.below HX.out).keep HVP.out.2.2.1 hk⟩
   obtain ⟨b, off, e2, ha⟩ := hrX.2 (by have := HNN.out; omega)
   rw [e] at e2
   cases e2
   exact ha.lt
  have HRGx : Hid (∀ (i : Nat) W, i < hln → Kp (fun b => ¬ V' b) X W → Calls Tryz.prog 42 #[.agg #[.int .i64 ag, .int .i64 xf, .slice A hln cap, .pointer (some ⟨fs, 0, none⟩), .string nb], .int .i64 (i : Int)] W fun e w' => e = .returned (rv i) ∧ Below W.heap.size W w') := Lib.hid fun i W hi hk => by
   have h := ring_any (fs := fs) (n := n) (HK.out W hk).2.2.1 hv i (by rw [← HNN.out]; exact hi)
   rw [HFV.out, ← hrv i] at h
   exact h
  have HWTx : Hid (∀ (i : Nat) W d T u, i < hln → d ≤ c + 24 → PO W V' fs d T → Kp (fun b => ¬ V' b) X W → Calls Tryz.prog 74 #[rv i, .agg #[.int .i64 pa, .int .i64 u]] W fun e w' => e = .returned (.bool (decide (Sl.al pa (h.step i) ≠ 0))) ∧ PO w' V' fs (d + 3) (if Sl.al pa (h.step i) = 0 then T else write T n h i pa u) ∧ Kp (fun b => ¬ V' b) W w') := Lib.hid fun i W d T u hi hd hp hk => by
   have h := write_any7 (n := n) (A := A) (cap := cap) hp (by omega) (HK.out W hk).2.2.2 HVP.out.2.2.1 hv i (by rw [← HNN.out]; exact hi) pa u (by omega) (by omega)
   rw [← hrv i] at h
   exact h
  have HTGx : Hid (∀ (ix jx : Nat) W d T BB, jx = ix + 1 → jx < hln → PO W V' fs d T → Fits T.now n h BB → Kp (fun b => ¬ V' b) X W → Calls Tryz.prog 75 #[.agg #[.int .i64 ag, .int .i64 xf, .slice A hln cap, .pointer (some ⟨fs, 0, none⟩), .string nb], .int .i64 (jx : Int), .int .i64 pa] W fun e w' => e = .returned (.agg #[.bool (Ag.put h.ag h.xf (vals T.now n h ix pa (many h ix))).ok, .int .i64 (Ag.put h.ag h.xf (vals T.now n h ix pa (many h ix))).n]) ∧ Below W.heap.size W w') := Lib.hid fun ix jx W d T BB hij hj hp hf hk => by
   have h := together_any (cap := cap) hp hf (HK.out W hk).2.2.1 ix jx hij (by rw [← HNN.out]; exact hj) pa (by omega) (by omega)
   rw [HFV.out] at h
   exact h
  have HAL0 : Hid (Sl.al pa (h.step i0) = 0 → lays S n h now (pa, pn) = (S, false)) := Lib.hid fun e => lays_zero (p := (pa, pn)) HF0.out.1 HF0.out.2 e
  have HAL1 : Hid (¬ Sl.al pa (h.step i0) = 0 → lays S n h now (pa, pn) = (climb n h pa (hln - 1 - i0) (write S n h i0 pa pn) i0, true)) := Lib.hid fun e => by rw [lays_yes (p := (pa, pn)) HF0.out.1 HF0.out.2 e, HNN.out]
  have HFI1 : Hid (Fits (write S n h i0 pa pn).now n h (put B (at_ h i0 pa).toNat (Sl.al pa (h.step i0)) pn)) := Lib.hid (HFI.out.write (by rw [← HNN.out]; exact hi0) pa pn (by omega))
  clear hrv hV' hA
  obtain ⟨S1, hS1⟩ : ∃ S1, write S n h i0 pa pn = S1 := ⟨_, rfl⟩
  have HS1 := Lib.hid hS1
  rw [hS1] at HAL1 HFI1
  clear hS1
  go_enter Tryz.func34, Tryz.ntmps34
  go_wp2_with first
   | (go_at_call 72; (with_reducible refine (HOF'.out _).mono ?_); rintro e w2 ⟨rfl, hb2⟩; have hbx : Below X.heap.size X w2 := (by rw [HXE.out]; exact hb2); have HB2 := Lib.hid hbx; have hrp := HRP.out.below hbx HRP.out.lt; have hrq := HRQ.out.below hbx HRQ.out.lt; have y0 := hrp.cell 0; have y1 := hrp.cell 1; have y2 := hrp.cell 2; have y3 := hrp.cell 3; have y4 := hrp.cell 4; have z0 := hrq.cell 0; have z1 := hrq.cell 1; have hpl := hrp.lt; have hql := hrq.lt; simp only [List.getElem?_toArray, List.getElem?_cons_succ, List.getElem?_cons_zero] at y0 y1 y2 y3 y4 z0 z1; rw [HPQ.out.1] at y0 y1 y2 y3 y4 hpl; rw [HPQ.out.2] at z0 z1 hql; clear hb2 hbx hrp hrq)
   | (go_at_call 73; (with_reducible refine (HCV'.out w2 (HX.out.trans (HB2.out.mono HX.out.size))).mono ?_); rintro e w3 ⟨rfl, hb3⟩; have HB3 : Hid (Below X.heap.size X w3) := Lib.hid (HB2.out.trans (hb3.mono HB2.out.size)); clear hb3 y0 y1 y2 y3 y4 z0 z1 hpl hql)
  rw [← HPQ.out.2, ← HPQ.out.1]
  obtain ⟨Y, hY⟩ : ∃ Y, Y = w3 := ⟨_, rfl⟩
  subst hY
  have HROY : Hid (PO Y V' fs c S) := Lib.hid (HROX.out.below HB3.out)
  have HKY : Hid (∀ W, Below Y.heap.size Y W → Kp (fun b => ¬ V' b) X W) := Lib.hid fun W hb => Kp.of_below (HB3.out.trans (hb.mono HB3.out.size))
  have HF : Hid (∀ W, Below Y.heap.size Y W → (W.cell? ⟨p, 0, none⟩ = some (.int .i64 ag) ∧ W.cell? ⟨p, 1, none⟩ = some (.int .i64 xf) ∧ W.cell? ⟨p, 2, none⟩ = some (.slice A hln cap) ∧ W.cell? ⟨p, 3, none⟩ = some (.pointer (some ⟨fs, 0, none⟩)) ∧ W.cell? ⟨p, 4, none⟩ = some (.string nb)) ∧ W.cell? ⟨q, 0, none⟩ = some (.int .i64 pa) ∧ W.cell? ⟨q, 1, none⟩ = some (.int .i64 pn)) := Lib.hid fun W hb => by
   obtain ⟨r1, r2, _, _⟩ := HK.out W (HKY.out W hb)
   exact ⟨⟨r1.cell 0, r1.cell 1, r1.cell 2, r1.cell 3, r1.cell 4⟩, r2.cell 0, r2.cell 1⟩
  have HRG : Hid (∀ W, Below Y.heap.size Y W → Calls Tryz.prog 42 #[.agg #[.int .i64 ag, .int .i64 xf, .slice A hln cap, .pointer (some ⟨fs, 0, none⟩), .string nb], .int .i64 (i0 : Int)] W fun e w' => e = .returned (rv i0) ∧ Below W.heap.size W w') := Lib.hid fun W hb => HRGx.out i0 W hi0 (HKY.out W hb)
  have HWT : Hid True := Lib.hid trivial
  refine Inv.region_tail 7 8 (fun W W' => Below W.heap.size W W') (fun i v W => match i with
   | 0 => v = .int .i64 (i0 : Int)
   | 1 => v = .bool false
   | 2 => v = .bool false
   | 3 => v = .agg #[.int .i64 ag, .int .i64 xf, .slice A hln cap, .pointer (some ⟨fs, 0, none⟩), .string nb]
   | 4 => v = .int .i64 (i0 : Int)
   | 5 => v = rv i0
   | 6 => v = .agg #[.int .i64 pa, .int .i64 pn]
   | _ => True) (by kernel_rfl) (by kernel_rfl) (by kernel_rfl) (by kernel_rfl) (fun W => Below.refl _ _) (fun a b c h k => h.trans (k.mono h.size)) (fun i v W W' h he => ?stab) ?obls ?fin
  case stab =>
   match i, h with
   | 0, h => exact h
   | 1, h => exact h
   | 2, h => exact h
   | 3, h => exact h
   | 4, h => exact h
   | 5, h => exact h
   | 6, h => exact h
   | _ + 7, h => exact h
  case obls =>
   refine .cons ?_ (.cons ?_ (.cons ?_ (.cons ?_ (.cons ?_ (.cons ?_ (.cons ?_ .nil))))))
   ·intro ac wx hE hf hd
    have hB : Below Y.heap.size Y wx := ⟨hE.1,hE.2,hE.3,hE.4,hE.5⟩
    rw [if_pos (Inv.want0 rfl _)]
    have h7 : ac.eval (.tmp 7) = .int .i64 (i0 : Int) := hf 7 (by kernel_rfl)
    clear hf hd
    refine Inv.val (.int .i64 (i0 : Int)) ?_ rfl rfl (Below.refl _ _)
    clear hE hB
    generalize ac.eval = ev at *
    simp [execOp, go_sem, *]
   ·intro ac wx hE hf hd
    have hB : Below Y.heap.size Y wx := ⟨hE.1,hE.2,hE.3,hE.4,hE.5⟩
    rw [if_pos (Inv.want0 rfl _)]
    have h24 := hd 0 _ (by kernel_rfl) rfl
    change ac.eval (.tmp 24) = .int .i64 (i0 : Int) at h24
    clear hf hd
    refine Inv.val (.bool false) ?_ rfl rfl (Below.refl _ _)
    clear hE hB HF HX HRG HWT
    have hcst : ∀ v, ac.eval (.const v) = v := fun _ => rfl
    generalize ac.eval = ev at *
    simp [execOp, go_sem, *]
   ·intro ac wx hE hf hd
    have hB : Below Y.heap.size Y wx := ⟨hE.1,hE.2,hE.3,hE.4,hE.5⟩
    rw [if_pos (Inv.want0 rfl _)]
    have h25 := hd 1 _ (by kernel_rfl) rfl
    change ac.eval (.tmp 25) = .bool false at h25
    clear hf hd
    refine Inv.val (.bool false) ?_ rfl rfl (Below.refl _ _)
    clear hE hB
    generalize ac.eval = ev at *
    simp [execOp, go_sem, *]
   ·intro ac wx hE hf hd
    have hB : Below Y.heap.size Y wx := ⟨hE.1,hE.2,hE.3,hE.4,hE.5⟩
    have hg := hd 2 _ (by kernel_rfl) rfl
    change ac.eval (.tmp 26) = .bool false at hg
    rw [if_pos (Inv.want (j := 2) (b := false) (d := 26) rfl rfl rfl hg)]
    have h3 : ac.eval (.tmp 3) = .pointer (some ⟨p, 0, none⟩) := hf 3 (by kernel_rfl)
    clear hf hd
    obtain ⟨⟨a0, a1, a2, a3, a4⟩, b0, b1⟩ := HF.out wx hB
    refine Inv.val (.agg #[.int .i64 ag, .int .i64 xf, .slice A hln cap, .pointer (some ⟨fs, 0, none⟩), .string nb]) ?_ rfl rfl (Below.refl _ _)
    clear hE hB HF HX HRG HWT
    generalize ac.eval = ev at *
    simp [execOp, go_sem, *]
   ·intro ac wx hE hf hd
    have hB : Below Y.heap.size Y wx := ⟨hE.1,hE.2,hE.3,hE.4,hE.5⟩
    have hg := hd 2 _ (by kernel_rfl) rfl
    change ac.eval (.tmp 26) = .bool false at hg
    rw [if_pos (Inv.want (j := 2) (b := false) (d := 26) rfl rfl rfl hg)]
    have h7 : ac.eval (.tmp 7) = .int .i64 (i0 : Int) := hf 7 (by kernel_rfl)
    clear hf hd
    refine Inv.val (.int .i64 (i0 : Int)) ?_ rfl rfl (Below.refl _ _)
    clear hE hB
    generalize ac.eval = ev at *
    simp [execOp, go_sem, *]
   ·intro ac wx hE hf hd
    have hB : Below Y.heap.size Y wx := ⟨hE.1,hE.2,hE.3,hE.4,hE.5⟩
    have hg := hd 2 _ (by kernel_rfl) rfl
    change ac.eval (.tmp 26) = .bool false at hg
    rw [if_pos (Inv.want (j := 2) (b := false) (d := 26) rfl rfl rfl hg)]
    have h27 := hd 3 _ (by kernel_rfl) rfl
    change ac.eval (.tmp 27) = .agg #[.int .i64 ag, .int .i64 xf, .slice A hln cap, .pointer (some ⟨fs, 0, none⟩), .string nb] at h27
    have h28 := hd 4 _ (by kernel_rfl) rfl
    change ac.eval (.tmp 28) = .int .i64 (i0 : Int) at h28
    clear hf hd
    refine Inv.go (f := 42) (xs := #[.agg #[.int .i64 ag, .int .i64 xf, .slice A hln cap, .pointer (some ⟨fs, 0, none⟩), .string nb], .int .i64 (i0 : Int)]) ?_ rfl ?_
    ·clear hE hB HF HX HRG HWT
     have hfn : ac.eval (.func 42) = .func (.func 42) #[] #[] := rfl
     generalize ac.eval = ev at *
     simp [execOp, go_sem, *]
    ·exact (HRG.out wx hB).mono fun e w' ⟨he, hb⟩ => ⟨_, he, rfl, hb⟩
   ·intro ac wx hE hf hd
    have hB : Below Y.heap.size Y wx := ⟨hE.1,hE.2,hE.3,hE.4,hE.5⟩
    have hg := hd 2 _ (by kernel_rfl) rfl
    change ac.eval (.tmp 26) = .bool false at hg
    rw [if_pos (Inv.want (j := 2) (b := false) (d := 26) rfl rfl rfl hg)]
    have h5 : ac.eval (.tmp 5) = .pointer (some ⟨q, 0, none⟩) := hf 5 (by kernel_rfl)
    clear hf hd
    obtain ⟨⟨a0, a1, a2, a3, a4⟩, b0, b1⟩ := HF.out wx hB
    refine Inv.val (.agg #[.int .i64 pa, .int .i64 pn]) ?_ rfl rfl (Below.refl _ _)
    clear hE hB HF HX HRG HWT
    generalize ac.eval = ev at *
    simp [execOp, go_sem, *]
  case fin =>
   intro ac wx hE ha hall
   have hB : Below Y.heap.size Y wx := ⟨hE.1,hE.2,hE.3,hE.4,hE.5⟩
   have h24 := hall 0 _ (by decide) rfl
   change ac.eval (.tmp 24) = .int .i64 (i0 : Int) at h24
   have h25 := hall 1 _ (by decide) rfl
   change ac.eval (.tmp 25) = .bool false at h25
   have h26 := hall 2 _ (by decide) rfl
   change ac.eval (.tmp 26) = .bool false at h26
   have h27 := hall 3 _ (by decide) rfl
   change ac.eval (.tmp 27) = .agg #[.int .i64 ag, .int .i64 xf, .slice A hln cap, .pointer (some ⟨fs, 0, none⟩), .string nb] at h27
   have h28 := hall 4 _ (by decide) rfl
   change ac.eval (.tmp 28) = .int .i64 (i0 : Int) at h28
   have h29 := hall 5 _ (by decide) rfl
   change (fun v W => v = rv i0) (ac.eval (.tmp 29)) wx at h29
   try dsimp only at h29
   generalize hv29 : ac.eval (.tmp 29) = v29 at *
   have h30 := hall 6 _ (by decide) rfl
   change ac.eval (.tmp 30) = .agg #[.int .i64 pa, .int .i64 pn] at h30
   simp only [List.take_succ_cons, List.take_zero, List.foldl, Inv.slot, Act.put] at ha
   change ac.tmps.getD 24 undef = _ at h24
   change ac.tmps.getD 25 undef = _ at h25
   change ac.tmps.getD 26 undef = _ at h26
   change ac.tmps.getD 27 undef = _ at h27
   change ac.tmps.getD 28 undef = _ at h28
   change ac.tmps.getD 29 undef = _ at hv29
   change ac.tmps.getD 30 undef = _ at h30
   simp only [h24, h25, h26, h27, h28, hv29, h30, List.setIfInBounds_toArray, List.set_cons_zero, List.set_cons_succ] at ha
   clear h24 h25 h26 h27 h28 hv29 h30 hall hE
   subst ha
   simp only [List.drop_succ_cons, List.drop_zero]
   subst h29
   have HWT' : Hid (Calls Tryz.prog 74 #[rv i0, .agg #[.int .i64 pa, .int .i64 pn]] wx fun e w' => e = .returned (.bool (decide (Sl.al pa (h.step i0) ≠ 0))) ∧ PO w' V' fs (c + 3) (if Sl.al pa (h.step i0) = 0 then S else S1) ∧ Kp (fun b => ¬ V' b) wx w') := Lib.hid (by
    have h := HWTx.out i0 wx c S pn hi0 (by omega) (HROY.out.below hB) (HKY.out wx hB)
    rw [HS1.out] at h
    exact h)
   have HKX := Lib.hid (HKY.out wx hB)
   clear hB HF HRG HWT HKY
   by_cases hal0 : Sl.al pa (h.step i0) = 0
   ·have HQ := Lib.hid (HAL0.out hal0)
    simp only [hal0, ne_eq, not_true_eq_false, decide_false, if_true] at HWT'
    clear HAL0 HAL1 hal0
    go_wp2_with (go_at_call 74; (with_reducible refine (HWT'.out).mono ?_); rintro e w5 ⟨rfl, hro5, hk5⟩; have HRO5 := Lib.hid hro5; have HK5 := Lib.hid (HKX.out.trans hk5 (fun _ _ h => h)); clear hro5 hk5)
    go_ret
    rw [HQ.out]
    exact ⟨rfl, HOUT.out _ _ (HRO5.out.more (by omega) (fun _ h => h)) HK5.out⟩
   ·have HQ := Lib.hid (HAL1.out hal0)
    simp only [hal0, ne_eq, not_false_eq_true, decide_true, if_false] at HWT'
    clear HAL0 HAL1 hal0
    have hwi1 : IntKind.i64.wrap ((i0 : Int) + 1) = (i0 : Int) + 1 := IntWalk.i64_in _ (by omega)
    go_wp2_with (go_at_call 74; (with_reducible refine (HWT'.out).mono ?_); rintro e w5 ⟨rfl, hro5, hk5⟩; have HRO5 := Lib.hid hro5; have HK5 := Lib.hid (HKX.out.trans hk5 (fun _ _ h => h)); clear hro5 hk5)
    go_loopw [7, 8] (fun u _ wr => ∃ (kx : Nat) (Sk : Vf.Sv) (Bk : List UInt8), i0 + 1 ≤ kx ∧ kx ≤ hln ∧ u = .int .i64 kx ∧ Hid (PO wr V' fs (c + 3 + 3 * (kx - 1 - i0)) Sk) ∧ Hid (Kp (fun b => ¬ V' b) X wr) ∧ Hid (Fits Sk.now n h Bk) ∧ Hid (climb n h pa (hln - 1 - i0) S1 i0 = climb n h pa (hln - kx) Sk (kx - 1))) (fun u _ _ => hln - (intOf u).toNat)
    case atStart => exact ⟨i0 + 1, S1, _, Nat.le_refl _, by omega, by go_num, by rw [show i0 + 1 - 1 - i0 = 0 by omega]; exact HRO5, HK5, HFI1, Lib.hid (by rw [show hln - (i0 + 1) = hln - 1 - i0 by omega, show i0 + 1 - 1 = i0 by omega])⟩
    case round =>
     obtain ⟨kx, Sk, Bk, hk1, hk2, rfl, HROk, HKk, HFk, HCk⟩ := hrel
     obtain ⟨hrp, hrq, _, _⟩ := HK.out wr HKk.out
     have a2 : wr.cell? ⟨p, 2, none⟩ = some (.slice A hln cap) := hrp.cell 2
     have a0 : wr.cell? ⟨p, 0, none⟩ = some (.int .i64 ag) := hrp.cell 0
     have a1 : wr.cell? ⟨p, 1, none⟩ = some (.int .i64 xf) := hrp.cell 1
     have a3 : wr.cell? ⟨p, 3, none⟩ = some (.pointer (some ⟨fs, 0, none⟩)) := hrp.cell 3
     have a4 : wr.cell? ⟨p, 4, none⟩ = some (.string nb) := hrp.cell 4
     have b0 : wr.cell? ⟨q, 0, none⟩ = some (.int .i64 pa) := hrq.cell 0
     have hpr := hrp.lt
     have hqr := hrq.lt
     clear hrp hrq
     by_cases hlt : kx < hln
     ·have hltI : (kx : Int) < (hln : Int) := by omega
      obtain ⟨ky, hky⟩ : ∃ ky, ky = kx - 1 := ⟨_, rfl⟩
      have hkk : kx = ky + 1 := by omega
      have HTG := Lib.hid (HTGx.out ky kx wr _ Sk Bk hkk hlt HROk.out HFk.out HKk.out)
      obtain ⟨pv, hpv⟩ : ∃ pv, Ag.put h.ag h.xf (vals Sk.now n h ky pa (many h ky)) = pv := ⟨_, rfl⟩
      have HPS := Lib.hid (passes_eq (t := pa) hpv)
      rw [hpv] at HTG
      rw [← hkk] at HPS
      have HCN : Hid ((passes Sk n h ky pa).2 = false → climb n h pa (hln - 1 - i0) S1 i0 = Sk) := Lib.hid fun e => by rw [HCk.out, ← hky]; exact climb_no e
      have HCY : Hid ((passes Sk n h ky pa).2 = true → climb n h pa (hln - 1 - i0) S1 i0 = climb n h pa (hln - (kx + 1)) (passes Sk n h ky pa).1 (kx + 1 - 1)) := Lib.hid fun e => by
       rw [HCk.out, ← hky, show hln - kx = (hln - (kx + 1)) + 1 by omega, climb_yes e, show kx + 1 - 1 = ky + 1 by omega]
      obtain ⟨vo, vn⟩ := pv
      clear hpv hky hkk
      go_wp2_with (go_at_call 75; (with_reducible refine (HTG.out).mono ?_); rintro e w6 ⟨rfl, hb6⟩; have HB6 := Lib.hid hb6; clear hb6)
      clear a0 a1 a2 a3 a4 b0 hpr hqr
      obtain ⟨Y2, hY2⟩ : ∃ Y2, Y2 = w6.alloc (.cells #[.bool vo, .int .i64 vn] 110) := ⟨_, rfl⟩
      obtain ⟨vb, hvb⟩ : ∃ vb, vb = w6.heap.size := ⟨_, rfl⟩
      have HY2 : Hid (Below wr.heap.size wr Y2) := Lib.hid (by rw [hY2]; exact HB6.out.alloc HB6.out.size _)
      have HRB : Hid (RowAt Y2 vb 110 #[.bool vo, .int .i64 vn]) := Lib.hid (by rw [hY2, hvb]; exact RowAt.new _ _ _)
      rw [← hY2, ← hvb]
      clear hY2 hvb
      have HKY2 : Hid (∀ W, Below Y2.heap.size Y2 W → Kp (fun b => ¬ V' b) X W ∧ Below wr.heap.size wr W) := Lib.hid fun W hb => ⟨HKk.out.trans (Kp.of_below (HY2.out.trans (hb.mono HY2.out.size))) (fun _ _ h => h), HY2.out.trans (hb.mono HY2.out.size)⟩
      have HFr : Hid (∀ W, Below Y2.heap.size Y2 W → (W.cell? ⟨p, 0, none⟩ = some (.int .i64 ag) ∧ W.cell? ⟨p, 1, none⟩ = some (.int .i64 xf) ∧ W.cell? ⟨p, 2, none⟩ = some (.slice A hln cap) ∧ W.cell? ⟨p, 3, none⟩ = some (.pointer (some ⟨fs, 0, none⟩)) ∧ W.cell? ⟨p, 4, none⟩ = some (.string nb)) ∧ W.cell? ⟨q, 0, none⟩ = some (.int .i64 pa) ∧ W.cell? ⟨q, 1, none⟩ = some (.int .i64 pn) ∧ W.cell? ⟨vb, 0, none⟩ = some (.bool vo) ∧ W.cell? ⟨vb, 1, none⟩ = some (.int .i64 vn)) := Lib.hid fun W hb => by
       obtain ⟨r1, r2, _, _⟩ := HK.out W (HKY2.out W hb).1
       have r3 := HRB.out.below hb HRB.out.lt
       exact ⟨⟨r1.cell 0, r1.cell 1, r1.cell 2, r1.cell 3, r1.cell 4⟩, r2.cell 0, r2.cell 1, r3.cell 0, r3.cell 1⟩
      have HRr : Hid (∀ W, Below Y2.heap.size Y2 W → Calls Tryz.prog 42 #[.agg #[.int .i64 ag, .int .i64 xf, .slice A hln cap, .pointer (some ⟨fs, 0, none⟩), .string nb], .int .i64 (kx : Int)] W fun e w' => e = .returned (rv kx) ∧ Below W.heap.size W w') := Lib.hid fun W hb => HRGx.out kx W hlt (HKY2.out W hb).1
      cases vo
      ·have HE := Lib.hid (HCN.out (by rw [HPS.out, if_pos (.inl rfl)]))
       refine Inv.region (fun W W' => Below W.heap.size W W') (fun i v W => match i with
        | 0 => v = .pointer (some ⟨vb, 0, none⟩)
        | 1 => v = .bool false
        | 2 => v = .bool true
        | 3 => v = .bool true
        | 4 => v = undef
        | 5 => v = undef
        | 6 => v = undef
        | 7 => v = undef
        | 8 => v = undef
        | 9 => v = undef
        | 10 => v = undef
        | 11 => v = undef
        | 12 => v = undef
        | 13 => v = undef
        | 14 => v = .bool true
        | _ => True) (by kernel_rfl) (by kernel_rfl) (by kernel_rfl) (fun W => Below.refl _ _) (fun a b c h k => h.trans (k.mono h.size)) (fun i v W W' h he => ?stab) ?obls ?fin
       case stab =>
        match i, h with
        | 0, h => exact h
        | 1, h => exact h
        | 2, h => exact h
        | 3, h => exact h
        | 4, h => exact h
        | 5, h => exact h
        | 6, h => exact h
        | 7, h => exact h
        | 8, h => exact h
        | 9, h => exact h
        | 10, h => exact h
        | 11, h => exact h
        | 12, h => exact h
        | 13, h => exact h
        | 14, h => exact h
        | _ + 15, h => exact h
       case obls =>
        refine .cons ?_ (.cons ?_ (.cons ?_ (.cons ?_ (.cons ?_ (.cons ?_ (.cons ?_ (.cons ?_ (.cons ?_ (.cons ?_ (.cons ?_ (.cons ?_ (.cons ?_ (.cons ?_ (.cons ?_ .nil))))))))))))))
        ·intro ac wx hE hf hd
         have hB : Below Y2.heap.size Y2 wx := ⟨hE.1,hE.2,hE.3,hE.4,hE.5⟩
         rw [if_pos (Inv.want0 rfl _)]
         have h8 : ac.eval (.tmp 8) = .pointer (some ⟨vb, 0, none⟩) := hf 8 (by kernel_rfl)
         clear hf hd
         refine Inv.val (.pointer (some ⟨vb, 0, none⟩)) ?_ rfl rfl (Below.refl _ _)
         clear hE hB HFr HRr
         have hcst : ∀ v, ac.eval (.const v) = v := fun _ => rfl
         generalize ac.eval = ev at *
         simp [execOp, go_sem, *]
        ·intro ac wx hE hf hd
         have hB : Below Y2.heap.size Y2 wx := ⟨hE.1,hE.2,hE.3,hE.4,hE.5⟩
         rw [if_pos (Inv.want0 rfl _)]
         have h49 := hd 0 _ (by kernel_rfl) rfl
         change ac.eval (.tmp 49) = .pointer (some ⟨vb, 0, none⟩) at h49
         clear hf hd
         obtain ⟨⟨a0, a1, a2, a3, a4⟩, b0, b1, d0, d1⟩ := HFr.out wx hB
         refine Inv.val (.bool false) ?_ rfl rfl (Below.refl _ _)
         clear hE hB HFr HRr
         generalize ac.eval = ev at *
         simp [execOp, go_sem, *]
        ·intro ac wx hE hf hd
         have hB : Below Y2.heap.size Y2 wx := ⟨hE.1,hE.2,hE.3,hE.4,hE.5⟩
         rw [if_pos (Inv.want0 rfl _)]
         have h50 := hd 1 _ (by kernel_rfl) rfl
         change ac.eval (.tmp 50) = .bool false at h50
         clear hf hd
         refine Inv.val (.bool true) ?_ rfl rfl (Below.refl _ _)
         clear hE hB HFr HRr
         have hcst : ∀ v, ac.eval (.const v) = v := fun _ => rfl
         generalize ac.eval = ev at *
         simp [execOp, go_sem, *]
        ·intro ac wx hE hf hd
         have hB : Below Y2.heap.size Y2 wx := ⟨hE.1,hE.2,hE.3,hE.4,hE.5⟩
         rw [if_pos (Inv.want0 rfl _)]
         have h51 := hd 2 _ (by kernel_rfl) rfl
         change ac.eval (.tmp 51) = .bool true at h51
         clear hf hd
         refine Inv.val (.bool true) ?_ rfl rfl (Below.refl _ _)
         clear hE hB
         generalize ac.eval = ev at *
         simp [execOp, go_sem, *]
        ·intro ac wx hE hf hd
         have hB : Below Y2.heap.size Y2 wx := ⟨hE.1,hE.2,hE.3,hE.4,hE.5⟩
         have hg := hd 3 _ (by kernel_rfl) rfl
         change ac.eval (.tmp 52) = .bool true at hg
         rw [if_neg (Inv.unwant (j := 3) (b := false) (c := true) (d := 52) rfl rfl rfl hg rfl)]
         all_goals exact rfl
        ·intro ac wx hE hf hd
         have hB : Below Y2.heap.size Y2 wx := ⟨hE.1,hE.2,hE.3,hE.4,hE.5⟩
         have hg := hd 3 _ (by kernel_rfl) rfl
         change ac.eval (.tmp 52) = .bool true at hg
         rw [if_neg (Inv.unwant (j := 3) (b := false) (c := true) (d := 52) rfl rfl rfl hg rfl)]
         all_goals exact rfl
        ·intro ac wx hE hf hd
         have hB : Below Y2.heap.size Y2 wx := ⟨hE.1,hE.2,hE.3,hE.4,hE.5⟩
         have hg := hd 3 _ (by kernel_rfl) rfl
         change ac.eval (.tmp 52) = .bool true at hg
         rw [if_neg (Inv.unwant (j := 3) (b := false) (c := true) (d := 52) rfl rfl rfl hg rfl)]
         all_goals exact rfl
        ·intro ac wx hE hf hd
         have hB : Below Y2.heap.size Y2 wx := ⟨hE.1,hE.2,hE.3,hE.4,hE.5⟩
         have hg := hd 3 _ (by kernel_rfl) rfl
         change ac.eval (.tmp 52) = .bool true at hg
         rw [if_neg (Inv.unwant (j := 3) (b := false) (c := true) (d := 52) rfl rfl rfl hg rfl)]
         all_goals exact rfl
        ·intro ac wx hE hf hd
         have hB : Below Y2.heap.size Y2 wx := ⟨hE.1,hE.2,hE.3,hE.4,hE.5⟩
         have hg := hd 3 _ (by kernel_rfl) rfl
         change ac.eval (.tmp 52) = .bool true at hg
         rw [if_neg (Inv.unwant (j := 3) (b := false) (c := true) (d := 52) rfl rfl rfl hg rfl)]
         all_goals exact rfl
        ·intro ac wx hE hf hd
         have hB : Below Y2.heap.size Y2 wx := ⟨hE.1,hE.2,hE.3,hE.4,hE.5⟩
         have hg := hd 3 _ (by kernel_rfl) rfl
         change ac.eval (.tmp 52) = .bool true at hg
         rw [if_neg (Inv.unwant (j := 3) (b := false) (c := true) (d := 52) rfl rfl rfl hg rfl)]
         all_goals exact rfl
        ·intro ac wx hE hf hd
         have hB : Below Y2.heap.size Y2 wx := ⟨hE.1,hE.2,hE.3,hE.4,hE.5⟩
         have hg := hd 3 _ (by kernel_rfl) rfl
         change ac.eval (.tmp 52) = .bool true at hg
         rw [if_neg (Inv.unwant (j := 3) (b := false) (c := true) (d := 52) rfl rfl rfl hg rfl)]
         all_goals exact rfl
        ·intro ac wx hE hf hd
         have hB : Below Y2.heap.size Y2 wx := ⟨hE.1,hE.2,hE.3,hE.4,hE.5⟩
         have hg := hd 3 _ (by kernel_rfl) rfl
         change ac.eval (.tmp 52) = .bool true at hg
         rw [if_neg (Inv.unwant (j := 3) (b := false) (c := true) (d := 52) rfl rfl rfl hg rfl)]
         all_goals exact rfl
        ·intro ac wx hE hf hd
         have hB : Below Y2.heap.size Y2 wx := ⟨hE.1,hE.2,hE.3,hE.4,hE.5⟩
         have hg := hd 3 _ (by kernel_rfl) rfl
         change ac.eval (.tmp 52) = .bool true at hg
         rw [if_neg (Inv.unwant (j := 3) (b := false) (c := true) (d := 52) rfl rfl rfl hg rfl)]
         all_goals exact rfl
        ·intro ac wx hE hf hd
         have hB : Below Y2.heap.size Y2 wx := ⟨hE.1,hE.2,hE.3,hE.4,hE.5⟩
         have hg := hd 3 _ (by kernel_rfl) rfl
         change ac.eval (.tmp 52) = .bool true at hg
         rw [if_neg (Inv.unwant (j := 3) (b := false) (c := true) (d := 52) rfl rfl rfl hg rfl)]
         all_goals exact rfl
        ·intro ac wx hE hf hd
         have hB : Below Y2.heap.size Y2 wx := ⟨hE.1,hE.2,hE.3,hE.4,hE.5⟩
         rw [if_pos (Inv.want0 rfl _)]
         have h52 := hd 3 _ (by kernel_rfl) rfl
         change ac.eval (.tmp 52) = .bool true at h52
         have h62 := hd 13 _ (by kernel_rfl) rfl
         change ac.eval (.tmp 62) = undef at h62
         clear hf hd
         refine Inv.val (.bool true) ?_ rfl rfl (Below.refl _ _)
         clear hE hB HFr HRr
         have hcst : ∀ v, ac.eval (.const v) = v := fun _ => rfl
         generalize ac.eval = ev at *
         simp [execOp, go_sem, *]
       case fin =>
        intro ac wx hE ha hall
        have hB : Below Y2.heap.size Y2 wx := ⟨hE.1,hE.2,hE.3,hE.4,hE.5⟩
        have h49 := hall 0 _ rfl
        change ac.eval (.tmp 49) = .pointer (some ⟨vb, 0, none⟩) at h49
        have h50 := hall 1 _ rfl
        change ac.eval (.tmp 50) = .bool false at h50
        have h51 := hall 2 _ rfl
        change ac.eval (.tmp 51) = .bool true at h51
        have h52 := hall 3 _ rfl
        change ac.eval (.tmp 52) = .bool true at h52
        have h53 := hall 4 _ rfl
        change ac.eval (.tmp 53) = undef at h53
        have h54 := hall 5 _ rfl
        change ac.eval (.tmp 54) = undef at h54
        have h55 := hall 6 _ rfl
        change ac.eval (.tmp 55) = undef at h55
        have h56 := hall 7 _ rfl
        change ac.eval (.tmp 56) = undef at h56
        have h57 := hall 8 _ rfl
        change ac.eval (.tmp 57) = undef at h57
        have h58 := hall 9 _ rfl
        change ac.eval (.tmp 58) = undef at h58
        have h59 := hall 10 _ rfl
        change ac.eval (.tmp 59) = undef at h59
        have h60 := hall 11 _ rfl
        change ac.eval (.tmp 60) = undef at h60
        have h61 := hall 12 _ rfl
        change ac.eval (.tmp 61) = undef at h61
        have h62 := hall 13 _ rfl
        change ac.eval (.tmp 62) = undef at h62
        have h63 := hall 14 _ rfl
        change ac.eval (.tmp 63) = .bool true at h63
        simp only [List.foldl, Inv.slot, Act.put] at ha
        change ac.tmps.getD 49 undef = _ at h49
        change ac.tmps.getD 50 undef = _ at h50
        change ac.tmps.getD 51 undef = _ at h51
        change ac.tmps.getD 52 undef = _ at h52
        change ac.tmps.getD 53 undef = _ at h53
        change ac.tmps.getD 54 undef = _ at h54
        change ac.tmps.getD 55 undef = _ at h55
        change ac.tmps.getD 56 undef = _ at h56
        change ac.tmps.getD 57 undef = _ at h57
        change ac.tmps.getD 58 undef = _ at h58
        change ac.tmps.getD 59 undef = _ at h59
        change ac.tmps.getD 60 undef = _ at h60
        change ac.tmps.getD 61 undef = _ at h61
        change ac.tmps.getD 62 undef = _ at h62
        change ac.tmps.getD 63 undef = _ at h63
        simp only [h49, h50, h51, h52, h53, h54, h55, h56, h57, h58, h59, h60, h61, h62, h63, List.setIfInBounds_toArray, List.set_cons_zero, List.set_cons_succ] at ha
        clear h49 h50 h51 h52 h53 h54 h55 h56 h57 h58 h59 h60 h61 h62 h63 hall hE
        subst ha
        have HBW := Lib.hid (HKY2.out wx hB)
        clear hB
        go_wp2_with fail
        go_ret
        rw [HQ.out, HE.out]
        exact ⟨rfl, HOUT.out _ _ ((HROk.out.below HBW.out.2).more (by omega) (fun _ h => h)) HBW.out.1⟩
      ·have hvt : True := trivial
       refine Inv.region_tail 12 8 (fun W W' => Below W.heap.size W W') (fun i v W => match i with
        | 0 => v = .pointer (some ⟨vb, 0, none⟩)
        | 1 => v = .bool true
        | 2 => v = .bool false
        | 3 => v = .bool false
        | 4 => v = .agg #[.int .i64 ag, .int .i64 xf, .slice A hln cap, .pointer (some ⟨fs, 0, none⟩), .string nb]
        | 5 => v = .int .i64 (kx : Int)
        | 6 => v = rv kx
        | 7 => v = .pointer (some ⟨q, 0, none⟩)
        | 8 => v = .int .i64 pa
        | 9 => v = .pointer (some ⟨vb, 1, none⟩)
        | 10 => v = .int .i64 vn
        | 11 => v = .agg #[.int .i64 pa, .int .i64 vn]
        | _ => True) (by kernel_rfl) (by kernel_rfl) (by kernel_rfl) (by kernel_rfl) (fun W => Below.refl _ _) (fun a b c h k => h.trans (k.mono h.size)) (fun i v W W' h he => ?stab) ?obls ?fin
       case stab =>
        match i, h with
        | 0, h => exact h
        | 1, h => exact h
        | 2, h => exact h
        | 3, h => exact h
        | 4, h => exact h
        | 5, h => exact h
        | 6, h => exact h
        | 7, h => exact h
        | 8, h => exact h
        | 9, h => exact h
        | 10, h => exact h
        | 11, h => exact h
        | _ + 12, h => exact h
       case obls =>
        refine .cons ?_ (.cons ?_ (.cons ?_ (.cons ?_ (.cons ?_ (.cons ?_ (.cons ?_ (.cons ?_ (.cons ?_ (.cons ?_ (.cons ?_ (.cons ?_ .nil)))))))))))
        ·intro ac wx hE hf hd
         have hB : Below Y2.heap.size Y2 wx := ⟨hE.1,hE.2,hE.3,hE.4,hE.5⟩
         rw [if_pos (Inv.want0 rfl _)]
         have h8 : ac.eval (.tmp 8) = .pointer (some ⟨vb, 0, none⟩) := hf 8 (by kernel_rfl)
         clear hf hd
         refine Inv.val (.pointer (some ⟨vb, 0, none⟩)) ?_ rfl rfl (Below.refl _ _)
         clear hE hB HFr HRr
         have hcst : ∀ v, ac.eval (.const v) = v := fun _ => rfl
         generalize ac.eval = ev at *
         simp [execOp, go_sem, *]
        ·intro ac wx hE hf hd
         have hB : Below Y2.heap.size Y2 wx := ⟨hE.1,hE.2,hE.3,hE.4,hE.5⟩
         rw [if_pos (Inv.want0 rfl _)]
         have h49 := hd 0 _ (by kernel_rfl) rfl
         change ac.eval (.tmp 49) = .pointer (some ⟨vb, 0, none⟩) at h49
         clear hf hd
         obtain ⟨⟨a0, a1, a2, a3, a4⟩, b0, b1, d0, d1⟩ := HFr.out wx hB
         refine Inv.val (.bool true) ?_ rfl rfl (Below.refl _ _)
         clear hE hB HFr HRr
         generalize ac.eval = ev at *
         simp [execOp, go_sem, *]
        ·intro ac wx hE hf hd
         have hB : Below Y2.heap.size Y2 wx := ⟨hE.1,hE.2,hE.3,hE.4,hE.5⟩
         rw [if_pos (Inv.want0 rfl _)]
         have h50 := hd 1 _ (by kernel_rfl) rfl
         change ac.eval (.tmp 50) = .bool true at h50
         clear hf hd
         refine Inv.val (.bool false) ?_ rfl rfl (Below.refl _ _)
         clear hE hB HFr HRr
         have hcst : ∀ v, ac.eval (.const v) = v := fun _ => rfl
         generalize ac.eval = ev at *
         simp [execOp, go_sem, *]
        ·intro ac wx hE hf hd
         have hB : Below Y2.heap.size Y2 wx := ⟨hE.1,hE.2,hE.3,hE.4,hE.5⟩
         rw [if_pos (Inv.want0 rfl _)]
         have h51 := hd 2 _ (by kernel_rfl) rfl
         change ac.eval (.tmp 51) = .bool false at h51
         clear hf hd
         refine Inv.val (.bool false) ?_ rfl rfl (Below.refl _ _)
         clear hE hB
         generalize ac.eval = ev at *
         simp [execOp, go_sem, *]
        ·intro ac wx hE hf hd
         have hB : Below Y2.heap.size Y2 wx := ⟨hE.1,hE.2,hE.3,hE.4,hE.5⟩
         have hg := hd 3 _ (by kernel_rfl) rfl
         change ac.eval (.tmp 52) = .bool false at hg
         rw [if_pos (Inv.want (j := 3) (b := false) (d := 52) rfl rfl rfl hg)]
         have h3 : ac.eval (.tmp 3) = .pointer (some ⟨p, 0, none⟩) := hf 3 (by kernel_rfl)
         clear hf hd
         obtain ⟨⟨a0, a1, a2, a3, a4⟩, b0, b1, d0, d1⟩ := HFr.out wx hB
         refine Inv.val (.agg #[.int .i64 ag, .int .i64 xf, .slice A hln cap, .pointer (some ⟨fs, 0, none⟩), .string nb]) ?_ rfl rfl (Below.refl _ _)
         clear hE hB HFr HRr
         generalize ac.eval = ev at *
         simp [execOp, go_sem, *]
        ·intro ac wx hE hf hd
         have hB : Below Y2.heap.size Y2 wx := ⟨hE.1,hE.2,hE.3,hE.4,hE.5⟩
         have hg := hd 3 _ (by kernel_rfl) rfl
         change ac.eval (.tmp 52) = .bool false at hg
         rw [if_pos (Inv.want (j := 3) (b := false) (d := 52) rfl rfl rfl hg)]
         have h7 : ac.eval (.tmp 7) = .int .i64 (kx : Int) := hf 7 (by kernel_rfl)
         clear hf hd
         refine Inv.val (.int .i64 (kx : Int)) ?_ rfl rfl (Below.refl _ _)
         clear hE hB
         generalize ac.eval = ev at *
         simp [execOp, go_sem, *]
        ·intro ac wx hE hf hd
         have hB : Below Y2.heap.size Y2 wx := ⟨hE.1,hE.2,hE.3,hE.4,hE.5⟩
         have hg := hd 3 _ (by kernel_rfl) rfl
         change ac.eval (.tmp 52) = .bool false at hg
         rw [if_pos (Inv.want (j := 3) (b := false) (d := 52) rfl rfl rfl hg)]
         have h53 := hd 4 _ (by kernel_rfl) rfl
         change ac.eval (.tmp 53) = .agg #[.int .i64 ag, .int .i64 xf, .slice A hln cap, .pointer (some ⟨fs, 0, none⟩), .string nb] at h53
         have h54 := hd 5 _ (by kernel_rfl) rfl
         change ac.eval (.tmp 54) = .int .i64 (kx : Int) at h54
         clear hf hd
         refine Inv.go (f := 42) (xs := #[.agg #[.int .i64 ag, .int .i64 xf, .slice A hln cap, .pointer (some ⟨fs, 0, none⟩), .string nb], .int .i64 (kx : Int)]) ?_ rfl ?_
         ·clear hE hB HFr HRr
          have hfn : ac.eval (.func 42) = .func (.func 42) #[] #[] := rfl
          generalize ac.eval = ev at *
          simp [execOp, go_sem, *]
         ·exact (HRr.out wx hB).mono fun e w' ⟨he, hb⟩ => ⟨_, he, rfl, hb⟩
        ·intro ac wx hE hf hd
         have hB : Below Y2.heap.size Y2 wx := ⟨hE.1,hE.2,hE.3,hE.4,hE.5⟩
         have hg := hd 3 _ (by kernel_rfl) rfl
         change ac.eval (.tmp 52) = .bool false at hg
         rw [if_pos (Inv.want (j := 3) (b := false) (d := 52) rfl rfl rfl hg)]
         have h5 : ac.eval (.tmp 5) = .pointer (some ⟨q, 0, none⟩) := hf 5 (by kernel_rfl)
         clear hf hd
         refine Inv.val (.pointer (some ⟨q, 0, none⟩)) ?_ rfl rfl (Below.refl _ _)
         clear hE hB HFr HRr
         have hcst : ∀ v, ac.eval (.const v) = v := fun _ => rfl
         generalize ac.eval = ev at *
         simp [execOp, go_sem, *]
        ·intro ac wx hE hf hd
         have hB : Below Y2.heap.size Y2 wx := ⟨hE.1,hE.2,hE.3,hE.4,hE.5⟩
         have hg := hd 3 _ (by kernel_rfl) rfl
         change ac.eval (.tmp 52) = .bool false at hg
         rw [if_pos (Inv.want (j := 3) (b := false) (d := 52) rfl rfl rfl hg)]
         have h56 := hd 7 _ (by kernel_rfl) rfl
         change ac.eval (.tmp 56) = .pointer (some ⟨q, 0, none⟩) at h56
         clear hf hd
         obtain ⟨⟨a0, a1, a2, a3, a4⟩, b0, b1, d0, d1⟩ := HFr.out wx hB
         refine Inv.val (.int .i64 pa) ?_ rfl rfl (Below.refl _ _)
         clear hE hB HFr HRr
         generalize ac.eval = ev at *
         simp [execOp, go_sem, *]
        ·intro ac wx hE hf hd
         have hB : Below Y2.heap.size Y2 wx := ⟨hE.1,hE.2,hE.3,hE.4,hE.5⟩
         have hg := hd 3 _ (by kernel_rfl) rfl
         change ac.eval (.tmp 52) = .bool false at hg
         rw [if_pos (Inv.want (j := 3) (b := false) (d := 52) rfl rfl rfl hg)]
         have h8 : ac.eval (.tmp 8) = .pointer (some ⟨vb, 0, none⟩) := hf 8 (by kernel_rfl)
         clear hf hd
         refine Inv.val (.pointer (some ⟨vb, 1, none⟩)) ?_ rfl rfl (Below.refl _ _)
         clear hE hB HFr HRr
         have hcst : ∀ v, ac.eval (.const v) = v := fun _ => rfl
         generalize ac.eval = ev at *
         simp [execOp, go_sem, *]
        ·intro ac wx hE hf hd
         have hB : Below Y2.heap.size Y2 wx := ⟨hE.1,hE.2,hE.3,hE.4,hE.5⟩
         have hg := hd 3 _ (by kernel_rfl) rfl
         change ac.eval (.tmp 52) = .bool false at hg
         rw [if_pos (Inv.want (j := 3) (b := false) (d := 52) rfl rfl rfl hg)]
         have h58 := hd 9 _ (by kernel_rfl) rfl
         change ac.eval (.tmp 58) = .pointer (some ⟨vb, 1, none⟩) at h58
         clear hf hd
         obtain ⟨⟨a0, a1, a2, a3, a4⟩, b0, b1, d0, d1⟩ := HFr.out wx hB
         refine Inv.val (.int .i64 vn) ?_ rfl rfl (Below.refl _ _)
         clear hE hB HFr HRr
         generalize ac.eval = ev at *
         simp [execOp, go_sem, *]
        ·intro ac wx hE hf hd
         have hB : Below Y2.heap.size Y2 wx := ⟨hE.1,hE.2,hE.3,hE.4,hE.5⟩
         have hg := hd 3 _ (by kernel_rfl) rfl
         change ac.eval (.tmp 52) = .bool false at hg
         rw [if_pos (Inv.want (j := 3) (b := false) (d := 52) rfl rfl rfl hg)]
         have h57 := hd 8 _ (by kernel_rfl) rfl
         change ac.eval (.tmp 57) = .int .i64 pa at h57
         have h59 := hd 10 _ (by kernel_rfl) rfl
         change ac.eval (.tmp 59) = .int .i64 vn at h59
         clear hf hd
         refine Inv.val (.agg #[.int .i64 pa, .int .i64 vn]) ?_ rfl rfl (Below.refl _ _)
         clear hE hB HFr HRr
         have hcst : ∀ v, ac.eval (.const v) = v := fun _ => rfl
         generalize ac.eval = ev at *
         simp [execOp, go_sem, *]
       case fin =>
        intro ac wx hE ha hall
        have hB : Below Y2.heap.size Y2 wx := ⟨hE.1,hE.2,hE.3,hE.4,hE.5⟩
        have h49 := hall 0 _ (by decide) rfl
        change ac.eval (.tmp 49) = .pointer (some ⟨vb, 0, none⟩) at h49
        have h50 := hall 1 _ (by decide) rfl
        change ac.eval (.tmp 50) = .bool true at h50
        have h51 := hall 2 _ (by decide) rfl
        change ac.eval (.tmp 51) = .bool false at h51
        have h52 := hall 3 _ (by decide) rfl
        change ac.eval (.tmp 52) = .bool false at h52
        have h53 := hall 4 _ (by decide) rfl
        change ac.eval (.tmp 53) = .agg #[.int .i64 ag, .int .i64 xf, .slice A hln cap, .pointer (some ⟨fs, 0, none⟩), .string nb] at h53
        have h54 := hall 5 _ (by decide) rfl
        change ac.eval (.tmp 54) = .int .i64 (kx : Int) at h54
        have h55 := hall 6 _ (by decide) rfl
        change (fun v W => v = rv kx) (ac.eval (.tmp 55)) wx at h55
        try dsimp only at h55
        generalize hv55 : ac.eval (.tmp 55) = v55 at *
        have h56 := hall 7 _ (by decide) rfl
        change ac.eval (.tmp 56) = .pointer (some ⟨q, 0, none⟩) at h56
        have h57 := hall 8 _ (by decide) rfl
        change ac.eval (.tmp 57) = .int .i64 pa at h57
        have h58 := hall 9 _ (by decide) rfl
        change ac.eval (.tmp 58) = .pointer (some ⟨vb, 1, none⟩) at h58
        have h59 := hall 10 _ (by decide) rfl
        change ac.eval (.tmp 59) = .int .i64 vn at h59
        have h60 := hall 11 _ (by decide) rfl
        change ac.eval (.tmp 60) = .agg #[.int .i64 pa, .int .i64 vn] at h60
        simp only [List.take_succ_cons, List.take_zero, List.foldl, Inv.slot, Act.put] at ha
        change ac.tmps.getD 49 undef = _ at h49
        change ac.tmps.getD 50 undef = _ at h50
        change ac.tmps.getD 51 undef = _ at h51
        change ac.tmps.getD 52 undef = _ at h52
        change ac.tmps.getD 53 undef = _ at h53
        change ac.tmps.getD 54 undef = _ at h54
        change ac.tmps.getD 55 undef = _ at hv55
        change ac.tmps.getD 56 undef = _ at h56
        change ac.tmps.getD 57 undef = _ at h57
        change ac.tmps.getD 58 undef = _ at h58
        change ac.tmps.getD 59 undef = _ at h59
        change ac.tmps.getD 60 undef = _ at h60
        simp only [h49, h50, h51, h52, h53, h54, hv55, h56, h57, h58, h59, h60, List.setIfInBounds_toArray, List.set_cons_zero, List.set_cons_succ] at ha
        clear h49 h50 h51 h52 h53 h54 hv55 h56 h57 h58 h59 h60 hall hE
        subst ha
        simp only [List.drop_succ_cons, List.drop_zero]
        subst h55
        have HWW : Hid (∀ al, al = Sl.al pa (h.step kx) → Calls Tryz.prog 74 #[rv kx, .agg #[.int .i64 pa, .int .i64 vn]] wx fun e w' => e = .returned (.bool (decide (al ≠ 0))) ∧ PO w' V' fs (c + 3 + 3 * (kx - 1 - i0) + 3) (if al = 0 then Sk else write Sk n h kx pa vn) ∧ Kp (fun b => ¬ V' b) wx w') := Lib.hid fun al e => by
         rw [e]
         exact HWTx.out kx wx _ Sk vn hlt (by omega) (HROk.out.below (HKY2.out wx hB).2) (HKY2.out wx hB).1
        have HBW := Lib.hid (HKY2.out wx hB)
        clear hB HFr HRr HKY2
        by_cases hal : Sl.al pa (h.step kx) = 0
        ·have HE := Lib.hid (HCN.out (by rw [HPS.out, if_pos (.inr hal)]))
         have HW0 := Lib.hid (HWW.out 0 hal.symm)
         simp only [ne_eq, not_true_eq_false, decide_false, if_true] at HW0
         clear hal HWW
         go_wp2_with (go_at_call 74; (with_reducible refine (HW0.out).mono ?_); rintro e w7 ⟨rfl, hro7, hk7⟩; have HRO7 := Lib.hid hro7; have HK7 := Lib.hid (HBW.out.1.trans hk7 (fun _ _ h => h)); clear hro7 hk7)
         go_ret
         rw [HQ.out, HE.out]
         exact ⟨rfl, HOUT.out _ _ (HRO7.out.more (by omega) (fun _ h => h)) HK7.out⟩
        ·have HPY : Hid (passes Sk n h ky pa = (write Sk n h kx pa vn, true)) := Lib.hid (by rw [HPS.out, if_neg (by rintro (e | e); cases e; exact hal e)])
         have HE := Lib.hid (HCY.out (by rw [HPY.out]))
         rw [HPY.out] at HE
         have HW1 := Lib.hid (HWW.out _ rfl)
         simp only [hal, ne_eq, not_false_eq_true, decide_true, if_false] at HW1
         have HFN : Hid (Fits (write Sk n h kx pa vn).now n h (put Bk (at_ h kx pa).toNat (Sl.al pa (h.step kx)) vn)) := Lib.hid (HFk.out.write (by rw [← HNN.out]; exact hlt) pa vn (by omega))
         clear hal HWW
         generalize write Sk n h kx pa vn = Sn at *
         have hwk1 : IntKind.i64.wrap ((kx : Int) + 1) = (kx : Int) + 1 := IntWalk.i64_in _ (by omega)
         go_wp2_with (go_at_call 74; (with_reducible refine (HW1.out).mono ?_); rintro e w7 ⟨rfl, hro7, hk7⟩; have HRO7 := Lib.hid hro7; have HK7 := Lib.hid (HBW.out.1.trans hk7 (fun _ _ h => h)); clear hro7 hk7)
         go_roundw
         case rel => exact ⟨kx + 1, Sn, _, by omega, by omega, by go_num, Lib.hid (HRO7.out.more (by omega) (fun _ h => h)), HK7, HFN, HE⟩
         case measure => simp [intOf]; omega
     ·have hkn : kx = hln := by omega
      have hltI : ¬ (kx : Int) < (hln : Int) := by omega
      have HE : Hid (climb n h pa (hln - 1 - i0) S1 i0 = Sk) := Lib.hid (by rw [HCk.out, hkn, Nat.sub_self]; rfl)
      go_wp2_with fail
      go_ret
      rw [HQ.out, HE.out]
      exact ⟨rfl, HOUT.out _ _ (HROk.out.more (by omega) (fun _ h => h)) HKk.out⟩
 ·have HB : Hid (∀ W, Below w.heap.size w W → .bool false = Value.bool (lays S n h now (pa, pn)).2 ∧ PO W V fs (c + 27) (lays S n h now (pa, pn)).1 ∧ Kp (fun b => ¬ V b) w W) := Lib.hid (by
   by_cases hle : pa ≤ now
   ·have hnone : first h (now - (pa, pn).1) h.l.length 0 = none := by
     cases e : first h (now - pa) h.l.length 0 with
     | none => rfl
     | some i => exact absurd ⟨hle, i, e⟩ hcov
    intro W hb
    rw [lays_none (p := (pa, pn)) (by rintro (e | e | e); exact k1 e; exact absurd hle (by simpa using e); rw [k3] at e; cases e) hnone]
    exact ⟨rfl, (HRO.out.below hb).more (by omega) (fun _ h => h), Kp.of_below hb⟩
   ·exact bad.out (.inr (.inl (by omega))))
  have HU2 : Hid (u = -1) := Lib.hid (by
   rw [HU.out]
   by_cases hle : pa ≤ now
   ·rw [if_pos hle]
    refine fnd_none ?_
    cases e : first h (now - pa) h.l.length 0 with
    | none => rfl
    | some i => exact absurd ⟨hle, i, e⟩ hcov
   ·rw [if_neg hle])
  rw [HU2.out] at HCV'
  clear bad k3 hcov HCV k1
  go_enter Tryz.func34, Tryz.ntmps34
  go_wp2_with first
   | (go_at_call 72; (with_reducible refine (HOF'.out _).mono ?_); rintro e w2 ⟨rfl, hb2⟩; have hbx : Below X.heap.size X w2 := (by rw [HXE.out]; exact hb2); have HB2 := Lib.hid hbx; have hrp := HRP.out.below hbx HRP.out.lt; have hrq := HRQ.out.below hbx HRQ.out.lt; have y0 := hrp.cell 0; have y1 := hrp.cell 1; have y2 := hrp.cell 2; have y3 := hrp.cell 3; have y4 := hrp.cell 4; have z0 := hrq.cell 0; have z1 := hrq.cell 1; have hpl := hrp.lt; have hql := hrq.lt; simp only [List.getElem?_toArray, List.getElem?_cons_succ, List.getElem?_cons_zero] at y0 y1 y2 y3 y4 z0 z1; rw [HPQ.out.1] at y0 y1 y2 y3 y4 hpl; rw [HPQ.out.2] at z0 z1 hql; clear hb2 hbx hrp hrq)
   | (go_at_call 73; (with_reducible refine (HCV'.out w2 (HX.out.trans (HB2.out.mono HX.out.size))).mono ?_); rintro e w3 ⟨rfl, hb3⟩; have HB3 : Hid (Below X.heap.size X w3) := Lib.hid (HB2.out.trans (hb3.mono HB2.out.size)); clear hb3 y0 y1 y2 y3 y4 z0 z1 hpl hql)
  rw [← HPQ.out.2, ← HPQ.out.1]
  obtain ⟨Y, hY⟩ : ∃ Y, Y = w3 := ⟨_, rfl⟩
  subst hY
  have HF : Hid (∀ W, Below Y.heap.size Y W → (W.cell? ⟨p, 0, none⟩ = some (.int .i64 ag) ∧ W.cell? ⟨p, 1, none⟩ = some (.int .i64 xf) ∧ W.cell? ⟨p, 2, none⟩ = some (.slice A hln cap) ∧ W.cell? ⟨p, 3, none⟩ = some (.pointer (some ⟨fs, 0, none⟩)) ∧ W.cell? ⟨p, 4, none⟩ = some (.string nb)) ∧ W.cell? ⟨q, 0, none⟩ = some (.int .i64 pa) ∧ W.cell? ⟨q, 1, none⟩ = some (.int .i64 pn)) := Lib.hid fun W hb => by
   have hb' := HB3.out.trans (hb.mono HB3.out.size)
   have r1 := HRP.out.below hb' hpXX
   have r2 := HRQ.out.below hb' hqXX
   exact ⟨⟨r1.cell 0, r1.cell 1, r1.cell 2, r1.cell 3, r1.cell 4⟩, r2.cell 0, r2.cell 1⟩
  have HRG : Hid True := Lib.hid trivial
  have HWT : Hid True := Lib.hid trivial
  refine Inv.region (fun W W' => Below W.heap.size W W') (fun i v W => match i with
   | 0 => v = .int .i64 (-1)
   | 1 => v = .bool true
   | 2 => v = .bool true
   | 3 => v = undef
   | 4 => v = undef
   | 5 => v = undef
   | 6 => v = undef
   | 7 => v = undef
   | 8 => v = undef
   | 9 => v = .bool true
   | _ => True) (by kernel_rfl) (by kernel_rfl) (by kernel_rfl) (fun W => Below.refl _ _) (fun a b c h k => h.trans (k.mono h.size)) (fun i v W W' h he => ?stab) ?obls ?fin
  case stab =>
   match i, h with
   | 0, h => exact h
   | 1, h => exact h
   | 2, h => exact h
   | 3, h => exact h
   | 4, h => exact h
   | 5, h => exact h
   | 6, h => exact h
   | 7, h => exact h
   | 8, h => exact h
   | 9, h => exact h
   | _ + 10, h => exact h
  case obls =>
   refine .cons ?_ (.cons ?_ (.cons ?_ (.cons ?_ (.cons ?_ (.cons ?_ (.cons ?_ (.cons ?_ (.cons ?_ (.cons ?_ .nil)))))))))
   ·intro ac wx hE hf hd
    have hB : Below Y.heap.size Y wx := ⟨hE.1,hE.2,hE.3,hE.4,hE.5⟩
    rw [if_pos (Inv.want0 rfl _)]
    have h7 : ac.eval (.tmp 7) = .int .i64 (-1) := hf 7 (by kernel_rfl)
    clear hf hd
    refine Inv.val (.int .i64 (-1)) ?_ rfl rfl (Below.refl _ _)
    clear hE hB
    generalize ac.eval = ev at *
    simp [execOp, go_sem, *]
   ·intro ac wx hE hf hd
    have hB : Below Y.heap.size Y wx := ⟨hE.1,hE.2,hE.3,hE.4,hE.5⟩
    rw [if_pos (Inv.want0 rfl _)]
    have h24 := hd 0 _ (by kernel_rfl) rfl
    change ac.eval (.tmp 24) = .int .i64 (-1) at h24
    clear hf hd
    refine Inv.val (.bool true) ?_ rfl rfl (Below.refl _ _)
    clear hE hB HF HX HRG HWT
    have hcst : ∀ v, ac.eval (.const v) = v := fun _ => rfl
    generalize ac.eval = ev at *
    simp [execOp, go_sem, *]
   ·intro ac wx hE hf hd
    have hB : Below Y.heap.size Y wx := ⟨hE.1,hE.2,hE.3,hE.4,hE.5⟩
    rw [if_pos (Inv.want0 rfl _)]
    have h25 := hd 1 _ (by kernel_rfl) rfl
    change ac.eval (.tmp 25) = .bool true at h25
    clear hf hd
    refine Inv.val (.bool true) ?_ rfl rfl (Below.refl _ _)
    clear hE hB
    generalize ac.eval = ev at *
    simp [execOp, go_sem, *]
   ·intro ac wx hE hf hd
    have hB : Below Y.heap.size Y wx := ⟨hE.1,hE.2,hE.3,hE.4,hE.5⟩
    have hg := hd 2 _ (by kernel_rfl) rfl
    change ac.eval (.tmp 26) = .bool true at hg
    rw [if_neg (Inv.unwant (j := 2) (b := false) (c := true) (d := 26) rfl rfl rfl hg rfl)]
    all_goals exact rfl
   ·intro ac wx hE hf hd
    have hB : Below Y.heap.size Y wx := ⟨hE.1,hE.2,hE.3,hE.4,hE.5⟩
    have hg := hd 2 _ (by kernel_rfl) rfl
    change ac.eval (.tmp 26) = .bool true at hg
    rw [if_neg (Inv.unwant (j := 2) (b := false) (c := true) (d := 26) rfl rfl rfl hg rfl)]
    all_goals exact rfl
   ·intro ac wx hE hf hd
    have hB : Below Y.heap.size Y wx := ⟨hE.1,hE.2,hE.3,hE.4,hE.5⟩
    have hg := hd 2 _ (by kernel_rfl) rfl
    change ac.eval (.tmp 26) = .bool true at hg
    rw [if_neg (Inv.unwant (j := 2) (b := false) (c := true) (d := 26) rfl rfl rfl hg rfl)]
    all_goals exact rfl
   ·intro ac wx hE hf hd
    have hB : Below Y.heap.size Y wx := ⟨hE.1,hE.2,hE.3,hE.4,hE.5⟩
    have hg := hd 2 _ (by kernel_rfl) rfl
    change ac.eval (.tmp 26) = .bool true at hg
    rw [if_neg (Inv.unwant (j := 2) (b := false) (c := true) (d := 26) rfl rfl rfl hg rfl)]
    all_goals exact rfl
   ·intro ac wx hE hf hd
    have hB : Below Y.heap.size Y wx := ⟨hE.1,hE.2,hE.3,hE.4,hE.5⟩
    have hg := hd 2 _ (by kernel_rfl) rfl
    change ac.eval (.tmp 26) = .bool true at hg
    rw [if_neg (Inv.unwant (j := 2) (b := false) (c := true) (d := 26) rfl rfl rfl hg rfl)]
    all_goals exact rfl
   ·intro ac wx hE hf hd
    have hB : Below Y.heap.size Y wx := ⟨hE.1,hE.2,hE.3,hE.4,hE.5⟩
    have hg := hd 2 _ (by kernel_rfl) rfl
    change ac.eval (.tmp 26) = .bool true at hg
    rw [if_neg (Inv.unwant (j := 2) (b := false) (c := true) (d := 26) rfl rfl rfl hg rfl)]
    all_goals exact rfl
   ·intro ac wx hE hf hd
    have hB : Below Y.heap.size Y wx := ⟨hE.1,hE.2,hE.3,hE.4,hE.5⟩
    rw [if_pos (Inv.want0 rfl _)]
    have h26 := hd 2 _ (by kernel_rfl) rfl
    change ac.eval (.tmp 26) = .bool true at h26
    have h32 := hd 8 _ (by kernel_rfl) rfl
    change ac.eval (.tmp 32) = undef at h32
    clear hf hd
    refine Inv.val (.bool true) ?_ rfl rfl (Below.refl _ _)
    clear hE hB HF HX HRG HWT
    have hcst : ∀ v, ac.eval (.const v) = v := fun _ => rfl
    generalize ac.eval = ev at *
    simp [execOp, go_sem, *]
  case fin =>
   intro ac wx hE ha hall
   have hB : Below Y.heap.size Y wx := ⟨hE.1,hE.2,hE.3,hE.4,hE.5⟩
   have h24 := hall 0 _ rfl
   change ac.eval (.tmp 24) = .int .i64 (-1) at h24
   have h25 := hall 1 _ rfl
   change ac.eval (.tmp 25) = .bool true at h25
   have h26 := hall 2 _ rfl
   change ac.eval (.tmp 26) = .bool true at h26
   have h27 := hall 3 _ rfl
   change ac.eval (.tmp 27) = undef at h27
   have h28 := hall 4 _ rfl
   change ac.eval (.tmp 28) = undef at h28
   have h29 := hall 5 _ rfl
   change ac.eval (.tmp 29) = undef at h29
   have h30 := hall 6 _ rfl
   change ac.eval (.tmp 30) = undef at h30
   have h31 := hall 7 _ rfl
   change ac.eval (.tmp 31) = undef at h31
   have h32 := hall 8 _ rfl
   change ac.eval (.tmp 32) = undef at h32
   have h33 := hall 9 _ rfl
   change ac.eval (.tmp 33) = .bool true at h33
   simp only [List.foldl, Inv.slot, Act.put] at ha
   change ac.tmps.getD 24 undef = _ at h24
   change ac.tmps.getD 25 undef = _ at h25
   change ac.tmps.getD 26 undef = _ at h26
   change ac.tmps.getD 27 undef = _ at h27
   change ac.tmps.getD 28 undef = _ at h28
   change ac.tmps.getD 29 undef = _ at h29
   change ac.tmps.getD 30 undef = _ at h30
   change ac.tmps.getD 31 undef = _ at h31
   change ac.tmps.getD 32 undef = _ at h32
   change ac.tmps.getD 33 undef = _ at h33
   simp only [h24, h25, h26, h27, h28, h29, h30, h31, h32, h33, List.setIfInBounds_toArray, List.set_cons_zero, List.set_cons_succ] at ha
   clear h24 h25 h26 h27 h28 h29 h30 h31 h32 h33 hall hE
   subst ha
   have HBW : Hid (Below w.heap.size w wx) := Lib.hid (HX.out.trans ((HB3.out.trans (hB.mono HB3.out.size)).mono HX.out.size))
   go_wp2_with fail
   go_ret
   obtain ⟨e1, e2, e3⟩ := HB.out _ HBW.out
   exact ⟨by rw [← e1]; rfl, e2, e3⟩
end
end Go.Proofs.YtljlanhpjpjgaaaGreatDoor
