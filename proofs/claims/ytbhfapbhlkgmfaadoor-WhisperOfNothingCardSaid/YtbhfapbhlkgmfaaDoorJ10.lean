/-
  WqSt: CONTRACTS: chapter 7, the program's store: a point is laid, or passed over.
  WqFe: CONTRACTS: chapter 7, the program's Fetch: the refused cases.
-/
import Derived.Test.YtbhfapbhlkgmfaaDoorJ9
import Derived.Test.YtbhfapbhlkgmfaaDoorJ6
import Derived.Test.YtbhfapbhlkgmfaaDoorJ8

namespace Go.Proofs.YtbhfapbhlkgmfaaDoor
open Go.RowKit Go.Sort
open Fx (Vl)
open Me
open Wp

namespace Wp
theorem fnd_none {h : Hd} {d : Int} (e : first h d h.l.length 0 = none) : find h d = -1 := by unfold find; rw [e]
theorem fnd_some {h : Hd} {d : Int} {i : Nat} (e : first h d h.l.length 0 = some i) : find h d = (i : Int) := by unfold find; rw [e]
theorem passes_eq {S : Vf.Sv} {n : List UInt8} {h : Hd} {i : Nat} {t : Int} {v : Vl} (e : Ag.put h.ag h.xf (vals S.now n h i t (many h i)) = v) : passes S n h i t = if v.ok = false ∨ Sl.al t (h.step (i + 1)) = 0 then (S, false) else (write S n h (i + 1) t v.n, true) := by unfold passes; dsimp only; rw [e]
end Wp

set_option maxRecDepth 100000 in
set_option maxHeartbeats 4000000 in
theorem store_any {w : World} {V : Nat → Prop} {c fs : Nat} {S : Vf.Sv} {n : List UInt8} {h : Hd} {B : List UInt8} {A : Option Addr} {cap : Nat} (ro : PO w V fs c S) (hc : c ≤ 498000) (hg : Gv w) (hV0 : V 0) (f : Fits S.now n h B) (hr : Row w A h.l cap) (hA : ∀ a, A = some a → V a.block) (now : Int) (hn1 : 1 ≤ now) (hn2 : now ≤ 4294967295) (pa pn : Int) :
    Calls Tryd.prog 26 #[fileV h A cap fs n, .int .i64 now, .agg #[.int .i64 pa, .int .i64 pn]] w fun e w' => e = .returned (.bool (lays S n h now (pa, pn)).2) ∧ PO w' V fs (c + 27) (lays S n h now (pa, pn)).1 ∧ Kp (fun b => ¬ V b) w w' := by
  have hfd : ∀ (W : World) (b : Bool) (m : Int), (Instr.field 47 (.agg #[.bool b, .int .i64 m]) 0).run Tryd.prog W = .ok (.bool b) W := fun _ _ _ => by kernel_rfl
  have hv := f.val
  have hlen := Hd.len hv
  have HOF : Hid (∀ W, Calls Tryd.prog 49 #[.int .i64 pn] W fun e w' => e = .returned (.agg #[.bool (Fx.of pn).ok, .int .i64 (Fx.of pn).n]) ∧ Below W.heap.size W w') := Lib.hid fun W => of_any pn W
  have HRO := Lib.hid ro
  have HG := Lib.hid hg
  have HFI := Lib.hid f
  have HROW := Lib.hid hr
  have bad : Hid (pa < 1 ∨ now < pa ∨ Fx.inR pn = false → ∀ W, Below w.heap.size w W → .bool false = Value.bool (lays S n h now (pa, pn)).2 ∧ PO W V fs (c + 27) (lays S n h now (pa, pn)).1 ∧ Kp (fun b => ¬ V b) w W) := Lib.hid fun e W hb => by
    rw [lays_bad (p := (pa, pn)) e]
    exact ⟨rfl, (ro.below hb).more (by omega) (fun _ h => h), Kp.of_below hb⟩
  have HCV : Hid (∀ W, Below w.heap.size w W → 1 ≤ pa → Calls Tryd.prog 50 #[fileV h A cap fs n, .int .i64 now, .int .i64 pa] W fun e w' => e = .returned (.int .i64 (if pa ≤ now then find h (now - pa) else -1)) ∧ Below W.heap.size W w') := Lib.hid fun W hb h1 => covering_any (hr.below hb) hv now pa (now - pa) h1 hn2 rfl
  clear ro hg f hr
  unfold fileV
  obtain ⟨nb, hnb⟩ : ∃ nb : ByteArray, nb = ⟨n.toArray⟩ := ⟨_, rfl⟩
  obtain ⟨hln, hN⟩ : ∃ N, N = h.l.length := ⟨_, rfl⟩
  obtain ⟨ag, hag⟩ : ∃ a, a = h.ag := ⟨_, rfl⟩
  obtain ⟨xf, hxf⟩ : ∃ a, a = h.xf := ⟨_, rfl⟩
  have HFV : Hid (fileV h A cap fs n = .agg #[.int .i64 ag, .int .i64 xf, .slice A hln cap, .pointer (some ⟨fs, 0, none⟩), .string nb]) := Lib.hid (by rw [hnb, hN, hag, hxf]; rfl)
  rw [HFV.out] at HCV
  have HNN := Lib.hid hN
  rw [← hnb, ← hN, ← hag, ← hxf]
  rw [← hN] at hlen
  clear hnb hN hag hxf
  have hX : Below w.heap.size w ((w.alloc (.cells #[.int .i64 ag, .int .i64 xf, .slice A hln cap, .pointer (some ⟨fs, 0, none⟩), .string nb] 70)).alloc (.cells #[.int .i64 pa, .int .i64 pn] 26)) := ((Below.refl _ _).alloc (Nat.le_refl _) _).alloc (by simp) _
  by_cases k1 : pa < 1
  · have HB := Lib.hid (bad.out (.inl k1))
    clear bad
    go_enter Tryd.func26, Tryd.ntmps26
    go_wp2_with fail
    go_ret
    obtain ⟨e1, e2, e3⟩ := HB.out _ hX
    exact ⟨by rw [← e1]; rfl, e2, e3⟩
  have k1' : 1 ≤ pa := by omega
  cases k3 : Fx.inR pn
  · have HB := Lib.hid (bad.out (.inr (.inr k3)))
    have HOV : Hid (Fx.of pn = Fx.none) := Lib.hid (by unfold Fx.of; rw [k3]; rfl)
    rw [HOV.out] at HOF
    have HOF' : Hid (∀ W, Calls Tryd.prog 49 #[.int .i64 pn] W fun e w' => e = .returned (.agg #[.bool false, .int .i64 0]) ∧ Below W.heap.size W w') := Lib.hid fun W => HOF.out W
    clear bad k3 HOF
    go_enter Tryd.func26, Tryd.ntmps26
    go_wp2_with (go_at_call 49; ((with_reducible refine (HOF'.out _).mono ?_); rintro e w2 ⟨rfl, hb2⟩; have HB2 : Hid (Below w.heap.size w w2) := Lib.hid (hX.trans (hb2.mono hX.size)); clear hb2))
    go_ret
    obtain ⟨e1, e2, e3⟩ := HB.out _ HB2.out
    exact ⟨by rw [← e1]; rfl, e2, e3⟩
  have HOV : Hid (Fx.of pn = ⟨true, pn⟩) := Lib.hid (by unfold Fx.of; rw [k3]; rfl)
  rw [HOV.out] at HOF
  have HOF' : Hid (∀ W, Calls Tryd.prog 49 #[.int .i64 pn] W fun e w' => e = .returned (.agg #[.bool true, .int .i64 pn]) ∧ Below W.heap.size W w') := Lib.hid fun W => HOF.out W
  clear HOF
  have HCV' := Lib.hid fun W hb => HCV.out W hb k1'
  obtain ⟨X, hXe⟩ : ∃ X, X = (w.alloc (.cells #[.int .i64 ag, .int .i64 xf, .slice A hln cap, .pointer (some ⟨fs, 0, none⟩), .string nb] 70)).alloc (.cells #[.int .i64 pa, .int .i64 pn] 26) := ⟨_, rfl⟩
  have HX : Hid (Below w.heap.size w X) := Lib.hid (by rw [hXe]; exact hX)
  have HXS : Hid (X.heap.size = w.heap.size + 2) := Lib.hid (by rw [hXe]; simp)
  obtain ⟨p, hp⟩ : ∃ p, p = w.heap.size := ⟨_, rfl⟩
  obtain ⟨q, hq⟩ : ∃ q, q = w.heap.size + 1 := ⟨_, rfl⟩
  have HPQ : Hid (p = w.heap.size ∧ q = w.heap.size + 1) := Lib.hid ⟨hp, hq⟩
  have HRP : Hid (RowAt X p 70 #[.int .i64 ag, .int .i64 xf, .slice A hln cap, .pointer (some ⟨fs, 0, none⟩), .string nb]) := Lib.hid (by rw [hXe, hp]; exact (RowAt.new w _ _).alloc _)
  have HRQ : Hid (RowAt X q 26 #[.int .i64 pa, .int .i64 pn]) := Lib.hid (by rw [hXe, hq]; exact RowAt.new' (by simp))
  have HXE := Lib.hid hXe
  have hpXX : p < X.heap.size := HRP.out.lt
  have hqXX : q < X.heap.size := HRQ.out.lt
  clear hXe hp hq hX
  -- the search
  obtain ⟨u, hu⟩ : ∃ u, u = if pa ≤ now then find h (now - pa) else -1 := ⟨_, rfl⟩
  have HU := Lib.hid hu
  rw [← hu] at HCV'
  clear hu
  by_cases hcov : pa ≤ now ∧ ∃ i, first h (now - pa) h.l.length 0 = some i
  · obtain ⟨hle, i0, hf0⟩ := hcov
    have hi0 : i0 < hln := by have := first_lt _ _ hf0; have := HNN.out; omega
    have HU2 : Hid (u = (i0 : Int)) := Lib.hid (by rw [HU.out, if_pos hle, fnd_some hf0])
    have hgood : ¬ (pa < 1 ∨ now < pa ∨ Fx.inR pn = false) := by rintro (e | e | e); exact k1 e; omega; rw [k3] at e; cases e
    have HF0 : Hid (¬ (pa < 1 ∨ now < pa ∨ Fx.inR pn = false) ∧ first h (now - (pa, pn).1) h.l.length 0 = some i0) := Lib.hid ⟨hgood, hf0⟩
    clear bad k3 hgood hf0 HCV k1
    rw [HU2.out] at HCV'
    obtain ⟨rv, hrv⟩ : ∃ rv : Nat → Value, ∀ i, rv i = ringV h i A cap fs n := ⟨_, fun _ => rfl⟩
    have HRV := Lib.hid hrv
    obtain ⟨V', hV'⟩ : ∃ V' : Nat → Prop, ∀ i, V' i ↔ (V i ∨ i = p ∨ i = q) := ⟨_, fun _ => Iff.rfl⟩
    have HV := Lib.hid hV'
    have HVP : Hid (V' p ∧ V' q ∧ V' 0 ∧ ∀ a, A = some a → V' a.block) := Lib.hid ⟨(hV' p).2 (.inr (.inl rfl)), (hV' q).2 (.inr (.inr rfl)), (hV' 0).2 (.inl hV0), fun a e => (hV' _).2 (.inl (hA a e))⟩
    have HROX : Hid (PO X V' fs c S) := Lib.hid (HRO.out.add HX.out fun i hi => by
      rcases (hV' i).1 hi with h | rfl | rfl
      · exact .inl h
      · have := HPQ.out.1; exact .inr ⟨by omega, hpXX⟩
      · have := HPQ.out.2; exact .inr ⟨by omega, hqXX⟩)
    have HOUT : Hid (∀ W S', PO W V' fs (c + 27) S' → Kp (fun b => ¬ V' b) X W → PO W V fs (c + 27) S' ∧ Kp (fun b => ¬ V b) w W) := Lib.hid fun W S' h1 h2 => ⟨h1.more (Nat.le_refl _) (fun i hi => (hV' i).2 (.inl hi)), (Kp.of_below HX.out).trans (h2.mono (fun i _ ho hv => ho ((hV' i).2 (.inl hv)))) (fun _ _ h => h)⟩
    have HK : Hid (∀ W, Kp (fun b => ¬ V' b) X W → RowAt W p 70 #[.int .i64 ag, .int .i64 xf, .slice A hln cap, .pointer (some ⟨fs, 0, none⟩), .string nb] ∧ RowAt W q 26 #[.int .i64 pa, .int .i64 pn] ∧ Row W A h.l cap ∧ Gv W) := Lib.hid fun W hk => by
      have hrX := HROW.out.below HX.out
      refine ⟨(hk.block p hpXX (fun o => o HVP.out.1)).trans HRP.out, (hk.block q hqXX (fun o => o HVP.out.2.1)).trans HRQ.out, row_kept hrX fun a e => hk.block _ ?_ (fun o => o (HVP.out.2.2.2 a e)), (HG.out.below HX.out).keep HVP.out.2.2.1 hk⟩
      obtain ⟨b, off, e2, ha⟩ := hrX.2 (by have := HNN.out; omega)
      rw [e] at e2
      cases e2
      exact ha.lt
    have HRGx : Hid (∀ (i : Nat) W, i < hln → Kp (fun b => ¬ V' b) X W → Calls Tryd.prog 28 #[.agg #[.int .i64 ag, .int .i64 xf, .slice A hln cap, .pointer (some ⟨fs, 0, none⟩), .string nb], .int .i64 (i : Int)] W fun e w' => e = .returned (rv i) ∧ Below W.heap.size W w') := Lib.hid fun i W hi hk => by
      have h := ring_any (fs := fs) (n := n) (HK.out W hk).2.2.1 hv i (by rw [← HNN.out]; exact hi)
      rw [HFV.out, ← hrv i] at h
      exact h
    have HWTx : Hid (∀ (i : Nat) W d T u, i < hln → d ≤ c + 24 → PO W V' fs d T → Kp (fun b => ¬ V' b) X W → Calls Tryd.prog 51 #[rv i, .agg #[.int .i64 pa, .int .i64 u]] W fun e w' => e = .returned (.bool (decide (Sl.al pa (h.step i) ≠ 0))) ∧ PO w' V' fs (d + 3) (if Sl.al pa (h.step i) = 0 then T else write T n h i pa u) ∧ Kp (fun b => ¬ V' b) W w') := Lib.hid fun i W d T u hi hd hp hk => by
      have h := write_any7 (n := n) (A := A) (cap := cap) hp (by omega) (HK.out W hk).2.2.2 HVP.out.2.2.1 hv i (by rw [← HNN.out]; exact hi) pa u (by omega) (by omega)
      rw [← hrv i] at h
      exact h
    have HTGx : Hid (∀ (ix jx : Nat) W d T BB, jx = ix + 1 → jx < hln → PO W V' fs d T → Fits T.now n h BB → Kp (fun b => ¬ V' b) X W → Calls Tryd.prog 52 #[.agg #[.int .i64 ag, .int .i64 xf, .slice A hln cap, .pointer (some ⟨fs, 0, none⟩), .string nb], .int .i64 (jx : Int), .int .i64 pa] W fun e w' => e = .returned (.agg #[.bool (Ag.put h.ag h.xf (vals T.now n h ix pa (many h ix))).ok, .int .i64 (Ag.put h.ag h.xf (vals T.now n h ix pa (many h ix))).n]) ∧ Below W.heap.size W w') := Lib.hid fun ix jx W d T BB hij hj hp hf hk => by
      have h := together_any (cap := cap) hp hf (HK.out W hk).2.2.1 ix jx hij (by rw [← HNN.out]; exact hj) pa (by omega) (by omega)
      rw [HFV.out] at h
      exact h
    have HAL0 : Hid (Sl.al pa (h.step i0) = 0 → lays S n h now (pa, pn) = (S, false)) := Lib.hid fun e => lays_zero (p := (pa, pn)) HF0.out.1 HF0.out.2 e
    have HAL1 : Hid (¬ Sl.al pa (h.step i0) = 0 → lays S n h now (pa, pn) = (climb n h pa (hln - 1 - i0) (write S n h i0 pa pn) i0, true)) := Lib.hid fun e => by rw [lays_yes (p := (pa, pn)) HF0.out.1 HF0.out.2 e, HNN.out]
    have HFI1 : Hid (Fits (write S n h i0 pa pn).now n h (put B (at_ h i0 pa).toNat (Sl.al pa (h.step i0)) pn)) := Lib.hid (HFI.out.write (by rw [← HNN.out]; exact hi0) pa pn (by omega))
    clear hrv hV' hA
    obtain ⟨S1, hS1⟩ : ∃ S1, write S n h i0 pa pn = S1 := ⟨_, rfl⟩
    have HS1 := Lib.hid hS1
    rw [hS1] at HAL1 HFI1
    clear hS1
    go_enter Tryd.func26, Tryd.ntmps26
    go_wp2_with first
      | (go_at_call 49; (with_reducible refine (HOF'.out _).mono ?_); rintro e w2 ⟨rfl, hb2⟩; have hbx : Below X.heap.size X w2 := (by rw [HXE.out]; exact hb2); have HB2 := Lib.hid hbx; have hrp := HRP.out.below hbx HRP.out.lt; have hrq := HRQ.out.below hbx HRQ.out.lt; have y0 := hrp.cell 0; have y1 := hrp.cell 1; have y2 := hrp.cell 2; have y3 := hrp.cell 3; have y4 := hrp.cell 4; have z0 := hrq.cell 0; have z1 := hrq.cell 1; have hpl := hrp.lt; have hql := hrq.lt; simp only [List.getElem?_toArray, List.getElem?_cons_succ, List.getElem?_cons_zero] at y0 y1 y2 y3 y4 z0 z1; rw [HPQ.out.1] at y0 y1 y2 y3 y4 hpl; rw [HPQ.out.2] at z0 z1 hql; clear hb2 hbx hrp hrq)
      | (go_at_call 50; (with_reducible refine (HCV'.out w2 (HX.out.trans (HB2.out.mono HX.out.size))).mono ?_); rintro e w3 ⟨rfl, hb3⟩; have HB3 : Hid (Below X.heap.size X w3) := Lib.hid (HB2.out.trans (hb3.mono HB2.out.size)); clear hb3 y0 y1 y2 y3 y4 z0 z1 hpl hql)
    rw [← HPQ.out.2, ← HPQ.out.1]
    obtain ⟨Y, hY⟩ : ∃ Y, Y = w3 := ⟨_, rfl⟩
    subst hY
    have HROY : Hid (PO Y V' fs c S) := Lib.hid (HROX.out.below HB3.out)
    have HKY : Hid (∀ W, Below Y.heap.size Y W → Kp (fun b => ¬ V' b) X W) := Lib.hid fun W hb => Kp.of_below (HB3.out.trans (hb.mono HB3.out.size))
    have HF : Hid (∀ W, Below Y.heap.size Y W → (W.cell? ⟨p, 0, none⟩ = some (.int .i64 ag) ∧ W.cell? ⟨p, 1, none⟩ = some (.int .i64 xf) ∧ W.cell? ⟨p, 2, none⟩ = some (.slice A hln cap) ∧ W.cell? ⟨p, 3, none⟩ = some (.pointer (some ⟨fs, 0, none⟩)) ∧ W.cell? ⟨p, 4, none⟩ = some (.string nb)) ∧ W.cell? ⟨q, 0, none⟩ = some (.int .i64 pa) ∧ W.cell? ⟨q, 1, none⟩ = some (.int .i64 pn)) := Lib.hid fun W hb => by
      obtain ⟨r1, r2, _, _⟩ := HK.out W (HKY.out W hb)
      exact ⟨⟨r1.cell 0, r1.cell 1, r1.cell 2, r1.cell 3, r1.cell 4⟩, r2.cell 0, r2.cell 1⟩
    have HRG : Hid (∀ W, Below Y.heap.size Y W → Calls Tryd.prog 28 #[.agg #[.int .i64 ag, .int .i64 xf, .slice A hln cap, .pointer (some ⟨fs, 0, none⟩), .string nb], .int .i64 (i0 : Int)] W fun e w' => e = .returned (rv i0) ∧ Below W.heap.size W w') := Lib.hid fun W hb => HRGx.out i0 W hi0 (HKY.out W hb)
    have HWT : Hid True := Lib.hid trivial
    refine Inv.region_tail 7 8 (fun W W' => Below W.heap.size W W') (fun i v W => match i with
      | 0 => v = .int .i64 (i0 : Int)
      | 1 => v = .bool false
      | 2 => v = .bool false
      | 3 => v = .agg #[.int .i64 ag, .int .i64 xf, .slice A hln cap, .pointer (some ⟨fs, 0, none⟩), .string nb]
      | 4 => v = .int .i64 (i0 : Int)
      | 5 => v = rv i0
      | 6 => v = .agg #[.int .i64 pa, .int .i64 pn]
      | _ => True) (by kernel_rfl) (by kernel_rfl) (by kernel_rfl) (by kernel_rfl) (fun W => Below.refl _ _) (fun a b c h k => h.trans (k.mono h.size)) (fun i v W W' h he => ?stab) ?obls ?fin
    case stab =>
      match i, h with
      | 0, h => exact h
      | 1, h => exact h
      | 2, h => exact h
      | 3, h => exact h
      | 4, h => exact h
      | 5, h => exact h
      | 6, h => exact h
      | _ + 7, h => exact h
    case obls =>
      refine .cons ?_ (.cons ?_ (.cons ?_ (.cons ?_ (.cons ?_ (.cons ?_ (.cons ?_ .nil))))))
      · intro ac wx hE hf hd
        have hB : Below Y.heap.size Y wx := ⟨hE.os, hE.tape, hE.output, hE.size, hE.block⟩
        rw [if_pos (Inv.want0 rfl _)]
        have h7 : ac.eval (.tmp 7) = .int .i64 (i0 : Int) := hf 7 (by kernel_rfl)
        clear hf hd
        refine Inv.val (.int .i64 (i0 : Int)) ?_ rfl rfl (Below.refl _ _)
        clear hE hB
        generalize ac.eval = ev at *
        simp [execOp, go_sem, *]
      · intro ac wx hE hf hd
        have hB : Below Y.heap.size Y wx := ⟨hE.os, hE.tape, hE.output, hE.size, hE.block⟩
        rw [if_pos (Inv.want0 rfl _)]
        have h24 := hd 0 _ (by kernel_rfl) rfl
        change ac.eval (.tmp 24) = .int .i64 (i0 : Int) at h24
        clear hf hd
        refine Inv.val (.bool false) ?_ rfl rfl (Below.refl _ _)
        clear hE hB HF HX HRG HWT
        have hcst : ∀ v, ac.eval (.const v) = v := fun _ => rfl
        generalize ac.eval = ev at *
        simp [execOp, go_sem, *]
      · intro ac wx hE hf hd
        have hB : Below Y.heap.size Y wx := ⟨hE.os, hE.tape, hE.output, hE.size, hE.block⟩
        rw [if_pos (Inv.want0 rfl _)]
        have h25 := hd 1 _ (by kernel_rfl) rfl
        change ac.eval (.tmp 25) = .bool false at h25
        clear hf hd
        refine Inv.val (.bool false) ?_ rfl rfl (Below.refl _ _)
        clear hE hB
        generalize ac.eval = ev at *
        simp [execOp, go_sem, *]
      · intro ac wx hE hf hd
        have hB : Below Y.heap.size Y wx := ⟨hE.os, hE.tape, hE.output, hE.size, hE.block⟩
        have hg := hd 2 _ (by kernel_rfl) rfl
        change ac.eval (.tmp 26) = .bool false at hg
        rw [if_pos (Inv.want (j := 2) (b := false) (d := 26) rfl rfl rfl hg)]
        have h3 : ac.eval (.tmp 3) = .pointer (some ⟨p, 0, none⟩) := hf 3 (by kernel_rfl)
        clear hf hd
        obtain ⟨⟨a0, a1, a2, a3, a4⟩, b0, b1⟩ := HF.out wx hB
        refine Inv.val (.agg #[.int .i64 ag, .int .i64 xf, .slice A hln cap, .pointer (some ⟨fs, 0, none⟩), .string nb]) ?_ rfl rfl (Below.refl _ _)
        clear hE hB HF HX HRG HWT
        generalize ac.eval = ev at *
        simp [execOp, go_sem, *]
      · intro ac wx hE hf hd
        have hB : Below Y.heap.size Y wx := ⟨hE.os, hE.tape, hE.output, hE.size, hE.block⟩
        have hg := hd 2 _ (by kernel_rfl) rfl
        change ac.eval (.tmp 26) = .bool false at hg
        rw [if_pos (Inv.want (j := 2) (b := false) (d := 26) rfl rfl rfl hg)]
        have h7 : ac.eval (.tmp 7) = .int .i64 (i0 : Int) := hf 7 (by kernel_rfl)
        clear hf hd
        refine Inv.val (.int .i64 (i0 : Int)) ?_ rfl rfl (Below.refl _ _)
        clear hE hB
        generalize ac.eval = ev at *
        simp [execOp, go_sem, *]
      · intro ac wx hE hf hd
        have hB : Below Y.heap.size Y wx := ⟨hE.os, hE.tape, hE.output, hE.size, hE.block⟩
        have hg := hd 2 _ (by kernel_rfl) rfl
        change ac.eval (.tmp 26) = .bool false at hg
        rw [if_pos (Inv.want (j := 2) (b := false) (d := 26) rfl rfl rfl hg)]
        have h27 := hd 3 _ (by kernel_rfl) rfl
        change ac.eval (.tmp 27) = .agg #[.int .i64 ag, .int .i64 xf, .slice A hln cap, .pointer (some ⟨fs, 0, none⟩), .string nb] at h27
        have h28 := hd 4 _ (by kernel_rfl) rfl
        change ac.eval (.tmp 28) = .int .i64 (i0 : Int) at h28
        clear hf hd
        refine Inv.go (f := 28) (xs := #[.agg #[.int .i64 ag, .int .i64 xf, .slice A hln cap, .pointer (some ⟨fs, 0, none⟩), .string nb], .int .i64 (i0 : Int)]) ?_ rfl ?_
        · clear hE hB HF HX HRG HWT
          have hfn : ac.eval (.func 28) = .func (.func 28) #[] #[] := rfl
          generalize ac.eval = ev at *
          simp [execOp, go_sem, *]
        · exact (HRG.out wx hB).mono fun e w' ⟨he, hb⟩ => ⟨_, he, rfl, hb⟩
      · intro ac wx hE hf hd
        have hB : Below Y.heap.size Y wx := ⟨hE.os, hE.tape, hE.output, hE.size, hE.block⟩
        have hg := hd 2 _ (by kernel_rfl) rfl
        change ac.eval (.tmp 26) = .bool false at hg
        rw [if_pos (Inv.want (j := 2) (b := false) (d := 26) rfl rfl rfl hg)]
        have h5 : ac.eval (.tmp 5) = .pointer (some ⟨q, 0, none⟩) := hf 5 (by kernel_rfl)
        clear hf hd
        obtain ⟨⟨a0, a1, a2, a3, a4⟩, b0, b1⟩ := HF.out wx hB
        refine Inv.val (.agg #[.int .i64 pa, .int .i64 pn]) ?_ rfl rfl (Below.refl _ _)
        clear hE hB HF HX HRG HWT
        generalize ac.eval = ev at *
        simp [execOp, go_sem, *]
    case fin =>
      intro ac wx hE ha hall
      have hB : Below Y.heap.size Y wx := ⟨hE.os, hE.tape, hE.output, hE.size, hE.block⟩
      have h24 := hall 0 _ (by decide) rfl
      change ac.eval (.tmp 24) = .int .i64 (i0 : Int) at h24
      have h25 := hall 1 _ (by decide) rfl
      change ac.eval (.tmp 25) = .bool false at h25
      have h26 := hall 2 _ (by decide) rfl
      change ac.eval (.tmp 26) = .bool false at h26
      have h27 := hall 3 _ (by decide) rfl
      change ac.eval (.tmp 27) = .agg #[.int .i64 ag, .int .i64 xf, .slice A hln cap, .pointer (some ⟨fs, 0, none⟩), .string nb] at h27
      have h28 := hall 4 _ (by decide) rfl
      change ac.eval (.tmp 28) = .int .i64 (i0 : Int) at h28
      have h29 := hall 5 _ (by decide) rfl
      change (fun v W => v = rv i0) (ac.eval (.tmp 29)) wx at h29
      try dsimp only at h29
      generalize hv29 : ac.eval (.tmp 29) = v29 at *
      have h30 := hall 6 _ (by decide) rfl
      change ac.eval (.tmp 30) = .agg #[.int .i64 pa, .int .i64 pn] at h30
      simp only [List.take_succ_cons, List.take_zero, List.foldl, Inv.slot, Act.put] at ha
      change ac.tmps.getD 24 undef = _ at h24
      change ac.tmps.getD 25 undef = _ at h25
      change ac.tmps.getD 26 undef = _ at h26
      change ac.tmps.getD 27 undef = _ at h27
      change ac.tmps.getD 28 undef = _ at h28
      change ac.tmps.getD 29 undef = _ at hv29
      change ac.tmps.getD 30 undef = _ at h30
      simp only [h24, h25, h26, h27, h28, hv29, h30, List.setIfInBounds_toArray, List.set_cons_zero, List.set_cons_succ] at ha
      clear h24 h25 h26 h27 h28 hv29 h30 hall hE
      subst ha
      simp only [List.drop_succ_cons, List.drop_zero]
      subst h29
      have HWT' : Hid (Calls Tryd.prog 51 #[rv i0, .agg #[.int .i64 pa, .int .i64 pn]] wx fun e w' => e = .returned (.bool (decide (Sl.al pa (h.step i0) ≠ 0))) ∧ PO w' V' fs (c + 3) (if Sl.al pa (h.step i0) = 0 then S else S1) ∧ Kp (fun b => ¬ V' b) wx w') := Lib.hid (by
        have h := HWTx.out i0 wx c S pn hi0 (by omega) (HROY.out.below hB) (HKY.out wx hB)
        rw [HS1.out] at h
        exact h)
      have HKX := Lib.hid (HKY.out wx hB)
      clear hB HF HRG HWT HKY
      by_cases hal0 : Sl.al pa (h.step i0) = 0
      · have HQ := Lib.hid (HAL0.out hal0)
        simp only [hal0, ne_eq, not_true_eq_false, decide_false, if_true] at HWT'
        clear HAL0 HAL1 hal0
        go_wp2_with (go_at_call 51; (with_reducible refine (HWT'.out).mono ?_); rintro e w5 ⟨rfl, hro5, hk5⟩; have HRO5 := Lib.hid hro5; have HK5 := Lib.hid (HKX.out.trans hk5 (fun _ _ h => h)); clear hro5 hk5)
        go_ret
        rw [HQ.out]
        exact ⟨rfl, HOUT.out _ _ (HRO5.out.more (by omega) (fun _ h => h)) HK5.out⟩
      · have HQ := Lib.hid (HAL1.out hal0)
        simp only [hal0, ne_eq, not_false_eq_true, decide_true, if_false] at HWT'
        clear HAL0 HAL1 hal0
        have hwi1 : IntKind.i64.wrap ((i0 : Int) + 1) = (i0 : Int) + 1 := IntWalk.i64_in _ (by omega)
        go_wp2_with (go_at_call 51; (with_reducible refine (HWT'.out).mono ?_); rintro e w5 ⟨rfl, hro5, hk5⟩; have HRO5 := Lib.hid hro5; have HK5 := Lib.hid (HKX.out.trans hk5 (fun _ _ h => h)); clear hro5 hk5)
        go_loopw [7, 8] (fun u _ wr => ∃ (kx : Nat) (Sk : Vf.Sv) (Bk : List UInt8), i0 + 1 ≤ kx ∧ kx ≤ hln ∧ u = .int .i64 kx ∧ Hid (PO wr V' fs (c + 3 + 3 * (kx - 1 - i0)) Sk) ∧ Hid (Kp (fun b => ¬ V' b) X wr) ∧ Hid (Fits Sk.now n h Bk) ∧ Hid (climb n h pa (hln - 1 - i0) S1 i0 = climb n h pa (hln - kx) Sk (kx - 1))) (fun u _ _ => hln - (intOf u).toNat)
        case atStart => exact ⟨i0 + 1, S1, _, Nat.le_refl _, by omega, by go_num, by rw [show i0 + 1 - 1 - i0 = 0 by omega]; exact HRO5, HK5, HFI1, Lib.hid (by rw [show hln - (i0 + 1) = hln - 1 - i0 by omega, show i0 + 1 - 1 = i0 by omega])⟩
        case round =>
          obtain ⟨kx, Sk, Bk, hk1, hk2, rfl, HROk, HKk, HFk, HCk⟩ := hrel
          obtain ⟨hrp, hrq, _, _⟩ := HK.out wr HKk.out
          have a2 : wr.cell? ⟨p, 2, none⟩ = some (.slice A hln cap) := hrp.cell 2
          have a0 : wr.cell? ⟨p, 0, none⟩ = some (.int .i64 ag) := hrp.cell 0
          have a1 : wr.cell? ⟨p, 1, none⟩ = some (.int .i64 xf) := hrp.cell 1
          have a3 : wr.cell? ⟨p, 3, none⟩ = some (.pointer (some ⟨fs, 0, none⟩)) := hrp.cell 3
          have a4 : wr.cell? ⟨p, 4, none⟩ = some (.string nb) := hrp.cell 4
          have b0 : wr.cell? ⟨q, 0, none⟩ = some (.int .i64 pa) := hrq.cell 0
          have hpr := hrp.lt
          have hqr := hrq.lt
          clear hrp hrq
          by_cases hlt : kx < hln
          · have hltI : (kx : Int) < (hln : Int) := by omega
            obtain ⟨ky, hky⟩ : ∃ ky, ky = kx - 1 := ⟨_, rfl⟩
            have hkk : kx = ky + 1 := by omega
            have HTG := Lib.hid (HTGx.out ky kx wr _ Sk Bk hkk hlt HROk.out HFk.out HKk.out)
            obtain ⟨pv, hpv⟩ : ∃ pv, Ag.put h.ag h.xf (vals Sk.now n h ky pa (many h ky)) = pv := ⟨_, rfl⟩
            have HPS := Lib.hid (passes_eq (t := pa) hpv)
            rw [hpv] at HTG
            rw [← hkk] at HPS
            have HCN : Hid ((passes Sk n h ky pa).2 = false → climb n h pa (hln - 1 - i0) S1 i0 = Sk) := Lib.hid fun e => by rw [HCk.out, ← hky]; exact climb_no e
            have HCY : Hid ((passes Sk n h ky pa).2 = true → climb n h pa (hln - 1 - i0) S1 i0 = climb n h pa (hln - (kx + 1)) (passes Sk n h ky pa).1 (kx + 1 - 1)) := Lib.hid fun e => by
              rw [HCk.out, ← hky, show hln - kx = (hln - (kx + 1)) + 1 by omega, climb_yes e, show kx + 1 - 1 = ky + 1 by omega]
            obtain ⟨vo, vn⟩ := pv
            clear hpv hky hkk
            go_wp2_with (go_at_call 52; (with_reducible refine (HTG.out).mono ?_); rintro e w6 ⟨rfl, hb6⟩; have HB6 := Lib.hid hb6; clear hb6)
            clear a0 a1 a2 a3 a4 b0 hpr hqr
            obtain ⟨Y2, hY2⟩ : ∃ Y2, Y2 = w6.alloc (.cells #[.bool vo, .int .i64 vn] 47) := ⟨_, rfl⟩
            obtain ⟨vb, hvb⟩ : ∃ vb, vb = w6.heap.size := ⟨_, rfl⟩
            have HY2 : Hid (Below wr.heap.size wr Y2) := Lib.hid (by rw [hY2]; exact HB6.out.alloc HB6.out.size _)
            have HRB : Hid (RowAt Y2 vb 47 #[.bool vo, .int .i64 vn]) := Lib.hid (by rw [hY2, hvb]; exact RowAt.new _ _ _)
            rw [← hY2, ← hvb]
            clear hY2 hvb
            have HKY2 : Hid (∀ W, Below Y2.heap.size Y2 W → Kp (fun b => ¬ V' b) X W ∧ Below wr.heap.size wr W) := Lib.hid fun W hb => ⟨HKk.out.trans (Kp.of_below (HY2.out.trans (hb.mono HY2.out.size))) (fun _ _ h => h), HY2.out.trans (hb.mono HY2.out.size)⟩
            have HFr : Hid (∀ W, Below Y2.heap.size Y2 W → (W.cell? ⟨p, 0, none⟩ = some (.int .i64 ag) ∧ W.cell? ⟨p, 1, none⟩ = some (.int .i64 xf) ∧ W.cell? ⟨p, 2, none⟩ = some (.slice A hln cap) ∧ W.cell? ⟨p, 3, none⟩ = some (.pointer (some ⟨fs, 0, none⟩)) ∧ W.cell? ⟨p, 4, none⟩ = some (.string nb)) ∧ W.cell? ⟨q, 0, none⟩ = some (.int .i64 pa) ∧ W.cell? ⟨q, 1, none⟩ = some (.int .i64 pn) ∧ W.cell? ⟨vb, 0, none⟩ = some (.bool vo) ∧ W.cell? ⟨vb, 1, none⟩ = some (.int .i64 vn)) := Lib.hid fun W hb => by
              obtain ⟨r1, r2, _, _⟩ := HK.out W (HKY2.out W hb).1
              have r3 := HRB.out.below hb HRB.out.lt
              exact ⟨⟨r1.cell 0, r1.cell 1, r1.cell 2, r1.cell 3, r1.cell 4⟩, r2.cell 0, r2.cell 1, r3.cell 0, r3.cell 1⟩
            have HRr : Hid (∀ W, Below Y2.heap.size Y2 W → Calls Tryd.prog 28 #[.agg #[.int .i64 ag, .int .i64 xf, .slice A hln cap, .pointer (some ⟨fs, 0, none⟩), .string nb], .int .i64 (kx : Int)] W fun e w' => e = .returned (rv kx) ∧ Below W.heap.size W w') := Lib.hid fun W hb => HRGx.out kx W hlt (HKY2.out W hb).1
            cases vo
            · have HE := Lib.hid (HCN.out (by rw [HPS.out, if_pos (.inl rfl)]))
              refine Inv.region (fun W W' => Below W.heap.size W W') (fun i v W => match i with
                | 0 => v = .pointer (some ⟨vb, 0, none⟩)
                | 1 => v = .bool false
                | 2 => v = .bool true
                | 3 => v = .bool true
                | 4 => v = undef
                | 5 => v = undef
                | 6 => v = undef
                | 7 => v = undef
                | 8 => v = undef
                | 9 => v = undef
                | 10 => v = undef
                | 11 => v = undef
                | 12 => v = undef
                | 13 => v = undef
                | 14 => v = .bool true
                | _ => True) (by kernel_rfl) (by kernel_rfl) (by kernel_rfl) (fun W => Below.refl _ _) (fun a b c h k => h.trans (k.mono h.size)) (fun i v W W' h he => ?stab) ?obls ?fin
              case stab =>
                match i, h with
                | 0, h => exact h
                | 1, h => exact h
                | 2, h => exact h
                | 3, h => exact h
                | 4, h => exact h
                | 5, h => exact h
                | 6, h => exact h
                | 7, h => exact h
                | 8, h => exact h
                | 9, h => exact h
                | 10, h => exact h
                | 11, h => exact h
                | 12, h => exact h
                | 13, h => exact h
                | 14, h => exact h
                | _ + 15, h => exact h
              case obls =>
                refine .cons ?_ (.cons ?_ (.cons ?_ (.cons ?_ (.cons ?_ (.cons ?_ (.cons ?_ (.cons ?_ (.cons ?_ (.cons ?_ (.cons ?_ (.cons ?_ (.cons ?_ (.cons ?_ (.cons ?_ .nil))))))))))))))
                · intro ac wx hE hf hd
                  have hB : Below Y2.heap.size Y2 wx := ⟨hE.os, hE.tape, hE.output, hE.size, hE.block⟩
                  rw [if_pos (Inv.want0 rfl _)]
                  have h8 : ac.eval (.tmp 8) = .pointer (some ⟨vb, 0, none⟩) := hf 8 (by kernel_rfl)
                  clear hf hd
                  refine Inv.val (.pointer (some ⟨vb, 0, none⟩)) ?_ rfl rfl (Below.refl _ _)
                  clear hE hB HFr HRr
                  have hcst : ∀ v, ac.eval (.const v) = v := fun _ => rfl
                  generalize ac.eval = ev at *
                  simp [execOp, go_sem, *]
                · intro ac wx hE hf hd
                  have hB : Below Y2.heap.size Y2 wx := ⟨hE.os, hE.tape, hE.output, hE.size, hE.block⟩
                  rw [if_pos (Inv.want0 rfl _)]
                  have h49 := hd 0 _ (by kernel_rfl) rfl
                  change ac.eval (.tmp 49) = .pointer (some ⟨vb, 0, none⟩) at h49
                  clear hf hd
                  obtain ⟨⟨a0, a1, a2, a3, a4⟩, b0, b1, d0, d1⟩ := HFr.out wx hB
                  refine Inv.val (.bool false) ?_ rfl rfl (Below.refl _ _)
                  clear hE hB HFr HRr
                  generalize ac.eval = ev at *
                  simp [execOp, go_sem, *]
                · intro ac wx hE hf hd
                  have hB : Below Y2.heap.size Y2 wx := ⟨hE.os, hE.tape, hE.output, hE.size, hE.block⟩
                  rw [if_pos (Inv.want0 rfl _)]
                  have h50 := hd 1 _ (by kernel_rfl) rfl
                  change ac.eval (.tmp 50) = .bool false at h50
                  clear hf hd
                  refine Inv.val (.bool true) ?_ rfl rfl (Below.refl _ _)
                  clear hE hB HFr HRr
                  have hcst : ∀ v, ac.eval (.const v) = v := fun _ => rfl
                  generalize ac.eval = ev at *
                  simp [execOp, go_sem, *]
                · intro ac wx hE hf hd
                  have hB : Below Y2.heap.size Y2 wx := ⟨hE.os, hE.tape, hE.output, hE.size, hE.block⟩
                  rw [if_pos (Inv.want0 rfl _)]
                  have h51 := hd 2 _ (by kernel_rfl) rfl
                  change ac.eval (.tmp 51) = .bool true at h51
                  clear hf hd
                  refine Inv.val (.bool true) ?_ rfl rfl (Below.refl _ _)
                  clear hE hB
                  generalize ac.eval = ev at *
                  simp [execOp, go_sem, *]
                · intro ac wx hE hf hd
                  have hB : Below Y2.heap.size Y2 wx := ⟨hE.os, hE.tape, hE.output, hE.size, hE.block⟩
                  have hg := hd 3 _ (by kernel_rfl) rfl
                  change ac.eval (.tmp 52) = .bool true at hg
                  rw [if_neg (Inv.unwant (j := 3) (b := false) (c := true) (d := 52) rfl rfl rfl hg rfl)]
                  all_goals exact rfl
                · intro ac wx hE hf hd
                  have hB : Below Y2.heap.size Y2 wx := ⟨hE.os, hE.tape, hE.output, hE.size, hE.block⟩
                  have hg := hd 3 _ (by kernel_rfl) rfl
                  change ac.eval (.tmp 52) = .bool true at hg
                  rw [if_neg (Inv.unwant (j := 3) (b := false) (c := true) (d := 52) rfl rfl rfl hg rfl)]
                  all_goals exact rfl
                · intro ac wx hE hf hd
                  have hB : Below Y2.heap.size Y2 wx := ⟨hE.os, hE.tape, hE.output, hE.size, hE.block⟩
                  have hg := hd 3 _ (by kernel_rfl) rfl
                  change ac.eval (.tmp 52) = .bool true at hg
                  rw [if_neg (Inv.unwant (j := 3) (b := false) (c := true) (d := 52) rfl rfl rfl hg rfl)]
                  all_goals exact rfl
                · intro ac wx hE hf hd
                  have hB : Below Y2.heap.size Y2 wx := ⟨hE.os, hE.tape, hE.output, hE.size, hE.block⟩
                  have hg := hd 3 _ (by kernel_rfl) rfl
                  change ac.eval (.tmp 52) = .bool true at hg
                  rw [if_neg (Inv.unwant (j := 3) (b := false) (c := true) (d := 52) rfl rfl rfl hg rfl)]
                  all_goals exact rfl
                · intro ac wx hE hf hd
                  have hB : Below Y2.heap.size Y2 wx := ⟨hE.os, hE.tape, hE.output, hE.size, hE.block⟩
                  have hg := hd 3 _ (by kernel_rfl) rfl
                  change ac.eval (.tmp 52) = .bool true at hg
                  rw [if_neg (Inv.unwant (j := 3) (b := false) (c := true) (d := 52) rfl rfl rfl hg rfl)]
                  all_goals exact rfl
                · intro ac wx hE hf hd
                  have hB : Below Y2.heap.size Y2 wx := ⟨hE.os, hE.tape, hE.output, hE.size, hE.block⟩
                  have hg := hd 3 _ (by kernel_rfl) rfl
                  change ac.eval (.tmp 52) = .bool true at hg
                  rw [if_neg (Inv.unwant (j := 3) (b := false) (c := true) (d := 52) rfl rfl rfl hg rfl)]
                  all_goals exact rfl
                · intro ac wx hE hf hd
                  have hB : Below Y2.heap.size Y2 wx := ⟨hE.os, hE.tape, hE.output, hE.size, hE.block⟩
                  have hg := hd 3 _ (by kernel_rfl) rfl
                  change ac.eval (.tmp 52) = .bool true at hg
                  rw [if_neg (Inv.unwant (j := 3) (b := false) (c := true) (d := 52) rfl rfl rfl hg rfl)]
                  all_goals exact rfl
                · intro ac wx hE hf hd
                  have hB : Below Y2.heap.size Y2 wx := ⟨hE.os, hE.tape, hE.output, hE.size, hE.block⟩
                  have hg := hd 3 _ (by kernel_rfl) rfl
                  change ac.eval (.tmp 52) = .bool true at hg
                  rw [if_neg (Inv.unwant (j := 3) (b := false) (c := true) (d := 52) rfl rfl rfl hg rfl)]
                  all_goals exact rfl
                · intro ac wx hE hf hd
                  have hB : Below Y2.heap.size Y2 wx := ⟨hE.os, hE.tape, hE.output, hE.size, hE.block⟩
                  have hg := hd 3 _ (by kernel_rfl) rfl
                  change ac.eval (.tmp 52) = .bool true at hg
                  rw [if_neg (Inv.unwant (j := 3) (b := false) (c := true) (d := 52) rfl rfl rfl hg rfl)]
                  all_goals exact rfl
                · intro ac wx hE hf hd
                  have hB : Below Y2.heap.size Y2 wx := ⟨hE.os, hE.tape, hE.output, hE.size, hE.block⟩
                  have hg := hd 3 _ (by kernel_rfl) rfl
                  change ac.eval (.tmp 52) = .bool true at hg
                  rw [if_neg (Inv.unwant (j := 3) (b := false) (c := true) (d := 52) rfl rfl rfl hg rfl)]
                  all_goals exact rfl
                · intro ac wx hE hf hd
                  have hB : Below Y2.heap.size Y2 wx := ⟨hE.os, hE.tape, hE.output, hE.size, hE.block⟩
                  rw [if_pos (Inv.want0 rfl _)]
                  have h52 := hd 3 _ (by kernel_rfl) rfl
                  change ac.eval (.tmp 52) = .bool true at h52
                  have h62 := hd 13 _ (by kernel_rfl) rfl
                  change ac.eval (.tmp 62) = undef at h62
                  clear hf hd
                  refine Inv.val (.bool true) ?_ rfl rfl (Below.refl _ _)
                  clear hE hB HFr HRr
                  have hcst : ∀ v, ac.eval (.const v) = v := fun _ => rfl
                  generalize ac.eval = ev at *
                  simp [execOp, go_sem, *]
              case fin =>
                intro ac wx hE ha hall
                have hB : Below Y2.heap.size Y2 wx := ⟨hE.os, hE.tape, hE.output, hE.size, hE.block⟩
                have h49 := hall 0 _ rfl
                change ac.eval (.tmp 49) = .pointer (some ⟨vb, 0, none⟩) at h49
                have h50 := hall 1 _ rfl
                change ac.eval (.tmp 50) = .bool false at h50
                have h51 := hall 2 _ rfl
                change ac.eval (.tmp 51) = .bool true at h51
                have h52 := hall 3 _ rfl
                change ac.eval (.tmp 52) = .bool true at h52
                have h53 := hall 4 _ rfl
                change ac.eval (.tmp 53) = undef at h53
                have h54 := hall 5 _ rfl
                change ac.eval (.tmp 54) = undef at h54
                have h55 := hall 6 _ rfl
                change ac.eval (.tmp 55) = undef at h55
                have h56 := hall 7 _ rfl
                change ac.eval (.tmp 56) = undef at h56
                have h57 := hall 8 _ rfl
                change ac.eval (.tmp 57) = undef at h57
                have h58 := hall 9 _ rfl
                change ac.eval (.tmp 58) = undef at h58
                have h59 := hall 10 _ rfl
                change ac.eval (.tmp 59) = undef at h59
                have h60 := hall 11 _ rfl
                change ac.eval (.tmp 60) = undef at h60
                have h61 := hall 12 _ rfl
                change ac.eval (.tmp 61) = undef at h61
                have h62 := hall 13 _ rfl
                change ac.eval (.tmp 62) = undef at h62
                have h63 := hall 14 _ rfl
                change ac.eval (.tmp 63) = .bool true at h63
                simp only [List.foldl, Inv.slot, Act.put] at ha
                change ac.tmps.getD 49 undef = _ at h49
                change ac.tmps.getD 50 undef = _ at h50
                change ac.tmps.getD 51 undef = _ at h51
                change ac.tmps.getD 52 undef = _ at h52
                change ac.tmps.getD 53 undef = _ at h53
                change ac.tmps.getD 54 undef = _ at h54
                change ac.tmps.getD 55 undef = _ at h55
                change ac.tmps.getD 56 undef = _ at h56
                change ac.tmps.getD 57 undef = _ at h57
                change ac.tmps.getD 58 undef = _ at h58
                change ac.tmps.getD 59 undef = _ at h59
                change ac.tmps.getD 60 undef = _ at h60
                change ac.tmps.getD 61 undef = _ at h61
                change ac.tmps.getD 62 undef = _ at h62
                change ac.tmps.getD 63 undef = _ at h63
                simp only [h49, h50, h51, h52, h53, h54, h55, h56, h57, h58, h59, h60, h61, h62, h63, List.setIfInBounds_toArray, List.set_cons_zero, List.set_cons_succ] at ha
                clear h49 h50 h51 h52 h53 h54 h55 h56 h57 h58 h59 h60 h61 h62 h63 hall hE
                subst ha
                have HBW := Lib.hid (HKY2.out wx hB)
                clear hB
                go_wp2_with fail
                go_ret
                rw [HQ.out, HE.out]
                exact ⟨rfl, HOUT.out _ _ ((HROk.out.below HBW.out.2).more (by omega) (fun _ h => h)) HBW.out.1⟩
            · have hvt : True := trivial
              refine Inv.region_tail 12 8 (fun W W' => Below W.heap.size W W') (fun i v W => match i with
                | 0 => v = .pointer (some ⟨vb, 0, none⟩)
                | 1 => v = .bool true
                | 2 => v = .bool false
                | 3 => v = .bool false
                | 4 => v = .agg #[.int .i64 ag, .int .i64 xf, .slice A hln cap, .pointer (some ⟨fs, 0, none⟩), .string nb]
                | 5 => v = .int .i64 (kx : Int)
                | 6 => v = rv kx
                | 7 => v = .pointer (some ⟨q, 0, none⟩)
                | 8 => v = .int .i64 pa
                | 9 => v = .pointer (some ⟨vb, 1, none⟩)
                | 10 => v = .int .i64 vn
                | 11 => v = .agg #[.int .i64 pa, .int .i64 vn]
                | _ => True) (by kernel_rfl) (by kernel_rfl) (by kernel_rfl) (by kernel_rfl) (fun W => Below.refl _ _) (fun a b c h k => h.trans (k.mono h.size)) (fun i v W W' h he => ?stab) ?obls ?fin
              case stab =>
                match i, h with
                | 0, h => exact h
                | 1, h => exact h
                | 2, h => exact h
                | 3, h => exact h
                | 4, h => exact h
                | 5, h => exact h
                | 6, h => exact h
                | 7, h => exact h
                | 8, h => exact h
                | 9, h => exact h
                | 10, h => exact h
                | 11, h => exact h
                | _ + 12, h => exact h
              case obls =>
                refine .cons ?_ (.cons ?_ (.cons ?_ (.cons ?_ (.cons ?_ (.cons ?_ (.cons ?_ (.cons ?_ (.cons ?_ (.cons ?_ (.cons ?_ (.cons ?_ .nil)))))))))))
                · intro ac wx hE hf hd
                  have hB : Below Y2.heap.size Y2 wx := ⟨hE.os, hE.tape, hE.output, hE.size, hE.block⟩
                  rw [if_pos (Inv.want0 rfl _)]
                  have h8 : ac.eval (.tmp 8) = .pointer (some ⟨vb, 0, none⟩) := hf 8 (by kernel_rfl)
                  clear hf hd
                  refine Inv.val (.pointer (some ⟨vb, 0, none⟩)) ?_ rfl rfl (Below.refl _ _)
                  clear hE hB HFr HRr
                  have hcst : ∀ v, ac.eval (.const v) = v := fun _ => rfl
                  generalize ac.eval = ev at *
                  simp [execOp, go_sem, *]
                · intro ac wx hE hf hd
                  have hB : Below Y2.heap.size Y2 wx := ⟨hE.os, hE.tape, hE.output, hE.size, hE.block⟩
                  rw [if_pos (Inv.want0 rfl _)]
                  have h49 := hd 0 _ (by kernel_rfl) rfl
                  change ac.eval (.tmp 49) = .pointer (some ⟨vb, 0, none⟩) at h49
                  clear hf hd
                  obtain ⟨⟨a0, a1, a2, a3, a4⟩, b0, b1, d0, d1⟩ := HFr.out wx hB
                  refine Inv.val (.bool true) ?_ rfl rfl (Below.refl _ _)
                  clear hE hB HFr HRr
                  generalize ac.eval = ev at *
                  simp [execOp, go_sem, *]
                · intro ac wx hE hf hd
                  have hB : Below Y2.heap.size Y2 wx := ⟨hE.os, hE.tape, hE.output, hE.size, hE.block⟩
                  rw [if_pos (Inv.want0 rfl _)]
                  have h50 := hd 1 _ (by kernel_rfl) rfl
                  change ac.eval (.tmp 50) = .bool true at h50
                  clear hf hd
                  refine Inv.val (.bool false) ?_ rfl rfl (Below.refl _ _)
                  clear hE hB HFr HRr
                  have hcst : ∀ v, ac.eval (.const v) = v := fun _ => rfl
                  generalize ac.eval = ev at *
                  simp [execOp, go_sem, *]
                · intro ac wx hE hf hd
                  have hB : Below Y2.heap.size Y2 wx := ⟨hE.os, hE.tape, hE.output, hE.size, hE.block⟩
                  rw [if_pos (Inv.want0 rfl _)]
                  have h51 := hd 2 _ (by kernel_rfl) rfl
                  change ac.eval (.tmp 51) = .bool false at h51
                  clear hf hd
                  refine Inv.val (.bool false) ?_ rfl rfl (Below.refl _ _)
                  clear hE hB
                  generalize ac.eval = ev at *
                  simp [execOp, go_sem, *]
                · intro ac wx hE hf hd
                  have hB : Below Y2.heap.size Y2 wx := ⟨hE.os, hE.tape, hE.output, hE.size, hE.block⟩
                  have hg := hd 3 _ (by kernel_rfl) rfl
                  change ac.eval (.tmp 52) = .bool false at hg
                  rw [if_pos (Inv.want (j := 3) (b := false) (d := 52) rfl rfl rfl hg)]
                  have h3 : ac.eval (.tmp 3) = .pointer (some ⟨p, 0, none⟩) := hf 3 (by kernel_rfl)
                  clear hf hd
                  obtain ⟨⟨a0, a1, a2, a3, a4⟩, b0, b1, d0, d1⟩ := HFr.out wx hB
                  refine Inv.val (.agg #[.int .i64 ag, .int .i64 xf, .slice A hln cap, .pointer (some ⟨fs, 0, none⟩), .string nb]) ?_ rfl rfl (Below.refl _ _)
                  clear hE hB HFr HRr
                  generalize ac.eval = ev at *
                  simp [execOp, go_sem, *]
                · intro ac wx hE hf hd
                  have hB : Below Y2.heap.size Y2 wx := ⟨hE.os, hE.tape, hE.output, hE.size, hE.block⟩
                  have hg := hd 3 _ (by kernel_rfl) rfl
                  change ac.eval (.tmp 52) = .bool false at hg
                  rw [if_pos (Inv.want (j := 3) (b := false) (d := 52) rfl rfl rfl hg)]
                  have h7 : ac.eval (.tmp 7) = .int .i64 (kx : Int) := hf 7 (by kernel_rfl)
                  clear hf hd
                  refine Inv.val (.int .i64 (kx : Int)) ?_ rfl rfl (Below.refl _ _)
                  clear hE hB
                  generalize ac.eval = ev at *
                  simp [execOp, go_sem, *]
                · intro ac wx hE hf hd
                  have hB : Below Y2.heap.size Y2 wx := ⟨hE.os, hE.tape, hE.output, hE.size, hE.block⟩
                  have hg := hd 3 _ (by kernel_rfl) rfl
                  change ac.eval (.tmp 52) = .bool false at hg
                  rw [if_pos (Inv.want (j := 3) (b := false) (d := 52) rfl rfl rfl hg)]
                  have h53 := hd 4 _ (by kernel_rfl) rfl
                  change ac.eval (.tmp 53) = .agg #[.int .i64 ag, .int .i64 xf, .slice A hln cap, .pointer (some ⟨fs, 0, none⟩), .string nb] at h53
                  have h54 := hd 5 _ (by kernel_rfl) rfl
                  change ac.eval (.tmp 54) = .int .i64 (kx : Int) at h54
                  clear hf hd
                  refine Inv.go (f := 28) (xs := #[.agg #[.int .i64 ag, .int .i64 xf, .slice A hln cap, .pointer (some ⟨fs, 0, none⟩), .string nb], .int .i64 (kx : Int)]) ?_ rfl ?_
                  · clear hE hB HFr HRr
                    have hfn : ac.eval (.func 28) = .func (.func 28) #[] #[] := rfl
                    generalize ac.eval = ev at *
                    simp [execOp, go_sem, *]
                  · exact (HRr.out wx hB).mono fun e w' ⟨he, hb⟩ => ⟨_, he, rfl, hb⟩
                · intro ac wx hE hf hd
                  have hB : Below Y2.heap.size Y2 wx := ⟨hE.os, hE.tape, hE.output, hE.size, hE.block⟩
                  have hg := hd 3 _ (by kernel_rfl) rfl
                  change ac.eval (.tmp 52) = .bool false at hg
                  rw [if_pos (Inv.want (j := 3) (b := false) (d := 52) rfl rfl rfl hg)]
                  have h5 : ac.eval (.tmp 5) = .pointer (some ⟨q, 0, none⟩) := hf 5 (by kernel_rfl)
                  clear hf hd
                  refine Inv.val (.pointer (some ⟨q, 0, none⟩)) ?_ rfl rfl (Below.refl _ _)
                  clear hE hB HFr HRr
                  have hcst : ∀ v, ac.eval (.const v) = v := fun _ => rfl
                  generalize ac.eval = ev at *
                  simp [execOp, go_sem, *]
                · intro ac wx hE hf hd
                  have hB : Below Y2.heap.size Y2 wx := ⟨hE.os, hE.tape, hE.output, hE.size, hE.block⟩
                  have hg := hd 3 _ (by kernel_rfl) rfl
                  change ac.eval (.tmp 52) = .bool false at hg
                  rw [if_pos (Inv.want (j := 3) (b := false) (d := 52) rfl rfl rfl hg)]
                  have h56 := hd 7 _ (by kernel_rfl) rfl
                  change ac.eval (.tmp 56) = .pointer (some ⟨q, 0, none⟩) at h56
                  clear hf hd
                  obtain ⟨⟨a0, a1, a2, a3, a4⟩, b0, b1, d0, d1⟩ := HFr.out wx hB
                  refine Inv.val (.int .i64 pa) ?_ rfl rfl (Below.refl _ _)
                  clear hE hB HFr HRr
                  generalize ac.eval = ev at *
                  simp [execOp, go_sem, *]
                · intro ac wx hE hf hd
                  have hB : Below Y2.heap.size Y2 wx := ⟨hE.os, hE.tape, hE.output, hE.size, hE.block⟩
                  have hg := hd 3 _ (by kernel_rfl) rfl
                  change ac.eval (.tmp 52) = .bool false at hg
                  rw [if_pos (Inv.want (j := 3) (b := false) (d := 52) rfl rfl rfl hg)]
                  have h8 : ac.eval (.tmp 8) = .pointer (some ⟨vb, 0, none⟩) := hf 8 (by kernel_rfl)
                  clear hf hd
                  refine Inv.val (.pointer (some ⟨vb, 1, none⟩)) ?_ rfl rfl (Below.refl _ _)
                  clear hE hB HFr HRr
                  have hcst : ∀ v, ac.eval (.const v) = v := fun _ => rfl
                  generalize ac.eval = ev at *
                  simp [execOp, go_sem, *]
                · intro ac wx hE hf hd
                  have hB : Below Y2.heap.size Y2 wx := ⟨hE.os, hE.tape, hE.output, hE.size, hE.block⟩
                  have hg := hd 3 _ (by kernel_rfl) rfl
                  change ac.eval (.tmp 52) = .bool false at hg
                  rw [if_pos (Inv.want (j := 3) (b := false) (d := 52) rfl rfl rfl hg)]
                  have h58 := hd 9 _ (by kernel_rfl) rfl
                  change ac.eval (.tmp 58) = .pointer (some ⟨vb, 1, none⟩) at h58
                  clear hf hd
                  obtain ⟨⟨a0, a1, a2, a3, a4⟩, b0, b1, d0, d1⟩ := HFr.out wx hB
                  refine Inv.val (.int .i64 vn) ?_ rfl rfl (Below.refl _ _)
                  clear hE hB HFr HRr
                  generalize ac.eval = ev at *
                  simp [execOp, go_sem, *]
                · intro ac wx hE hf hd
                  have hB : Below Y2.heap.size Y2 wx := ⟨hE.os, hE.tape, hE.output, hE.size, hE.block⟩
                  have hg := hd 3 _ (by kernel_rfl) rfl
                  change ac.eval (.tmp 52) = .bool false at hg
                  rw [if_pos (Inv.want (j := 3) (b := false) (d := 52) rfl rfl rfl hg)]
                  have h57 := hd 8 _ (by kernel_rfl) rfl
                  change ac.eval (.tmp 57) = .int .i64 pa at h57
                  have h59 := hd 10 _ (by kernel_rfl) rfl
                  change ac.eval (.tmp 59) = .int .i64 vn at h59
                  clear hf hd
                  refine Inv.val (.agg #[.int .i64 pa, .int .i64 vn]) ?_ rfl rfl (Below.refl _ _)
                  clear hE hB HFr HRr
                  have hcst : ∀ v, ac.eval (.const v) = v := fun _ => rfl
                  generalize ac.eval = ev at *
                  simp [execOp, go_sem, *]
              case fin =>
                intro ac wx hE ha hall
                have hB : Below Y2.heap.size Y2 wx := ⟨hE.os, hE.tape, hE.output, hE.size, hE.block⟩
                have h49 := hall 0 _ (by decide) rfl
                change ac.eval (.tmp 49) = .pointer (some ⟨vb, 0, none⟩) at h49
                have h50 := hall 1 _ (by decide) rfl
                change ac.eval (.tmp 50) = .bool true at h50
                have h51 := hall 2 _ (by decide) rfl
                change ac.eval (.tmp 51) = .bool false at h51
                have h52 := hall 3 _ (by decide) rfl
                change ac.eval (.tmp 52) = .bool false at h52
                have h53 := hall 4 _ (by decide) rfl
                change ac.eval (.tmp 53) = .agg #[.int .i64 ag, .int .i64 xf, .slice A hln cap, .pointer (some ⟨fs, 0, none⟩), .string nb] at h53
                have h54 := hall 5 _ (by decide) rfl
                change ac.eval (.tmp 54) = .int .i64 (kx : Int) at h54
                have h55 := hall 6 _ (by decide) rfl
                change (fun v W => v = rv kx) (ac.eval (.tmp 55)) wx at h55
                try dsimp only at h55
                generalize hv55 : ac.eval (.tmp 55) = v55 at *
                have h56 := hall 7 _ (by decide) rfl
                change ac.eval (.tmp 56) = .pointer (some ⟨q, 0, none⟩) at h56
                have h57 := hall 8 _ (by decide) rfl
                change ac.eval (.tmp 57) = .int .i64 pa at h57
                have h58 := hall 9 _ (by decide) rfl
                change ac.eval (.tmp 58) = .pointer (some ⟨vb, 1, none⟩) at h58
                have h59 := hall 10 _ (by decide) rfl
                change ac.eval (.tmp 59) = .int .i64 vn at h59
                have h60 := hall 11 _ (by decide) rfl
                change ac.eval (.tmp 60) = .agg #[.int .i64 pa, .int .i64 vn] at h60
                simp only [List.take_succ_cons, List.take_zero, List.foldl, Inv.slot, Act.put] at ha
                change ac.tmps.getD 49 undef = _ at h49
                change ac.tmps.getD 50 undef = _ at h50
                change ac.tmps.getD 51 undef = _ at h51
                change ac.tmps.getD 52 undef = _ at h52
                change ac.tmps.getD 53 undef = _ at h53
                change ac.tmps.getD 54 undef = _ at h54
                change ac.tmps.getD 55 undef = _ at hv55
                change ac.tmps.getD 56 undef = _ at h56
                change ac.tmps.getD 57 undef = _ at h57
                change ac.tmps.getD 58 undef = _ at h58
                change ac.tmps.getD 59 undef = _ at h59
                change ac.tmps.getD 60 undef = _ at h60
                simp only [h49, h50, h51, h52, h53, h54, hv55, h56, h57, h58, h59, h60, List.setIfInBounds_toArray, List.set_cons_zero, List.set_cons_succ] at ha
                clear h49 h50 h51 h52 h53 h54 hv55 h56 h57 h58 h59 h60 hall hE
                subst ha
                simp only [List.drop_succ_cons, List.drop_zero]
                subst h55
                have HWW : Hid (∀ al, al = Sl.al pa (h.step kx) → Calls Tryd.prog 51 #[rv kx, .agg #[.int .i64 pa, .int .i64 vn]] wx fun e w' => e = .returned (.bool (decide (al ≠ 0))) ∧ PO w' V' fs (c + 3 + 3 * (kx - 1 - i0) + 3) (if al = 0 then Sk else write Sk n h kx pa vn) ∧ Kp (fun b => ¬ V' b) wx w') := Lib.hid fun al e => by
                  rw [e]
                  exact HWTx.out kx wx _ Sk vn hlt (by omega) (HROk.out.below (HKY2.out wx hB).2) (HKY2.out wx hB).1
                have HBW := Lib.hid (HKY2.out wx hB)
                clear hB HFr HRr HKY2
                by_cases hal : Sl.al pa (h.step kx) = 0
                · have HE := Lib.hid (HCN.out (by rw [HPS.out, if_pos (.inr hal)]))
                  have HW0 := Lib.hid (HWW.out 0 hal.symm)
                  simp only [ne_eq, not_true_eq_false, decide_false, if_true] at HW0
                  clear hal HWW
                  go_wp2_with (go_at_call 51; (with_reducible refine (HW0.out).mono ?_); rintro e w7 ⟨rfl, hro7, hk7⟩; have HRO7 := Lib.hid hro7; have HK7 := Lib.hid (HBW.out.1.trans hk7 (fun _ _ h => h)); clear hro7 hk7)
                  go_ret
                  rw [HQ.out, HE.out]
                  exact ⟨rfl, HOUT.out _ _ (HRO7.out.more (by omega) (fun _ h => h)) HK7.out⟩
                · have HPY : Hid (passes Sk n h ky pa = (write Sk n h kx pa vn, true)) := Lib.hid (by rw [HPS.out, if_neg (by rintro (e | e); cases e; exact hal e)])
                  have HE := Lib.hid (HCY.out (by rw [HPY.out]))
                  rw [HPY.out] at HE
                  have HW1 := Lib.hid (HWW.out _ rfl)
                  simp only [hal, ne_eq, not_false_eq_true, decide_true, if_false] at HW1
                  have HFN : Hid (Fits (write Sk n h kx pa vn).now n h (put Bk (at_ h kx pa).toNat (Sl.al pa (h.step kx)) vn)) := Lib.hid (HFk.out.write (by rw [← HNN.out]; exact hlt) pa vn (by omega))
                  clear hal HWW
                  generalize write Sk n h kx pa vn = Sn at *
                  have hwk1 : IntKind.i64.wrap ((kx : Int) + 1) = (kx : Int) + 1 := IntWalk.i64_in _ (by omega)
                  go_wp2_with (go_at_call 51; (with_reducible refine (HW1.out).mono ?_); rintro e w7 ⟨rfl, hro7, hk7⟩; have HRO7 := Lib.hid hro7; have HK7 := Lib.hid (HBW.out.1.trans hk7 (fun _ _ h => h)); clear hro7 hk7)
                  go_roundw
                  case rel => exact ⟨kx + 1, Sn, _, by omega, by omega, by go_num, Lib.hid (HRO7.out.more (by omega) (fun _ h => h)), HK7, HFN, HE⟩
                  case measure => simp [intOf]; omega
          · have hkn : kx = hln := by omega
            have hltI : ¬ (kx : Int) < (hln : Int) := by omega
            have HE : Hid (climb n h pa (hln - 1 - i0) S1 i0 = Sk) := Lib.hid (by rw [HCk.out, hkn, Nat.sub_self]; rfl)
            go_wp2_with fail
            go_ret
            rw [HQ.out, HE.out]
            exact ⟨rfl, HOUT.out _ _ (HROk.out.more (by omega) (fun _ h => h)) HKk.out⟩
  · have HB : Hid (∀ W, Below w.heap.size w W → .bool false = Value.bool (lays S n h now (pa, pn)).2 ∧ PO W V fs (c + 27) (lays S n h now (pa, pn)).1 ∧ Kp (fun b => ¬ V b) w W) := Lib.hid (by
      by_cases hle : pa ≤ now
      · have hnone : first h (now - (pa, pn).1) h.l.length 0 = none := by
          cases e : first h (now - pa) h.l.length 0 with
          | none => rfl
          | some i => exact absurd ⟨hle, i, e⟩ hcov
        intro W hb
        rw [lays_none (p := (pa, pn)) (by rintro (e | e | e); exact k1 e; exact absurd hle (by simpa using e); rw [k3] at e; cases e) hnone]
        exact ⟨rfl, (HRO.out.below hb).more (by omega) (fun _ h => h), Kp.of_below hb⟩
      · exact bad.out (.inr (.inl (by omega))))
    have HU2 : Hid (u = -1) := Lib.hid (by
      rw [HU.out]
      by_cases hle : pa ≤ now
      · rw [if_pos hle]
        refine fnd_none ?_
        cases e : first h (now - pa) h.l.length 0 with
        | none => rfl
        | some i => exact absurd ⟨hle, i, e⟩ hcov
      · rw [if_neg hle])
    rw [HU2.out] at HCV'
    clear bad k3 hcov HCV k1
    go_enter Tryd.func26, Tryd.ntmps26
    go_wp2_with first
      | (go_at_call 49; (with_reducible refine (HOF'.out _).mono ?_); rintro e w2 ⟨rfl, hb2⟩; have hbx : Below X.heap.size X w2 := (by rw [HXE.out]; exact hb2); have HB2 := Lib.hid hbx; have hrp := HRP.out.below hbx HRP.out.lt; have hrq := HRQ.out.below hbx HRQ.out.lt; have y0 := hrp.cell 0; have y1 := hrp.cell 1; have y2 := hrp.cell 2; have y3 := hrp.cell 3; have y4 := hrp.cell 4; have z0 := hrq.cell 0; have z1 := hrq.cell 1; have hpl := hrp.lt; have hql := hrq.lt; simp only [List.getElem?_toArray, List.getElem?_cons_succ, List.getElem?_cons_zero] at y0 y1 y2 y3 y4 z0 z1; rw [HPQ.out.1] at y0 y1 y2 y3 y4 hpl; rw [HPQ.out.2] at z0 z1 hql; clear hb2 hbx hrp hrq)
      | (go_at_call 50; (with_reducible refine (HCV'.out w2 (HX.out.trans (HB2.out.mono HX.out.size))).mono ?_); rintro e w3 ⟨rfl, hb3⟩; have HB3 : Hid (Below X.heap.size X w3) := Lib.hid (HB2.out.trans (hb3.mono HB2.out.size)); clear hb3 y0 y1 y2 y3 y4 z0 z1 hpl hql)
    rw [← HPQ.out.2, ← HPQ.out.1]
    obtain ⟨Y, hY⟩ : ∃ Y, Y = w3 := ⟨_, rfl⟩
    subst hY
    have HF : Hid (∀ W, Below Y.heap.size Y W → (W.cell? ⟨p, 0, none⟩ = some (.int .i64 ag) ∧ W.cell? ⟨p, 1, none⟩ = some (.int .i64 xf) ∧ W.cell? ⟨p, 2, none⟩ = some (.slice A hln cap) ∧ W.cell? ⟨p, 3, none⟩ = some (.pointer (some ⟨fs, 0, none⟩)) ∧ W.cell? ⟨p, 4, none⟩ = some (.string nb)) ∧ W.cell? ⟨q, 0, none⟩ = some (.int .i64 pa) ∧ W.cell? ⟨q, 1, none⟩ = some (.int .i64 pn)) := Lib.hid fun W hb => by
      have hb' := HB3.out.trans (hb.mono HB3.out.size)
      have r1 := HRP.out.below hb' hpXX
      have r2 := HRQ.out.below hb' hqXX
      exact ⟨⟨r1.cell 0, r1.cell 1, r1.cell 2, r1.cell 3, r1.cell 4⟩, r2.cell 0, r2.cell 1⟩
    have HRG : Hid True := Lib.hid trivial
    have HWT : Hid True := Lib.hid trivial
    refine Inv.region (fun W W' => Below W.heap.size W W') (fun i v W => match i with
      | 0 => v = .int .i64 (-1)
      | 1 => v = .bool true
      | 2 => v = .bool true
      | 3 => v = undef
      | 4 => v = undef
      | 5 => v = undef
      | 6 => v = undef
      | 7 => v = undef
      | 8 => v = undef
      | 9 => v = .bool true
      | _ => True) (by kernel_rfl) (by kernel_rfl) (by kernel_rfl) (fun W => Below.refl _ _) (fun a b c h k => h.trans (k.mono h.size)) (fun i v W W' h he => ?stab) ?obls ?fin
    case stab =>
      match i, h with
      | 0, h => exact h
      | 1, h => exact h
      | 2, h => exact h
      | 3, h => exact h
      | 4, h => exact h
      | 5, h => exact h
      | 6, h => exact h
      | 7, h => exact h
      | 8, h => exact h
      | 9, h => exact h
      | _ + 10, h => exact h
    case obls =>
      refine .cons ?_ (.cons ?_ (.cons ?_ (.cons ?_ (.cons ?_ (.cons ?_ (.cons ?_ (.cons ?_ (.cons ?_ (.cons ?_ .nil)))))))))
      · intro ac wx hE hf hd
        have hB : Below Y.heap.size Y wx := ⟨hE.os, hE.tape, hE.output, hE.size, hE.block⟩
        rw [if_pos (Inv.want0 rfl _)]
        have h7 : ac.eval (.tmp 7) = .int .i64 (-1) := hf 7 (by kernel_rfl)
        clear hf hd
        refine Inv.val (.int .i64 (-1)) ?_ rfl rfl (Below.refl _ _)
        clear hE hB
        generalize ac.eval = ev at *
        simp [execOp, go_sem, *]
      · intro ac wx hE hf hd
        have hB : Below Y.heap.size Y wx := ⟨hE.os, hE.tape, hE.output, hE.size, hE.block⟩
        rw [if_pos (Inv.want0 rfl _)]
        have h24 := hd 0 _ (by kernel_rfl) rfl
        change ac.eval (.tmp 24) = .int .i64 (-1) at h24
        clear hf hd
        refine Inv.val (.bool true) ?_ rfl rfl (Below.refl _ _)
        clear hE hB HF HX HRG HWT
        have hcst : ∀ v, ac.eval (.const v) = v := fun _ => rfl
        generalize ac.eval = ev at *
        simp [execOp, go_sem, *]
      · intro ac wx hE hf hd
        have hB : Below Y.heap.size Y wx := ⟨hE.os, hE.tape, hE.output, hE.size, hE.block⟩
        rw [if_pos (Inv.want0 rfl _)]
        have h25 := hd 1 _ (by kernel_rfl) rfl
        change ac.eval (.tmp 25) = .bool true at h25
        clear hf hd
        refine Inv.val (.bool true) ?_ rfl rfl (Below.refl _ _)
        clear hE hB
        generalize ac.eval = ev at *
        simp [execOp, go_sem, *]
      · intro ac wx hE hf hd
        have hB : Below Y.heap.size Y wx := ⟨hE.os, hE.tape, hE.output, hE.size, hE.block⟩
        have hg := hd 2 _ (by kernel_rfl) rfl
        change ac.eval (.tmp 26) = .bool true at hg
        rw [if_neg (Inv.unwant (j := 2) (b := false) (c := true) (d := 26) rfl rfl rfl hg rfl)]
        all_goals exact rfl
      · intro ac wx hE hf hd
        have hB : Below Y.heap.size Y wx := ⟨hE.os, hE.tape, hE.output, hE.size, hE.block⟩
        have hg := hd 2 _ (by kernel_rfl) rfl
        change ac.eval (.tmp 26) = .bool true at hg
        rw [if_neg (Inv.unwant (j := 2) (b := false) (c := true) (d := 26) rfl rfl rfl hg rfl)]
        all_goals exact rfl
      · intro ac wx hE hf hd
        have hB : Below Y.heap.size Y wx := ⟨hE.os, hE.tape, hE.output, hE.size, hE.block⟩
        have hg := hd 2 _ (by kernel_rfl) rfl
        change ac.eval (.tmp 26) = .bool true at hg
        rw [if_neg (Inv.unwant (j := 2) (b := false) (c := true) (d := 26) rfl rfl rfl hg rfl)]
        all_goals exact rfl
      · intro ac wx hE hf hd
        have hB : Below Y.heap.size Y wx := ⟨hE.os, hE.tape, hE.output, hE.size, hE.block⟩
        have hg := hd 2 _ (by kernel_rfl) rfl
        change ac.eval (.tmp 26) = .bool true at hg
        rw [if_neg (Inv.unwant (j := 2) (b := false) (c := true) (d := 26) rfl rfl rfl hg rfl)]
        all_goals exact rfl
      · intro ac wx hE hf hd
        have hB : Below Y.heap.size Y wx := ⟨hE.os, hE.tape, hE.output, hE.size, hE.block⟩
        have hg := hd 2 _ (by kernel_rfl) rfl
        change ac.eval (.tmp 26) = .bool true at hg
        rw [if_neg (Inv.unwant (j := 2) (b := false) (c := true) (d := 26) rfl rfl rfl hg rfl)]
        all_goals exact rfl
      · intro ac wx hE hf hd
        have hB : Below Y.heap.size Y wx := ⟨hE.os, hE.tape, hE.output, hE.size, hE.block⟩
        have hg := hd 2 _ (by kernel_rfl) rfl
        change ac.eval (.tmp 26) = .bool true at hg
        rw [if_neg (Inv.unwant (j := 2) (b := false) (c := true) (d := 26) rfl rfl rfl hg rfl)]
        all_goals exact rfl
      · intro ac wx hE hf hd
        have hB : Below Y.heap.size Y wx := ⟨hE.os, hE.tape, hE.output, hE.size, hE.block⟩
        rw [if_pos (Inv.want0 rfl _)]
        have h26 := hd 2 _ (by kernel_rfl) rfl
        change ac.eval (.tmp 26) = .bool true at h26
        have h32 := hd 8 _ (by kernel_rfl) rfl
        change ac.eval (.tmp 32) = undef at h32
        clear hf hd
        refine Inv.val (.bool true) ?_ rfl rfl (Below.refl _ _)
        clear hE hB HF HX HRG HWT
        have hcst : ∀ v, ac.eval (.const v) = v := fun _ => rfl
        generalize ac.eval = ev at *
        simp [execOp, go_sem, *]
    case fin =>
      intro ac wx hE ha hall
      have hB : Below Y.heap.size Y wx := ⟨hE.os, hE.tape, hE.output, hE.size, hE.block⟩
      have h24 := hall 0 _ rfl
      change ac.eval (.tmp 24) = .int .i64 (-1) at h24
      have h25 := hall 1 _ rfl
      change ac.eval (.tmp 25) = .bool true at h25
      have h26 := hall 2 _ rfl
      change ac.eval (.tmp 26) = .bool true at h26
      have h27 := hall 3 _ rfl
      change ac.eval (.tmp 27) = undef at h27
      have h28 := hall 4 _ rfl
      change ac.eval (.tmp 28) = undef at h28
      have h29 := hall 5 _ rfl
      change ac.eval (.tmp 29) = undef at h29
      have h30 := hall 6 _ rfl
      change ac.eval (.tmp 30) = undef at h30
      have h31 := hall 7 _ rfl
      change ac.eval (.tmp 31) = undef at h31
      have h32 := hall 8 _ rfl
      change ac.eval (.tmp 32) = undef at h32
      have h33 := hall 9 _ rfl
      change ac.eval (.tmp 33) = .bool true at h33
      simp only [List.foldl, Inv.slot, Act.put] at ha
      change ac.tmps.getD 24 undef = _ at h24
      change ac.tmps.getD 25 undef = _ at h25
      change ac.tmps.getD 26 undef = _ at h26
      change ac.tmps.getD 27 undef = _ at h27
      change ac.tmps.getD 28 undef = _ at h28
      change ac.tmps.getD 29 undef = _ at h29
      change ac.tmps.getD 30 undef = _ at h30
      change ac.tmps.getD 31 undef = _ at h31
      change ac.tmps.getD 32 undef = _ at h32
      change ac.tmps.getD 33 undef = _ at h33
      simp only [h24, h25, h26, h27, h28, h29, h30, h31, h32, h33, List.setIfInBounds_toArray, List.set_cons_zero, List.set_cons_succ] at ha
      clear h24 h25 h26 h27 h28 h29 h30 h31 h32 h33 hall hE
      subst ha
      have HBW : Hid (Below w.heap.size w wx) := Lib.hid (HX.out.trans ((HB3.out.trans (hB.mono HB3.out.size)).mono HX.out.size))
      go_wp2_with fail
      go_ret
      obtain ⟨e1, e2, e3⟩ := HB.out _ HBW.out
      exact ⟨by rw [← e1]; rfl, e2, e3⟩
end Go.Proofs.YtbhfapbhlkgmfaaDoor

namespace Go.Proofs.YtbhfapbhlkgmfaaDoor
open Go.RowKit Go.Sort
open Fx (Vl)
open Me
open Wp

theorem fetched_ret {w w' : World} {n : List UInt8} {R : Option Se × Int} {k : Int} (hR : R = (none, k)) (hb : Below w.heap.size w w') : Fetched w n R (.returned (.tuple #[.agg #[.string ⟨#[]⟩, .int .i64 0, .int .i64 0, .slice none 0 0, .int .i64 0], .int .i64 k])) w' := Fetched.no hR hb

set_option maxRecDepth 100000 in
set_option maxHeartbeats 2000000 in
theorem fetch_fail {w : World} {n : List UInt8} {f : Value} {g : Nat} {R : Hd × Int} {now a b : Int} (he : R.2 ≠ 0) (HIN : Hid (∀ W, Below w.heap.size w W → Calls Tryd.prog 24 #[f, .string ⟨n.toArray⟩] W (Opened W g n R))) :
    Calls Tryd.prog 13 #[f, .string ⟨n.toArray⟩, .int .i64 now, .int .i64 a, .int .i64 b] w (Fetched w n (none, R.2)) := by
  have HC := serCell w
  obtain ⟨⟨ag, xf, hl⟩, er⟩ := R
  have heb : (er == 0) = false := by simpa using he
  obtain ⟨nb, hnb⟩ : ∃ nb : ByteArray, nb = ⟨n.toArray⟩ := ⟨_, rfl⟩
  rw [← hnb] at HIN ⊢
  clear hnb
  go_enter Tryd.func13, Tryd.ntmps13
  go_wp2_with (go_at_call 24; (with_reducible refine (HIN.out _ ((Below.refl _ _).alloc (Nat.le_refl _) _)).mono ?_); rintro e w1 ⟨A1, c1, p1, s1, rfl, hps, hrow, hfr, hb1⟩; have hbb : Below (w.heap.size + 1) (w.alloc (.cells #[.string ⟨#[]⟩, .int .i64 0, .int .i64 0, .slice none 0 0, .int .i64 0] 43)) w1 := hb1.mono (by simp); obtain ⟨⟨r0, r1, r2, r3, r4⟩, ⟨f0, f1, f2, f3, f4⟩, hs4⟩ := HC.out _ (hbb.alloc (by have := hbb.size; simpa using this) (.cells #[.int .i64 ag, .int .i64 xf, .slice A1 hl.length c1, .pointer p1, .string s1] 70)); have HB1 := Lib.hid hbb; have hs1 := hbb.size; clear hb1 hrow hfr hps hbb)
  refine bodyPost_ret (v := .tuple #[.agg #[.string ⟨#[]⟩, .int .i64 0, .int .i64 0, .slice none 0 0, .int .i64 0], .int .i64 er]) (by simp [results, Tryd.results13, go_sem, *]) rfl (Fetched.no rfl ?_)
  exact below_set5 ((lowBox' HB1.out).alloc (by simp at hs1; omega) _) (Nat.le_refl _)
theorem fetch_nil7 (n : List UInt8) (now a b : Int) (w : World) : Calls Tryd.prog 13 #[.pointer none, .string ⟨n.toArray⟩, .int .i64 now, .int .i64 a, .int .i64 b] w (Fetched w n (none, 1)) :=
  fetch_fail (g := 0) (R := (Hd.zero, 1)) (by decide) (Lib.hid fun _ _ => open_nil n _)

theorem row_set5v {W : World} {g : Nat} {t : TypeId} {a0 a1 a2 a3 a4 b0 b1 b2 b3 b4 : Value} (h : RowAt W g t #[a0, a1, a2, a3, a4]) :
    RowAt (((((W.setCell ⟨g, 0, none⟩ b0).setCell ⟨g, 1, none⟩ b1).setCell ⟨g, 2, none⟩ b2).setCell ⟨g, 3, none⟩ b3).setCell ⟨g, 4, none⟩ b4) g t #[b0, b1, b2, b3, b4] := by
  have := ((((h.set_ 0 b0).set_ 1 b1).set_ 2 b2).set_ 3 b3).set_ 4 b4
  simpa using this
/-- A call behind whose open nothing is read. -/
theorem ser_below {w w1 : World} {o : Obj} (h : Below (w.heap.size + 1) (w.alloc o) w1) : w.heap.size + 1 ≤ w1.heap.size := by have := h.size; simpa using this

set_option maxRecDepth 100000 in
set_option maxHeartbeats 2000000 in
theorem fetch_in7 {w : World} {V : Nat → Prop} {c fs : Nat} {S : Vf.Sv} (ro : PO w V fs c S) (n : List UInt8) (hnl : n.length ≤ 1048576) (now from_ until_ : Int) (h0 : (info S.now n).2 = 0) (hn1 : 1 ≤ now) (hn2 : now ≤ 4294967295) (ht : ¬ (until_ < from_ ∨ now < from_ ∨ until_ < 0 ∨ until_ < now - (info S.now n).1.span)) :
    Calls Tryd.prog 13 #[.pointer (some ⟨fs, 0, none⟩), .string ⟨n.toArray⟩, .int .i64 now, .int .i64 from_, .int .i64 until_] w (Fetched w n (fetch S.now n now from_ until_)) := by
  have HIN : Hid (∀ W, Below w.heap.size w W → Calls Tryd.prog 24 #[.pointer (some ⟨fs, 0, none⟩), .string ⟨n.toArray⟩] W (Opened W fs n (info S.now n))) := Lib.hid fun W hb => open_any (ro.below hb) n
  have HNW : Hid (∀ W, Calls Tryd.prog 25 #[.int .i64 now] W fun e w' => e = .returned (.bool true) ∧ W = w') := Lib.hid fun W => by
    have h := isnow_any now W
    rw [decide_eq_true ⟨hn1, hn2⟩] at h
    exact h
  have HRO := Lib.hid ro
  have HC := serCell w
  have HCL : Hid (∀ W, Calls Tryd.prog 31 #[.string ⟨n.toArray⟩] W fun e w' => e = .returned (.string ⟨n.toArray⟩) ∧ Below W.heap.size W w') := Lib.hid fun W => strClone_any n W hnl
  obtain ⟨B0, hF⟩ := info_file h0
  have HE4 := Lib.hid (fun i f u hf hu hi p e hp he K hK => fetch_yes (fs := S.now) (n := n) (now := now) (a := from_) (b := until_) (i := i) (f := f) (u := u) h0 hn1 hn2 ht hf hu hi (p := p) (e := e) hp he (K := K) hK)
  have HH0 := Lib.hid h0
  generalize hRR : info S.now n = R at *
  clear hRR h0 ro
  obtain ⟨H, er⟩ := R
  have her : er = 0 := HH0.out
  subst her
  dsimp only at ht hF HE4
  have hv := hF.val
  have hlen := Hd.len hv
  have hsb := Hd.span_bd hv
  obtain ⟨cb1, cb2, cb3⟩ := clip_bd (now := now) (a := from_) (b := until_) hv hn1 ht
  have hCL : clip H now from_ = max (max 0 from_) (now - H.span) := rfl
  obtain ⟨f, hf⟩ : ∃ f, clip H now from_ = f := ⟨_, rfl⟩
  obtain ⟨u, hu⟩ : ∃ u, min until_ now = u := ⟨_, rfl⟩
  rw [hf, hu] at cb2
  rw [hf] at cb1 cb3 hCL
  -- the archive
  have hfirst : ∃ ix, first H (now - f - 1) H.l.length 0 = some ix := by
    cases e : first H (now - f - 1) H.l.length 0 with
    | some i => exact ⟨i, rfl⟩
    | none =>
      exfalso
      have key : ∀ m i, first H (now - f - 1) m i = none → ∀ j, i ≤ j → j < i + m → ¬ (now - f - 1 < H.step j * H.cnt j) := by
        intro m
        induction m with
        | zero => intro i _ j h1 h2; omega
        | succ m ih =>
          intro i e j h1 h2
          by_cases hc : now - f - 1 < H.step i * H.cnt i
          · rw [first_yes hc] at e; cases e
          · rw [first_no hc] at e
            by_cases hj : j = i
            · subst hj; exact hc
            · exact ih (i + 1) e j (by omega) (by omega)
      have h1 := key _ _ e (H.l.length - 1) (by omega) (by omega)
      rw [← Hd.span_eq hv] at h1
      omega
  obtain ⟨ix, hix⟩ := hfirst
  have hixl : ix < H.l.length := by have := first_lt _ _ hix; omega
  have hcovb : now - f - 1 < H.step ix * H.cnt ix := by
    have key : ∀ m i, first H (now - f - 1) m i = some ix → now - f - 1 < H.step ix * H.cnt ix := by
      intro m
      induction m with
      | zero => intro i e; cases e
      | succ m ih =>
        intro i e
        by_cases hc : now - f - 1 < H.step i * H.cnt i
        · rw [first_yes hc] at e; injection e with e; subst e; exact hc
        · rw [first_no hc] at e; exact ih (i + 1) e
    exact key _ _ hix
  obtain ⟨⟨n1, n2⟩, n3, n4⟩ := Hd.nums hv ix hixl
  obtain ⟨K, p, q', e, h1, h2, h3, h4, h5, h6, h7, h8, h9, h10, h11, h12⟩ := times_of (f := f) (u := u) (s := H.step ix) n1 n2 (by omega) (by omega) (by omega)
  have htm := times_max (f := f) (u := u) (now := now) (c := H.cnt ix) (s := H.step ix) n1 (by omega) (by omega) (by omega) n3 (by omega)
  have HQ := Lib.hid (HE4.out ix f u hf hu hix p e (by rw [h1]; exact h2) h3 K h5)
  rw [h1, h2, h3, h5] at htm
  obtain ⟨C, hC⟩ : ∃ C : Nat, H.cnt ix = (C : Int) := ⟨(H.cnt ix).toNat, by omega⟩
  have hal : Sl.al p (H.step ix) = p ∧ 0 ≤ p := by
    have hq1 : Sl.al q' (H.step ix) = q' := by
      rw [← h1, Sl.al_mul n1 (Sl.al_bd n1 (by omega)).1, Sl.al_div n1 (by omega), ← Sl.al_mul n1 (by omega)]
    have := al_step (k := 1) (s := H.step ix) (st := q') n1 h8 hq1
    rw [show ((1 : Nat) : Int) = 1 from rfl, Int.one_mul] at this
    rw [← h2]
    exact ⟨this.2.1, this.1⟩
  obtain ⟨P, hP⟩ : ∃ P : Nat, Sl.pl (H.step ix) (H.cnt ix) p = (P : Int) := ⟨(Sl.pl (H.step ix) (H.cnt ix) p).toNat, by have := Sl.pl_bd n1 n3 hal.2; omega⟩
  have hpb : p ≤ 4328521728 := by omega
  have HSEQ : Hid (seq S.now n H ix p K = held (H.step ix) p (round B0 (H.offs (ix : Int)).toNat C P K) K) := Lib.hid (by
    rw [hF.held_eq hixl hal.2 hal.1 hC (by omega) hP]
    rfl)
  have HVA0 : Hid (∀ W A1 c1, Below w.heap.size w W → Calls Tryd.prog 32 #[ringV H ix A1 c1 fs n, .int .i64 p, .int .i64 (K : Int)] W fun e w' => ∃ v, e = .returned v ∧ OwnV W.heap.size w' v (seq S.now n H ix p K) ∧ Below W.heap.size W w') := Lib.hid fun W A1 c1 hb => by
    rw [HSEQ.out]
    exact values_any (A := A1) (cap := c1) (HRO.out.below hb) hF ix hixl p hal.2 (by omega) K C P hC hP (by omega)
  have HRE0 : Hid (∀ W A1 c1, Row W A1 H.l c1 → Calls Tryd.prog 29 #[fileV H A1 c1 fs n, .int .i64 (now - f)] W fun e w' => e = .returned (.int .i64 (ix : Int)) ∧ Below W.heap.size W w') := Lib.hid fun W A1 c1 hr => by
    have h := reaching_any (fs := fs) (n := n) hr hv (now - f)
    rw [show find H (now - f - 1) = (ix : Int) from fnd_some hix] at h
    exact h
  have HRG0 : Hid (∀ W A1 c1, Row W A1 H.l c1 → Calls Tryd.prog 28 #[fileV H A1 c1 fs n, .int .i64 (ix : Int)] W fun e w' => e = .returned (ringV H ix A1 c1 fs n) ∧ Below W.heap.size W w') := Lib.hid fun W A1 c1 hr => ring_any hr hv ix hixl
  have HSP0 : Hid (∀ W A1 c1, Row W A1 H.l c1 → Calls Tryd.prog 27 #[.agg #[.int .i64 H.ag, .int .i64 H.xf, .slice A1 H.l.length c1]] W fun e w' => e = .returned (.int .i64 H.span) ∧ Below W.heap.size W w') := Lib.hid fun W A1 c1 hr => spn_any _ _ _ A1 c1 W hr
  have HAF : Hid (∀ W, Calls Tryd.prog 30 #[.int .i64 f, .int .i64 (H.step ix)] W fun e w' => e = .returned (.int .i64 q') ∧ W = w') := Lib.hid fun W => by
    have h := align_any f (H.step ix) (by omega) W
    rw [h1] at h
    exact h
  have HAU : Hid (∀ W, Calls Tryd.prog 30 #[.int .i64 u, .int .i64 (H.step ix)] W fun e w' => e = .returned (.int .i64 (Sl.al u (H.step ix))) ∧ W = w') := Lib.hid fun W => align_any u (H.step ix) (by omega) W
  obtain ⟨au, hau⟩ : ∃ au, au = Sl.al u (H.step ix) := ⟨_, rfl⟩
  rw [← hau] at HAU htm h11 h12
  obtain ⟨lo, hlo⟩ : ∃ lo, now - H.span = lo := ⟨_, rfl⟩
  obtain ⟨m, hm⟩ : ∃ m, (if from_ < 0 then 0 else from_) = m := ⟨_, rfl⟩
  have hf2 : (if m < lo then lo else m) = f := by rw [hCL, hlo, ← hm]; split <;> split <;> omega
  have hwl : IntKind.i64.wrap lo = lo := IntWalk.i64_in _ (by omega)
  obtain ⟨d, hd⟩ : ∃ d, now - f = d := ⟨_, rfl⟩
  have hwd : IntKind.i64.wrap d = d := IntWalk.i64_in _ (by omega)
  obtain ⟨t1, t2, t3, t4⟩ : ¬ until_ < from_ ∧ ¬ now < from_ ∧ ¬ until_ < 0 ∧ ¬ until_ < lo := ⟨fun e => ht (.inl e), fun e => ht (.inr (.inl e)), fun e => ht (.inr (.inr (.inl e))), fun e => ht (.inr (.inr (.inr (by omega))))⟩
  rw [hd] at HRE0
  have hwst : IntKind.i64.wrap p = p := IntWalk.i64_in _ (by omega)
  obtain ⟨eu, heu⟩ : ∃ eu, au + H.step ix = eu := ⟨_, rfl⟩
  have hweu : IntKind.i64.wrap eu = eu := IntWalk.i64_in _ (by omega)
  rw [heu] at htm
  obtain ⟨df, hdf⟩ : ∃ df, eu - p = df := ⟨_, rfl⟩
  rw [hdf] at htm
  have hwdf : IntKind.i64.wrap df = df := IntWalk.i64_in _ (by omega)
  have hdf0 : 0 ≤ df := by
    have hm1 : f / H.step ix ≤ u / H.step ix := Int.ediv_le_ediv (by omega) (by omega)
    have e1 := Sl.al_mul n1 (by omega : 0 ≤ f)
    have e2 := Sl.al_mul n1 (by omega : 0 ≤ u)
    have := Int.mul_le_mul_of_nonneg_left hm1 (by omega : 0 ≤ H.step ix)
    rw [← e1, ← e2, h1, ← hau] at this
    omega
  obtain ⟨qd, hqd⟩ : ∃ qd, df.tdiv (H.step ix) = qd := ⟨_, rfl⟩
  rw [← Int.tdiv_eq_ediv_of_nonneg hdf0, hqd] at htm
  have hqd0 : 0 ≤ qd ∧ qd ≤ df := by
    rw [← hqd, Int.tdiv_eq_ediv_of_nonneg hdf0]
    exact ⟨Int.ediv_nonneg hdf0 (by omega), Int.ediv_le_self _ hdf0⟩
  have hwqd : IntKind.i64.wrap qd = qd := IntWalk.i64_in _ (by omega)
  have hKm := htm.1
  have hs0 : ¬ H.step ix = 0 := by omega
  have HLEN : Hid ((seq S.now n H ix p K).length = K) := Lib.hid (seq_len _ _ _ _ _ _)
  have HOP : Hid (∀ W, Below w.heap.size w W → Calls Tryd.prog 24 #[.pointer (some ⟨fs, 0, none⟩), .string ⟨n.toArray⟩] W fun e w' => ∃ A1 c1, e = .returned (.tuple #[.agg #[.int .i64 H.ag, .int .i64 H.xf, .slice A1 H.l.length c1, .pointer (some ⟨fs, 0, none⟩), .string ⟨n.toArray⟩], .int .i64 0]) ∧ Row w' A1 H.l c1 ∧ Below W.heap.size W w') := Lib.hid fun W hb => (HIN.out W hb).mono fun e w' h => by
    obtain ⟨A1, c1, p1, s1, rfl, hps, hrow, _, hb1⟩ := h
    obtain ⟨rfl, rfl⟩ := hps rfl
    exact ⟨A1, c1, rfl, hrow, hb1⟩
  unfold fileV ringV at *
  clear HIN HSEQ hP hal hC htm h3 h4 h5 h6 h7 h10 h11 h12 hcovb hix hCL ht HE4 hF hdf0 hqd0 cb1 cb2 cb3 hsb HH0 hau hf n3 n4
  generalize seq S.now n H ix p K = vs at *
  generalize hss : H.step ix = s at *
  generalize H.cnt ix = k at *
  generalize H.offs (ix : Int) = o at *
  generalize H.span = sp at *
  obtain ⟨hln, hN⟩ : ∃ N, N = H.l.length := ⟨_, rfl⟩
  have HNN := Lib.hid hN
  generalize H.ag = ag at *
  generalize H.xf = xf at *
  rw [← hN] at HVA0 HRE0 HRG0 HSP0 HOP hixl hlen
  obtain ⟨nb, hnb⟩ : ∃ nb : ByteArray, nb = ⟨n.toArray⟩ := ⟨_, rfl⟩
  rw [← hnb] at HVA0 HRE0 HRG0 HOP HCL ⊢
  have HNB := Lib.hid hnb
  clear hN hnb hss
  go_enter Tryd.func13, Tryd.ntmps13
  go_wp2_with first
    | (go_at_call 24; (with_reducible refine (HOP.out _ ((Below.refl _ _).alloc (Nat.le_refl _) _)).mono ?_); rintro e w1 ⟨A1, c1, rfl, hrow, hb1⟩; have hbb : Below (w.heap.size + 1) (w.alloc (.cells #[.string ⟨#[]⟩, .int .i64 0, .int .i64 0, .slice none 0 0, .int .i64 0] 43)) w1 := hb1.mono (by simp); have HB1 := Lib.hid hbb; have HROW := Lib.hid hrow; have hs1 := ser_below hbb; clear hb1 hrow hbb)
    | (go_at_call 25; ((with_reducible refine (HNW.out _).mono ?_); rintro e w' ⟨rfl, rfl⟩))
    | (go_at_call 27; (with_reducible refine (HSP0.out _ A1 c1 (HROW.out.below ((Below.refl _ _).alloc (Nat.le_refl _) _))).mono ?_); rintro e w2 ⟨rfl, hb2⟩; have HB2 := Lib.hid hb2; clear hb2)
  obtain ⟨x, hx⟩ : ∃ x, x = w1.heap.size := ⟨_, rfl⟩
  obtain ⟨q, hq⟩ : ∃ q, q = w.heap.size := ⟨_, rfl⟩
  have HX2 : Hid (Below (w.heap.size + 1) (w.alloc (.cells #[.string ⟨#[]⟩, .int .i64 0, .int .i64 0, .slice none 0 0, .int .i64 0] 43)) w2) := Lib.hid ((HB1.out.alloc hs1 _).trans (HB2.out.mono (by simp; omega)))
  have HRX : Hid (RowAt w2 x 70 #[.int .i64 ag, .int .i64 xf, .slice A1 hln c1, .pointer (some ⟨fs, 0, none⟩), .string nb]) := Lib.hid (by rw [hx]; exact (RowAt.new w1 _ _).below HB2.out (by simp))
  have HROW2 : Hid (Row w2 A1 H.l c1) := Lib.hid (HROW.out.below (((Below.refl _ _).alloc (Nat.le_refl _) _).trans (HB2.out.mono (by simp))))
  rw [← hx, ← hq]
  have HXQ := Lib.hid hx
  have HQW := Lib.hid hq
  clear hx hq HROW HB1 HB2
  obtain ⟨X, hXw⟩ : ∃ X, X = w2 := ⟨_, rfl⟩
  rw [← hXw]
  rw [← hXw] at HX2 HRX HROW2
  clear hXw
  have HF : Hid (∀ W, Below X.heap.size X W → W.cell? ⟨x, 0, none⟩ = some (.int .i64 ag) ∧ W.cell? ⟨x, 1, none⟩ = some (.int .i64 xf) ∧ W.cell? ⟨x, 2, none⟩ = some (.slice A1 hln c1) ∧ W.cell? ⟨x, 3, none⟩ = some (.pointer (some ⟨fs, 0, none⟩)) ∧ W.cell? ⟨x, 4, none⟩ = some (.string nb)) := Lib.hid fun W hb => by
    have k1 := HRX.out.below hb HRX.out.lt
    exact ⟨k1.cell 0, k1.cell 1, k1.cell 2, k1.cell 3, k1.cell 4⟩
  have HRE : Hid (∀ W, Below X.heap.size X W → Calls Tryd.prog 29 #[.agg #[.int .i64 ag, .int .i64 xf, .slice A1 hln c1, .pointer (some ⟨fs, 0, none⟩), .string nb], .int .i64 d] W fun e w' => e = .returned (.int .i64 (ix : Int)) ∧ Below W.heap.size W w') := Lib.hid fun W hb => HRE0.out W A1 c1 (HROW2.out.below hb)
  have HRG : Hid (∀ W, Below X.heap.size X W → Calls Tryd.prog 28 #[.agg #[.int .i64 ag, .int .i64 xf, .slice A1 hln c1, .pointer (some ⟨fs, 0, none⟩), .string nb], .int .i64 (ix : Int)] W fun e w' => e = .returned (.agg #[.int .i64 s, .int .i64 k, .int .i64 ag, .int .i64 xf, .slice A1 hln c1, .pointer (some ⟨fs, 0, none⟩), .string nb, .int .i64 o]) ∧ Below W.heap.size W w') := Lib.hid fun W hb => HRG0.out W A1 c1 (HROW2.out.below hb)
  generalize decide (until_ < from_) = bb3 at *
  generalize decide (now < from_) = bb4 at *
  generalize decide (until_ < 0) = bb5 at *
  generalize decide (until_ < lo) = bb6 at *
  refine Inv.region_tail 8 8 (fun W W' => Below W.heap.size W W') (fun i v W => match i with
    | 0 => v = .agg #[.int .i64 ag, .int .i64 xf, .slice A1 hln c1, .pointer (some ⟨fs, 0, none⟩), .string nb]
    | 1 => v = .agg #[.int .i64 ag, .int .i64 xf, .slice A1 hln c1, .pointer (some ⟨fs, 0, none⟩), .string nb]
    | 2 => v = .int .i64 now
    | 3 => v = .int .i64 f
    | 4 => v = .int .i64 d
    | 5 => v = .int .i64 (ix : Int)
    | 6 => v = .agg #[.int .i64 s, .int .i64 k, .int .i64 ag, .int .i64 xf, .slice A1 hln c1, .pointer (some ⟨fs, 0, none⟩), .string nb, .int .i64 o]
    | 7 => ∃ r, v = .pointer (some ⟨r, 0, none⟩) ∧ X.heap.size ≤ r ∧ RowAt W r 76 #[.int .i64 0, .int .i64 0, .int .i64 0, .int .i64 0, .slice none 0 0, .pointer none, .string ⟨#[]⟩, .int .i64 0]
    | _ => True) (by kernel_rfl) (by kernel_rfl) (by kernel_rfl) (by kernel_rfl) (fun W => Below.refl _ _) (fun a b c h k => h.trans (k.mono h.size)) (fun i v W W' h he => ?stab) ?obls ?fin
  case stab =>
    match i, h with
    | 0, h => exact h
    | 1, h => exact h
    | 2, h => exact h
    | 3, h => exact h
    | 4, h => exact h
    | 5, h => exact h
    | 6, h => exact h
    | 7, h => exact (by obtain ⟨r, e, h1, h2⟩ := h; exact ⟨r, e, h1, h2.below (show Below _ _ _ from ⟨he.os, he.tape, he.output, he.size, he.block⟩) h2.lt⟩)
    | _ + 8, h => exact h
  case obls =>
    refine .cons ?_ (.cons ?_ (.cons ?_ (.cons ?_ (.cons ?_ (.cons ?_ (.cons ?_ (.cons ?_ .nil)))))))
    · intro ac wx hE hf hd
      have hB : Below X.heap.size X wx := ⟨hE.os, hE.tape, hE.output, hE.size, hE.block⟩
      rw [if_pos (Inv.want0 rfl _)]
      have h12 : ac.eval (.tmp 12) = .pointer (some ⟨x, 0, none⟩) := hf 12 (by kernel_rfl)
      clear hf hd
      obtain ⟨a0, a1, a2, a3, a4⟩ := HF.out wx hB
      refine Inv.val (.agg #[.int .i64 ag, .int .i64 xf, .slice A1 hln c1, .pointer (some ⟨fs, 0, none⟩), .string nb]) ?_ rfl rfl (Below.refl _ _)
      clear hE hB HF HRE HRG
      generalize ac.eval = ev at *
      simp [execOp, go_sem, *]
    · intro ac wx hE hf hd
      have hB : Below X.heap.size X wx := ⟨hE.os, hE.tape, hE.output, hE.size, hE.block⟩
      rw [if_pos (Inv.want0 rfl _)]
      have h12 : ac.eval (.tmp 12) = .pointer (some ⟨x, 0, none⟩) := hf 12 (by kernel_rfl)
      clear hf hd
      obtain ⟨a0, a1, a2, a3, a4⟩ := HF.out wx hB
      refine Inv.val (.agg #[.int .i64 ag, .int .i64 xf, .slice A1 hln c1, .pointer (some ⟨fs, 0, none⟩), .string nb]) ?_ rfl rfl (Below.refl _ _)
      clear hE hB HF HRE HRG
      generalize ac.eval = ev at *
      simp [execOp, go_sem, *]
    · intro ac wx hE hf hd
      have hB : Below X.heap.size X wx := ⟨hE.os, hE.tape, hE.output, hE.size, hE.block⟩
      rw [if_pos (Inv.want0 rfl _)]
      have h2 : ac.eval (.tmp 2) = .int .i64 now := hf 2 (by kernel_rfl)
      clear hf hd
      refine Inv.val (.int .i64 now) ?_ rfl rfl (Below.refl _ _)
      clear hE hB
      generalize ac.eval = ev at *
      simp [execOp, go_sem, *]
    · intro ac wx hE hf hd
      have hB : Below X.heap.size X wx := ⟨hE.os, hE.tape, hE.output, hE.size, hE.block⟩
      rw [if_pos (Inv.want0 rfl _)]
      have h3 : ac.eval (.tmp 3) = .int .i64 f := hf 3 (by kernel_rfl)
      clear hf hd
      refine Inv.val (.int .i64 f) ?_ rfl rfl (Below.refl _ _)
      clear hE hB
      generalize ac.eval = ev at *
      simp [execOp, go_sem, *]
    · intro ac wx hE hf hd
      have hB : Below X.heap.size X wx := ⟨hE.os, hE.tape, hE.output, hE.size, hE.block⟩
      rw [if_pos (Inv.want0 rfl _)]
      have h64 := hd 2 _ (by kernel_rfl) rfl
      change ac.eval (.tmp 64) = .int .i64 now at h64
      have h65 := hd 3 _ (by kernel_rfl) rfl
      change ac.eval (.tmp 65) = .int .i64 f at h65
      clear hf hd
      refine Inv.val (.int .i64 d) ?_ rfl rfl (Below.refl _ _)
      clear hE hB HF HRE HRG
      have hcst : ∀ v, ac.eval (.const v) = v := fun _ => rfl
      generalize ac.eval = ev at *
      simp [execOp, go_sem, *]
    · intro ac wx hE hf hd
      have hB : Below X.heap.size X wx := ⟨hE.os, hE.tape, hE.output, hE.size, hE.block⟩
      rw [if_pos (Inv.want0 rfl _)]
      have h63 := hd 1 _ (by kernel_rfl) rfl
      change ac.eval (.tmp 63) = .agg #[.int .i64 ag, .int .i64 xf, .slice A1 hln c1, .pointer (some ⟨fs, 0, none⟩), .string nb] at h63
      have h66 := hd 4 _ (by kernel_rfl) rfl
      change ac.eval (.tmp 66) = .int .i64 d at h66
      clear hf hd
      refine Inv.go (f := 29) (xs := #[.agg #[.int .i64 ag, .int .i64 xf, .slice A1 hln c1, .pointer (some ⟨fs, 0, none⟩), .string nb], .int .i64 d]) ?_ rfl ?_
      · clear hE hB HF HRE HRG
        have hfn : ac.eval (.func 29) = .func (.func 29) #[] #[] := rfl
        generalize ac.eval = ev at *
        simp [execOp, go_sem, *]
      · exact (HRE.out wx hB).mono fun e w' ⟨he, hb⟩ => ⟨_, he, rfl, hb⟩
    · intro ac wx hE hf hd
      have hB : Below X.heap.size X wx := ⟨hE.os, hE.tape, hE.output, hE.size, hE.block⟩
      rw [if_pos (Inv.want0 rfl _)]
      have h62 := hd 0 _ (by kernel_rfl) rfl
      change ac.eval (.tmp 62) = .agg #[.int .i64 ag, .int .i64 xf, .slice A1 hln c1, .pointer (some ⟨fs, 0, none⟩), .string nb] at h62
      have h67 := hd 5 _ (by kernel_rfl) rfl
      change (fun v W => v = .int .i64 (ix : Int)) (ac.eval (.tmp 67)) wx at h67
      try dsimp only at h67
      clear hf hd
      refine Inv.go (f := 28) (xs := #[.agg #[.int .i64 ag, .int .i64 xf, .slice A1 hln c1, .pointer (some ⟨fs, 0, none⟩), .string nb], .int .i64 (ix : Int)]) ?_ rfl ?_
      · clear hE hB HF HRE HRG
        have hfn : ac.eval (.func 28) = .func (.func 28) #[] #[] := rfl
        generalize ac.eval = ev at *
        simp [execOp, go_sem, *]
      · exact (HRG.out wx hB).mono fun e w' ⟨he, hb⟩ => ⟨_, he, rfl, hb⟩
    · intro ac wx hE hf hd
      have hB : Below X.heap.size X wx := ⟨hE.os, hE.tape, hE.output, hE.size, hE.block⟩
      rw [if_pos (Inv.want0 rfl _)]
      clear hf hd
      refine Inv.val (.pointer (some ⟨wx.heap.size, 0, none⟩)) (w' := wx.alloc (.cells #[.int .i64 0, .int .i64 0, .int .i64 0, .int .i64 0, .slice none 0 0, .pointer none, .string ⟨#[]⟩, .int .i64 0] 76)) ?_ rfl ⟨_, rfl, hB.size, RowAt.new _ _ _⟩ ((Below.refl _ _).alloc (Nat.le_refl _) _)
      clear hE hB HF HRE HRG
      generalize ac.eval = ev at *
      simp [execOp, go_sem, *]
  case fin =>
    intro ac wx hE ha hall
    have hB : Below X.heap.size X wx := ⟨hE.os, hE.tape, hE.output, hE.size, hE.block⟩
    have h62 := hall 0 _ (by decide) rfl
    change ac.eval (.tmp 62) = .agg #[.int .i64 ag, .int .i64 xf, .slice A1 hln c1, .pointer (some ⟨fs, 0, none⟩), .string nb] at h62
    have h63 := hall 1 _ (by decide) rfl
    change ac.eval (.tmp 63) = .agg #[.int .i64 ag, .int .i64 xf, .slice A1 hln c1, .pointer (some ⟨fs, 0, none⟩), .string nb] at h63
    have h64 := hall 2 _ (by decide) rfl
    change ac.eval (.tmp 64) = .int .i64 now at h64
    have h65 := hall 3 _ (by decide) rfl
    change ac.eval (.tmp 65) = .int .i64 f at h65
    have h66 := hall 4 _ (by decide) rfl
    change ac.eval (.tmp 66) = .int .i64 d at h66
    have h67 := hall 5 _ (by decide) rfl
    change (fun v W => v = .int .i64 (ix : Int)) (ac.eval (.tmp 67)) wx at h67
    try dsimp only at h67
    generalize hv67 : ac.eval (.tmp 67) = v67 at *
    have h68 := hall 6 _ (by decide) rfl
    change (fun v W => v = .agg #[.int .i64 s, .int .i64 k, .int .i64 ag, .int .i64 xf, .slice A1 hln c1, .pointer (some ⟨fs, 0, none⟩), .string nb, .int .i64 o]) (ac.eval (.tmp 68)) wx at h68
    try dsimp only at h68
    generalize hv68 : ac.eval (.tmp 68) = v68 at *
    have h15 := hall 7 _ (by decide) rfl
    change (fun v W => ∃ r, v = .pointer (some ⟨r, 0, none⟩) ∧ X.heap.size ≤ r ∧ RowAt W r 76 #[.int .i64 0, .int .i64 0, .int .i64 0, .int .i64 0, .slice none 0 0, .pointer none, .string ⟨#[]⟩, .int .i64 0]) (ac.eval (.tmp 15)) wx at h15
    try dsimp only at h15
    generalize hv15 : ac.eval (.tmp 15) = v15 at *
    simp only [List.take_succ_cons, List.take_zero, List.foldl, Inv.slot, Act.put] at ha
    change ac.tmps.getD 62 undef = _ at h62
    change ac.tmps.getD 63 undef = _ at h63
    change ac.tmps.getD 64 undef = _ at h64
    change ac.tmps.getD 65 undef = _ at h65
    change ac.tmps.getD 66 undef = _ at h66
    change ac.tmps.getD 67 undef = _ at hv67
    change ac.tmps.getD 68 undef = _ at hv68
    change ac.tmps.getD 15 undef = _ at hv15
    simp only [h62, h63, h64, h65, h66, hv67, hv68, hv15, List.setIfInBounds_toArray, List.set_cons_zero, List.set_cons_succ] at ha
    clear h62 h63 h64 h65 h66 hv67 hv68 hv15 hall hE
    subst ha
    simp only [List.drop_succ_cons, List.drop_zero]
    subst h67 h68
    obtain ⟨r, rfl, hr1, hrow1⟩ := h15
    have HQR : Hid (w.heap.size + 1 ≤ r) := Lib.hid (by have := HX2.out.size; simp at this; omega)
    have hy1 : RowAt ((((((((wx.setCell ⟨r, 0, none⟩ (.int .i64 s)).setCell ⟨r, 1, none⟩ (.int .i64 k)).setCell ⟨r, 2, none⟩ (.int .i64 ag)).setCell ⟨r, 3, none⟩ (.int .i64 xf)).setCell ⟨r, 4, none⟩ (.slice A1 hln c1)).setCell ⟨r, 5, none⟩ (.pointer (some ⟨fs, 0, none⟩))).setCell ⟨r, 6, none⟩ (.string nb)).setCell ⟨r, 7, none⟩ (.int .i64 o)) r 76 #[.int .i64 s, .int .i64 k, .int .i64 ag, .int .i64 xf, .slice A1 hln c1, .pointer (some ⟨fs, 0, none⟩), .string nb, .int .i64 o] := row_set8 hrow1
    have hyB : Below X.heap.size X ((((((((wx.setCell ⟨r, 0, none⟩ (.int .i64 s)).setCell ⟨r, 1, none⟩ (.int .i64 k)).setCell ⟨r, 2, none⟩ (.int .i64 ag)).setCell ⟨r, 3, none⟩ (.int .i64 xf)).setCell ⟨r, 4, none⟩ (.slice A1 hln c1)).setCell ⟨r, 5, none⟩ (.pointer (some ⟨fs, 0, none⟩))).setCell ⟨r, 6, none⟩ (.string nb)).setCell ⟨r, 7, none⟩ (.int .i64 o)) := below_set8 hB hr1
    have y0 := hrow1.cell 0
    have y1 := hrow1.cell 1
    have y2 := hrow1.cell 2
    have y3 := hrow1.cell 3
    have y4 := hrow1.cell 4
    have y5 := hrow1.cell 5
    have y6 := hrow1.cell 6
    have y7 := hrow1.cell 7
    have fz1 := fun i => hrow1.frozen i
    have hl1 := hrow1.lt
    simp only [List.getElem?_toArray, List.getElem?_cons_succ, List.getElem?_cons_zero] at y0 y1 y2 y3 y4 y5 y6 y7
    clear HRE HRG HF hrow1 hB
    go_wp2_with fail
    clear y0 y1 y2 y3 y4 y5 y6 y7 fz1 hl1
    generalize ((((((((wx.setCell ⟨r, 0, none⟩ (.int .i64 s)).setCell ⟨r, 1, none⟩ (.int .i64 k)).setCell ⟨r, 2, none⟩ (.int .i64 ag)).setCell ⟨r, 3, none⟩ (.int .i64 xf)).setCell ⟨r, 4, none⟩ (.slice A1 hln c1)).setCell ⟨r, 5, none⟩ (.pointer (some ⟨fs, 0, none⟩))).setCell ⟨r, 6, none⟩ (.string nb)).setCell ⟨r, 7, none⟩ (.int .i64 o)) = Z at *
    have HZ : Hid (Below (w.heap.size + 1) (w.alloc (.cells #[.string ⟨#[]⟩, .int .i64 0, .int .i64 0, .slice none 0 0, .int .i64 0] 43)) Z) := Lib.hid (HX2.out.trans (hyB.mono (by have := HX2.out.size; simp at this; omega)))
    have HRZ := Lib.hid hy1
    have e0 : Z.cell? ⟨r, 0, none⟩ = some (.int .i64 s) := hy1.cell 0
    have hrl := hy1.lt
    have HAF' : Hid (∀ W, Calls Tryd.prog 30 #[.int .i64 f, .int .i64 s] W fun e w' => e = .returned (.int .i64 q') ∧ Below W.heap.size W w') := Lib.hid fun W => (HAF.out W).mono fun e w' ⟨h1, h2⟩ => ⟨h1, h2 ▸ Below.refl _ _⟩
    have HAU' : Hid (∀ W, Calls Tryd.prog 30 #[.int .i64 u, .int .i64 s] W fun e w' => e = .returned (.int .i64 au) ∧ Below W.heap.size W w') := Lib.hid fun W => (HAU.out W).mono fun e w' ⟨h1, h2⟩ => ⟨h1, h2 ▸ Below.refl _ _⟩
    obtain ⟨kc, kf⟩ := kgrown Z
    clear hy1 hyB HAF HAU
    refine wp_region_quiet_below (by kernel_rfl) (by kernel_rfl) ?_
    repeat (go_big_quiet_step (first
      | (go_at_call 30; exact Calls.regrown_of (HAF'.out _))))
    refine wpQuiet_nil ?_
    intro _ hw'
    obtain ⟨⟨dq, osq⟩, hw''⟩ := hw'
    subst hw''
    go_wp2_with fail
    obtain ⟨Z2, hZ2⟩ : ∃ Z2, Z2 = Go.Sort.grow (redrawn Z dq) osq := ⟨_, rfl⟩
    have hBz : Below Z.heap.size Z Z2 := by rw [hZ2]; exact below_regrown _ _ _
    rw [← hZ2]
    have HZ2 := Lib.hid (HZ.out.trans (hBz.mono (ser_below HZ.out)))
    have HRZ2 := Lib.hid (HRZ.out.below hBz hrl)
    have e1 : Z2.cell? ⟨r, 0, none⟩ = some (.int .i64 s) := HRZ2.out.cell 0
    have hrl2 := HRZ2.out.lt
    clear hBz hZ2 e0 kc kf HZ HRZ hrl
    obtain ⟨kc, kf⟩ := kgrown Z2
    refine wp_region_quiet_below (by kernel_rfl) (by kernel_rfl) ?_
    repeat (go_big_quiet_step (first
      | (go_at_call 30; exact Calls.regrown_of (HAU'.out _))))
    refine wpQuiet_nil ?_
    intro _ hw'
    obtain ⟨⟨dq2, osq2⟩, hw''⟩ := hw'
    subst hw''
    obtain ⟨Y, hY⟩ : ∃ Y, Y = Go.Sort.grow (redrawn Z2 dq2) osq2 := ⟨_, rfl⟩
    have hBy : Below Z2.heap.size Z2 Y := by rw [hY]; exact below_regrown _ _ _
    rw [← hY]
    have HY := Lib.hid (HZ2.out.trans (hBy.mono (ser_below HZ2.out)))
    have HRY := Lib.hid (HRZ2.out.below hBy hrl2)
    have e2 : Y.cell? ⟨r, 0, none⟩ = some (.int .i64 s) := HRY.out.cell 0
    have hrl3 := HRY.out.lt
    clear hBy hY e1 kc kf HZ2 HRZ2 hrl2
    go_wp2_with fail
    have HFY : Hid (∀ W, Below Y.heap.size Y W → W.cell? ⟨r, 0, none⟩ = some (.int .i64 s) ∧ W.cell? ⟨r, 1, none⟩ = some (.int .i64 k) ∧ W.cell? ⟨r, 2, none⟩ = some (.int .i64 ag) ∧ W.cell? ⟨r, 3, none⟩ = some (.int .i64 xf) ∧ W.cell? ⟨r, 4, none⟩ = some (.slice A1 hln c1) ∧ W.cell? ⟨r, 5, none⟩ = some (.pointer (some ⟨fs, 0, none⟩)) ∧ W.cell? ⟨r, 6, none⟩ = some (.string nb) ∧ W.cell? ⟨r, 7, none⟩ = some (.int .i64 o)) := Lib.hid fun W hb => by
      have k1 := HRY.out.below hb HRY.out.lt
      exact ⟨k1.cell 0, k1.cell 1, k1.cell 2, k1.cell 3, k1.cell 4, k1.cell 5, k1.cell 6, k1.cell 7⟩
    have HVA : Hid (∀ W, Below Y.heap.size Y W → Calls Tryd.prog 32 #[.agg #[.int .i64 s, .int .i64 k, .int .i64 ag, .int .i64 xf, .slice A1 hln c1, .pointer (some ⟨fs, 0, none⟩), .string nb, .int .i64 o], .int .i64 p, .int .i64 (K : Int)] W fun e w' => ∃ v, e = .returned v ∧ OwnV (w.heap.size + 1) w' v vs ∧ Below W.heap.size W w') := Lib.hid fun W hb => by
      have hbs : w.heap.size + 1 ≤ W.heap.size := Nat.le_trans (ser_below HY.out) hb.size
      have hbw : Below w.heap.size w W := lowBox' (HY.out.trans (hb.mono (ser_below HY.out)))
      refine (HVA0.out W A1 c1 hbw).mono fun e w' ⟨v, h1, h2, h3⟩ => ⟨v, h1, ⟨h2.1, ?_⟩, h3⟩
      rcases h2.2 with h | ⟨g, cap, cur, e, hb', rest⟩
      · exact .inl h
      · exact .inr ⟨g, cap, cur, e, Nat.le_trans hbs hb', rest⟩
    have HB0 := Lib.hid HY.out
    clear e2 hrl3
    refine Inv.region_tail 11 8 (fun W W' => Below W.heap.size W W') (fun i v W => match i with
      | 0 => v = .string nb
      | 1 => v = .string nb
      | 2 => v = .int .i64 p
      | 3 => v = .pointer (some ⟨r, 0, none⟩)
      | 4 => v = .pointer (some ⟨r, 0, none⟩)
      | 5 => v = .int .i64 s
      | 6 => v = .agg #[.int .i64 s, .int .i64 k, .int .i64 ag, .int .i64 xf, .slice A1 hln c1, .pointer (some ⟨fs, 0, none⟩), .string nb, .int .i64 o]
      | 7 => v = .int .i64 p
      | 8 => v = .int .i64 (K : Int)
      | 9 => OwnV (w.heap.size + 1) W v vs
      | 10 => ∃ A' c', v = .agg #[.string nb, .int .i64 p, .int .i64 s, .slice A' vs.length c', .int .i64 0] ∧ OwnV (w.heap.size + 1) W (.slice A' vs.length c') vs
      | _ => True) (by kernel_rfl) (by kernel_rfl) (by kernel_rfl) (by kernel_rfl) (fun W => Below.refl _ _) (fun a b c h k => h.trans (k.mono h.size)) (fun i v W W' h he => ?stab) ?obls ?fin
    case stab =>
      match i, h with
      | 0, h => exact h
      | 1, h => exact h
      | 2, h => exact h
      | 3, h => exact h
      | 4, h => exact h
      | 5, h => exact h
      | 6, h => exact h
      | 7, h => exact h
      | 8, h => exact h
      | 9, h => exact OwnV.below h (show Below _ _ _ from ⟨he.os, he.tape, he.output, he.size, he.block⟩)
      | 10, h => exact (by obtain ⟨A', c', e, h1⟩ := h; exact ⟨A', c', e, OwnV.below h1 (show Below _ _ _ from ⟨he.os, he.tape, he.output, he.size, he.block⟩)⟩)
      | _ + 11, h => exact h
    case obls =>
      refine .cons ?_ (.cons ?_ (.cons ?_ (.cons ?_ (.cons ?_ (.cons ?_ (.cons ?_ (.cons ?_ (.cons ?_ (.cons ?_ (.cons ?_ .nil))))))))))
      · intro ac wx hE hf hd
        have hB : Below Y.heap.size Y wx := ⟨hE.os, hE.tape, hE.output, hE.size, hE.block⟩
        rw [if_pos (Inv.want0 rfl _)]
        have h1 : ac.eval (.tmp 1) = .string nb := hf 1 (by kernel_rfl)
        clear hf hd
        refine Inv.val (.string nb) ?_ rfl rfl (Below.refl _ _)
        clear hE hB
        generalize ac.eval = ev at *
        simp [execOp, go_sem, *]
      · intro ac wx hE hf hd
        have hB : Below Y.heap.size Y wx := ⟨hE.os, hE.tape, hE.output, hE.size, hE.block⟩
        rw [if_pos (Inv.want0 rfl _)]
        have h95 := hd 0 _ (by kernel_rfl) rfl
        change ac.eval (.tmp 95) = .string nb at h95
        clear hf hd
        refine Inv.go (f := 31) (xs := #[.string nb]) ?_ rfl ?_
        · clear hE hB HFY HCL HVA
          have hfn : ac.eval (.func 31) = .func (.func 31) #[] #[] := rfl
          generalize ac.eval = ev at *
          simp [execOp, go_sem, *]
        · exact (HCL.out wx).mono fun e w' ⟨he, hb⟩ => ⟨_, he, rfl, hb⟩
      · intro ac wx hE hf hd
        have hB : Below Y.heap.size Y wx := ⟨hE.os, hE.tape, hE.output, hE.size, hE.block⟩
        rw [if_pos (Inv.want0 rfl _)]
        have h16 : ac.eval (.tmp 16) = .int .i64 p := hf 16 (by kernel_rfl)
        clear hf hd
        refine Inv.val (.int .i64 p) ?_ rfl rfl (Below.refl _ _)
        clear hE hB
        generalize ac.eval = ev at *
        simp [execOp, go_sem, *]
      · intro ac wx hE hf hd
        have hB : Below Y.heap.size Y wx := ⟨hE.os, hE.tape, hE.output, hE.size, hE.block⟩
        rw [if_pos (Inv.want0 rfl _)]
        have h15 : ac.eval (.tmp 15) = .pointer (some ⟨r, 0, none⟩) := hf 15 (by kernel_rfl)
        clear hf hd
        refine Inv.val (.pointer (some ⟨r, 0, none⟩)) ?_ rfl rfl (Below.refl _ _)
        clear hE hB HFY HCL HVA
        have hcst : ∀ v, ac.eval (.const v) = v := fun _ => rfl
        generalize ac.eval = ev at *
        simp [execOp, go_sem, *]
      · intro ac wx hE hf hd
        have hB : Below Y.heap.size Y wx := ⟨hE.os, hE.tape, hE.output, hE.size, hE.block⟩
        rw [if_pos (Inv.want0 rfl _)]
        have h98 := hd 3 _ (by kernel_rfl) rfl
        change ac.eval (.tmp 98) = .pointer (some ⟨r, 0, none⟩) at h98
        clear hf hd
        refine Inv.val (.pointer (some ⟨r, 0, none⟩)) ?_ rfl rfl (Below.refl _ _)
        clear hE hB HFY HCL HVA
        have hcst : ∀ v, ac.eval (.const v) = v := fun _ => rfl
        generalize ac.eval = ev at *
        simp [execOp, go_sem, *]
      · intro ac wx hE hf hd
        have hB : Below Y.heap.size Y wx := ⟨hE.os, hE.tape, hE.output, hE.size, hE.block⟩
        rw [if_pos (Inv.want0 rfl _)]
        have h99 := hd 4 _ (by kernel_rfl) rfl
        change ac.eval (.tmp 99) = .pointer (some ⟨r, 0, none⟩) at h99
        clear hf hd
        obtain ⟨a0, a1, a2, a3, a4, a5, a6, a7⟩ := HFY.out wx hB
        refine Inv.val (.int .i64 s) ?_ rfl rfl (Below.refl _ _)
        clear hE hB HFY HCL HVA
        generalize ac.eval = ev at *
        simp [execOp, go_sem, *]
      · intro ac wx hE hf hd
        have hB : Below Y.heap.size Y wx := ⟨hE.os, hE.tape, hE.output, hE.size, hE.block⟩
        rw [if_pos (Inv.want0 rfl _)]
        have h15 : ac.eval (.tmp 15) = .pointer (some ⟨r, 0, none⟩) := hf 15 (by kernel_rfl)
        clear hf hd
        obtain ⟨a0, a1, a2, a3, a4, a5, a6, a7⟩ := HFY.out wx hB
        refine Inv.val (.agg #[.int .i64 s, .int .i64 k, .int .i64 ag, .int .i64 xf, .slice A1 hln c1, .pointer (some ⟨fs, 0, none⟩), .string nb, .int .i64 o]) ?_ rfl rfl (Below.refl _ _)
        clear hE hB HFY HCL HVA
        generalize ac.eval = ev at *
        simp [execOp, go_sem, *]
      · intro ac wx hE hf hd
        have hB : Below Y.heap.size Y wx := ⟨hE.os, hE.tape, hE.output, hE.size, hE.block⟩
        rw [if_pos (Inv.want0 rfl _)]
        have h16 : ac.eval (.tmp 16) = .int .i64 p := hf 16 (by kernel_rfl)
        clear hf hd
        refine Inv.val (.int .i64 p) ?_ rfl rfl (Below.refl _ _)
        clear hE hB
        generalize ac.eval = ev at *
        simp [execOp, go_sem, *]
      · intro ac wx hE hf hd
        have hB : Below Y.heap.size Y wx := ⟨hE.os, hE.tape, hE.output, hE.size, hE.block⟩
        rw [if_pos (Inv.want0 rfl _)]
        have h18 : ac.eval (.tmp 18) = .int .i64 (K : Int) := hf 18 (by kernel_rfl)
        clear hf hd
        refine Inv.val (.int .i64 (K : Int)) ?_ rfl rfl (Below.refl _ _)
        clear hE hB
        generalize ac.eval = ev at *
        simp [execOp, go_sem, *]
      · intro ac wx hE hf hd
        have hB : Below Y.heap.size Y wx := ⟨hE.os, hE.tape, hE.output, hE.size, hE.block⟩
        rw [if_pos (Inv.want0 rfl _)]
        have h101 := hd 6 _ (by kernel_rfl) rfl
        change ac.eval (.tmp 101) = .agg #[.int .i64 s, .int .i64 k, .int .i64 ag, .int .i64 xf, .slice A1 hln c1, .pointer (some ⟨fs, 0, none⟩), .string nb, .int .i64 o] at h101
        have h102 := hd 7 _ (by kernel_rfl) rfl
        change ac.eval (.tmp 102) = .int .i64 p at h102
        have h103 := hd 8 _ (by kernel_rfl) rfl
        change ac.eval (.tmp 103) = .int .i64 (K : Int) at h103
        clear hf hd
        refine Inv.go (f := 32) (xs := #[.agg #[.int .i64 s, .int .i64 k, .int .i64 ag, .int .i64 xf, .slice A1 hln c1, .pointer (some ⟨fs, 0, none⟩), .string nb, .int .i64 o], .int .i64 p, .int .i64 (K : Int)]) ?_ rfl ?_
        · clear hE hB HFY HCL HVA
          have hfn : ac.eval (.func 32) = .func (.func 32) #[] #[] := rfl
          generalize ac.eval = ev at *
          simp [execOp, go_sem, *]
        · exact (HVA.out wx hB).mono fun e w' ⟨u, he, ho, hb⟩ => ⟨u, he, ho, hb⟩
      · intro ac wx hE hf hd
        have hB : Below Y.heap.size Y wx := ⟨hE.os, hE.tape, hE.output, hE.size, hE.block⟩
        rw [if_pos (Inv.want0 rfl _)]
        have h96 := hd 1 _ (by kernel_rfl) rfl
        change (fun v W => v = .string nb) (ac.eval (.tmp 96)) wx at h96
        try dsimp only at h96
        have h97 := hd 2 _ (by kernel_rfl) rfl
        change ac.eval (.tmp 97) = .int .i64 p at h97
        have h100 := hd 5 _ (by kernel_rfl) rfl
        change ac.eval (.tmp 100) = .int .i64 s at h100
        have h104 := hd 9 _ (by kernel_rfl) rfl
        change (fun v W => OwnV (w.heap.size + 1) W v vs) (ac.eval (.tmp 104)) wx at h104
        try dsimp only at h104
        clear hf hd
        obtain ⟨u104, hu104⟩ : ∃ u, u = ac.eval (.tmp 104) := ⟨_, rfl⟩
        rw [← hu104] at h104
        obtain ⟨A104, c104, hq104⟩ := h104.slice
        have h104' : ac.eval (.tmp 104) = .slice A104 vs.length c104 := by rw [← hu104]; exact hq104
        have hown : OwnV (w.heap.size + 1) wx (.slice A104 vs.length c104) vs := by rw [← hq104]; exact h104
        refine Inv.val (.agg #[.string nb, .int .i64 p, .int .i64 s, .slice A104 vs.length c104, .int .i64 0]) ?_ rfl ⟨A104, c104, rfl, hown⟩ (Below.refl _ _)
        clear hE hB HFY HCL HVA h104 hu104 hq104 hown
        generalize ac.eval = ev at *
        simp [execOp, go_sem, *]
    case fin =>
      intro ac wx hE ha hall
      have hB : Below Y.heap.size Y wx := ⟨hE.os, hE.tape, hE.output, hE.size, hE.block⟩
      have h95 := hall 0 _ (by decide) rfl
      change ac.eval (.tmp 95) = .string nb at h95
      have h96 := hall 1 _ (by decide) rfl
      change (fun v W => v = .string nb) (ac.eval (.tmp 96)) wx at h96
      try dsimp only at h96
      generalize hv96 : ac.eval (.tmp 96) = v96 at *
      have h97 := hall 2 _ (by decide) rfl
      change ac.eval (.tmp 97) = .int .i64 p at h97
      have h98 := hall 3 _ (by decide) rfl
      change ac.eval (.tmp 98) = .pointer (some ⟨r, 0, none⟩) at h98
      have h99 := hall 4 _ (by decide) rfl
      change ac.eval (.tmp 99) = .pointer (some ⟨r, 0, none⟩) at h99
      have h100 := hall 5 _ (by decide) rfl
      change ac.eval (.tmp 100) = .int .i64 s at h100
      have h101 := hall 6 _ (by decide) rfl
      change ac.eval (.tmp 101) = .agg #[.int .i64 s, .int .i64 k, .int .i64 ag, .int .i64 xf, .slice A1 hln c1, .pointer (some ⟨fs, 0, none⟩), .string nb, .int .i64 o] at h101
      have h102 := hall 7 _ (by decide) rfl
      change ac.eval (.tmp 102) = .int .i64 p at h102
      have h103 := hall 8 _ (by decide) rfl
      change ac.eval (.tmp 103) = .int .i64 (K : Int) at h103
      have h104 := hall 9 _ (by decide) rfl
      change (fun v W => OwnV (w.heap.size + 1) W v vs) (ac.eval (.tmp 104)) wx at h104
      try dsimp only at h104
      generalize hv104 : ac.eval (.tmp 104) = v104 at *
      have h105 := hall 10 _ (by decide) rfl
      change (fun v W => ∃ A' c', v = .agg #[.string nb, .int .i64 p, .int .i64 s, .slice A' vs.length c', .int .i64 0] ∧ OwnV (w.heap.size + 1) W (.slice A' vs.length c') vs) (ac.eval (.tmp 105)) wx at h105
      try dsimp only at h105
      generalize hv105 : ac.eval (.tmp 105) = v105 at *
      simp only [List.take_succ_cons, List.take_zero, List.foldl, Inv.slot, Act.put] at ha
      change ac.tmps.getD 95 undef = _ at h95
      change ac.tmps.getD 96 undef = _ at hv96
      change ac.tmps.getD 97 undef = _ at h97
      change ac.tmps.getD 98 undef = _ at h98
      change ac.tmps.getD 99 undef = _ at h99
      change ac.tmps.getD 100 undef = _ at h100
      change ac.tmps.getD 101 undef = _ at h101
      change ac.tmps.getD 102 undef = _ at h102
      change ac.tmps.getD 103 undef = _ at h103
      change ac.tmps.getD 104 undef = _ at hv104
      change ac.tmps.getD 105 undef = _ at hv105
      simp only [h95, hv96, h97, h98, h99, h100, h101, h102, h103, hv104, hv105, List.setIfInBounds_toArray, List.set_cons_zero, List.set_cons_succ] at ha
      clear h95 hv96 h97 h98 h99 h100 h101 h102 h103 hv104 hv105 hall hE
      subst ha
      simp only [List.drop_succ_cons, List.drop_zero]
      subst h96
      obtain ⟨A5, c5, rfl, hown⟩ := h105
      have HOWN := Lib.hid hown
      have hbb : Below (w.heap.size + 1) (w.alloc (.cells #[.string ⟨#[]⟩, .int .i64 0, .int .i64 0, .slice none 0 0, .int .i64 0] 43)) wx := HY.out.trans (hB.mono (ser_below HY.out))
      obtain ⟨⟨z0, z1, z2, z3, z4⟩, ⟨g0, g1, g2, g3, g4⟩, hs4⟩ := HC.out wx hbb
      rw [← HQW.out] at z0 z1 z2 z3 z4 g0 g1 g2 g3 g4 hs4
      have HBB := Lib.hid hbb
      have HRS : Hid (RowAt wx q 43 #[.string ⟨#[]⟩, .int .i64 0, .int .i64 0, .slice none 0 0, .int .i64 0]) := Lib.hid (by rw [HQW.out]; exact (RowAt.new w _ _).below hbb (Nat.lt_succ_self _))
      have HFR : Hid (RowAt (((((wx.setCell ⟨q, 0, none⟩ (.string nb)).setCell ⟨q, 1, none⟩ (.int .i64 p)).setCell ⟨q, 2, none⟩ (.int .i64 s)).setCell ⟨q, 3, none⟩ (.slice A5 vs.length c5)).setCell ⟨q, 4, none⟩ (.int .i64 0)) q 43 #[.string nb, .int .i64 p, .int .i64 s, .slice A5 vs.length c5, .int .i64 0]) := Lib.hid (row_set5v HRS.out)
      have HFB : Hid (Below w.heap.size w (((((wx.setCell ⟨q, 0, none⟩ (.string nb)).setCell ⟨q, 1, none⟩ (.int .i64 p)).setCell ⟨q, 2, none⟩ (.int .i64 s)).setCell ⟨q, 3, none⟩ (.slice A5 vs.length c5)).setCell ⟨q, 4, none⟩ (.int .i64 0))) := Lib.hid (below_set5 (lowBox' HBB.out) (by rw [HQW.out]; exact Nat.le_refl _))
      have HFO : Hid (OwnV w.heap.size (((((wx.setCell ⟨q, 0, none⟩ (.string nb)).setCell ⟨q, 1, none⟩ (.int .i64 p)).setCell ⟨q, 2, none⟩ (.int .i64 s)).setCell ⟨q, 3, none⟩ (.slice A5 vs.length c5)).setCell ⟨q, 4, none⟩ (.int .i64 0)) (.slice A5 vs.length c5) vs) := Lib.hid (by
        have h1 : OwnV (w.heap.size + 1) (((((wx.setCell ⟨q, 0, none⟩ (.string nb)).setCell ⟨q, 1, none⟩ (.int .i64 p)).setCell ⟨q, 2, none⟩ (.int .i64 s)).setCell ⟨q, 3, none⟩ (.slice A5 vs.length c5)).setCell ⟨q, 4, none⟩ (.int .i64 0)) (.slice A5 vs.length c5) vs := owns_keep HOWN.out fun g hg => heap_set5 (by have := (HOWN.out.lt g hg).1; rw [HQW.out]; omega)
        refine ⟨h1.1, ?_⟩
        rcases h1.2 with h | ⟨g, cap, cur, e, hb', rest⟩
        · exact .inl h
        · exact .inr ⟨g, cap, cur, e, Nat.le_trans (Nat.le_succ _) hb', rest⟩)
      clear hown hB hbb HFY HCL HVA
      go_wp2_with fail
      clear z0 z1 z2 z3 z4 g0 g1 g2 g3 g4 hs4
      generalize (((((wx.setCell ⟨q, 0, none⟩ (.string nb)).setCell ⟨q, 1, none⟩ (.int .i64 p)).setCell ⟨q, 2, none⟩ (.int .i64 s)).setCell ⟨q, 3, none⟩ (.slice A5 vs.length c5)).setCell ⟨q, 4, none⟩ (.int .i64 0)) = YF at *
      have u0 := HFR.out.cell 0
      have u1 := HFR.out.cell 1
      have u2 := HFR.out.cell 2
      have u3 := HFR.out.cell 3
      have u4 := HFR.out.cell 4
      simp only [List.getElem?_toArray, List.getElem?_cons_succ, List.getElem?_cons_zero] at u0 u1 u2 u3 u4
      refine bodyPost_ret (v := .tuple #[.agg #[.string nb, .int .i64 p, .int .i64 s, .slice A5 vs.length c5, .int .i64 0], .int .i64 0]) (by simp [results, Tryd.results13, go_sem, u0, u1, u2, u3, u4]) rfl ?_
      rw [HQ.out]
      exact ⟨_, rfl, fun e => (by cases e), fun y e => by injection e with e; subst e; exact ⟨_, by rw [← HNB.out], HFO.out⟩, HFB.out⟩

end Go.Proofs.YtbhfapbhlkgmfaaDoor
