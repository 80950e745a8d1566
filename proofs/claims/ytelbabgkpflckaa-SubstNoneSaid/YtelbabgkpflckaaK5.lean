/-
  SbAll: CONTRACTS: chapter 13: the program's All.
-/
import Derived.Test.YtelbabgkpflckaaK4

set_option linter.unusedSimpArgs false
set_option linter.unusedVariables false
namespace Go.Proofs.Ytelbabgkpflckaa
open Go.RowKit Go.Sort
open Me
open Pk

namespace Sb
/-- What All answers. -/
def ans (T t z : List UInt8) : List UInt8 × Int :=
  if chk T = true then (if 4096 < t.length then ([], 13) else if 4096 < z.length then ([], 13) else (z, 0)) else ([], 8)
abbrev pT : TypeId := 24
theorem over_cell {B r R : Nat} {s : List UInt8} {w : World} (h : Res B r R s w) : w.cell? ⟨r, 3, none⟩ = some (.bool (decide (R < s.length))) := by
  obtain ⟨p, v, m, l, h1, _⟩ := h
  exact h1.cell.2.2.2.1
end Sb

set_option maxHeartbeats 8000000 in
set_option maxRecDepth 100000 in
theorem sbAll_any {T t : List UInt8} {L : List Rx.In} {G : Int} {A : Option Addr} {cp : Nat} {w : World} (hp : ∀ w', Below w.heap.size w w' → Rd w' (fun _ => True) A (icells L)) (hL : L.length ≤ 4096) (hT : T.length ≤ 1048576) (ht : t.length ≤ 100000) (hlen : (Sb.al (Sb.Fd G L t) t T 0).length ≤ 1073000000) :
    Calls Try.prog 21 #[.agg #[.int .i64 G, .slice A L.length cp], .string ⟨T.toArray⟩, .string ⟨t.toArray⟩] w fun e w' => e = .returned (.tuple #[.string ⟨(Sb.ans T t (Sb.al (Sb.Fd G L t) t T 0)).1.toArray⟩, .int .i64 (Sb.ans T t (Sb.al (Sb.Fd G L t) t T 0)).2]) ∧ Below w.heap.size w w' := by
  have HC := Lib.hid fun W => sbChk_any T hT W
  have HP := Lib.hid hp
  obtain ⟨z, hz⟩ : ∃ z, Sb.al (Sb.Fd G L t) t T 0 = z := ⟨_, rfl⟩
  rw [hz] at hlen ⊢
  have HZ := Lib.hid hz
  clear hp hz
  by_cases hc : Sb.chk T = true
  · by_cases h4 : 4096 < t.length
    · have HA : Hid (Sb.ans T t z = ([], 13)) := Lib.hid (by unfold Sb.ans; rw [if_pos hc, if_pos h4])
      have hb0 : Sb.bad T = 0 := by unfold Sb.bad; rw [if_pos hc]
      rw [hb0] at HC
      have h4I : (4096 : Int) < (t.length : Int) := by omega
      rw [HA.out]
      clear hc hb0
      go_enter Try.func21, Try.ntmps21
      go_wp2_with (go_at_call 17; go_must (refine (HC.out _).mono ?_; rintro e w1 ⟨rfl, hb1⟩))
      ((try simp only [Exit.inBlock, Exit.then]); refine bodyPost_ret (results_tmp2 rfl _ _ _) rfl ?_)
      exact ⟨rfl, ((Below.refl w.heap.size w).alloc (Nat.le_refl _) _).trans (hb1.mono (by simp))⟩
    · have hb0 : Sb.bad T = 0 := by unfold Sb.bad; rw [if_pos hc]
      rw [hb0] at HC
      have h4I : ¬ (4096 : Int) < (t.length : Int) := by omega
      have HA0 : Hid (Sb.ans T t z = if 4096 < z.length then ([], 13) else (z, 0)) := Lib.hid (by unfold Sb.ans; rw [if_pos hc, if_neg h4])
      generalize Sb.ans T t z = an at *
      clear hc hb0
      go_enter Try.func21, Try.ntmps21
      go_wp2_with (go_at_call 17; go_must (refine (HC.out _).mono ?_; rintro e w1 ⟨rfl, hb1⟩))
      have HB1 : Hid (Below w.heap.size w w1) := Lib.hid (((Below.refl w.heap.size w).alloc (Nat.le_refl _) _).trans (hb1.mono (by simp)))
      have HBX : Hid (w1.heap[w.heap.size]? = some (Obj.cells #[.int .i64 G, .slice A L.length cp] Sb.pT (0, 0))) := Lib.hid ((hb1.block w.heap.size (by simp)).trans (heap_alloc_new w _))
      clear hb1
      go_loopw [10] (fun x wr => ∃ (k : Nat) (y : List UInt8), x = .int .i64 k ∧ Hid (y ++ Sb.al (Sb.Fd G L t) t T k = z) ∧ Hid (Sb.Res w.heap.size w1.heap.size 4096 y wr) ∧ Hid (Below w.heap.size w wr) ∧ Hid (wr.heap[w.heap.size]? = some (Obj.cells #[.int .i64 G, .slice A L.length cp] Sb.pT (0, 0)))) (fun x _ => t.length + 1 - (intOf x).toNat)
      case atStart =>
        refine ⟨0, [], rfl, HZ, Lib.hid (Sb.Res.new HB1.out.size (heap_alloc_new w1 _)), Lib.hid (HB1.out.alloc HB1.out.size _), Lib.hid ?_⟩
        exact (Lib.alloc_old w1 _ _ (Sb.lt_of_heap HBX.out)).trans HBX.out
      case round =>
        obtain ⟨k, y, rfl, HM, HR, HW, HX⟩ := hrel
        have hc3 := Sb.over_cell HR.out
        have hx0 : wr.cell? ⟨w.heap.size, 0, none⟩ = some (.int .i64 G) := by rw [Lib.cell_of_heap HX.out]; rfl
        have hx1 : wr.cell? ⟨w.heap.size, 1, none⟩ = some (.slice A L.length cp) := by rw [Lib.cell_of_heap HX.out]; rfl
        have hk0 : (0 : Int) ≤ (k : Int) := by omega
        by_cases hov : 4096 < y.length
        · rw [decide_eq_true hov] at hc3
          have HA : Hid (an = ([], 13)) := Lib.hid (by rw [HA0.out, if_pos (by rw [← HM.out, List.length_append]; omega)])
          clear HM HR hov
          by_cases hkl : k ≤ t.length
          · have hkI : (k : Int) ≤ (t.length : Int) := by omega
            go_wp2_with fail
            ((try simp only [Exit.inBlock, Exit.then]); refine bodyPost_ret (results_tmp2 rfl _ _ _) rfl ?_)
            exact ⟨by rw [HA.out]; rfl, HW.out⟩
          · have hkI : ¬ (k : Int) ≤ (t.length : Int) := by omega
            go_wp2_with fail
            ((try simp only [Exit.inBlock, Exit.then]); refine bodyPost_ret (results_tmp2 rfl _ _ _) rfl ?_)
            exact ⟨by rw [HA.out]; rfl, HW.out⟩
        · rw [decide_eq_false hov] at hc3
          by_cases hkl : k ≤ t.length
          · have hkI : (k : Int) ≤ (t.length : Int) := by omega
            have hgt := Sb.stp_gt (F := Sb.Fd G L t) (T := T) hkl
            have HM2 : Hid ((y ++ (Sb.stp (Sb.Fd G L t) t T k).1) ++ Sb.al (Sb.Fd G L t) t T (Sb.stp (Sb.Fd G L t) t T k).2 = z) := Lib.hid (by rw [← HM.out, Sb.al_step hkl, List.append_assoc])
            have hyl : y.length + (Sb.stp (Sb.Fd G L t) t T k).1.length ≤ z.length := by rw [← HM2.out, List.length_append, List.length_append]; omega
            have HRP := Lib.hid (sbReplace_any (T := T) (G := G) (A := A) (cp := cp) (k := k) HR.out (fun w' h1 => HP.out w' (HW.out.trans h1)) hL hT ht hkl (by omega) HW.out.size (by omega))
            generalize (Sb.stp (Sb.Fd G L t) t T k).1 = s1 at *
            generalize (Sb.stp (Sb.Fd G L t) t T k).2 = nx at *
            clear HM hov hyl
            go_wp2_with (go_at_call 34; go_must (refine HRP.out.mono ?_; rintro e w2 ⟨rfl, hr2, hb2, hl2⟩))
            go_roundw
            case rel => exact ⟨nx, y ++ s1, rfl, HM2, Lib.hid hr2, Lib.hid (HW.out.trans hb2), Lib.hid (hl2 _ _ _ _ HX.out (by decide) (by decide))⟩
            case measure => simp [intOf]; omega
          · have hkI : ¬ (k : Int) ≤ (t.length : Int) := by omega
            have hyz : y = z := by rw [← HM.out, Sb.al_end (by omega), List.append_nil]
            have HA : Hid (an = (z, 0)) := Lib.hid (by rw [HA0.out, if_neg (by rw [← hyz]; exact hov)])
            have HST := Lib.hid (sbStr_any HR.out (by omega) HW.out.size)
            rw [hyz] at HST
            clear HM HR hov hyz
            go_wp2_with (go_at_call 29; go_must (refine HST.out.mono ?_; rintro e w2 ⟨rfl, hb2⟩))
            ((try simp only [Exit.inBlock, Exit.then]); refine bodyPost_ret (results_tmp2 rfl _ _ _) rfl ?_)
            exact ⟨by rw [HA.out]; rfl, HW.out.trans hb2⟩
  · have HA : Hid (Sb.ans T t z = ([], 8)) := Lib.hid (by unfold Sb.ans; rw [if_neg hc])
    have hb0 : Sb.bad T = 8 := by unfold Sb.bad; rw [if_neg hc]
    rw [hb0] at HC
    rw [HA.out]
    clear hc hb0
    go_enter Try.func21, Try.ntmps21
    go_wp2_with (go_at_call 17; go_must (refine (HC.out _).mono ?_; rintro e w1 ⟨rfl, hb1⟩))
    ((try simp only [Exit.inBlock, Exit.then]); refine bodyPost_ret (results_tmp2 rfl _ _ _) rfl ?_)
    exact ⟨rfl, ((Below.refl w.heap.size w).alloc (Nat.le_refl _) _).trans (hb1.mono (by simp))⟩
end Go.Proofs.Ytelbabgkpflckaa
