/-
  LxWord: CONTRACTS: chapter 14: a word, on both sides.
  LxTk: CONTRACTS: chapter 14: the program's token.
-/
import Derived.Test.YtojmcndiooiehaaGreatDoorJ7

set_option linter.unusedSimpArgs false
set_option linter.unusedVariables false
namespace Go.Proofs.YtojmcndiooiehaaGreatDoor
open Go.RowKit
open Me

namespace Lx
/-- A word that stands here. -/
def wd (r : List UInt8) : Option (Tok × List UInt8) := match scan r 0 with
  | some (n + 1) => some ((1, r.take (n + 1)), r.drop (n + 1))
  | _ => none
theorem wd_none {r : List UInt8} (h : scan r 0 = none) : wd r = none := by unfold wd; rw [h]
theorem wd_zero {r : List UInt8} (h : scan r 0 = some 0) : wd r = none := by unfold wd; rw [h]
theorem wd_some {r : List UInt8} {n : Nat} (h : scan r 0 = some n) (hn : 0 < n) : wd r = some ((1, r.take n), r.drop n) := by
  obtain ⟨m, rfl⟩ : ∃ m, n = m + 1 := ⟨n - 1, by omega⟩
  unfold wd; rw [h]
theorem scan_on {a : UInt8} {l : List UInt8} {d : Int} (hm : may a d = true) (hd : ¬ dep a d < 0) : scan (a :: l) d = (scan l (dep a d)).map (· + 1) := by rw [scan, if_pos hm, if_neg hd]
theorem scan_bad {a : UInt8} {l : List UInt8} {d : Int} (hm : may a d = true) (hd : dep a d < 0) : scan (a :: l) d = none := by rw [scan, if_pos hm, if_pos hd]
theorem scan_stop {a : UInt8} {l : List UInt8} {d : Int} (hm : may a d = false) : scan (a :: l) d = if d = 0 then some 0 else none := by rw [scan, if_neg (by simp [hm])]
theorem map_add (o : Option Nat) (i : Nat) : (o.map (· + 1)).map (· + i) = o.map (· + (i + 1)) := by
  cases o with
  | none => rfl
  | some n => show some (n + 1 + i) = some (n + (i + 1)); congr 1; omega
/-- How far the word is read: i bytes, d braces open. -/
def Far (r : List UInt8) (i : Nat) (d : Int) : Prop := scan r 0 = (scan (r.drop i) d).map (· + i)
theorem Far.start (r : List UInt8) : Far r 0 0 := by
  unfold Far
  rw [List.drop_zero]
  cases scan r 0 <;> rfl
theorem Far.end_ {r : List UInt8} {i : Nat} {d : Int} (h : Far r i d) (he : scan (r.drop i) d = if d = 0 then some 0 else none) : scan r 0 = if d = 0 then some i else none := by
  unfold Far at h
  rw [h, he]
  split
  · show some (0 + i) = _; rw [Nat.zero_add]
  · rfl
theorem Far.next {r : List UInt8} {i : Nat} {d : Int} {a : UInt8} (h : Far r i d) (e : r.drop i = a :: r.drop (i + 1)) (hm : may a d = true) (hd : ¬ dep a d < 0) : Far r (i + 1) (dep a d) := by
  unfold Far at h ⊢
  rw [h, e, scan_on hm hd, map_add]
theorem Far.bad {r : List UInt8} {i : Nat} {d : Int} {a : UInt8} (h : Far r i d) (e : r.drop i = a :: r.drop (i + 1)) (hm : may a d = true) (hd : dep a d < 0) : scan r 0 = none := by
  unfold Far at h
  rw [h, e, scan_bad hm hd]
  rfl
end Lx

set_option maxRecDepth 100000 in
set_option maxHeartbeats 8000000 in
theorem lword_any {w : World} {b : Nat} {v : Value} {r : List UInt8} (h : Lx.Tx w b v r) (hl : r.length ≤ 1000000) :
    Calls Tryz.prog 53 #[.pointer (some ⟨b, 0, none⟩)] w (Lx.TokR w b v (Lx.wd r)) := by
  have hbl := h.lt
  have c0 := h.c0
  have hb0 : b ≠ w.heap.size := by omega
  obtain ⟨w0, hw0⟩ : ∃ w0, w0 = w.alloc (.cells #[.int .i64 0, .string ⟨#[]⟩] 67) := ⟨_, rfl⟩
  have HD0 : Hid (Lx.TxD w b v r w0) := Lib.hid (by rw [hw0]; exact (Lx.TxD.refl h).alloc _)
  have HR0 : Hid (RowAt w0 w.heap.size 67 #[.int .i64 0, .string ⟨#[]⟩]) := Lib.hid (by rw [hw0]; exact RowAt.new w _ _)
  have HMS := Lib.hid fun c d W => mayStand_any c d W
  have HFS := Lib.hid (Lx.Far.start r)
  have HWN := Lib.hid (@Lx.wd_none r)
  have HWZ := Lib.hid (@Lx.wd_zero r)
  have HWS := Lib.hid fun n => @Lx.wd_some r n
  have HTA := Lib.hid fun i hi => ltake_any HD0.out.row (by omega) i hi
  have d0 := HD0.out.row.c0
  have hbl1 := HD0.out.row.lt
  generalize Lx.wd r = o at *
  clear h
  go_enter Tryz.func53, Tryz.ntmps53
  go_wp2_with fail
  rw [← hw0]
  clear hw0
  go_loopw [4, 5] (fun x y wr => ∃ (i : Nat) (d : Nat), x = .int .i64 (i : Int) ∧ y = .int .i64 (d : Int) ∧ i ≤ r.length ∧ d ≤ i ∧ Hid (Lx.Far r i (d : Int)) ∧ Hid (w0 = wr)) (fun x _ _ => r.length - (intOf x).toNat)
  case atStart => exact ⟨0, 0, rfl, rfl, Nat.zero_le _, Nat.le_refl _, HFS, Lib.hid rfl⟩
  case round =>
    obtain ⟨i, d, rfl, rfl, hi, hdi, HF, HW⟩ := hrel
    obtain rfl := HW.out
    clear HW
    have hi0 : (0 : Int) ≤ (i : Int) := by omega
    by_cases hlt : i < r.length
    · obtain ⟨a, ha⟩ : ∃ a, r[i] = a := ⟨_, rfl⟩
      have hget : r[i]? = some a := by rw [List.getElem?_eq_getElem hlt, ha]
      obtain ⟨z0, g0⟩ := Lx.byte_at hget
      have hiI : (i : Int) < (r.length : Int) := by omega
      have HDR : Hid (r.drop i = a :: r.drop (i + 1)) := Lib.hid (by rw [List.drop_eq_getElem_cons hlt, ha])
      have HMA := Lib.hid (HMS.out a (d : Int))
      clear hget ha
      cases hm : Lx.may a (d : Int)
      · have HSC : Hid (Lx.scan r 0 = if (d : Int) = 0 then some i else none) := Lib.hid (HF.out.end_ (by rw [HDR.out, Lx.scan_stop hm]))
        rw [hm] at HMA
        clear hm
        have HTI := Lib.hid (HTA.out i hi)
        by_cases hd0 : d = 0
        · have q1 : ((d : Int) = 0) = True := eq_true (by omega)
          have q1b : ((d : Int) == 0) = true := by rw [hd0]; rfl
          by_cases hi1 : 0 < i
          · have HQ : Hid (o = if true = true then some ((1, r.take i), r.drop i) else none) := Lib.hid (by rw [if_pos rfl]; exact HWS.out i (by rw [HSC.out, if_pos (by omega)]) hi1)
            have q2 : (0 : Int) < (i : Int) := by omega
            clear hd0 hi1
            go_wp2_with first
              | (go_at_call 81; go_must (refine (HMA.out _).mono ?_; rintro e w2 ⟨rfl, rfl⟩))
              | (go_at_call 80; go_must (refine HTI.out.mono ?_; rintro e w3 ⟨rfl, hd3⟩; have HD3 := Lib.hid (HD0.out.trans hd3); have hr3 := hd3.beside HR0.out (by omega); have x0 : w3.cell? ⟨w.heap.size, 0, none⟩ = some (.int .i64 0) := (hr3.cell 0).trans rfl; have x1 : w3.cell? ⟨w.heap.size, 1, none⟩ = some (.string ⟨#[]⟩) := (hr3.cell 1).trans rfl; have y0 := hr3.frozen 0; have y1 := hr3.frozen 1; clear hd3 hr3))
            refine bodyPost_ret ((results_cell_tmp rfl _ _ _).trans (by simp [go_sem, *]; rfl)) rfl ?_
            exact ⟨1, r.take i, r.drop i, true, rfl, (HD3.out.far _ (Nat.le_refl _) (by show b ≠ w.heap.size; omega) _).far _ (Nat.le_refl _) (by show b ≠ w.heap.size; omega) _, HQ.out⟩
          · have HQ : Hid (o = if false = true then some ((1, r.take i), r.drop i) else none) := Lib.hid (by rw [if_neg (by simp)]; exact HWZ.out (by rw [HSC.out, if_pos (by omega), show i = 0 by omega]))
            have q2 : ¬ (0 : Int) < (i : Int) := by omega
            clear hd0 hi1
            go_wp2_with first
              | (go_at_call 81; go_must (refine (HMA.out _).mono ?_; rintro e w2 ⟨rfl, rfl⟩))
              | (go_at_call 80; go_must (refine HTI.out.mono ?_; rintro e w3 ⟨rfl, hd3⟩; have HD3 := Lib.hid (HD0.out.trans hd3); have hr3 := hd3.beside HR0.out (by omega); have x0 : w3.cell? ⟨w.heap.size, 0, none⟩ = some (.int .i64 0) := (hr3.cell 0).trans rfl; have x1 : w3.cell? ⟨w.heap.size, 1, none⟩ = some (.string ⟨#[]⟩) := (hr3.cell 1).trans rfl; have y0 := hr3.frozen 0; have y1 := hr3.frozen 1; clear hd3 hr3))
            refine bodyPost_ret ((results_cell_tmp rfl _ _ _).trans (by simp [go_sem, *]; rfl)) rfl ?_
            exact ⟨1, r.take i, r.drop i, false, rfl, (HD3.out.far _ (Nat.le_refl _) (by show b ≠ w.heap.size; omega) _).far _ (Nat.le_refl _) (by show b ≠ w.heap.size; omega) _, HQ.out⟩
        · have q1 : ¬ (d : Int) = 0 := by omega
          have q1b : ((d : Int) == 0) = false := by simpa using q1
          have HQ : Hid (o = if false = true then some ((1, r.take i), r.drop i) else none) := Lib.hid (by rw [if_neg (by simp)]; exact HWN.out (by rw [HSC.out, if_neg (by omega)]))
          have q2 : (0 : Int) < (i : Int) := by omega
          clear hd0
          go_wp2_with first
            | (go_at_call 81; go_must (refine (HMA.out _).mono ?_; rintro e w2 ⟨rfl, rfl⟩))
            | (go_at_call 80; go_must (refine HTI.out.mono ?_; rintro e w3 ⟨rfl, hd3⟩; have HD3 := Lib.hid (HD0.out.trans hd3); have hr3 := hd3.beside HR0.out (by omega); have x0 : w3.cell? ⟨w.heap.size, 0, none⟩ = some (.int .i64 0) := (hr3.cell 0).trans rfl; have x1 : w3.cell? ⟨w.heap.size, 1, none⟩ = some (.string ⟨#[]⟩) := (hr3.cell 1).trans rfl; have y0 := hr3.frozen 0; have y1 := hr3.frozen 1; clear hd3 hr3))
          refine bodyPost_ret ((results_cell_tmp rfl _ _ _).trans (by simp [go_sem, *]; rfl)) rfl ?_
          exact ⟨1, r.take i, r.drop i, false, rfl, (HD3.out.far _ (Nat.le_refl _) (by show b ≠ w.heap.size; omega) _).far _ (Nat.le_refl _) (by show b ≠ w.heap.size; omega) _, HQ.out⟩
      · have HM := Lib.hid hm
        rw [hm] at HMA
        clear hm
        by_cases h123 : a = 123
        · have k1 : ((a.toNat : Int) = 123) = True := by rw [h123]; simp
          have k1b : ((a.toNat : Int) == 123) = true := by rw [h123]; rfl
          have e1 : Lx.dep a (d : Int) = ((d + 1 : Nat) : Int) := by unfold Lx.dep; rw [if_pos h123]; omega
          have HF2 : Hid (Lx.Far r (i + 1) ((d + 1 : Nat) : Int)) := Lib.hid (by have := HF.out.next HDR.out HM.out (by rw [e1]; omega); rwa [e1] at this)
          have hw1 : ¬ ((d : Int) + 1 < 0) := by omega
          clear e1 h123
          go_wp2_with (go_at_call 81; go_must (refine (HMA.out _).mono ?_; rintro e w2 ⟨rfl, rfl⟩))
          go_roundw
          case rel => exact ⟨i + 1, d + 1, by go_num, by go_num, by omega, by omega, HF2, Lib.hid (by first | trivial | rfl)⟩
          case measure => simp [intOf]; omega
        · have k1 : ¬ (a.toNat : Int) = 123 := fun e => h123 (UInt8.toNat_inj.1 (by show a.toNat = 123; omega))
          have k1b : ((a.toNat : Int) == 123) = false := by simpa using k1
          by_cases h125 : a = 125
          · have k2 : ((a.toNat : Int) = 125) = True := by rw [h125]; simp
            have k2b : ((a.toNat : Int) == 125) = true := by rw [h125]; rfl
            have e1 : Lx.dep a (d : Int) = (d : Int) - 1 := by unfold Lx.dep; rw [if_neg h123, if_pos h125]
            by_cases hz : d = 0
            · have HSC : Hid (Lx.scan r 0 = none) := Lib.hid (HF.out.bad HDR.out HM.out (by rw [e1]; omega))
              have HQ := Lib.hid (HWN.out HSC.out)
              have hw1 : (d : Int) - 1 < 0 := by omega
              have x0 : w0.cell? ⟨w.heap.size, 0, none⟩ = some (.int .i64 0) := (HR0.out.cell 0).trans rfl
              have x1 : w0.cell? ⟨w.heap.size, 1, none⟩ = some (.string ⟨#[]⟩) := (HR0.out.cell 1).trans rfl
              have y0 := HR0.out.frozen 0
              have y1 := HR0.out.frozen 1
              clear e1 h123 h125 hz
              go_wp2_with (go_at_call 81; go_must (refine (HMA.out _).mono ?_; rintro e w2 ⟨rfl, rfl⟩))
              refine bodyPost_ret ((results_cell_tmp rfl _ _ _).trans (by simp [go_sem, *]; rfl)) rfl ?_
              exact ⟨0, [], r, false, rfl, (HD0.out.far _ (Nat.le_refl _) (by show b ≠ w.heap.size; omega) _).far _ (Nat.le_refl _) (by show b ≠ w.heap.size; omega) _, HQ.out⟩
            · obtain ⟨m, rfl⟩ : ∃ m, d = m + 1 := ⟨d - 1, by omega⟩
              have hw1 : ((m + 1 : Nat) : Int) - 1 = (m : Int) := by omega
              have HF2 : Hid (Lx.Far r (i + 1) (m : Int)) := Lib.hid (by have := HF.out.next HDR.out HM.out (by rw [e1]; omega); rwa [e1, hw1] at this)
              have hw2 : IntKind.i64.wrap (((m + 1 : Nat) : Int) - 1) = (m : Int) := by rw [IntKind.wrap_i64]; omega
              have hw3 : ¬ ((m : Int) < 0) := by omega
              clear e1 h123 h125 hz hw1
              go_wp2_with (go_at_call 81; go_must (refine (HMA.out _).mono ?_; rintro e w2 ⟨rfl, rfl⟩))
              go_roundw
              case rel => exact ⟨i + 1, m, by go_num, by go_num, by omega, by omega, HF2, Lib.hid (by first | trivial | rfl)⟩
              case measure => simp [intOf]; omega
          · have k2 : ¬ (a.toNat : Int) = 125 := fun e => h125 (UInt8.toNat_inj.1 (by show a.toNat = 125; omega))
            have k2b : ((a.toNat : Int) == 125) = false := by simpa using k2
            have e1 : Lx.dep a (d : Int) = (d : Int) := by unfold Lx.dep; rw [if_neg h123, if_neg h125]
            have HF2 : Hid (Lx.Far r (i + 1) (d : Int)) := Lib.hid (by have := HF.out.next HDR.out HM.out (by rw [e1]; omega); rwa [e1] at this)
            have hw1 : ¬ ((d : Int) < 0) := by omega
            clear e1 h123 h125
            go_wp2_with (go_at_call 81; go_must (refine (HMA.out _).mono ?_; rintro e w2 ⟨rfl, rfl⟩))
            go_roundw
            case rel => exact ⟨i + 1, d, by go_num, by go_num, by omega, by omega, HF2, Lib.hid (by first | trivial | rfl)⟩
            case measure => simp [intOf]; omega
    · have hiI : ¬ (i : Int) < (r.length : Int) := by omega
      have HSC : Hid (Lx.scan r 0 = if (d : Int) = 0 then some i else none) := Lib.hid (HF.out.end_ (by rw [List.drop_eq_nil_of_le (by omega)]; rfl))
      have HMA := Lib.hid (HMS.out 0 (d : Int))
      have HTI := Lib.hid (HTA.out i hi)
      by_cases hd0 : d = 0
      · have q1 : ((d : Int) = 0) = True := eq_true (by omega)
        have q1b : ((d : Int) == 0) = true := by rw [hd0]; rfl
        by_cases hi1 : 0 < i
        · have HQ : Hid (o = if true = true then some ((1, r.take i), r.drop i) else none) := Lib.hid (by rw [if_pos rfl]; exact HWS.out i (by rw [HSC.out, if_pos (by omega)]) hi1)
          have q2 : (0 : Int) < (i : Int) := by omega
          clear hd0 hi1
          go_wp2_with first
            | (go_at_call 80; go_must (refine HTI.out.mono ?_; rintro e w3 ⟨rfl, hd3⟩; have HD3 := Lib.hid (HD0.out.trans hd3); have hr3 := hd3.beside HR0.out (by omega); have x0 : w3.cell? ⟨w.heap.size, 0, none⟩ = some (.int .i64 0) := (hr3.cell 0).trans rfl; have x1 : w3.cell? ⟨w.heap.size, 1, none⟩ = some (.string ⟨#[]⟩) := (hr3.cell 1).trans rfl; have y0 := hr3.frozen 0; have y1 := hr3.frozen 1; clear hd3 hr3))
          refine bodyPost_ret ((results_cell_tmp rfl _ _ _).trans (by simp [go_sem, *]; rfl)) rfl ?_
          exact ⟨1, r.take i, r.drop i, true, rfl, (HD3.out.far _ (Nat.le_refl _) (by show b ≠ w.heap.size; omega) _).far _ (Nat.le_refl _) (by show b ≠ w.heap.size; omega) _, HQ.out⟩
        · have HQ : Hid (o = if false = true then some ((1, r.take i), r.drop i) else none) := Lib.hid (by rw [if_neg (by simp)]; exact HWZ.out (by rw [HSC.out, if_pos (by omega), show i = 0 by omega]))
          have q2 : ¬ (0 : Int) < (i : Int) := by omega
          clear hd0 hi1
          go_wp2_with first
            | (go_at_call 80; go_must (refine HTI.out.mono ?_; rintro e w3 ⟨rfl, hd3⟩; have HD3 := Lib.hid (HD0.out.trans hd3); have hr3 := hd3.beside HR0.out (by omega); have x0 : w3.cell? ⟨w.heap.size, 0, none⟩ = some (.int .i64 0) := (hr3.cell 0).trans rfl; have x1 : w3.cell? ⟨w.heap.size, 1, none⟩ = some (.string ⟨#[]⟩) := (hr3.cell 1).trans rfl; have y0 := hr3.frozen 0; have y1 := hr3.frozen 1; clear hd3 hr3))
          refine bodyPost_ret ((results_cell_tmp rfl _ _ _).trans (by simp [go_sem, *]; rfl)) rfl ?_
          exact ⟨1, r.take i, r.drop i, false, rfl, (HD3.out.far _ (Nat.le_refl _) (by show b ≠ w.heap.size; omega) _).far _ (Nat.le_refl _) (by show b ≠ w.heap.size; omega) _, HQ.out⟩
      · have q1 : ¬ (d : Int) = 0 := by omega
        have q1b : ((d : Int) == 0) = false := by simpa using q1
        have HQ : Hid (o = if false = true then some ((1, r.take i), r.drop i) else none) := Lib.hid (by rw [if_neg (by simp)]; exact HWN.out (by rw [HSC.out, if_neg (by omega)]))
        have q2 : (0 : Int) < (i : Int) := by omega
        clear hd0
        go_wp2_with first
          | (go_at_call 80; go_must (refine HTI.out.mono ?_; rintro e w3 ⟨rfl, hd3⟩; have HD3 := Lib.hid (HD0.out.trans hd3); have hr3 := hd3.beside HR0.out (by omega); have x0 : w3.cell? ⟨w.heap.size, 0, none⟩ = some (.int .i64 0) := (hr3.cell 0).trans rfl; have x1 : w3.cell? ⟨w.heap.size, 1, none⟩ = some (.string ⟨#[]⟩) := (hr3.cell 1).trans rfl; have y0 := hr3.frozen 0; have y1 := hr3.frozen 1; clear hd3 hr3))
        refine bodyPost_ret ((results_cell_tmp rfl _ _ _).trans (by simp [go_sem, *]; rfl)) rfl ?_
        exact ⟨1, r.take i, r.drop i, false, rfl, (HD3.out.far _ (Nat.le_refl _) (by show b ≠ w.heap.size; omega) _).far _ (Nat.le_refl _) (by show b ≠ w.heap.size; omega) _, HQ.out⟩
end Go.Proofs.YtojmcndiooiehaaGreatDoor

namespace Go.Proofs.YtojmcndiooiehaaGreatDoor
open Go.RowKit
open Me

namespace Lx
/-- The token that stands here, and what is behind it. -/
def tk (c : UInt8) (r : List UInt8) : Option (Tok × List UInt8) := (token c r).map fun p => (p.1, r.drop p.2)
theorem tk_eq (c : UInt8) (r : List UInt8) : tk c r = if c = 40 then some ((3, []), r) else if c = 41 then some ((4, []), r) else if c = 44 then some ((5, []), r) else if c = 34 ∨ c = 39 then qt c r else wd (c :: r) := by
  unfold tk token
  by_cases h1 : c = 40
  · rw [if_pos h1, if_pos h1]; rfl
  rw [if_neg h1, if_neg h1]
  by_cases h2 : c = 41
  · rw [if_pos h2, if_pos h2]; rfl
  rw [if_neg h2, if_neg h2]
  by_cases h3 : c = 44
  · rw [if_pos h3, if_pos h3]; rfl
  rw [if_neg h3, if_neg h3]
  by_cases h4 : c = 34 ∨ c = 39
  · rw [if_pos h4, if_pos h4]
    unfold qt
    by_cases h5 : idx c r < r.length
    · rw [if_pos h5, if_pos h5]; rfl
    · rw [if_neg h5, if_neg h5]; rfl
  rw [if_neg h4, if_neg h4]
  unfold wd
  cases scan (c :: r) 0 with
  | none => rfl
  | some n =>
    cases n with
    | zero => rfl
    | succ n => rfl
theorem TokR.onto {w w1 : World} {b : Nat} {v : Value} {r : List UInt8} {o : Option (Tok × List UInt8)} {e : Ending} {w' : World} (h : TxD w b v r w1) (k : TokR w1 b v o e w') : TokR w b v o e w' := by
  obtain ⟨k1, t, r', ok, he, hd, ho⟩ := k
  exact ⟨k1, t, r', ok, he, h.trans hd, ho⟩
end Lx

set_option maxRecDepth 100000 in
set_option maxHeartbeats 8000000 in
theorem ltoken_any {w : World} {b : Nat} {v : Value} {c : UInt8} {r : List UInt8} (h : Lx.Tx w b v (c :: r)) (hl : r.length ≤ 999999) :
    Calls Tryz.prog 31 #[.pointer (some ⟨b, 0, none⟩)] w (Lx.TokR w b v (Lx.tk c r)) := by
  have hbl := h.lt
  have hb0 : b ≠ w.heap.size := by omega
  obtain ⟨w0, hw0⟩ : ∃ w0, w0 = w.alloc (.cells #[.int .i64 0, .string ⟨#[]⟩] 67) := ⟨_, rfl⟩
  have HD0 : Hid (Lx.TxD w b v (c :: r) w0) := Lib.hid (by rw [hw0]; exact (Lx.TxD.refl h).alloc _)
  have HR0 : Hid (RowAt w0 w.heap.size 67 #[.int .i64 0, .string ⟨#[]⟩]) := Lib.hid (by rw [hw0]; exact RowAt.new w _ _)
  have HTQ := Lib.hid (Lx.tk_eq c r)
  -- a take that fails, and one that does not
  have HNO : Hid (∀ (q : UInt8) (W : World), c ≠ q → Lx.TxD w b v (c :: r) W ∧ RowAt W w.heap.size 67 #[.int .i64 0, .string ⟨#[]⟩] → Calls Tryz.prog 51 #[.pointer (some ⟨b, 0, none⟩), .string ⟨#[q]⟩] W fun e w' => e = .returned (.bool false) ∧ (Lx.TxD w b v (c :: r) w' ∧ RowAt w' w.heap.size 67 #[.int .i64 0, .string ⟨#[]⟩])) := Lib.hid fun q W hq hW => by
    refine (ltakes_any hW.1.row q).mono ?_
    rintro e w' ⟨rfl, hd⟩
    have e1 : Lx.hdIs q (c :: r) = false := by show decide (c = q) = false; exact decide_eq_false hq
    have e2 : Lx.cutH q (c :: r) = c :: r := by unfold Lx.cutH; rw [e1]; rfl
    rw [e2] at hd
    exact ⟨by rw [e1], hW.1.trans hd, hd.beside hW.2 (by omega)⟩
  have HYES : Hid (∀ (q : UInt8) (W : World), c = q → Lx.TxD w b v (c :: r) W ∧ RowAt W w.heap.size 67 #[.int .i64 0, .string ⟨#[]⟩] → Calls Tryz.prog 51 #[.pointer (some ⟨b, 0, none⟩), .string ⟨#[q]⟩] W fun e w' => e = .returned (.bool true) ∧ (Lx.TxD w b v r w' ∧ RowAt w' w.heap.size 67 #[.int .i64 0, .string ⟨#[]⟩])) := Lib.hid fun q W hq hW => by
    refine (ltakes_any hW.1.row q).mono ?_
    rintro e w' ⟨rfl, hd⟩
    have e1 : Lx.hdIs q (c :: r) = true := by show decide (c = q) = true; exact decide_eq_true hq
    have e2 : Lx.cutH q (c :: r) = r := by unfold Lx.cutH; rw [e1]; rfl
    rw [e2] at hd
    exact ⟨by rw [e1], hW.1.trans hd, hd.beside hW.2 (by omega)⟩
  have HQT : Hid (∀ (q : UInt8) (W : World), Lx.TxD w b v r W ∧ RowAt W w.heap.size 67 #[.int .i64 0, .string ⟨#[]⟩] → Calls Tryz.prog 52 #[.pointer (some ⟨b, 0, none⟩), .string ⟨#[q]⟩] W fun e w' => ∃ (k : Int) (t r' : List UInt8) (ok : Bool), e = .returned (.tuple #[.agg #[.int .i64 k, .string ⟨t.toArray⟩], .bool ok]) ∧ (Lx.TxD w b v r' w' ∧ RowAt w' w.heap.size 67 #[.int .i64 0, .string ⟨#[]⟩]) ∧ Lx.qt q r = if ok = true then some ((k, t), r') else none) := Lib.hid fun q W hW => by
    refine (lquoted_any hW.1.row (by omega) q).mono ?_
    rintro e w' ⟨k, t, r', ok, he, hd, ho⟩
    exact ⟨k, t, r', ok, he, ⟨hW.1.trans hd, hd.beside hW.2 (by omega)⟩, ho⟩
  have HWD : Hid (∀ (W : World), Lx.TxD w b v (c :: r) W ∧ RowAt W w.heap.size 67 #[.int .i64 0, .string ⟨#[]⟩] → Calls Tryz.prog 53 #[.pointer (some ⟨b, 0, none⟩)] W fun e w' => ∃ (k : Int) (t r' : List UInt8) (ok : Bool), e = .returned (.tuple #[.agg #[.int .i64 k, .string ⟨t.toArray⟩], .bool ok]) ∧ (Lx.TxD w b v r' w' ∧ RowAt w' w.heap.size 67 #[.int .i64 0, .string ⟨#[]⟩]) ∧ Lx.wd (c :: r) = if ok = true then some ((k, t), r') else none) := Lib.hid fun W hW => by
    refine (lword_any hW.1.row (by simp; omega)).mono ?_
    rintro e w' ⟨k, t, r', ok, he, hd, ho⟩
    exact ⟨k, t, r', ok, he, ⟨hW.1.trans hd, hd.beside hW.2 (by omega)⟩, ho⟩
  have H0 : Hid (Lx.TxD w b v (c :: r) w0 ∧ RowAt w0 w.heap.size 67 #[.int .i64 0, .string ⟨#[]⟩]) := Lib.hid ⟨HD0.out, HR0.out⟩
  have hlt0 := HR0.out.lt
  clear h HD0 HR0
  have hFIN : ∀ (W : World) (k : Int) (t r' : List UInt8) (ok : Bool), Lx.TxD w b v r' W → Lx.tk c r = (if ok = true then some ((k, t), r') else none) → Lx.TokR w b v (Lx.tk c r) (.returned (.tuple #[.agg #[.int .i64 k, .string ⟨t.toArray⟩], .bool ok])) ((W.setCell ⟨w.heap.size, 0, none⟩ (.int .i64 k)).setCell ⟨w.heap.size, 1, none⟩ (.string ⟨t.toArray⟩)) := fun W k t r' ok hd ho => ⟨k, t, r', ok, rfl, (hd.far _ (Nat.le_refl _) (by show b ≠ w.heap.size; omega) _).far _ (Nat.le_refl _) (by show b ≠ w.heap.size; omega) _, ho⟩
  have HFIN := Lib.hid hFIN
  clear hFIN
  generalize Lx.tk c r = o at *
  by_cases hc : c = 40
  · go_enter Tryz.func31, Tryz.ntmps31
    go_wp2_with fail
    rw [← hw0]
    clear hw0
    go_at_call 51
    refine (HYES.out 40 _ hc H0.out).mono ?_
    rintro e wz ⟨rfl, hz⟩
    have Hz := Lib.hid hz
    clear hz
    have x0 : wz.cell? ⟨w.heap.size, 0, none⟩ = some (.int .i64 0) := (Hz.out.2.cell 0).trans rfl; have x1 : wz.cell? ⟨w.heap.size, 1, none⟩ = some (.string ⟨#[]⟩) := (Hz.out.2.cell 1).trans rfl; have y0 := Hz.out.2.frozen 0; have y1 := Hz.out.2.frozen 1
    go_wp2_with fail
    refine bodyPost_ret ((results_cell_tmp rfl _ _ _).trans (by simp [go_sem, *]; rfl)) rfl ?_
    exact HFIN.out wz 3 [] r true Hz.out.1 (by rw [HTQ.out, if_pos hc, if_pos rfl])
  have n40 : c ≠ 40 := hc
  clear hc
  by_cases hc : c = 41
  · go_enter Tryz.func31, Tryz.ntmps31
    go_wp2_with fail
    rw [← hw0]
    clear hw0
    go_at_call 51
    refine (HNO.out 40 _ n40 H0.out).mono ?_
    rintro e w1 ⟨rfl, h1⟩
    have H1 := Lib.hid h1
    clear h1
    go_wp2_with fail
    go_at_call 51
    refine (HYES.out 41 _ hc H1.out).mono ?_
    rintro e wz ⟨rfl, hz⟩
    have Hz := Lib.hid hz
    clear hz
    have x0 : wz.cell? ⟨w.heap.size, 0, none⟩ = some (.int .i64 0) := (Hz.out.2.cell 0).trans rfl; have x1 : wz.cell? ⟨w.heap.size, 1, none⟩ = some (.string ⟨#[]⟩) := (Hz.out.2.cell 1).trans rfl; have y0 := Hz.out.2.frozen 0; have y1 := Hz.out.2.frozen 1
    go_wp2_with fail
    refine bodyPost_ret ((results_cell_tmp rfl _ _ _).trans (by simp [go_sem, *]; rfl)) rfl ?_
    exact HFIN.out wz 4 [] r true Hz.out.1 (by rw [HTQ.out, if_neg n40, if_pos hc, if_pos rfl])
  have n41 : c ≠ 41 := hc
  clear hc
  by_cases hc : c = 44
  · go_enter Tryz.func31, Tryz.ntmps31
    go_wp2_with fail
    rw [← hw0]
    clear hw0
    go_at_call 51
    refine (HNO.out 40 _ n40 H0.out).mono ?_
    rintro e w1 ⟨rfl, h1⟩
    have H1 := Lib.hid h1
    clear h1
    go_wp2_with fail
    go_at_call 51
    refine (HNO.out 41 _ n41 H1.out).mono ?_
    rintro e w2 ⟨rfl, h2⟩
    have H2 := Lib.hid h2
    clear h2
    go_wp2_with fail
    go_at_call 51
    refine (HYES.out 44 _ hc H2.out).mono ?_
    rintro e wz ⟨rfl, hz⟩
    have Hz := Lib.hid hz
    clear hz
    have x0 : wz.cell? ⟨w.heap.size, 0, none⟩ = some (.int .i64 0) := (Hz.out.2.cell 0).trans rfl; have x1 : wz.cell? ⟨w.heap.size, 1, none⟩ = some (.string ⟨#[]⟩) := (Hz.out.2.cell 1).trans rfl; have y0 := Hz.out.2.frozen 0; have y1 := Hz.out.2.frozen 1
    go_wp2_with fail
    refine bodyPost_ret ((results_cell_tmp rfl _ _ _).trans (by simp [go_sem, *]; rfl)) rfl ?_
    exact HFIN.out wz 5 [] r true Hz.out.1 (by rw [HTQ.out, if_neg n40, if_neg n41, if_pos hc, if_pos rfl])
  have n44 : c ≠ 44 := hc
  clear hc
  by_cases hc : c = 34
  · go_enter Tryz.func31, Tryz.ntmps31
    go_wp2_with fail
    rw [← hw0]
    clear hw0
    go_at_call 51
    refine (HNO.out 40 _ n40 H0.out).mono ?_
    rintro e w1 ⟨rfl, h1⟩
    have H1 := Lib.hid h1
    clear h1
    go_wp2_with fail
    go_at_call 51
    refine (HNO.out 41 _ n41 H1.out).mono ?_
    rintro e w2 ⟨rfl, h2⟩
    have H2 := Lib.hid h2
    clear h2
    go_wp2_with fail
    go_at_call 51
    refine (HNO.out 44 _ n44 H2.out).mono ?_
    rintro e w3 ⟨rfl, h3⟩
    have H3 := Lib.hid h3
    clear h3
    go_wp2_with fail
    go_at_call 51
    refine (HYES.out 34 _ hc H3.out).mono ?_
    rintro e wz ⟨rfl, hz⟩
    have Hz := Lib.hid hz
    clear hz
    go_wp2_with fail
    go_at_call 52
    refine (HQT.out 34 _ Hz.out).mono ?_
    rintro e wy ⟨k, t, r2, ok, rfl, hy, ho⟩
    have Hy := Lib.hid hy
    have HO := Lib.hid ho
    clear hy ho
    have x0 : wy.cell? ⟨w.heap.size, 0, none⟩ = some (.int .i64 0) := (Hy.out.2.cell 0).trans rfl; have x1 : wy.cell? ⟨w.heap.size, 1, none⟩ = some (.string ⟨#[]⟩) := (Hy.out.2.cell 1).trans rfl; have y0 := Hy.out.2.frozen 0; have y1 := Hy.out.2.frozen 1
    go_wp2_with fail
    refine bodyPost_ret ((results_cell_tmp rfl _ _ _).trans (by simp [go_sem, *]; rfl)) rfl ?_
    exact HFIN.out wy k t r2 ok Hy.out.1 (by rw [HTQ.out, if_neg n40, if_neg n41, if_neg n44, if_pos (.inl hc), hc]; exact HO.out)
  have n34 : c ≠ 34 := hc
  clear hc
  by_cases hc : c = 39
  · go_enter Tryz.func31, Tryz.ntmps31
    go_wp2_with fail
    rw [← hw0]
    clear hw0
    go_at_call 51
    refine (HNO.out 40 _ n40 H0.out).mono ?_
    rintro e w1 ⟨rfl, h1⟩
    have H1 := Lib.hid h1
    clear h1
    go_wp2_with fail
    go_at_call 51
    refine (HNO.out 41 _ n41 H1.out).mono ?_
    rintro e w2 ⟨rfl, h2⟩
    have H2 := Lib.hid h2
    clear h2
    go_wp2_with fail
    go_at_call 51
    refine (HNO.out 44 _ n44 H2.out).mono ?_
    rintro e w3 ⟨rfl, h3⟩
    have H3 := Lib.hid h3
    clear h3
    go_wp2_with fail
    go_at_call 51
    refine (HNO.out 34 _ n34 H3.out).mono ?_
    rintro e w4 ⟨rfl, h4⟩
    have H4 := Lib.hid h4
    clear h4
    go_wp2_with fail
    go_at_call 51
    refine (HYES.out 39 _ hc H4.out).mono ?_
    rintro e wz ⟨rfl, hz⟩
    have Hz := Lib.hid hz
    clear hz
    go_wp2_with fail
    go_at_call 52
    refine (HQT.out 39 _ Hz.out).mono ?_
    rintro e wy ⟨k, t, r2, ok, rfl, hy, ho⟩
    have Hy := Lib.hid hy
    have HO := Lib.hid ho
    clear hy ho
    have x0 : wy.cell? ⟨w.heap.size, 0, none⟩ = some (.int .i64 0) := (Hy.out.2.cell 0).trans rfl; have x1 : wy.cell? ⟨w.heap.size, 1, none⟩ = some (.string ⟨#[]⟩) := (Hy.out.2.cell 1).trans rfl; have y0 := Hy.out.2.frozen 0; have y1 := Hy.out.2.frozen 1
    go_wp2_with fail
    refine bodyPost_ret ((results_cell_tmp rfl _ _ _).trans (by simp [go_sem, *]; rfl)) rfl ?_
    exact HFIN.out wy k t r2 ok Hy.out.1 (by rw [HTQ.out, if_neg n40, if_neg n41, if_neg n44, if_pos (.inr hc), hc]; exact HO.out)
  have n39 : c ≠ 39 := hc
  clear hc
  go_enter Tryz.func31, Tryz.ntmps31
  go_wp2_with fail
  rw [← hw0]
  clear hw0
  go_at_call 51
  refine (HNO.out 40 _ n40 H0.out).mono ?_
  rintro e w1 ⟨rfl, h1⟩
  have H1 := Lib.hid h1
  clear h1
  go_wp2_with fail
  go_at_call 51
  refine (HNO.out 41 _ n41 H1.out).mono ?_
  rintro e w2 ⟨rfl, h2⟩
  have H2 := Lib.hid h2
  clear h2
  go_wp2_with fail
  go_at_call 51
  refine (HNO.out 44 _ n44 H2.out).mono ?_
  rintro e w3 ⟨rfl, h3⟩
  have H3 := Lib.hid h3
  clear h3
  go_wp2_with fail
  go_at_call 51
  refine (HNO.out 34 _ n34 H3.out).mono ?_
  rintro e w4 ⟨rfl, h4⟩
  have H4 := Lib.hid h4
  clear h4
  go_wp2_with fail
  go_at_call 51
  refine (HNO.out 39 _ n39 H4.out).mono ?_
  rintro e w5 ⟨rfl, h5⟩
  have H5 := Lib.hid h5
  clear h5
  go_wp2_with fail
  go_at_call 53
  refine (HWD.out _ H5.out).mono ?_
  rintro e wy ⟨k, t, r2, ok, rfl, hy, ho⟩
  have Hy := Lib.hid hy
  have HO := Lib.hid ho
  clear hy ho
  have x0 : wy.cell? ⟨w.heap.size, 0, none⟩ = some (.int .i64 0) := (Hy.out.2.cell 0).trans rfl; have x1 : wy.cell? ⟨w.heap.size, 1, none⟩ = some (.string ⟨#[]⟩) := (Hy.out.2.cell 1).trans rfl; have y0 := Hy.out.2.frozen 0; have y1 := Hy.out.2.frozen 1
  go_wp2_with fail
  refine bodyPost_ret ((results_cell_tmp rfl _ _ _).trans (by simp [go_sem, *]; rfl)) rfl ?_
  exact HFIN.out wy k t r2 ok Hy.out.1 (by rw [HTQ.out, if_neg n40, if_neg n41, if_neg n44, if_neg (fun e => e.elim n34 n39)]; exact HO.out)
end Go.Proofs.YtojmcndiooiehaaGreatDoor
