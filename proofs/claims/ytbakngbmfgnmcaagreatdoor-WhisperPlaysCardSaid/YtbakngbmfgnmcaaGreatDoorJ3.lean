/- WhBase WhFol WhVal OwnB WhPut WhHead WhEnc WhPre WhNum WhRead -/
import Derived.Test.YtbakngbmfgnmcaaGreatDoorJ1
import Derived.Test.YtbakngbmfgnmcaaGreatDoorJ2
import Derived.Test.YtbakngbmfgnmcaaGreatDoorRows
import Derived.WalkKit
import Derived.WalkSpells
import Derived.WalkLawsBesides
import Derived.Deep.QuietTactic
import Derived.BigQuiet
import Derived.Lib.QuietBelow
import Derived.Lib.Hide
import Derived.IntWalk
import Derived.Deep.RegionHeld3
import Derived.Laws.MakeOwn
import Derived.Laws.BitsLemmas
import Derived.Laws.IdiomStrings
import Derived.Lib.BufferRead
import Derived.Deep.DeepCutAuto
namespace Go.Proofs.YtbakngbmfgnmcaaGreatDoor
set_option maxRecDepth 100000
set_option maxHeartbeats 8000000
section
open Go.RowKit
open Wh (At)
structure Ars (w : World) (b off : Nat) (l : List (Int × Int)) : Prop where
 lt : b < w.heap.size
 st : ∀ i, i < l.length → w.cell? ⟨b, off + i * 2, none⟩ = some (.int .i64 (At l i).1)
 ct : ∀ i, i < l.length → w.cell? ⟨b, off + i * 2 + 1, none⟩ = some (.int .i64 (At l i).2)
theorem Ars.below {w w' : World} {b off : Nat} {l : List (Int × Int)} (h : Ars w b off l) (hb : Below w.heap.size w w') : Ars w' b off l :=
 ⟨Nat.lt_of_lt_of_le h.lt hb.size, fun i hi => (hb.cell (p := ⟨b, off + i * 2, none⟩) h.lt).trans (h.st i hi), fun i hi => (hb.cell (p := ⟨b, off + i * 2 + 1, none⟩) h.lt).trans (h.ct i hi)⟩
theorem Ars.alloc {w : World} {b off : Nat} {l : List (Int × Int)} (h : Ars w b off l) (o : Obj) : Ars (w.alloc o) b off l := h.below ((Below.refl _ _).alloc (Nat.le_refl _) _)
theorem isNum_any (n : Int) (w : World) :
 Calls Tryz.prog 121 #[.int .i64 n] w fun e w' => e = .returned (.bool (Wh.num n)) ∧ w = w' := by
 by_cases h1 : 1 ≤ n
 ·by_cases h2 : n ≤ 16777216
  ·have H := Lib.hid (Wh.num_t h1 h2)
   go_enter Tryz.func121, Tryz.ntmps121
   go_wp2
   go_ret
   exact ⟨by rw [H.out]; rfl, rfl⟩
  ·have H := Lib.hid (show Wh.num n = false by unfold Wh.num; simp [h2])
   go_enter Tryz.func121, Tryz.ntmps121
   go_wp2
   go_ret
   exact ⟨by rw [H.out]; rfl, rfl⟩
 ·have H := Lib.hid (show Wh.num n = false by unfold Wh.num; simp [h1])
  go_enter Tryz.func121, Tryz.ntmps121
  go_wp2
  go_ret
  exact ⟨by rw [H.out]; rfl, rfl⟩
theorem isKind_any (n : Int) (w : World) :
 Calls Tryz.prog 101 #[.int .i64 n] w fun e w' => e = .returned (.bool (Wh.kind n)) ∧ w = w' := by
 by_cases h1 : n < 1 ∨ 5 < n
 ·have H := Lib.hid (Wh.kind_f h1)
  have d1 : (n == 1) = false := by simp; omega
  have d2 : (n == 2) = false := by simp; omega
  have d3 : (n == 3) = false := by simp; omega
  have d4 : (n == 4) = false := by simp; omega
  have d5 : (n == 5) = false := by simp; omega
  clear h1
  go_enter Tryz.func101, Tryz.ntmps101
  go_wp2
  go_ret
  exact ⟨by rw [H.out]; rfl, rfl⟩
 ·have H := Lib.hid (Wh.kind_t (ag := n) (by omega) (by omega))
  have hc : n = 1 ∨ n = 2 ∨ n = 3 ∨ n = 4 ∨ n = 5 := by omega
  clear h1
  rcases hc with rfl | rfl | rfl | rfl | rfl
  all_goals
   go_enter Tryz.func101, Tryz.ntmps101
   go_wp2
   go_ret
   exact ⟨by rw [H.out]; rfl, rfl⟩
theorem headBytes_any (n : Int) (h1 : 0 ≤ n) (h2 : n ≤ 1000000000000) (w : World) :
 Calls Tryz.prog 69 #[.int .i64 n] w fun e w' => e = .returned (.int .i64 (16 + n * 12)) ∧ w = w' := by
 go_enter Tryz.func69, Tryz.ntmps69
 go_wp2
 go_ret
 exact ⟨rfl, rfl⟩
theorem span_any (s c : Int) (h : IntKind.i64.wrap (s * c) = s * c) (w : World) :
 Calls Tryz.prog 103 #[.agg #[.int .i64 s, .int .i64 c]] w fun e w' => e = .returned (.int .i64 (s * c)) ∧ Below w.heap.size w w' := by
 generalize hq : s * c = q at h
 have HQ := Lib.hid hq
 clear hq
 have hw : IntKind.i64.wrap (s * c) = q := by rw [HQ.out]; exact h
 clear h
 go_enter Tryz.func103, Tryz.ntmps103
 go_wp2
 go_ret
 exact ⟨rfl, Bq⟩
theorem lastSpan_any (l : List (Int × Int)) (b off cap : Nat) (w : World) (hA : Ars w b off l) (h1 : 1 ≤ l.length) (h8 : l.length ≤ 8) (hw : IntKind.i64.wrap (Wh.lsp l) = Wh.lsp l) :
 Calls Tryz.prog 71 #[.slice (some ⟨b, off, none⟩) l.length cap] w fun e w' => e = .returned (.int .i64 (Wh.lsp l)) ∧ Below w.heap.size w w' := by
 have HS := Lib.hid (span_any (At l (l.length - 1)).1 (At l (l.length - 1)).2 hw)
 have HE : Hid (Wh.lsp l = (At l (l.length - 1)).1 * (At l (l.length - 1)).2) := Lib.hid rfl
 obtain ⟨k, hk⟩ : ∃ k, l.length = k + 1 := ⟨l.length - 1, by omega⟩
 have c0 := hA.st k (by omega)
 have c1 := hA.ct k (by omega)
 have hlt := hA.lt
 rw [hk] at HS HE h8 ⊢
 simp only [Nat.add_sub_cancel] at HS HE
 clear hw hA h1 hk
 generalize (At l k) = a at *
 obtain ⟨s, c⟩ := a
 have hkn : (((k + 1 : Nat) : Int) - 1) = (k : Int) := by omega
 go_enter Tryz.func71, Tryz.ntmps71
 go_wp2_with (go_at_call 103; go_must (refine (HS.out _).mono ?_; rintro e w' ⟨rfl, hb⟩; obtain ⟨hc, hf⟩ := bcell hb; (try have hz0 : w.heap.size < w'.heap.size := Bz hb); (try have hz1 : w.heap.size + 1 < w'.heap.size := Bz hb); (try have hz2 : w.heap.size + 1 + 1 < w'.heap.size := Bz hb); have hz := hb.size; (try simp at hz)))
 go_ret
 exact ⟨by rw [HE.out]; rfl, Bq⟩
end
section
open Go.RowKit Go.Sort
open Wh (At)
theorem follows_any (s c t d : Int) (h1 : 1 ≤ s) (h2 : s ≤ 16777216) (h3 : 1 ≤ c) (h4 : c ≤ 16777216) (h5 : 1 ≤ t) (h6 : t ≤ 16777216) (h7 : 1 ≤ d) (h8 : d ≤ 16777216) (w : World) :
 Calls Tryz.prog 122 #[.agg #[.int .i64 s, .int .i64 c], .agg #[.int .i64 t, .int .i64 d]] w fun e w' => e = .returned (.bool (Wh.fol (s, c) (t, d))) ∧ Below w.heap.size w w' := by
 obtain ⟨kc, kf⟩ := kgrown ((w.alloc (.cells #[.int .i64 s, .int .i64 c] 69)).alloc (.cells #[.int .i64 t, .int .i64 d] 69))
 have bs := Wh.mul_bd h1 h2 h3 h4
 have bt := Wh.mul_bd h5 h6 h7 h8
 have HS1 := Lib.hid (span_any s c (IntWalk.i64_in _ (by omega)))
 have HS2 := Lib.hid (span_any t d (IntWalk.i64_in _ (by omega)))
 have hm : t.tmod s = t % s := Int.tmod_eq_emod_of_nonneg (by omega)
 have hd : t.tdiv s = t / s := Int.tdiv_eq_ediv_of_nonneg (by omega)
 have hz : (s == 0) = false := by simp; omega
 have hdb : 0 ≤ t / s ∧ t / s ≤ t := ⟨Int.ediv_nonneg (by omega) (by omega), Int.ediv_le_self _ (by omega)⟩
 have hdw : IntKind.i64.wrap (t / s) = t / s := IntWalk.i64_in _ (by omega)
 by_cases g1 : t ≤ s
 ·have H := Lib.hid (Wh.fol_1 (a := (s, c)) (b := (t, d)) g1)
  have e1 : decide (s < t) = false := decide_eq_false (by omega)
  go_enter Tryz.func122, Tryz.ntmps122
  go_wp2_with fail
  refine wp_region_quiet_below (by kernel_rfl) (by kernel_rfl) ?_
  repeat (go_big_quiet_step (first
   | (go_at_call 103; exact Calls.regrown_of (HS2.out _))
   | (go_at_call 103; exact Calls.regrown_of (HS1.out _))))
  refine wpQuiet_nil ?_
  intro _ hw'
  obtain ⟨⟨dq, osq⟩, hw''⟩ := hw'
  subst hw''
  go_wp2
  go_ret
  exact ⟨by rw [H.out]; rfl, Bq⟩
 ·have e1 : decide (s < t) = true := decide_eq_true (by omega)
  by_cases g2 : t % s = 0
  ·have e2 : (t % s == 0) = true := by simp [g2]
   by_cases g3 : t * d ≤ s * c
   ·have H := Lib.hid (Wh.fol_3 (a := (s, c)) (b := (t, d)) g3)
    have e3 : decide (s * c < t * d) = false := decide_eq_false (by omega)
    clear g2
    go_enter Tryz.func122, Tryz.ntmps122
    go_wp2_with fail
    refine wp_region_quiet_below (by kernel_rfl) (by kernel_rfl) ?_
    repeat (go_big_quiet_step (first
     | (go_at_call 103; exact Calls.regrown_of (HS2.out _))
     | (go_at_call 103; exact Calls.regrown_of (HS1.out _))))
    refine wpQuiet_nil ?_
    intro _ hw'
    obtain ⟨⟨dq, osq⟩, hw''⟩ := hw'
    subst hw''
    go_wp2
    go_ret
    exact ⟨by rw [H.out]; rfl, Bq⟩
   ·have H := Lib.hid (Wh.fol_4 (a := (s, c)) (b := (t, d)) (by show s < t; omega) g2 (by show s * c < t * d; omega))
    have e3 : decide (s * c < t * d) = true := decide_eq_true (by omega)
    clear g2
    go_enter Tryz.func122, Tryz.ntmps122
    go_wp2_with fail
    refine wp_region_quiet_below (by kernel_rfl) (by kernel_rfl) ?_
    repeat (go_big_quiet_step (first
     | (go_at_call 103; exact Calls.regrown_of (HS2.out _))
     | (go_at_call 103; exact Calls.regrown_of (HS1.out _))))
    refine wpQuiet_nil ?_
    intro _ hw'
    obtain ⟨⟨dq, osq⟩, hw''⟩ := hw'
    subst hw''
    go_wp2
    go_ret
    exact ⟨by rw [H.out]; rfl, Bq⟩
  ·have H := Lib.hid (Wh.fol_2 (a := (s, c)) (b := (t, d)) g2)
   have e2 : (t % s == 0) = false := by simp [g2]
   clear g2
   go_enter Tryz.func122, Tryz.ntmps122
   go_wp2_with fail
   refine wp_region_quiet_below (by kernel_rfl) (by kernel_rfl) ?_
   repeat (go_big_quiet_step (first
    | (go_at_call 103; exact Calls.regrown_of (HS2.out _))
    | (go_at_call 103; exact Calls.regrown_of (HS1.out _))))
   refine wpQuiet_nil ?_
   intro _ hw'
   obtain ⟨⟨dq, osq⟩, hw''⟩ := hw'
   subst hw''
   go_wp2
   go_ret
   exact ⟨by rw [H.out]; rfl, Bq⟩
end
section
open Go.RowKit Go.Sort
open Wh (At)
theorem end_any (l : List (Int × Int)) (b off cap k : Nat) (w : World) (hA : Ars w b off l) (hcap : l.length ≤ cap) (hk : k ≤ l.length) (h8 : l.length ≤ 8) (hcn : ∀ i, i < l.length → 1 ≤ (At l i).2 ∧ (At l i).2 ≤ 16777216) :
 Calls Tryz.prog 72 #[.slice (some ⟨b, off, none⟩) l.length cap, .int .i64 k] w fun e w' => e = .returned (.int .i64 (Wh.ends l k)) ∧ Below w.heap.size w w' := by
 have HB : Hid (∀ i, i ≤ l.length → 16 ≤ Wh.ends l i ∧ Wh.ends l i ≤ 2000000000) := Lib.hid fun i hi => Wh.ends_bd h8 hcn i hi
 have HN := Lib.hid hcn
 have HL := Lib.hid (headBytes_any (l.length : Int) (by omega) (by omega))
 have HZ := Lib.hid (Wh.ends_zero l)
 have HS := Lib.hid (Wh.ends_succ l)
 have HA := Lib.hid hA
 clear hcn hA
 go_enter Tryz.func72, Tryz.ntmps72
 go_wp2_with (go_at_call 69; go_must (refine (HL.out _).mono ?_; rintro e w' ⟨rfl, rfl⟩))
 go_loopw [5, 15] (fun q i wr => ∃ j : Nat, j ≤ k ∧ i = .int .i64 j ∧ q = .int .i64 (Wh.ends l j) ∧ Below w.heap.size w wr) (fun _ i _ => k - (intOf i).toNat)
 case atStart => exact ⟨0, Nat.zero_le _, rfl, by rw [HZ.out, Int.mul_comm], Below.refl _ _⟩
 case round =>
  obtain ⟨j, hj, rfl, rfl, hR⟩ := hrel
  by_cases hlt : j < k
  ·have hAr := HA.out.below hR
   have hbl := hAr.lt
   have c0 := hAr.st j (by omega)
   have c1 := hAr.ct j (by omega)
   have b1 := HN.out j (by omega)
   have b2 := HB.out j (by omega)
   have HE := Lib.hid (HS.out j)
   have HR := Lib.hid hR
   clear hR hAr HB HS HZ HN HL
   generalize Wh.ends l j = q at *
   generalize At l j = a at *
   obtain ⟨s, c⟩ := a
   go_wp2
   go_roundw
   case rel =>
    refine ⟨j + 1, by omega, by go_num, ?_, HR.out.alloc HR.out.size _⟩
    exact congrArg (Value.int .i64) (by have := HE.out; dsimp only at this; omega)
   case measure => simp [intOf]; omega
  ·obtain rfl : j = k := by omega
   go_wp2
   go_ret
   exact ⟨rfl, hR⟩
theorem areValid_nil (A : Option Addr) (cap : Nat) (w : World) :
 Calls Tryz.prog 102 #[.slice A 0 cap] w fun e w' => e = .returned (.bool false) ∧ Below w.heap.size w w' := by
 go_enter Tryz.func102, Tryz.ntmps102
 go_wp2
 go_ret
 exact ⟨rfl, Below.refl _ _⟩
theorem areValid_long (A : Option Addr) (n cap : Nat) (hn : 8 < n) (w : World) :
 Calls Tryz.prog 102 #[.slice A n cap] w fun e w' => e = .returned (.bool false) ∧ Below w.heap.size w w' := by
 go_enter Tryz.func102, Tryz.ntmps102
 go_wp2
 go_ret
 exact ⟨rfl, Below.refl _ _⟩
theorem areValid_some (l : List (Int × Int)) (b off cap : Nat) (w : World) (hA : Ars w b off l) (hcap : l.length ≤ cap) (h1 : 1 ≤ l.length) (h8 : l.length ≤ 8) :
 Calls Tryz.prog 102 #[.slice (some ⟨b, off, none⟩) l.length cap] w fun e w' => e = .returned (.bool (Wh.av l)) ∧ Below w.heap.size w w' := by
 have HF : Hid (∀ k, k < l.length → Wh.stp l k = false → Wh.av l = false) := Lib.hid fun k hk h => Wh.av_stp hk h
 have HA := Lib.hid hA
 have H1 : Hid (∀ k, Wh.num (At l k).1 = false → Wh.stp l k = false) := Lib.hid fun k => Wh.stp_f1
 have H2 : Hid (∀ k, Wh.num (At l k).2 = false → Wh.stp l k = false) := Lib.hid fun k => Wh.stp_f2
 have H3 : Hid (∀ k, 0 < k → Wh.fol (At l (k - 1)) (At l k) = false → Wh.stp l k = false) := Lib.hid fun k => Wh.stp_f3
 have HT : Hid (∀ k, Wh.alls l k = true → Wh.num (At l k).1 = true → Wh.num (At l k).2 = true → (k = 0 ∨ Wh.fol (At l (k - 1)) (At l k) = true) → Wh.alls l (k + 1) = true) := Lib.hid fun k h h1 h2 h3 => Wh.alls_succ h (Wh.stp_t h1 h2 h3)
 have HB : Hid (∀ k m, k < m → Wh.alls l m = true → (1 ≤ (At l k).1 ∧ (At l k).1 ≤ 16777216) ∧ (1 ≤ (At l k).2 ∧ (At l k).2 ≤ 16777216)) := Lib.hid fun k m => Wh.alls_num
 clear hA
 go_enter Tryz.func102, Tryz.ntmps102
 go_wp2
 go_loopw [15] (fun i wr => ∃ j : Nat, j ≤ l.length ∧ i = .int .i64 j ∧ Hid (Wh.alls l j = true) ∧ Below w.heap.size w wr) (fun i _ => l.length - (intOf i).toNat)
 case atStart => exact ⟨0, Nat.zero_le _, rfl, Lib.hid rfl, Below.refl _ _⟩
 case round =>
  obtain ⟨j, hj, rfl, hal, hR⟩ := hrel
  by_cases hlt : j < l.length
  ·have hAr := HA.out.below hR
   have hbl := hAr.lt
   have c0 := hAr.st j hlt
   have c1 := hAr.ct j hlt
   have HR := Lib.hid hR
   have HJ := Lib.hid (HF.out j hlt)
   have HJ1 := Lib.hid (H1.out j)
   have HJ2 := Lib.hid (H2.out j)
   have HJ3 := Lib.hid (H3.out j)
   have HJT := Lib.hid (HT.out j hal.out)
   cases n1 : Wh.num (At l j).1
   ·have HQ := Lib.hid (HJ.out (HJ1.out n1))
    clear hR hAr HF HA H1 H2 H3 HT HB HJ HJ1 HJ2 HJ3 HJT
    generalize At l j = a at *
    obtain ⟨s, c⟩ := a
    go_wp2_with (go_at_call 121; go_must (refine (isNum_any _ _).mono ?_; rintro e w' ⟨rfl, rfl⟩))
    go_ret
    exact ⟨by rw [HQ.out]; rfl, HR.out.alloc HR.out.size _⟩
   ·cases n2 : Wh.num (At l j).2
    ·have HQ := Lib.hid (HJ.out (HJ2.out n2))
     clear hR hAr HF HA H1 H2 H3 HT HB HJ HJ1 HJ2 HJ3 HJT
     generalize At l j = a at *
     obtain ⟨s, c⟩ := a
     go_wp2_with (go_at_call 121; go_must (refine (isNum_any _ _).mono ?_; rintro e w' ⟨rfl, rfl⟩))
     go_ret
     exact ⟨by rw [HQ.out]; rfl, HR.out.alloc HR.out.size _⟩
    ·have HJT := Lib.hid (HJT.out n1 n2)
     cases j with
     | zero =>
       have HQ := Lib.hid (HJT.out (.inl rfl))
       simp only [Nat.zero_mul, Nat.add_zero] at c0 c1
       clear hR hAr HF HA H1 H2 H3 HT HB HJ HJ1 HJ2 HJ3 HJT
       generalize At l 0 = a at *
       obtain ⟨s, c⟩ := a
       go_wp2_with (go_at_call 121; go_must (refine (isNum_any _ _).mono ?_; rintro e w' ⟨rfl, rfl⟩))
       refine wp_region_quiet_below (by kernel_rfl) (by kernel_rfl) ?_
       repeat (go_big_quiet_step (fail))
       refine wpQuiet_nil ?_
       intro _ hw'
       obtain ⟨⟨dq, osq⟩, hw''⟩ := hw'
       subst hw''
       go_wp2
       go_roundw
       case rel => exact ⟨1, by omega, by go_num, HQ, (HR.out.alloc HR.out.size _).trans ((below_regrown _ _ _).mono (by have := HR.out.size; simp; omega))⟩
       case measure => simp [intOf]; omega
     | succ m =>
       have d0 := hAr.st m (by omega)
       have d1 := hAr.ct m (by omega)
       obtain ⟨⟨p1, p2⟩, p3, p4⟩ := HB.out m (m + 1) (by omega) hal.out
       obtain ⟨q1, q2⟩ := Wh.num_bd n1
       obtain ⟨q3, q4⟩ := Wh.num_bd n2
       have HK3 : Hid (Wh.fol (At l m) (At l (m + 1)) = false → Wh.av l = false) := Lib.hid fun h => HJ.out (HJ3.out (by omega) h)
       have HKT : Hid (Wh.fol (At l m) (At l (m + 1)) = true → Wh.alls l (m + 1 + 1) = true) := Lib.hid fun h => HJT.out (.inr h)
       have hg : decide ((0 : Int) < (m : Int) + 1) = true := decide_eq_true (by omega)
       have HFO := Lib.hid (follows_any (At l m).1 (At l m).2 (At l (m + 1)).1 (At l (m + 1)).2 p1 p2 p3 p4 q1 q2 q3 q4)
       have hml : m + 1 ≤ l.length := by omega
       clear hR hAr HF HA H1 H2 H3 HT HB HJ HJ1 HJ2 hal HJ3 HJT
       generalize At l (m + 1) = a at *
       generalize At l m = a0 at *
       obtain ⟨s, c⟩ := a
       obtain ⟨s0, cc⟩ := a0
       cases hfo : Wh.fol (s0, cc) (s, c)
       ·have HQ := Lib.hid (HK3.out hfo)
        clear HK3 HKT
        go_wp2_with (go_at_call 121; go_must (refine (isNum_any _ _).mono ?_; rintro e w' ⟨rfl, rfl⟩))
        obtain ⟨kc, kf⟩ := kgrown (wr.alloc (.cells #[.int .i64 s, .int .i64 c] 69))
        refine wp_region_quiet_below (by kernel_rfl) (by kernel_rfl) ?_
        repeat (go_big_quiet_step ((go_at_call 122; exact Calls.regrown_of (HFO.out _))))
        refine wpQuiet_nil ?_
        intro _ hw'
        obtain ⟨⟨dq, osq⟩, hw''⟩ := hw'
        subst hw''
        go_wp2
        go_ret
        exact ⟨by rw [HQ.out]; rfl, (HR.out.alloc HR.out.size _).trans ((below_regrown _ _ _).mono (by have := HR.out.size; simp; omega))⟩
       ·have HQ := Lib.hid (HKT.out hfo)
        clear HK3 HKT
        go_wp2_with (go_at_call 121; go_must (refine (isNum_any _ _).mono ?_; rintro e w' ⟨rfl, rfl⟩))
        obtain ⟨kc, kf⟩ := kgrown (wr.alloc (.cells #[.int .i64 s, .int .i64 c] 69))
        refine wp_region_quiet_below (by kernel_rfl) (by kernel_rfl) ?_
        repeat (go_big_quiet_step ((go_at_call 122; exact Calls.regrown_of (HFO.out _))))
        refine wpQuiet_nil ?_
        intro _ hw'
        obtain ⟨⟨dq, osq⟩, hw''⟩ := hw'
        subst hw''
        go_wp2
        go_roundw
        case rel => exact ⟨m + 1 + 1, by omega, by go_num, HQ, (HR.out.alloc HR.out.size _).trans ((below_regrown _ _ _).mono (by have := HR.out.size; simp; omega))⟩
        case measure => simp [intOf]; omega
  ·obtain rfl : j = l.length := by omega
   have hAr := HA.out.below hR
   have HE := Lib.hid (fun W hb => end_any l b off cap l.length W (Ars.below hAr (w' := W) hb) hcap (Nat.le_refl _) h8 (Wh.alls_cnt hal.out))
   have bE := (Wh.ends_bd h8 (Wh.alls_cnt hal.out) l.length (Nat.le_refl _))
   have bL := Wh.lsp_bd h1 hal.out
   have HL := Lib.hid (fun W hb => lastSpan_any l b off cap W (Ars.below hAr (w' := W) hb) h1 h8 (IntWalk.i64_in _ (by omega)))
   have HX : Hid (1048576 < Wh.ends l l.length → Wh.av l = false) := Lib.hid Wh.av_big
   have HY : Hid (Wh.ends l l.length ≤ 1048576 → Wh.av l = decide (Wh.lsp l ≤ 4294967295)) := Lib.hid (Wh.av_end h1 h8 hal.out)
   clear HF HA H1 H2 H3 HT HB hal hAr
   generalize Wh.ends l l.length = en at *
   generalize Wh.lsp l = ls at *
   by_cases g1 : en ≤ 1048576
   ·have HQ := Lib.hid (HY.out g1)
    go_wp2_with first | (go_at_call 72; (((with_reducible refine (HE.out _ (Below.refl _ _)).mono ?_)); rintro e w1 ⟨rfl, hb1⟩; obtain ⟨hc1, hf1⟩ := bcell hb1; (try have hq1wr : wr.heap.size < w1.heap.size := Bz hb1); have hs1 := hb1.size; (try simp at hs1))) | (go_at_call 71; (((with_reducible refine (HL.out _ hb1).mono ?_)); rintro e w2 ⟨rfl, hb2⟩; obtain ⟨hc2, hf2⟩ := bcell hb2; (try have hq2wr : wr.heap.size < w2.heap.size := Bz hb2); have hs2 := hb2.size; (try simp at hs2)))
    go_ret
    exact ⟨by rw [HQ.out]; rfl, hR.trans ((hb1.trans (hb2.mono hb1.size)).mono hR.size)⟩
   ·have HQ := Lib.hid (HX.out (by omega))
    go_wp2_with first | (go_at_call 72; go_must (refine (HE.out _ (Below.refl _ _)).mono ?_; rintro e w' ⟨rfl, hb⟩; obtain ⟨hc, hf⟩ := bcell hb; (try have hz0 : w.heap.size < w'.heap.size := Bz hb); (try have hz1 : w.heap.size + 1 < w'.heap.size := Bz hb); (try have hz2 : w.heap.size + 1 + 1 < w'.heap.size := Bz hb); have hz := hb.size; (try simp at hz))) | (go_at_call 71; go_must (refine (HL.out _ hb).mono ?_; rintro e w' ⟨rfl, hb⟩; obtain ⟨hc, hf⟩ := bcell hb; (try have hz0 : w.heap.size < w'.heap.size := Bz hb); (try have hz1 : w.heap.size + 1 < w'.heap.size := Bz hb); (try have hz2 : w.heap.size + 1 + 1 < w'.heap.size := Bz hb); have hz := hb.size; (try simp at hz)))
    go_ret
    exact ⟨by rw [HQ.out]; rfl, hR.trans (hb.mono hR.size)⟩
def Row (w : World) (A : Option Addr) (l : List (Int × Int)) (cap : Nat) : Prop := l.length ≤ cap ∧ (0 < l.length → ∃ b off, A = some ⟨b, off, none⟩ ∧ Ars w b off l)
theorem Row.below {w w' : World} {A : Option Addr} {l : List (Int × Int)} {cap : Nat} (h : Row w A l cap) (hb : Below w.heap.size w w') : Row w' A l cap :=
 ⟨h.1, fun h0 => by obtain ⟨b, off, e, hA⟩ := h.2 h0; exact ⟨b, off, e, hA.below hb⟩⟩
theorem areValid_any (l : List (Int × Int)) (A : Option Addr) (cap : Nat) (w : World) (h : Row w A l cap) :
 Calls Tryz.prog 102 #[.slice A l.length cap] w fun e w' => e = .returned (.bool (Wh.av l)) ∧ Below w.heap.size w w' := by
 by_cases h0 : l.length = 0
 ·rw [Wh.av_nil h0, h0]; exact areValid_nil A cap w
 ·by_cases h8 : 8 < l.length
  ·rw [Wh.av_long h8]; exact areValid_long A _ cap h8 w
  ·obtain ⟨b, off, rfl, hA⟩ := h.2 (by omega)
   exact areValid_some l b off cap w hA h.1 (by omega) (by omega)
end
section
open Go.RowKit Go.Sort
open Me
theorem info_parts {P : Program} {e : TypeId} {z : Value} {a b : Nat} (h : (P.info? e).map (fun i => (i.zero, i.size, i.bytes)) = some (some z, a, b)) : ∃ i, P.info? e = some i ∧ i.zero = some z ∧ i.size = a ∧ i.bytes = b := by
 cases hi : P.info? e with
 | none => rw [hi] at h; cases h
 | some i => rw [hi] at h; simp at h; exact ⟨i, rfl, h.1, h.2.1, h.2.2⟩
namespace Wh
def four (n : Int) : List UInt8 := [UInt8.ofNat ((n / 16777216) % 256).toNat, UInt8.ofNat ((n / 65536) % 256).toNat, UInt8.ofNat ((n / 256) % 256).toNat, UInt8.ofNat (n % 256).toNat]
def fours (ns : List Int) : List UInt8 := ns.flatMap four
theorem fours_len (ns : List Int) : (fours ns).length = 4 * ns.length := by
 induction ns with
 | nil => rfl
 | cons n ns ih => unfold fours at *; simp [List.flatMap_cons, four, ih]; omega
theorem fours_take (ns : List Int) (k : Nat) (h : k < ns.length) : fours (ns.take (k + 1)) = fours (ns.take k) ++ four ns[k] := by
 unfold fours
 rw [List.take_succ_eq_append_getElem h, List.flatMap_append]
 simp
theorem u8of (x : Int) : ((UInt8.ofNat (x % 256).toNat).toNat : Int) = x % 256 := by
 have h1 := Int.emod_nonneg x (by omega : (256 : Int) ≠ 0)
 have h2 := Int.emod_lt_of_pos x (by omega : (0 : Int) < 256)
 rw [UInt8.toNat_ofNat', Nat.mod_eq_of_lt (by omega)]
 omega
theorem by8_four (n : Int) : by8 (four n) = [.int .u8 ((n / 16777216) % 256), .int .u8 ((n / 65536) % 256), .int .u8 ((n / 256) % 256), .int .u8 (n % 256)] := by
 unfold by8 four
 simp only [List.map_cons, List.map_nil, u8of]
end Wh
def OwnB (base : Nat) (w : World) (v : Value) (l : List UInt8) : Prop := w.ownsRow base 5 1 v l.length (by8 l)
def Laid (base : Nat) (w : World) (v : Value) (l : List UInt8) (e : Ending) (w' : World) : Prop :=
 ∃ v', e = .returned v' ∧ OwnB base w' v' l ∧ Kp (fun b => v.ownBlock = some b) w w' ∧ (∀ g, v'.ownBlock = some g → v.ownBlock = some g ∨ w.heap.size ≤ g)
theorem own_lt {base : Nat} {w : World} {v : Value} {l : List UInt8} (h : OwnB base w v l) : ∀ g, v.ownBlock = some g → base ≤ g ∧ g < w.heap.size := by
 intro g hg
 rcases h.2 with ⟨rfl, _⟩ | ⟨g', cap, cur, rfl, hb, hh, _⟩
 ·cases hg
 ·have : g' = g := by simpa [Value.ownBlock] using hg
  subst this
  exact ⟨hb, (Array.getElem?_eq_some_iff.1 hh).1⟩
theorem by8_four4 {n : Int} (h1 : 0 ≤ n) (h2 : n ≤ 4294967295) : by8 (Wh.four n) = [.int .u8 (n / 16777216), .int .u8 ((n / 65536) % 256), .int .u8 ((n / 256) % 256), .int .u8 (n % 256)] := by
 rw [Wh.by8_four]
 have : n / 16777216 % 256 = n / 16777216 := Int.emod_eq_of_lt (by omega) (by omega)
 rw [this]
theorem own_more {base : Nat} {w : World} {v : Value} {X Y : List UInt8} {m : Nat} (hm : Y.length = m) (h : w.ownsRow base 5 1 v (X.length + m) (by8 X ++ by8 Y)) : OwnB base w v (X ++ Y) := by
 unfold OwnB
 rw [List.length_append, by8_append, hm]
 exact h
theorem OwnB.base {a b : Nat} {w : World} {v : Value} {l : List UInt8} (h : OwnB b w v l) (hab : a ≤ b) : OwnB a w v l := by
 refine ⟨h.1, ?_⟩
 rcases h.2 with hn | ⟨g, cap, cur, hv, hb, rest⟩
 ·exact .inl hn
 ·exact .inr ⟨g, cap, cur, hv, by omega, rest⟩
theorem OwnB.nil (a : Nat) (w : World) : OwnB a w (.slice none 0 0) [] := ⟨rfl, .inl ⟨rfl, rfl⟩⟩
theorem OwnB.kp {a : Nat} {w w' : World} {v : Value} {l : List UInt8} {O : Nat → Prop} (h : OwnB a w v l) (k : Kp O w w') (hO : ∀ g, v.ownBlock = some g → ¬ O g) : OwnB a w' v l :=
 owns_keep h fun g hg => k.block g (own_lt h g hg).2 (hO g hg)
theorem OwnB.below {a : Nat} {w w' : World} {v : Value} {l : List UInt8} (h : OwnB a w v l) (k : Below w.heap.size w w') : OwnB a w' v l :=
 owns_keep h fun g hg => k.block g (own_lt h g hg).2
def Reads (w : World) (v : Value) (l : List UInt8) : Prop := ∃ A c, v = .slice A l.length c ∧ l.length ≤ c ∧ Rd w (fun _ => True) A (by8 l)
theorem Reads.keep {w w' : World} {v : Value} {l : List UInt8} (h : Reads w v l) (hs : w.heap.size ≤ w'.heap.size) (hk : ∀ i, i < w.heap.size → w'.heap[i]? = w.heap[i]?) : Reads w' v l := by
 obtain ⟨A, c, e, hc, hr⟩ := h
 exact ⟨A, c, e, hc, hr.keep hs fun i hi _ => hk i hi⟩
theorem Reads.below {w w' : World} {v : Value} {l : List UInt8} (h : Reads w v l) (b : Below w.heap.size w w') : Reads w' v l := h.keep b.size fun i hi => b.block i hi
theorem Reads.conv {w : World} {v : Value} {l : List UInt8} (h : Reads w v l) : (convert 49 9 v).run Tryz.prog w = .ok (.string ⟨l.toArray⟩) w := by
 obtain ⟨A, c, rfl, _, hr⟩ := h
 by_cases hl : l = []
 ·subst hl
  cases A with
  | none => exact Lib.run_convert_nil_bytes w _ _ 5 c Tryz.underlying49 Tryz.underlying5 Tryz.underlying9
  | some a => exact run_convert_bytes_back w _ _ 5 a c [] Tryz.underlying49 Tryz.underlying5 Tryz.underlying9 fun j hj => by cases hj
 ·obtain ⟨ad, rfl, _, _, hc⟩ := hr (by intro e; apply hl; have := by8_len l; rw [e] at this; exact List.eq_nil_of_length_eq_zero this.symm)
  exact run_convert_bytes_back w _ _ 5 ad c l Tryz.underlying49 Tryz.underlying5 Tryz.underlying9 fun j hj => hc j _ (by8_get l j hj)
theorem Reads.own {w : World} {base : Nat} {v : Value} {l : List UInt8} (h : OwnB base w v l) : Reads w v l := by
 obtain ⟨A, c, e, hc, _, hr⟩ := Bs.own h
 exact ⟨A, c, e, hc, hr.mono fun _ _ _ => trivial⟩
theorem Reads.take {w : World} {A : Option Addr} {l : List UInt8} {c n : Nat} (h : Reads w (.slice A l.length c) l) (hn : n ≤ l.length) : Reads w (.slice A n c) (l.take n) := by
 obtain ⟨A', c', e, hc, hr⟩ := h
 injection e with e1 e2 e3
 subst e1 e3
 refine ⟨A, c, by rw [List.length_take, Nat.min_eq_left hn], by rw [List.length_take]; omega, fun hne => ?_⟩
 obtain ⟨ad, e, h1, h2, h3⟩ := hr (by rintro e; apply hne; unfold by8 at *; rw [List.map_eq_nil_iff] at e; rw [e]; simp)
 refine ⟨ad, e, h1, h2, fun j u hu => h3 j u ?_⟩
 unfold by8 at hu ⊢
 rw [List.map_take, List.getElem?_take] at hu
 split at hu
 ·exact hu
 ·cases hu
namespace Wh
def byt (L : List UInt8) (i : Nat) : Nat := (L.getD i 0).toNat
def nm (L : List UInt8) (i : Nat) : Int := (byt L i : Int) * 16777216 + byt L (i + 1) * 65536 + byt L (i + 2) * 256 + byt L (i + 3)
theorem by_lt (L : List UInt8) (i : Nat) : byt L i < 256 := UInt8.toNat_lt _
theorem nm_bd (L : List UInt8) (i : Nat) : 0 ≤ nm L i ∧ nm L i ≤ 4294967295 := by
 have := by_lt L i
 have := by_lt L (i + 1)
 have := by_lt L (i + 2)
 have := by_lt L (i + 3)
 unfold nm
 omega
theorem wraps_i64 (n : Int) (h₀ : 0 ≤ n) (h₁ : n < 2 ^ 63) : IntKind.i64.wrap n = n := by rw [IntKind.wrap_i64]; omega
theorem join (i : Nat) (x y : Int) (hx₀ : 0 ≤ x) (hx : x % 2 ^ i = 0) (hx₁ : x < 2 ^ 63) (hy₀ : 0 ≤ y) (hy : y < 2 ^ i) (hy₁ : y < 2 ^ 63) : bits .or .i64 x y = x + y :=
 bits_join .i64 63 (by decide) wraps_i64 i x y hx₀ hx hx₁ hy₀ hy hy₁
theorem join4 (c0 c1 c2 c3 : Nat) (k0 : c0 < 256) (k1 : c1 < 256) (k2 : c2 < 256) (k3 : c3 < 256) :
 bits .or .i64 (bits .or .i64 (bits .or .i64 ((c0 : Int) * 16777216) ((c1 : Int) * 65536)) ((c2 : Int) * 256)) (c3 : Int) = (c0 : Int) * 16777216 + c1 * 65536 + c2 * 256 + c3 := by
 rw [join 24 ((c0 : Int) * 16777216) ((c1 : Int) * 65536) (by omega) (by omega) (by omega) (by omega) (by omega) (by omega),
  join 16 ((c0 : Int) * 16777216 + (c1 : Int) * 65536) ((c2 : Int) * 256) (by omega) (by omega) (by omega) (by omega) (by omega) (by omega),
  join 8 ((c0 : Int) * 16777216 + (c1 : Int) * 65536 + (c2 : Int) * 256) (c3 : Int) (by omega) (by omega) (by omega) (by omega) (by omega) (by omega)]
end Wh
structure By (w : World) (b off : Nat) (L : List UInt8) : Prop where
 lt : b < w.heap.size
 at_ : ∀ j, j < L.length → w.cell? ⟨b, off + j, none⟩ = some (.int .u8 (Wh.byt L j : Int))
theorem By.below {w w' : World} {b off : Nat} {L : List UInt8} (h : By w b off L) (hb : Below w.heap.size w w') : By w' b off L :=
 ⟨Nat.lt_of_lt_of_le h.lt hb.size, fun j hj => (hb.cell (p := ⟨b, off + j, none⟩) h.lt).trans (h.at_ j hj)⟩
theorem fromFour_lit (b off n cap : Nat) (c0 c1 c2 c3 : Nat) (w : World) (hn : 4 ≤ n) (k0 : c0 < 256) (k1 : c1 < 256) (k2 : c2 < 256) (k3 : c3 < 256)
 (e0 : w.cell? ⟨b, off, none⟩ = some (.int .u8 c0)) (e1 : w.cell? ⟨b, off + 1, none⟩ = some (.int .u8 c1)) (e2 : w.cell? ⟨b, off + 2, none⟩ = some (.int .u8 c2)) (e3 : w.cell? ⟨b, off + 3, none⟩ = some (.int .u8 c3)) :
 Calls Tryz.prog 85 #[.slice (some ⟨b, off, none⟩) n cap] w fun e w' => e = .returned (.int .i64 ((c0 : Int) * 16777216 + c1 * 65536 + c2 * 256 + c3)) ∧ ∃ m, w' = w.drewN m := by
 have HJ := Lib.hid (Wh.join4 c0 c1 c2 c3 k0 k1 k2 k3)
 go_enter Tryz.func85, Tryz.ntmps85
 go_wp2_with fail
 go_quiet (fail)
 go_wp2
 go_ret
 exact ⟨by rw [← HJ.out]; rfl, _, rfl⟩
theorem fromFour_dr (L : List UInt8) (i b off n cap : Nat) (w : World) (h : By w b off L) (hi : i + 4 ≤ L.length) (hn : 4 ≤ n) :
 Calls Tryz.prog 85 #[.slice (some ⟨b, off + i, none⟩) n cap] w fun e w' => e = .returned (.int .i64 (Wh.nm L i)) ∧ ∃ m, w' = w.drewN m :=
 fromFour_lit b (off + i) n cap _ _ _ _ w hn (Wh.by_lt L i) (Wh.by_lt L (i + 1)) (Wh.by_lt L (i + 2)) (Wh.by_lt L (i + 3)) (h.at_ i (by omega)) (h.at_ (i + 1) (by omega)) (h.at_ (i + 2) (by omega)) (h.at_ (i + 3) (by omega))
def RowAt (w : World) (g : Nat) (t : TypeId) (cs : Array Value) : Prop := w.heap[g]? = some (.cells cs t (0, 0))
section
variable {w w' : World} {g : Nat} {t : TypeId} {cs : Array Value}
theorem RowAt.lt (h : RowAt w g t cs) : g < w.heap.size := (Array.getElem?_eq_some_iff.1 h).1
theorem RowAt.cell (h : RowAt w g t cs) (i : Nat) : w.cell? ⟨g, i, none⟩ = cs[i]? := cell_of_row w g i cs t (0, 0) h
theorem RowAt.frozen (h : RowAt w g t cs) (i : Nat) : w.frozen? ⟨g, i, none⟩ = false := by
 unfold RowAt at h
 simp [World.frozen?, h]
theorem RowAt.set_ (h : RowAt w g t cs) (i : Nat) (u : Value) : RowAt (w.setCell ⟨g, i, none⟩ u) g t (cs.setIfInBounds i u) := by
 unfold RowAt at h ⊢
 simp [World.setCell, Array.getElem?_modify, h]
theorem RowAt.far (h : RowAt w g t cs) {p : Addr} (hp : g ≠ p.block) (u : Value) : RowAt (w.setCell p u) g t cs := (Below.heap_setCell w p u g hp).trans h
theorem RowAt.below (h : RowAt w g t cs) {B : Nat} (hb : Below B w w') (hg : g < B) : RowAt w' g t cs := (hb.block g hg).trans h
theorem RowAt.alloc (h : RowAt w g t cs) (o : Obj) : RowAt (w.alloc o) g t cs := (Below.heap_alloc w o g h.lt).trans h
theorem RowAt.new (w : World) (cs : Array Value) (t : TypeId) : RowAt (w.alloc (.cells cs t)) w.heap.size t cs := heap_alloc_new w _
theorem RowAt.drewN (h : RowAt w g t cs) (n : Nat) : RowAt (w.drewN n) g t cs := h
theorem RowAt.drew (h : RowAt w g t cs) : RowAt w.drew g t cs := h
end
theorem four_any (n : Int) (h1 : 0 ≤ n) (h2 : n ≤ 4294967295) (w : World) :
 Calls Tryz.prog 75 #[.int .i64 n] w fun e w' => e = .returned (.slice (some ⟨w.heap.size, 0, none⟩) 4 4) ∧ w' = w.alloc (.cells (by8 (Wh.four n)).toArray 5) := by
 have HE := Lib.hid (by8_four4 h1 h2)
 go_enter Tryz.func75, Tryz.ntmps75
 go_wp2
 go_ret
 exact ⟨rfl, by rw [HE.out]⟩
end
section
open Go.RowKit Go.Sort
open Me
theorem wput_any (base : Nat) (L : List UInt8) (v : Value) (ns : List Int) (A : Option Addr) (c : Nat) (G : Nat → Prop) (w : World) (hown : OwnB base w v L) (hrd : Rd w G A (ns.map fun n => .int .i64 n)) (hG : ∀ g, v.ownBlock = some g → ¬ G g)
 (hb : ∀ n ∈ ns, 0 ≤ n ∧ n ≤ 4294967295) (hbase : base ≤ w.heap.size) (hL : L.length ≤ 1048576) (hn : ns.length ≤ 1048576) :
 Calls Tryz.prog 70 #[v, .slice A ns.length c] w (Laid base w v (L ++ Wh.fours ns)) := by
 obtain ⟨j0, hj0, hy0, hy1, hy2⟩ := info_parts u8info
 have HJ := Lib.hid hj0
 have HY := Lib.hid (And.intro hy0 (And.intro hy1 hy2))
 clear hj0 hy0 hy1 hy2
 have HR := Lib.hid hrd
 have HG := Lib.hid hG
 have HB := Lib.hid hb
 obtain ⟨A0, n0, c0, rfl⟩ := own_slice hown
 have HO := Lib.hid hown
 have hn2 : (ns.length : Int) ≤ 1048576 := by omega
 clear hown hrd hG hb
 go_enter Tryz.func70, Tryz.ntmps70
 go_wp2_with fail
 go_loopw [0, 9] (fun u i wr => ∃ (k : Nat) (A' : Option Addr) (n' c' : Nat), k ≤ ns.length ∧ i = .int .i64 k ∧ u = .slice A' n' c' ∧ Hid (OwnB base wr u (L ++ Wh.fours (ns.take k))) ∧ Kp (fun b => (Value.slice A0 n0 c0).ownBlock = some b) w wr ∧ Hid (∀ g, u.ownBlock = some g → (Value.slice A0 n0 c0).ownBlock = some g ∨ w.heap.size ≤ g)) (fun _ i _ => ns.length - (intOf i).toNat)
 case atStart => exact ⟨0, _, _, _, Nat.zero_le _, rfl, rfl, Lib.hid (by simpa [Wh.fours] using HO.out), Kp.refl _ _, Lib.hid fun g h => .inl h⟩
 case round =>
  obtain ⟨k, A', n', c', hk, rfl, rfl, ho, hkp, hfr⟩ := hrel
  by_cases hlt : k < ns.length
  ·have hR := HR.out.kp hkp (fun i _ hi he => HG.out i he hi)
   obtain ⟨rb, ro, rfl, hlt2, hg, hcell⟩ := hR.lit k (by simp; omega)
   have hcl := hcell k (.int .i64 ns[k]) (by simp [hlt])
   obtain ⟨b1, b2⟩ := HB.out ns[k] (List.getElem_mem hlt)
   have HF := Lib.hid (Wh.fours_take ns k hlt)
   have hXl : (L ++ Wh.fours (ns.take k)).length ≤ 5242880 := by rw [List.length_append, Wh.fours_len, List.length_take]; omega
   have hksz := hkp.size
   have HKP := Lib.hid hkp
   have HRF : Hid (Rd (wr.alloc (.cells #[.int .u8 (ns[k] / 16777216), .int .u8 ((ns[k] / 65536) % 256), .int .u8 ((ns[k] / 256) % 256), .int .u8 (ns[k] % 256)] 5)) (fun b => b = wr.heap.size) (some ⟨wr.heap.size, 0, none⟩) (by8 (Wh.four ns[k]))) := Lib.hid (by
    rw [by8_four4 b1 b2]; exact Rd.fresh wr [_, _, _, _] _ _ rfl)
   have hfl : (Wh.four ns[k]).length = 4 := rfl
   have HOW : Hid ((wr.alloc (.cells #[.int .u8 (ns[k] / 16777216), .int .u8 ((ns[k] / 65536) % 256), .int .u8 ((ns[k] / 256) % 256), .int .u8 (ns[k] % 256)] 5)).ownsRow base 5 1 (.slice A' n' c') (L ++ Wh.fours (ns.take k)).length (by8 (L ++ Wh.fours (ns.take k)))) := Lib.hid (owns_keep ho.out fun g hg => Below.heap_alloc _ _ _ (own_lt ho.out g hg).2)
   clear hR hcell hkp
   generalize ns[k] = n at *
   have HFL := Lib.hid hfl
   clear hfl
   generalize hX : L ++ Wh.fours (ns.take k) = X at *
   have HX := Lib.hid hX
   clear hX
   go_wp2_with (at_builtin; refine wpList_app _ rfl (.tmp 13) (.tmp 25) 49 rfl base 5 j0 (.int .u8 0) 1 1 Tryz.underlying49 HJ.out HY.out.1 HY.out.2.1 HY.out.2.2 rfl (by decide) (.slice A' n' c') X.length (by8 X) rfl HOW.out (fun b => b = wr.heap.size) (some ⟨wr.heap.size, 0, none⟩) 4 4 (by8 (Wh.four n)) rfl (by rw [by8_len, HFL.out]) HRF.out (by8_one _) (by unfold maxLen; omega) (by omega) (by simp; omega) ?_; intro v1 w1 hown1 hg1 hat1 hnil1)
   obtain ⟨A1, n1, c1, rfl⟩ := own_slice hown1
   have HO1 := Lib.hid (own_more HFL.out hown1)
   have HG1 := Lib.hid hg1
   have HAT := Lib.hid hat1
   clear hown1 hg1 hat1 hnil1
   go_wp2_with fail
   go_roundw
   case rel =>
    refine ⟨k + 1, _, _, _, by omega, by go_num, rfl, Lib.hid (by rw [HF.out, ← List.append_assoc, HX.out]; exact HO1.out), (HKP.out.alloc _).grown HG1.out (fun g hg => (hfr.out g hg).symm), Lib.hid fun g hg => ?_⟩
    rcases HAT.out with h | h
    ·exact hfr.out g (h ▸ hg)
    ·rw [h] at hg
     simp at hg
     exact .inr (by omega)
   case measure => simp [intOf]; omega
  ·obtain rfl : k = ns.length := by omega
   rw [List.take_length] at ho
   go_wp2_with fail
   go_ret
   exact ⟨_, rfl, ho.out, hkp, hfr.out⟩
end
section
open Go.RowKit Go.Sort
open Wh (At)
namespace Wh
def size (ag xf : Int) (l : List (Int × Int)) : Int := if val ag xf l = true then ends l l.length else 0
def spn (ag xf : Int) (l : List (Int × Int)) : Int := if val ag xf l = true then lsp l else 0
def offs (ag xf : Int) (l : List (Int × Int)) (i : Int) : Int := if val ag xf l = true ∧ 0 ≤ i ∧ i < (l.length : Int) then ends l i.toNat else 0
end Wh
theorem isValid_any (ag xf : Int) (l : List (Int × Int)) (A : Option Addr) (cap : Nat) (w : World) (h : Row w A l cap) :
 Calls Tryz.prog 68 #[.agg #[.int .i64 ag, .int .i64 xf, .slice A l.length cap]] w fun e w' => e = .returned (.bool (Wh.val ag xf l)) ∧ Below w.heap.size w w' := by
 have HV : Hid (∀ W, Below w.heap.size w W → Calls Tryz.prog 102 #[.slice A l.length cap] W fun e w' => e = .returned (.bool (Wh.av l)) ∧ Below W.heap.size W w') := Lib.hid fun W hb => areValid_any l A cap W (h.below hb)
 have HX : Hid (ag < 1 ∨ 5 < ag ∨ xf < 0 ∨ 1000000 < xf ∨ Wh.av l = false → Wh.val ag xf l = false) := Lib.hid Wh.val_head
 have HK := Lib.hid (isKind_any ag)
 clear h
 cases k1 : Wh.kind ag
 ·have HQ : Hid (Wh.val ag xf l = false) := Lib.hid (by unfold Wh.val; rw [k1]; rfl)
  go_enter Tryz.func68, Tryz.ntmps68
  go_wp2_with (go_at_call 101; go_must (refine (HK.out _).mono ?_; rintro e w' ⟨rfl, rfl⟩))
  go_ret
  exact ⟨by rw [HQ.out]; rfl, Bq⟩
 ·obtain ⟨g1, g2⟩ := Wh.kind_bd k1
  by_cases x1 : 0 ≤ xf
  ·by_cases x2 : xf ≤ 1000000
   ·have HQ := Lib.hid (Wh.val_av (l := l) g1 g2 x1 x2)
    generalize Wh.av l = av at *
    go_enter Tryz.func68, Tryz.ntmps68
    go_wp2_with first | (go_at_call 101; go_must (refine (HK.out _).mono ?_; rintro e w' ⟨rfl, rfl⟩)) | (go_at_call 102; go_must (refine (HV.out _ ((Below.refl _ _).alloc (Nat.le_refl _) _)).mono ?_; rintro e w' ⟨rfl, hb⟩; obtain ⟨hc, hf⟩ := bcell hb; (try have hz0 : w.heap.size < w'.heap.size := Bz hb); (try have hz1 : w.heap.size + 1 < w'.heap.size := Bz hb); (try have hz2 : w.heap.size + 1 + 1 < w'.heap.size := Bz hb); have hz := hb.size; (try simp at hz)))
    go_ret
    exact ⟨by rw [HQ.out]; rfl, Bq⟩
   ·have HQ := Lib.hid (HX.out (.inr (.inr (.inr (.inl (by omega))))))
    go_enter Tryz.func68, Tryz.ntmps68
    go_wp2_with (go_at_call 101; go_must (refine (HK.out _).mono ?_; rintro e w' ⟨rfl, rfl⟩))
    go_ret
    exact ⟨by rw [HQ.out]; rfl, Bq⟩
  ·have HQ := Lib.hid (HX.out (.inr (.inr (.inl (by omega)))))
   go_enter Tryz.func68, Tryz.ntmps68
   go_wp2_with (go_at_call 101; go_must (refine (HK.out _).mono ?_; rintro e w' ⟨rfl, rfl⟩))
   go_ret
   exact ⟨by rw [HQ.out]; rfl, Bq⟩
theorem row_val {w : World} {A : Option Addr} {l : List (Int × Int)} {cap : Nat} {ag xf : Int} (h : Row w A l cap) (hv : Wh.val ag xf l = true) :
 ∃ b off, A = some ⟨b, off, none⟩ ∧ Ars w b off l ∧ l.length ≤ cap ∧ 1 ≤ l.length ∧ l.length ≤ 8 ∧ Wh.alls l l.length = true ∧ Wh.ends l l.length ≤ 1048576 ∧ 1 ≤ Wh.lsp l ∧ Wh.lsp l ≤ 4294967295 := by
 obtain ⟨_, _, _, ha⟩ := Wh.val_t hv
 obtain ⟨a1, a2, a3, a4, a5⟩ := Wh.av_t ha
 obtain ⟨b, off, e, hA⟩ := h.2 a1
 exact ⟨b, off, e, hA, h.1, a1, a2, a3, a4, (Wh.lsp_bd a1 a3).1, a5⟩
theorem wsize_any (ag xf : Int) (l : List (Int × Int)) (A : Option Addr) (cap : Nat) (w : World) (h : Row w A l cap) :
 Calls Tryz.prog 32 #[.agg #[.int .i64 ag, .int .i64 xf, .slice A l.length cap]] w fun e w' => e = .returned (.int .i64 (Wh.size ag xf l)) ∧ Below w.heap.size w w' := by
 have HV : Hid (∀ W, Below w.heap.size w W → Calls Tryz.prog 68 #[.agg #[.int .i64 ag, .int .i64 xf, .slice A l.length cap]] W fun e w' => e = .returned (.bool (Wh.val ag xf l)) ∧ Below W.heap.size W w') := Lib.hid fun W hb => isValid_any ag xf l A cap W (h.below hb)
 cases hv : Wh.val ag xf l
 ·rw [hv] at HV
  have HQ : Hid (Wh.size ag xf l = 0) := Lib.hid (by unfold Wh.size; rw [hv]; rfl)
  clear hv h
  go_enter Tryz.func32, Tryz.ntmps32
  go_wp2_with (go_at_call 68; go_must (refine (HV.out _ ((Below.refl _ _).alloc (Nat.le_refl _) _)).mono ?_; rintro e w' ⟨rfl, hb⟩; obtain ⟨hc, hf⟩ := bcell hb; (try have hz0 : w.heap.size < w'.heap.size := Bz hb); (try have hz1 : w.heap.size + 1 < w'.heap.size := Bz hb); (try have hz2 : w.heap.size + 1 + 1 < w'.heap.size := Bz hb); have hz := hb.size; (try simp at hz)))
  go_ret
  exact ⟨by rw [HQ.out]; rfl, Bq⟩
 ·rw [hv] at HV
  have HQ : Hid (Wh.size ag xf l = Wh.ends l l.length) := Lib.hid (by unfold Wh.size; rw [hv]; rfl)
  obtain ⟨b, off, rfl, hA, hcap, a1, a2, a3, a4, _⟩ := row_val h hv
  have HE : Hid (∀ W, Below w.heap.size w W → Calls Tryz.prog 72 #[.slice (some ⟨b, off, none⟩) l.length cap, .int .i64 l.length] W fun e w' => e = .returned (.int .i64 (Wh.ends l l.length)) ∧ Below W.heap.size W w') :=
   Lib.hid fun W hb => end_any l b off cap l.length W (hA.below hb) hcap (Nat.le_refl _) a2 (Wh.alls_cnt a3)
  clear hv h hA a3 a4
  generalize Wh.ends l l.length = en at *
  go_enter Tryz.func32, Tryz.ntmps32
  go_wp2_with first | (go_at_call 68; (((with_reducible refine (HV.out _ ((Below.refl _ _).alloc (Nat.le_refl _) _)).mono ?_)); rintro e w1 ⟨rfl, hb1⟩; obtain ⟨hc1, hf1⟩ := bcell hb1; (try have hq1w : w.heap.size < w1.heap.size := Bz hb1); have hs1 := hb1.size; (try simp at hs1))) | (go_at_call 72; (((with_reducible refine (HE.out _ (((Below.refl _ _).alloc (Nat.le_refl _) _).trans (hb1.mono (by simp)))).mono ?_)); rintro e w2 ⟨rfl, hb2⟩; obtain ⟨hc2, hf2⟩ := bcell hb2; (try have hq2w : w.heap.size < w2.heap.size := Bz hb2); have hs2 := hb2.size; (try simp at hs2)))
  go_ret
  exact ⟨by rw [HQ.out]; rfl, Bq⟩
theorem spn_any (ag xf : Int) (l : List (Int × Int)) (A : Option Addr) (cap : Nat) (w : World) (h : Row w A l cap) :
 Calls Tryz.prog 76 #[.agg #[.int .i64 ag, .int .i64 xf, .slice A l.length cap]] w fun e w' => e = .returned (.int .i64 (Wh.spn ag xf l)) ∧ Below w.heap.size w w' := by
 have HV : Hid (∀ W, Below w.heap.size w W → Calls Tryz.prog 68 #[.agg #[.int .i64 ag, .int .i64 xf, .slice A l.length cap]] W fun e w' => e = .returned (.bool (Wh.val ag xf l)) ∧ Below W.heap.size W w') := Lib.hid fun W hb => isValid_any ag xf l A cap W (h.below hb)
 cases hv : Wh.val ag xf l
 ·rw [hv] at HV
  have HQ : Hid (Wh.spn ag xf l = 0) := Lib.hid (by unfold Wh.spn; rw [hv]; rfl)
  clear hv h
  go_enter Tryz.func76, Tryz.ntmps76
  go_wp2_with (go_at_call 68; go_must (refine (HV.out _ ((Below.refl _ _).alloc (Nat.le_refl _) _)).mono ?_; rintro e w' ⟨rfl, hb⟩; obtain ⟨hc, hf⟩ := bcell hb; (try have hz0 : w.heap.size < w'.heap.size := Bz hb); (try have hz1 : w.heap.size + 1 < w'.heap.size := Bz hb); (try have hz2 : w.heap.size + 1 + 1 < w'.heap.size := Bz hb); have hz := hb.size; (try simp at hz)))
  go_ret
  exact ⟨by rw [HQ.out]; rfl, Bq⟩
 ·rw [hv] at HV
  have HQ : Hid (Wh.spn ag xf l = Wh.lsp l) := Lib.hid (by unfold Wh.spn; rw [hv]; rfl)
  obtain ⟨b, off, rfl, hA, hcap, a1, a2, a3, a4, a5, a6⟩ := row_val h hv
  have HE : Hid (∀ W, Below w.heap.size w W → Calls Tryz.prog 71 #[.slice (some ⟨b, off, none⟩) l.length cap] W fun e w' => e = .returned (.int .i64 (Wh.lsp l)) ∧ Below W.heap.size W w') :=
   Lib.hid fun W hb => lastSpan_any l b off cap W (hA.below hb) a1 a2 (IntWalk.i64_in _ (by omega))
  clear hv h hA a3 a4 a5 a6
  generalize Wh.lsp l = en at *
  go_enter Tryz.func76, Tryz.ntmps76
  go_wp2_with first | (go_at_call 68; (((with_reducible refine (HV.out _ ((Below.refl _ _).alloc (Nat.le_refl _) _)).mono ?_)); rintro e w1 ⟨rfl, hb1⟩; obtain ⟨hc1, hf1⟩ := bcell hb1; (try have hq1w : w.heap.size < w1.heap.size := Bz hb1); have hs1 := hb1.size; (try simp at hs1))) | (go_at_call 71; (((with_reducible refine (HE.out _ (((Below.refl _ _).alloc (Nat.le_refl _) _).trans (hb1.mono (by simp)))).mono ?_)); rintro e w2 ⟨rfl, hb2⟩; obtain ⟨hc2, hf2⟩ := bcell hb2; (try have hq2w : w.heap.size < w2.heap.size := Bz hb2); have hs2 := hb2.size; (try simp at hs2)))
  go_ret
  exact ⟨by rw [HQ.out]; rfl, Bq⟩
theorem offs_any (ag xf : Int) (l : List (Int × Int)) (A : Option Addr) (cap : Nat) (i : Int) (w : World) (h : Row w A l cap) :
 Calls Tryz.prog 99 #[.agg #[.int .i64 ag, .int .i64 xf, .slice A l.length cap], .int .i64 i] w fun e w' => e = .returned (.int .i64 (Wh.offs ag xf l i)) ∧ Below w.heap.size w w' := by
 have HV : Hid (∀ W, Below w.heap.size w W → Calls Tryz.prog 68 #[.agg #[.int .i64 ag, .int .i64 xf, .slice A l.length cap]] W fun e w' => e = .returned (.bool (Wh.val ag xf l)) ∧ Below W.heap.size W w') := Lib.hid fun W hb => isValid_any ag xf l A cap W (h.below hb)
 cases hv : Wh.val ag xf l
 ·rw [hv] at HV
  have HQ : Hid (Wh.offs ag xf l i = 0) := Lib.hid (by unfold Wh.offs; rw [hv, if_neg (by simp)])
  clear hv h
  go_enter Tryz.func99, Tryz.ntmps99
  go_wp2_with (go_at_call 68; go_must (refine (HV.out _ ((Below.refl _ _).alloc (Nat.le_refl _) _)).mono ?_; rintro e w' ⟨rfl, hb⟩; obtain ⟨hc, hf⟩ := bcell hb; (try have hz0 : w.heap.size < w'.heap.size := Bz hb); (try have hz1 : w.heap.size + 1 < w'.heap.size := Bz hb); (try have hz2 : w.heap.size + 1 + 1 < w'.heap.size := Bz hb); have hz := hb.size; (try simp at hz)))
  go_ret
  exact ⟨by rw [HQ.out]; rfl, Bq⟩
 ·rw [hv] at HV
  by_cases i0 : i < 0
  ·have HQ : Hid (Wh.offs ag xf l i = 0) := Lib.hid (by unfold Wh.offs; rw [if_neg (by omega)])
   clear hv h
   go_enter Tryz.func99, Tryz.ntmps99
   go_wp2_with (go_at_call 68; go_must (refine (HV.out _ ((Below.refl _ _).alloc (Nat.le_refl _) _)).mono ?_; rintro e w' ⟨rfl, hb⟩; obtain ⟨hc, hf⟩ := bcell hb; (try have hz0 : w.heap.size < w'.heap.size := Bz hb); (try have hz1 : w.heap.size + 1 < w'.heap.size := Bz hb); (try have hz2 : w.heap.size + 1 + 1 < w'.heap.size := Bz hb); have hz := hb.size; (try simp at hz)))
   go_ret
   exact ⟨by rw [HQ.out]; rfl, Bq⟩
  ·obtain ⟨i, rfl⟩ : ∃ k : Nat, i = (k : Int) := ⟨i.toNat, by omega⟩
   clear i0
   by_cases i1 : l.length ≤ i
   ·have HQ : Hid (Wh.offs ag xf l i = 0) := Lib.hid (by unfold Wh.offs; rw [if_neg (by omega)])
    clear hv h
    go_enter Tryz.func99, Tryz.ntmps99
    go_wp2_with (go_at_call 68; go_must (refine (HV.out _ ((Below.refl _ _).alloc (Nat.le_refl _) _)).mono ?_; rintro e w' ⟨rfl, hb⟩; obtain ⟨hc, hf⟩ := bcell hb; (try have hz0 : w.heap.size < w'.heap.size := Bz hb); (try have hz1 : w.heap.size + 1 < w'.heap.size := Bz hb); (try have hz2 : w.heap.size + 1 + 1 < w'.heap.size := Bz hb); have hz := hb.size; (try simp at hz)))
    go_ret
    exact ⟨by rw [HQ.out]; rfl, Bq⟩
   ·have HQ : Hid (Wh.offs ag xf l i = Wh.ends l i) := Lib.hid (by unfold Wh.offs; rw [if_pos ⟨hv, by omega, by omega⟩]; rfl)
    obtain ⟨b, off, rfl, hA, hcap, a1, a2, a3, a4, _⟩ := row_val h hv
    have HE : Hid (∀ W, Below w.heap.size w W → Calls Tryz.prog 72 #[.slice (some ⟨b, off, none⟩) l.length cap, .int .i64 i] W fun e w' => e = .returned (.int .i64 (Wh.ends l i)) ∧ Below W.heap.size W w') :=
     Lib.hid fun W hb => end_any l b off cap i W (hA.below hb) hcap (by omega) a2 (Wh.alls_cnt a3)
    clear hv h hA a3 a4
    generalize Wh.ends l i = en at *
    go_enter Tryz.func99, Tryz.ntmps99
    go_wp2_with first | (go_at_call 68; (((with_reducible refine (HV.out _ ((Below.refl _ _).alloc (Nat.le_refl _) _)).mono ?_)); rintro e w1 ⟨rfl, hb1⟩; obtain ⟨hc1, hf1⟩ := bcell hb1; (try have hq1w : w.heap.size < w1.heap.size := Bz hb1); have hs1 := hb1.size; (try simp at hs1))) | (go_at_call 72; (((with_reducible refine (HE.out _ (((Below.refl _ _).alloc (Nat.le_refl _) _).trans (hb1.mono (by simp)))).mono ?_)); rintro e w2 ⟨rfl, hb2⟩; obtain ⟨hc2, hf2⟩ := bcell hb2; (try have hq2w : w.heap.size < w2.heap.size := Bz hb2); have hs2 := hb2.size; (try simp at hs2)))
    go_ret
    exact ⟨by rw [HQ.out]; rfl, Bq⟩
end
section
open Go.RowKit Go.Sort
open Wh (At)
open Me
namespace Wh
def ints (ag xf : Int) (l : List (Int × Int)) : Nat → List Int
 | 0 => [ag, lsp l, xf, (l.length : Int)]
 | k + 1 => ints ag xf l k ++ [ends l k, (At l k).1, (At l k).2]
def enc (ag xf : Int) (l : List (Int × Int)) : List UInt8 := if val ag xf l = true then fours (ints ag xf l l.length) else []
theorem fours_append (a b : List Int) : fours (a ++ b) = fours a ++ fours b := by unfold fours; simp
theorem ints_len (ag xf : Int) (l : List (Int × Int)) (k : Nat) : (ints ag xf l k).length = 4 + 3 * k := by
 induction k with
 | zero => rfl
 | succ k ih => unfold ints; rw [List.length_append, ih]; simp; omega
end Wh
def Coded (w : World) (B : List UInt8) (k : Int) (e : Ending) (w' : World) : Prop := ∃ v, e = .returned (.tuple #[v, .int .i64 k]) ∧ OwnB w.heap.size w' v B ∧ Below w.heap.size w w'
theorem ints_rd (w : World) (ns : List Int) (t : TypeId) (n : Nat) (hn : n = w.heap.size) : Rd (w.alloc (.cells (ns.map fun n => (.int .i64 n : Value)).toArray t)) (fun b => b = n) (some ⟨n, 0, none⟩) (ns.map fun n => .int .i64 n) := Rd.fresh w _ t n hn
theorem encode_any (ag xf : Int) (l : List (Int × Int)) (A : Option Addr) (cap : Nat) (w : World) (h : Row w A l cap) :
 Calls Tryz.prog 31 #[.agg #[.int .i64 ag, .int .i64 xf, .slice A l.length cap]] w (Coded w (Wh.enc ag xf l) (if Wh.val ag xf l = true then 0 else 1)) := by
 have HV : Hid (∀ W, Below w.heap.size w W → Calls Tryz.prog 68 #[.agg #[.int .i64 ag, .int .i64 xf, .slice A l.length cap]] W fun e w' => e = .returned (.bool (Wh.val ag xf l)) ∧ Below W.heap.size W w') := Lib.hid fun W hb => isValid_any ag xf l A cap W (h.below hb)
 cases hv : Wh.val ag xf l
 ·have HQ : Hid (Wh.enc ag xf l = []) := Lib.hid (by unfold Wh.enc; rw [hv]; rfl)
  rw [hv] at HV
  clear hv h
  go_enter Tryz.func31, Tryz.ntmps31
  go_wp2_with (go_at_call 68; go_must (refine (HV.out _ ((Below.refl _ _).alloc (Nat.le_refl _) _)).mono ?_; rintro e w' ⟨rfl, hb⟩; obtain ⟨hc, hf⟩ := bcell hb; (try have hz0 : w.heap.size < w'.heap.size := Bz hb); (try have hz1 : w.heap.size + 1 < w'.heap.size := Bz hb); (try have hz2 : w.heap.size + 1 + 1 < w'.heap.size := Bz hb); have hz := hb.size; (try simp at hz)))
  ((try simp only [Exit.inBlock, Exit.then]); refine bodyPost_ret (results_tmp2 rfl _ _ _) rfl ?_)
  exact ⟨_, rfl, by rw [HQ.out]; exact OwnB.nil _ _, Bq⟩
 ·have HQ : Hid (Wh.enc ag xf l = Wh.fours (Wh.ints ag xf l l.length)) := Lib.hid (by unfold Wh.enc; rw [hv]; rfl)
  rw [hv] at HV
  obtain ⟨b, off, rfl, hA, hcap, a1, a2, a3, a4, a5, a6⟩ := row_val h hv
  obtain ⟨⟨g1, g2⟩, x1, x2, _⟩ := Wh.val_t hv
  have HA := Lib.hid hA
  have HH := Lib.hid (headBytes_any (l.length : Int) (by omega) (by omega))
  have HL : Hid (∀ W, Below w.heap.size w W → Calls Tryz.prog 71 #[.slice (some ⟨b, off, none⟩) l.length cap] W fun e w' => e = .returned (.int .i64 (Wh.lsp l)) ∧ Below W.heap.size W w') :=
   Lib.hid fun W hb => lastSpan_any l b off cap W (hA.below hb) a1 a2 (IntWalk.i64_in _ (by omega))
  obtain ⟨j0, hj0, hy0, hy1, hy2⟩ := info_parts u8info
  obtain ⟨C, CS, hmk, hcs, hC⟩ : ∃ (C : Nat) (CS : Array Value), (∀ W : World, (Instr.makeSlice 49 (.int .i64 0) (.int .i64 (16 + (l.length : Int) * 12))).run Tryz.prog W = .ok (.slice (some ⟨W.heap.size, 0, none⟩) 0 C) (W.alloc (.cells CS 5))) ∧ CS.size = C * 1 ∧ C ≤ 1000 := by
   refine ⟨(16 + (l.length : Int) * 12).toNat, madeCells #[.int .u8 0] ((16 + (l.length : Int) * 12).toNat * 1), fun W => ?_, size_madeCells _ _, by omega⟩
   have h := run_make (P := Tryz.prog) W 49 5 j0 (.int .u8 0) Tryz.underlying49 hj0 hy0 .i64 .i64 0 (16 + (l.length : Int) * 12) (by omega) (by omega) (by rw [hy2]; omega) (by omega)
   rw [hy1] at h
   exact h
  clear hv h hA hj0 hy0 hy1 hy2
  go_enter Tryz.func31, Tryz.ntmps31
  go_wp2_with first | (go_at_call 68; (((with_reducible refine (HV.out _ ((Below.refl _ _).alloc (Nat.le_refl _) _)).mono ?_)); rintro e w1 ⟨rfl, hb1⟩; obtain ⟨hc1, hf1⟩ := bcell hb1; (try have hq1w : w.heap.size < w1.heap.size := Bz hb1); have hs1 := hb1.size; (try simp at hs1))) | (go_at_call 69; go_must (refine (HH.out _).mono ?_; rintro e w' ⟨rfl, rfl⟩))
  have hXB : Below (w.heap.size + 1) (w.alloc (.cells #[.int .i64 ag, .int .i64 xf, .slice (some ⟨b, off, none⟩) l.length cap] 24)) (w1.alloc (.cells CS 5)) := (hb1.mono (by simp)).alloc (by have := hb1.size; simp at this; omega) _
  have hvb : w.heap.size + 1 ≤ w1.heap.size := by have := hb1.size; simp at this; omega
  have hO0 : OwnB (w.heap.size + 1) (w1.alloc (.cells CS 5)) (.slice (some ⟨w1.heap.size, 0, none⟩) 0 C) [] := World.ownsRow_made w1 CS C hvb (by unfold maxLen; omega) hcs
  have hvx : w1.heap.size < (w1.alloc (.cells CS 5)).heap.size := by simp
  clear hb1 hc1 hf1 hq1w hs1
  generalize w1.heap.size = vb at *
  generalize w1.alloc (.cells CS 5) = X at *
  clear hcs hmk
  have hls : Wh.lsp l ≤ 4294967295 := by omega
  have hx0 : w.heap.size < X.heap.size := by omega
  obtain ⟨d0, d1, d2⟩ : X.cell? ⟨w.heap.size, 0, none⟩ = some (.int .i64 ag) ∧ X.cell? ⟨w.heap.size, 1, none⟩ = some (.int .i64 xf) ∧ X.cell? ⟨w.heap.size, 2, none⟩ = some (.slice (some ⟨b, off, none⟩) l.length cap) :=
   ⟨(hXB.cell (p := ⟨w.heap.size, 0, none⟩) (Nat.lt_succ_self _)).trans (by simp [go_sem]), (hXB.cell (p := ⟨w.heap.size, 1, none⟩) (Nat.lt_succ_self _)).trans (by simp [go_sem]), (hXB.cell (p := ⟨w.heap.size, 2, none⟩) (Nat.lt_succ_self _)).trans (by simp [go_sem])⟩
  have HC : Hid (∀ W, Below X.heap.size X W → W.cell? ⟨w.heap.size, 0, none⟩ = some (.int .i64 ag) ∧ W.cell? ⟨w.heap.size, 1, none⟩ = some (.int .i64 xf) ∧ W.cell? ⟨w.heap.size, 2, none⟩ = some (.slice (some ⟨b, off, none⟩) l.length cap)) := Lib.hid fun W hb =>
   ⟨(hb.cell (p := ⟨w.heap.size, 0, none⟩) hx0).trans d0, (hb.cell (p := ⟨w.heap.size, 1, none⟩) hx0).trans d1, (hb.cell (p := ⟨w.heap.size, 2, none⟩) hx0).trans d2⟩
  have HP : Hid (∀ W, Below X.heap.size X W → Calls Tryz.prog 70 #[.slice (some ⟨vb, 0, none⟩) 0 C, .slice (some ⟨W.heap.size, 0, none⟩) 4 4] (W.alloc (.cells #[.int .i64 ag, .int .i64 (Wh.lsp l), .int .i64 xf, .int .i64 (l.length : Int)] 3)) (Laid (w.heap.size + 1) (W.alloc (.cells #[.int .i64 ag, .int .i64 (Wh.lsp l), .int .i64 xf, .int .i64 (l.length : Int)] 3)) (.slice (some ⟨vb, 0, none⟩) 0 C) (Wh.fours (Wh.ints ag xf l 0)))) := Lib.hid fun W hb => by
   have := wput_any (w.heap.size + 1) [] (.slice (some ⟨vb, 0, none⟩) 0 C) (Wh.ints ag xf l 0) (some ⟨W.heap.size, 0, none⟩) 4 (fun b => b = W.heap.size) (W.alloc (.cells #[.int .i64 ag, .int .i64 (Wh.lsp l), .int .i64 xf, .int .i64 (l.length : Int)] 3)) ((hO0.below hb).below ((Below.refl _ _).alloc (Nat.le_refl _) _)) (ints_rd W (Wh.ints ag xf l 0) _ _ rfl)
    (fun g hg e => by have h1 : vb = g := by simpa [Value.ownBlock] using hg
                      have := hb.size
                      have e' : g = W.heap.size := e
                      omega) (by
     intro n hn
     simp [Wh.ints] at hn
     rcases hn with rfl | rfl | rfl | rfl <;> omega) (by have := hb.size; simp; omega) (by simp) (by simp [Wh.ints])
   exact this
  have HK : Hid (∀ W1 W2, Below X.heap.size X W1 → Kp (fun b => (Value.slice (some ⟨vb, 0, none⟩) 0 C).ownBlock = some b) W1 W2 → Below (w.heap.size + 1) (w.alloc (.cells #[.int .i64 ag, .int .i64 xf, .slice (some ⟨b, off, none⟩) l.length cap] 24)) W2) := Lib.hid fun W1 W2 hb hk =>
   hXB.trans ((hb.mono (by omega)).trans (hk.below (by have := hb.size; omega) fun i hi e => by simp [Value.ownBlock] at e; omega))
  have HF : Hid (∀ W, Below (w.heap.size + 1) (w.alloc (.cells #[.int .i64 ag, .int .i64 xf, .slice (some ⟨b, off, none⟩) l.length cap] 24)) W → W.cell? ⟨w.heap.size, 0, none⟩ = some (.int .i64 ag) ∧ W.cell? ⟨w.heap.size, 1, none⟩ = some (.int .i64 xf) ∧ W.cell? ⟨w.heap.size, 2, none⟩ = some (.slice (some ⟨b, off, none⟩) l.length cap)) := Lib.hid fun W hb =>
   ⟨(hb.cell (p := ⟨w.heap.size, 0, none⟩) (Nat.lt_succ_self _)).trans (by simp [go_sem]), (hb.cell (p := ⟨w.heap.size, 1, none⟩) (Nat.lt_succ_self _)).trans (by simp [go_sem]), (hb.cell (p := ⟨w.heap.size, 2, none⟩) (Nat.lt_succ_self _)).trans (by simp [go_sem])⟩
  have HL2 : Hid (∀ W, Below X.heap.size X W → Calls Tryz.prog 71 #[.slice (some ⟨b, off, none⟩) l.length cap] W fun e w' => e = .returned (.int .i64 (Wh.lsp l)) ∧ Below W.heap.size W w') := Lib.hid fun W hb => HL.out W (lowBox' (hXB.trans (hb.mono (by omega))))
  clear hXB hO0 hvb HL HV HH
  generalize hls2 : Wh.lsp l = ls at *
  have HLS := Lib.hid hls2
  clear hls2
  go_region_held3 (fun W => W.cell? ⟨w.heap.size, 0, none⟩ = some (.int .i64 ag) ∧ W.cell? ⟨w.heap.size, 1, none⟩ = some (.int .i64 xf) ∧ W.cell? ⟨w.heap.size, 2, none⟩ = some (.slice (some ⟨b, off, none⟩) l.length cap)) (first | exact ⟨d0, d1, d2⟩ | exact ⟨e0, e1, e2⟩ | exact ⟨f0, f1, f2⟩ | go_keep)
   (first
    | (go_at_call 71; (with_reducible refine (HL2.out _ Bqn).mono ?_); rintro e w2 ⟨rfl, hb2⟩; have hbb : Below X.heap.size X w2 := Bqn; obtain ⟨e0, e1, e2⟩ := HC.out w2 hbb; have hs2 := hbb.size; have HB2 := Lib.hid hbb; clear hb2 hbb)
    | (go_at_call 70; (with_reducible refine (HP.out w2 HB2.out).mono ?_); rintro e w3 ⟨v3, rfl, ho3, hk3, hf3⟩; have hB3 := HK.out _ w3 (HB2.out.alloc HB2.out.size _) hk3; obtain ⟨f0, f1, f2⟩ := HF.out w3 hB3; have HO3 := Lib.hid ho3; have HB3 := Lib.hid hB3; clear ho3 hk3 hf3 hB3))
  have HZ := Lib.hid (Wh.ends_zero l)
  have HS := Lib.hid (Wh.ends_succ l)
  have HB : Hid (∀ i, i ≤ l.length → 16 ≤ Wh.ends l i ∧ Wh.ends l i ≤ 2000000000) := Lib.hid fun i hi => Wh.ends_bd a2 (Wh.alls_cnt a3) i hi
  have HN : Hid (∀ i, i < l.length → (1 ≤ (At l i).1 ∧ (At l i).1 ≤ 16777216) ∧ (1 ≤ (At l i).2 ∧ (At l i).2 ≤ 16777216)) := Lib.hid fun i hi => Wh.alls_num hi a3
  clear HL2 HP HC HK HB2 hs2 e0 e1 e2 d0 d1 d2 a3 a4 hvx
  go_wp2_with fail
  go_loopw [4, 5, 33] (fun at_ v i wr => ∃ j : Nat, j ≤ l.length ∧ i = .int .i64 j ∧ at_ = .int .i64 (Wh.ends l j) ∧ Hid (OwnB (w.heap.size + 1) wr v (Wh.fours (Wh.ints ag xf l j))) ∧ Hid (Below (w.heap.size + 1) (w.alloc (.cells #[.int .i64 ag, .int .i64 xf, .slice (some ⟨b, off, none⟩) l.length cap] 24)) wr)) (fun _ _ i _ => l.length - (intOf i).toNat)
  case atStart => exact ⟨0, Nat.zero_le _, rfl, by rw [HZ.out, Int.mul_comm], HO3, HB3⟩
  case round =>
   obtain ⟨j, hj, rfl, rfl, ho, hR⟩ := hrel
   have hAr := HA.out.below (lowBox' hR.out)
   have hbl := hAr.lt
   obtain ⟨x0, x1', x2'⟩ := HF.out wr hR.out
   by_cases hlt : j < l.length
   ·have c0 := hAr.st j hlt
    have c1 := hAr.ct j hlt
    obtain ⟨⟨p1, p2⟩, p3, p4⟩ := HN.out j hlt
    obtain ⟨q1, q2⟩ := HB.out j (by omega)
    have HE := Lib.hid (HS.out j)
    have hsz : w.heap.size + 1 ≤ wr.heap.size := by have := hR.out.size; simp at this; omega
    have HP : Hid (Calls Tryz.prog 70 #[u5, .slice (some ⟨wr.heap.size + 1, 0, none⟩) 3 3] ((wr.alloc (.cells #[.int .i64 (At l j).1, .int .i64 (At l j).2] 69)).alloc (.cells #[.int .i64 (Wh.ends l j), .int .i64 (At l j).1, .int .i64 (At l j).2] 3)) (Laid (w.heap.size + 1) ((wr.alloc (.cells #[.int .i64 (At l j).1, .int .i64 (At l j).2] 69)).alloc (.cells #[.int .i64 (Wh.ends l j), .int .i64 (At l j).1, .int .i64 (At l j).2] 3)) u5 (Wh.fours (Wh.ints ag xf l (j + 1))))) := Lib.hid (by
     have := wput_any (w.heap.size + 1) (Wh.fours (Wh.ints ag xf l j)) u5 [Wh.ends l j, (At l j).1, (At l j).2] (some ⟨wr.heap.size + 1, 0, none⟩) 3 (fun b => b = wr.heap.size + 1) ((wr.alloc (.cells #[.int .i64 (At l j).1, .int .i64 (At l j).2] 69)).alloc (.cells #[.int .i64 (Wh.ends l j), .int .i64 (At l j).1, .int .i64 (At l j).2] 3)) ((ho.out.below ((Below.refl _ _).alloc (Nat.le_refl _) _)).below ((Below.refl _ _).alloc (Nat.le_refl _) _)) (ints_rd _ [Wh.ends l j, (At l j).1, (At l j).2] _ _ (by simp))
      (fun g hg e => by have := (own_lt ho.out g hg).2
                        have e' : g = wr.heap.size + 1 := e
                        omega) (by
       intro n hn
       simp at hn
       rcases hn with rfl | rfl | rfl <;> omega) (by simp; omega) (by rw [Wh.fours_len, Wh.ints_len]; omega) (by simp)
     rw [← Wh.fours_append] at this
     exact this)
    have HKB : Hid (∀ w4, Kp (fun b => u5.ownBlock = some b) ((wr.alloc (.cells #[.int .i64 (At l j).1, .int .i64 (At l j).2] 69)).alloc (.cells #[.int .i64 (Wh.ends l j), .int .i64 (At l j).1, .int .i64 (At l j).2] 3)) w4 → Below (w.heap.size + 1) (w.alloc (.cells #[.int .i64 ag, .int .i64 xf, .slice (some ⟨b, off, none⟩) l.length cap] 24)) w4 ∧ w4.cell? ⟨wr.heap.size, 1, none⟩ = some (.int .i64 (At l j).2)) := Lib.hid fun w4 hk => by
     have h1 : Below (w.heap.size + 1) (w.alloc (.cells #[.int .i64 ag, .int .i64 xf, .slice (some ⟨b, off, none⟩) l.length cap] 24)) ((wr.alloc (.cells #[.int .i64 (At l j).1, .int .i64 (At l j).2] 69)).alloc (.cells #[.int .i64 (Wh.ends l j), .int .i64 (At l j).1, .int .i64 (At l j).2] 3)) := (hR.out.alloc hsz _).alloc (by simp; omega) _
     refine ⟨h1.trans (hk.below (by simp; omega) fun i hi e => by have := (own_lt ho.out i e).1; omega), ?_⟩
     rw [hk.cell (p := ⟨wr.heap.size, 1, none⟩) (by simp; omega) (fun e => by have := (own_lt ho.out _ e).2; simp at this)]
     simp [go_sem]
    clear hAr HB HS HZ HN HF HO3 HB3 ho
    generalize Wh.ends l j = q at *
    generalize At l j = a at *
    obtain ⟨s, c⟩ := a
    dsimp only at *
    go_wp2_with (go_at_call 70; (with_reducible refine HP.out.mono ?_); rintro e w4 ⟨v4, rfl, ho4, hk4, hf4⟩; obtain ⟨hb4, z1⟩ := HKB.out w4 hk4; have HO4 := Lib.hid ho4; have HB4 := Lib.hid hb4; clear ho4 hk4 hf4 hb4)
    go_roundw
    case rel => exact ⟨j + 1, by omega, by go_num, congrArg (Value.int .i64) (by rw [HE.out]; omega), HO4, HB4⟩
    case measure => simp [intOf]; omega
   ·obtain rfl : j = l.length := by omega
    clear hAr HB HS HZ HN HF HO3 HB3
    go_wp2
    ((try simp only [Exit.inBlock, Exit.then]); refine bodyPost_ret (results_tmp2 rfl _ _ _) rfl ?_)
    exact ⟨_, rfl, by rw [HQ.out]; exact ho.out.base (Nat.le_succ _), lowBox' hR.out⟩
end
section
open Go.RowKit Go.Sort
open Me
theorem equal_any (v v' : Value) (l m : List UInt8) (w : World) (h1 : Reads w v l) (h2 : Reads w v' m) :
 Calls Tryz.prog 124 #[v, v'] w fun e w' => e = .returned (.bool (decide (l = m))) ∧ w = w' := by
 have c1 := h1.conv
 have c2 := h2.conv
 clear h1 h2
 by_cases hlm : l = m
 ·subst hlm
  go_enter Tryz.func124, Tryz.ntmps124
  go_wp2
  go_ret
  exact ⟨by simp, rfl⟩
 ·have HD := Lib.hid (decide_eq_false hlm)
  have hbe : (l == m) = false := by simp [hlm]
  clear hlm
  go_enter Tryz.func124, Tryz.ntmps124
  go_wp2
  go_ret
  exact ⟨by rw [HD.out]; rfl, rfl⟩
theorem hasPrefix_any (A A' : Option Addr) (L E : List UInt8) (c c' : Nat) (w : World) (h1 : Reads w (.slice A L.length c) L) (h2 : Reads w (.slice A' E.length c') E) :
 Calls Tryz.prog 111 #[.slice A L.length c, .slice A' E.length c'] w fun e w' => e = .returned (.bool (decide (E.length ≤ L.length ∧ L.take E.length = E))) ∧ w = w' := by
 have hcl : L.length ≤ c := by
  obtain ⟨_, _, e, hc, _⟩ := h1
  injection e with _ _ e3
  omega
 by_cases hn : E.length ≤ L.length
 ·have HE := Lib.hid (equal_any (.slice A E.length c) (.slice A' E.length c') (L.take E.length) E w (h1.take hn) h2)
  have HD : Hid (decide (E.length ≤ L.length ∧ L.take E.length = E) = decide (L.take E.length = E)) := Lib.hid (by simp [hn])
  generalize decide (L.take E.length = E) = r at *
  have hnI : (E.length : Int) ≤ (L.length : Int) := by omega
  have hnc : E.length ≤ c := by omega
  clear h1 h2
  go_enter Tryz.func111, Tryz.ntmps111
  go_wp2_with (go_at_call 124; go_must (refine (HE.out).mono ?_; rintro e w' ⟨rfl, rfl⟩))
  go_ret
  exact ⟨by rw [HD.out]; rfl, rfl⟩
 ·have HD : Hid (decide (E.length ≤ L.length ∧ L.take E.length = E) = false) := Lib.hid (by simp [hn])
  have hnI : (L.length : Int) < (E.length : Int) := by omega
  clear h1 h2
  go_enter Tryz.func111, Tryz.ntmps111
  go_wp2_with fail
  go_ret
  exact ⟨by rw [HD.out]; rfl, rfl⟩
end
section
open Go.RowKit Go.Sort
open Me
theorem number_lit (b off n cap : Nat) (c0 c1 c2 c3 : Nat) (w : World) (hn : 4 ≤ n) (k0 : c0 < 256) (k1 : c1 < 256) (k2 : c2 < 256) (k3 : c3 < 256)
 (e0 : w.cell? ⟨b, off, none⟩ = some (.int .u8 c0)) (e1 : w.cell? ⟨b, off + 1, none⟩ = some (.int .u8 c1)) (e2 : w.cell? ⟨b, off + 2, none⟩ = some (.int .u8 c2)) (e3 : w.cell? ⟨b, off + 3, none⟩ = some (.int .u8 c3)) :
 Calls Tryz.prog 123 #[.slice (some ⟨b, off, none⟩) n cap] w fun e w' => e = .returned (.int .i64 ((c0 : Int) * 16777216 + c1 * 65536 + c2 * 256 + c3)) ∧ ∃ m, w' = w.drewN m := by
 have HJ := Lib.hid (Wh.join4 c0 c1 c2 c3 k0 k1 k2 k3)
 go_enter Tryz.func123, Tryz.ntmps123
 go_wp2_with fail
 go_quiet (fail)
 go_wp2
 go_ret
 exact ⟨by rw [← HJ.out]; rfl, _, rfl⟩
theorem number_dr (L : List UInt8) (i b off n cap : Nat) (w : World) (h : By w b off L) (hi : i + 4 ≤ L.length) (hn : 4 ≤ n) :
 Calls Tryz.prog 123 #[.slice (some ⟨b, off + i, none⟩) n cap] w fun e w' => e = .returned (.int .i64 (Wh.nm L i)) ∧ ∃ m, w' = w.drewN m :=
 number_lit b (off + i) n cap _ _ _ _ w hn (Wh.by_lt L i) (Wh.by_lt L (i + 1)) (Wh.by_lt L (i + 2)) (Wh.by_lt L (i + 3)) (h.at_ i (by omega)) (h.at_ (i + 1) (by omega)) (h.at_ (i + 2) (by omega)) (h.at_ (i + 3) (by omega))
theorem number_any (L : List UInt8) (i b off n cap : Nat) (w : World) (h : By w b off L) (hi : i + 4 ≤ L.length) (hn : 4 ≤ n) :
 Calls Tryz.prog 123 #[.slice (some ⟨b, off + i, none⟩) n cap] w fun e w' => e = .returned (.int .i64 (Wh.nm L i)) ∧ Below w.heap.size w w' :=
 (number_dr L i b off n cap w h hi hn).mono fun _ _ ⟨he, _, hm⟩ => ⟨he, hm ▸ ⟨rfl, rfl, rfl, Nat.le_refl _, fun _ _ => rfl⟩⟩
end
section
open Go.RowKit Go.Sort
open Wh (At)
open Me
theorem arinfo : (Tryz.prog.info? 69).map (fun i => (i.zero, i.size, i.bytes)) = some (some (.agg #[.int .i64 0, .int .i64 0]), 2, 16) := by kernel_rfl
namespace Wh
def archs (L : List UInt8) (n : Nat) : List (Int × Int) := (List.range n).map fun i => (nm L (16 + 12 * i + 4), nm L (16 + 12 * i + 8))
theorem archs_len (L : List UInt8) (n : Nat) : (archs L n).length = n := by unfold archs; simp
theorem archs_at (L : List UInt8) (n i : Nat) (h : i < n) : At (archs L n) i = (nm L (16 + 12 * i + 4), nm L (16 + 12 * i + 8)) := by
 unfold At archs
 rw [List.getD_eq_getElem?_getD, List.getElem?_map, List.getElem?_range h]
 rfl
end Wh
theorem read_short (A : Option Addr) (n cap : Nat) (hn : n < 16) (w : World) :
 Calls Tryz.prog 110 #[.slice A n cap] w fun e w' => e = .returned (.tuple #[.agg #[.int .i64 0, .int .i64 0, .slice none 0 0], .bool false]) ∧ Below w.heap.size w w' := by
 go_enter Tryz.func110, Tryz.ntmps110
 go_wp2
 exact bodyPost_ret (v := .tuple #[.agg #[.int .i64 0, .int .i64 0, .slice none 0 0], .bool false]) (by simp [results, Tryz.results110, go_sem, *]) rfl ⟨rfl, Bq⟩
theorem read_no (L : List UInt8) (b off cap : Nat) (w : World) (h : By w b off L) (h16 : 16 ≤ L.length) (hc : L.length ≤ cap) (hno : 8 < Wh.nm L 12 ∨ (L.length : Int) < 16 + Wh.nm L 12 * 12) :
 Calls Tryz.prog 110 #[.slice (some ⟨b, off, none⟩) L.length cap] w fun e w' => e = .returned (.tuple #[.agg #[.int .i64 0, .int .i64 0, .slice none 0 0], .bool false]) ∧ Below w.heap.size w w' := by
 obtain ⟨z1, z2⟩ := Wh.nm_bd L 12
 have HN : Hid (∀ W n c, 4 ≤ n → Below w.heap.size w W → Calls Tryz.prog 123 #[.slice (some ⟨b, off + 12, none⟩) n c] W fun e w' => e = .returned (.int .i64 (Wh.nm L 12)) ∧ Below W.heap.size W w') := Lib.hid fun W n c hn hb => number_any L 12 b off n c W (h.below hb) (by omega) hn
 have HH := Lib.hid (headBytes_any (Wh.nm L 12) (by omega) (by omega))
 clear h z2
 generalize Wh.nm L 12 = N at *
 have hcn : ¬ cap = 12 := by omega
 by_cases h8 : 8 < N
 ·go_enter Tryz.func110, Tryz.ntmps110
  go_wp2_with first | (go_at_call 123; (((with_reducible refine (HN.out _ _ _ (by omega) ((Below.refl _ _).alloc (Nat.le_refl _) _)).mono ?_)); rintro e w1 ⟨rfl, hb1⟩; obtain ⟨hc1, hf1⟩ := bcell hb1; (try have hq1w : w.heap.size < w1.heap.size := Bz hb1); have hs1 := hb1.size; (try simp at hs1))) | (go_at_call 69; go_must (refine (HH.out _).mono ?_; rintro e w' ⟨rfl, rfl⟩))
  refine bodyPost_ret (v := .tuple #[.agg #[.int .i64 0, .int .i64 0, .slice none 0 0], .bool false]) ?_ rfl ⟨rfl, ?_⟩
  ·simp [results, Tryz.results110, go_sem, hc1]
  ·exact ((((((Below.refl _ _).alloc (Nat.le_refl _) _).trans (hb1.mono (by simp))).setCell (Nat.le_refl _) _).setCell (Nat.le_refl _) _).setCell (Nat.le_refl _) _)
 ·obtain ⟨k, rfl⟩ : ∃ k : Nat, N = (k : Int) := ⟨N.toNat, by omega⟩
  have hno : (L.length : Int) < 16 + (k : Int) * 12 := by omega
  go_enter Tryz.func110, Tryz.ntmps110
  go_wp2_with first | (go_at_call 123; (((with_reducible refine (HN.out _ _ _ (by omega) ((Below.refl _ _).alloc (Nat.le_refl _) _)).mono ?_)); rintro e w1 ⟨rfl, hb1⟩; obtain ⟨hc1, hf1⟩ := bcell hb1; (try have hq1w : w.heap.size < w1.heap.size := Bz hb1); have hs1 := hb1.size; (try simp at hs1))) | (go_at_call 69; go_must (refine (HH.out _).mono ?_; rintro e w' ⟨rfl, rfl⟩))
  refine bodyPost_ret (v := .tuple #[.agg #[.int .i64 0, .int .i64 0, .slice none 0 0], .bool false]) ?_ rfl ⟨rfl, ?_⟩
  ·simp [results, Tryz.results110, go_sem, hc1]
  ·exact ((((((Below.refl _ _).alloc (Nat.le_refl _) _).trans (hb1.mono (by simp))).setCell (Nat.le_refl _) _).setCell (Nat.le_refl _) _).setCell (Nat.le_refl _) _)
end
end Go.Proofs.YtbakngbmfgnmcaaGreatDoor
