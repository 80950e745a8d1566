/- AgEn AgCmp FxDivPure FxDiv FxMd FxMul AgTg -/
import Derived.Test.YtbakngbmfgnmcaaGreatDoorJ1
import Derived.Test.YtbakngbmfgnmcaaGreatDoorJ6
import Derived.Test.YtbakngbmfgnmcaaGreatDoorJ9
import Derived.Test.YtbakngbmfgnmcaaGreatDoorJ5
import Derived.Deep.RegionWith
import Derived.Test.YtbakngbmfgnmcaaGreatDoorJ7
namespace Go.Proofs.YtbakngbmfgnmcaaGreatDoor
set_option maxRecDepth 100000
set_option maxHeartbeats 8000000
section
open Go.RowKit
namespace Ag
theorem prod_bd {x a : Int} (h1 : 0 ≤ x ∧ x ≤ 16777216) (h2 : 0 ≤ a ∧ a ≤ 16777216) : 0 ≤ x * a ∧ x * a ≤ 281474976710656 :=
 ⟨Int.mul_nonneg h1.1 h2.1, by have := Int.mul_le_mul h1.2 h2.2 h2.1 (by omega); omega⟩
theorem en_of (xff known all : Int) : en xff known all = (decide (0 < lim known) && decide (lim known ≤ lim all) && decide (lim xff * lim all ≤ lim known * 1000000)) := by
 unfold en; rw [Bool.decide_and, Bool.decide_and, Bool.and_assoc]
end Ag
theorem limited_any (n : Int) (w : World) : Calls Tryz.prog 144 #[.int .i64 n] w fun e w' => e = .returned (.int .i64 (Ag.lim n)) ∧ w = w' := by
 go_enter Tryz.func144, Tryz.ntmps144
 go_wp2
 go_ret
 exact ⟨ret_int (by unfold Ag.lim; split <;> (try split) <;> omega), rfl⟩
theorem hold_any (n : Int) (w : World) : Calls Tryz.prog 138 #[.int .i64 n] w fun e w' => e = .returned (.int .i64 (Ag.lim n)) ∧ w = w' := by
 go_enter Tryz.func138, Tryz.ntmps138
 go_wp2
 go_ret
 exact ⟨ret_int (by unfold Ag.lim; split <;> (try split) <;> omega), rfl⟩
theorem enough_any (xff known all : Int) (w : World) :
 Calls Tryz.prog 134 #[.int .i64 xff, .int .i64 known, .int .i64 all] w fun e w' => e = .returned (.bool (Ag.en xff known all)) ∧ w = w' := by
 have H1 : Hid (∀ W, Calls Tryz.prog 144 #[.int .i64 xff] W fun e w' => e = .returned (.int .i64 (Ag.lim xff)) ∧ W = w') := Lib.hid fun W => limited_any _ W
 have H2 : Hid (∀ W, Calls Tryz.prog 144 #[.int .i64 known] W fun e w' => e = .returned (.int .i64 (Ag.lim known)) ∧ W = w') := Lib.hid fun W => limited_any _ W
 have H3 : Hid (∀ W, Calls Tryz.prog 144 #[.int .i64 all] W fun e w' => e = .returned (.int .i64 (Ag.lim all)) ∧ W = w') := Lib.hid fun W => limited_any _ W
 have b1 := Ag.lim_bd xff
 have b2 := Ag.lim_bd known
 have b3 := Ag.lim_bd all
 have bp := Ag.prod_bd b1 b3
 have HE := Lib.hid (Ag.en_of xff known all)
 generalize Ag.en xff known all = q at *
 generalize Ag.lim xff = x at *
 generalize Ag.lim known = k at *
 generalize Ag.lim all = a at *
 by_cases t1 : 0 < k
 ·by_cases t2 : k ≤ a
  ·obtain ⟨p, hp⟩ : ∃ p, x * a = p := ⟨_, rfl⟩
   rw [hp] at bp
   by_cases t3 : p ≤ k * 1000000
   ·have HQ : Hid (q = true) := Lib.hid (by rw [HE.out, hp]; simp [t1, t2, t3])
    clear HE
    go_enter Tryz.func134, Tryz.ntmps134
    go_wp2_with first | (go_at_call 144; ((with_reducible refine (H1.out _).mono ?_); rintro e w' ⟨rfl, rfl⟩)) | (go_at_call 144; ((with_reducible refine (H2.out _).mono ?_); rintro e w' ⟨rfl, rfl⟩)) | (go_at_call 144; ((with_reducible refine (H3.out _).mono ?_); rintro e w' ⟨rfl, rfl⟩))
    go_ret
    exact ⟨by rw [HQ.out]; first | rfl | (simp; omega), rfl⟩
   ·have HQ : Hid (q = false) := Lib.hid (by rw [HE.out, hp]; simp [t3])
    clear HE
    go_enter Tryz.func134, Tryz.ntmps134
    go_wp2_with first | (go_at_call 144; ((with_reducible refine (H1.out _).mono ?_); rintro e w' ⟨rfl, rfl⟩)) | (go_at_call 144; ((with_reducible refine (H2.out _).mono ?_); rintro e w' ⟨rfl, rfl⟩)) | (go_at_call 144; ((with_reducible refine (H3.out _).mono ?_); rintro e w' ⟨rfl, rfl⟩))
    go_ret
    exact ⟨by rw [HQ.out]; first | rfl | (simp; omega), rfl⟩
  ·have HQ : Hid (q = false) := Lib.hid (by rw [HE.out]; simp [t2])
   clear HE bp
   go_enter Tryz.func134, Tryz.ntmps134
   go_wp2_with first | (go_at_call 144; ((with_reducible refine (H1.out _).mono ?_); rintro e w' ⟨rfl, rfl⟩)) | (go_at_call 144; ((with_reducible refine (H2.out _).mono ?_); rintro e w' ⟨rfl, rfl⟩)) | (go_at_call 144; ((with_reducible refine (H3.out _).mono ?_); rintro e w' ⟨rfl, rfl⟩))
   go_ret
   exact ⟨by rw [HQ.out]; first | rfl | (simp; omega), rfl⟩
 ·have HQ : Hid (q = false) := Lib.hid (by rw [HE.out]; simp [t1])
  clear HE bp
  go_enter Tryz.func134, Tryz.ntmps134
  go_wp2_with first | (go_at_call 144; ((with_reducible refine (H1.out _).mono ?_); rintro e w' ⟨rfl, rfl⟩)) | (go_at_call 144; ((with_reducible refine (H2.out _).mono ?_); rintro e w' ⟨rfl, rfl⟩)) | (go_at_call 144; ((with_reducible refine (H3.out _).mono ?_); rintro e w' ⟨rfl, rfl⟩))
  go_ret
  exact ⟨by rw [HQ.out]; first | rfl | (simp; omega), rfl⟩
theorem refEnough_any (xff known all : Int) (w : World) :
 Calls Tryz.prog 125 #[.int .i64 xff, .int .i64 known, .int .i64 all] w fun e w' => e = .returned (.bool (Ag.en xff known all)) ∧ w = w' := by
 have H1 : Hid (∀ W, Calls Tryz.prog 138 #[.int .i64 xff] W fun e w' => e = .returned (.int .i64 (Ag.lim xff)) ∧ W = w') := Lib.hid fun W => hold_any _ W
 have H2 : Hid (∀ W, Calls Tryz.prog 138 #[.int .i64 known] W fun e w' => e = .returned (.int .i64 (Ag.lim known)) ∧ W = w') := Lib.hid fun W => hold_any _ W
 have H3 : Hid (∀ W, Calls Tryz.prog 138 #[.int .i64 all] W fun e w' => e = .returned (.int .i64 (Ag.lim all)) ∧ W = w') := Lib.hid fun W => hold_any _ W
 have b1 := Ag.lim_bd xff
 have b2 := Ag.lim_bd known
 have b3 := Ag.lim_bd all
 have bp := Ag.prod_bd b1 b3
 have HE := Lib.hid (Ag.en_of xff known all)
 generalize Ag.en xff known all = q at *
 generalize Ag.lim xff = x at *
 generalize Ag.lim known = k at *
 generalize Ag.lim all = a at *
 by_cases t1 : 0 < k
 ·by_cases t2 : k ≤ a
  ·obtain ⟨p, hp⟩ : ∃ p, x * a = p := ⟨_, rfl⟩
   rw [hp] at bp
   by_cases t3 : p ≤ k * 1000000
   ·have HQ : Hid (q = true) := Lib.hid (by rw [HE.out, hp]; simp [t1, t2, t3])
    clear HE
    go_enter Tryz.func125, Tryz.ntmps125
    go_wp2_with first | (go_at_call 138; ((with_reducible refine (H1.out _).mono ?_); rintro e w' ⟨rfl, rfl⟩)) | (go_at_call 138; ((with_reducible refine (H2.out _).mono ?_); rintro e w' ⟨rfl, rfl⟩)) | (go_at_call 138; ((with_reducible refine (H3.out _).mono ?_); rintro e w' ⟨rfl, rfl⟩))
    go_ret
    exact ⟨by rw [HQ.out]; first | rfl | (simp; omega), rfl⟩
   ·have HQ : Hid (q = false) := Lib.hid (by rw [HE.out, hp]; simp [t3])
    clear HE
    go_enter Tryz.func125, Tryz.ntmps125
    go_wp2_with first | (go_at_call 138; ((with_reducible refine (H1.out _).mono ?_); rintro e w' ⟨rfl, rfl⟩)) | (go_at_call 138; ((with_reducible refine (H2.out _).mono ?_); rintro e w' ⟨rfl, rfl⟩)) | (go_at_call 138; ((with_reducible refine (H3.out _).mono ?_); rintro e w' ⟨rfl, rfl⟩))
    go_ret
    exact ⟨by rw [HQ.out]; first | rfl | (simp; omega), rfl⟩
  ·have HQ : Hid (q = false) := Lib.hid (by rw [HE.out]; simp [t2])
   clear HE bp
   go_enter Tryz.func125, Tryz.ntmps125
   go_wp2_with first | (go_at_call 138; ((with_reducible refine (H1.out _).mono ?_); rintro e w' ⟨rfl, rfl⟩)) | (go_at_call 138; ((with_reducible refine (H2.out _).mono ?_); rintro e w' ⟨rfl, rfl⟩)) | (go_at_call 138; ((with_reducible refine (H3.out _).mono ?_); rintro e w' ⟨rfl, rfl⟩))
   go_ret
   exact ⟨by rw [HQ.out]; first | rfl | (simp; omega), rfl⟩
 ·have HQ : Hid (q = false) := Lib.hid (by rw [HE.out]; simp [t1])
  clear HE bp
  go_enter Tryz.func125, Tryz.ntmps125
  go_wp2_with first | (go_at_call 138; ((with_reducible refine (H1.out _).mono ?_); rintro e w' ⟨rfl, rfl⟩)) | (go_at_call 138; ((with_reducible refine (H2.out _).mono ?_); rintro e w' ⟨rfl, rfl⟩)) | (go_at_call 138; ((with_reducible refine (H3.out _).mono ?_); rintro e w' ⟨rfl, rfl⟩))
  go_ret
  exact ⟨by rw [HQ.out]; first | rfl | (simp; omega), rfl⟩
end
section
open Go.RowKit Go.Sort
open Fx (Vl)
open Me
theorem isNaN_any (n : Int) (w : World) : Calls Tryz.prog 164 #[.int .i64 n] w fun e w' => e = .returned (.bool false) ∧ w = w' := by
 go_enter Tryz.func164, Tryz.ntmps164
 go_wp2
 go_ret
 exact ⟨rfl, rfl⟩
def Ag.cmp (m n : Int) : Int := if m < n then -1 else if n < m then 1 else 0
theorem compare_int (m n : Int) (w : World) : Calls Tryz.prog 158 #[.int .i64 m, .int .i64 n] w fun e w' => e = .returned (.int .i64 (Ag.cmp m n)) ∧ w = w' := by
 have HN : Hid (∀ n W, Calls Tryz.prog 164 #[.int .i64 n] W fun e w' => e = .returned (.bool false) ∧ W = w') := Lib.hid isNaN_any
 by_cases h1 : m < n
 ·have HQ : Hid (Ag.cmp m n = -1) := Lib.hid (by unfold Ag.cmp; rw [if_pos h1])
  go_enter Tryz.func158, Tryz.ntmps158
  go_wp2_with (go_at_call 164; go_must (refine (HN.out _ _).mono ?_; rintro e w' ⟨rfl, rfl⟩))
  go_ret
  exact ⟨by rw [HQ.out]; rfl, rfl⟩
 ·by_cases h2 : n < m
  ·have HQ : Hid (Ag.cmp m n = 1) := Lib.hid (by unfold Ag.cmp; rw [if_neg h1, if_pos h2])
   go_enter Tryz.func158, Tryz.ntmps158
   go_wp2_with (go_at_call 164; go_must (refine (HN.out _ _).mono ?_; rintro e w' ⟨rfl, rfl⟩))
   go_ret
   exact ⟨by rw [HQ.out]; rfl, rfl⟩
  ·have HQ : Hid (Ag.cmp m n = 0) := Lib.hid (by unfold Ag.cmp; rw [if_neg h1, if_neg h2])
   go_enter Tryz.func158, Tryz.ntmps158
   go_wp2_with (go_at_call 164; go_must (refine (HN.out _ _).mono ?_; rintro e w' ⟨rfl, rfl⟩))
   go_ret
   exact ⟨by rw [HQ.out]; rfl, rfl⟩
theorem compare_any (a : Bool) (m : Int) (b : Bool) (n : Int) (w : World) :
 Calls Tryz.prog 149 #[.agg #[.bool a, .int .i64 m], .agg #[.bool b, .int .i64 n]] w fun e w' => e = .returned (.int .i64 (Ag.cmp m n)) ∧ Below w.heap.size w w' := by
 have HC : Hid (∀ W, Calls Tryz.prog 158 #[.int .i64 m, .int .i64 n] W fun e w' => e = .returned (.int .i64 (Ag.cmp m n)) ∧ W = w') := Lib.hid fun W => compare_int m n W
 generalize Ag.cmp m n = c at *
 go_enter Tryz.func149, Tryz.ntmps149
 go_wp2_with (go_at_call 158; go_must (refine (HC.out _).mono ?_; rintro e w' ⟨rfl, rfl⟩))
 go_ret
 exact ⟨rfl, Bq⟩
structure BestRel (w wr : World) (r s : Nat) (v : Vl) : Prop where
 below : Below w.heap.size w wr
 r0 : w.heap.size ≤ r
 rs : r < s
 sz : s < wr.heap.size
 rc0 : wr.cell? ⟨r, 0, none⟩ = some (.bool false)
 rc1 : wr.cell? ⟨r, 1, none⟩ = some (.int .i64 0)
 rf0 : wr.frozen? ⟨r, 0, none⟩ = false
 rf1 : wr.frozen? ⟨r, 1, none⟩ = false
 sc0 : wr.cell? ⟨s, 0, none⟩ = some (.bool v.ok)
 sc1 : wr.cell? ⟨s, 1, none⟩ = some (.int .i64 v.n)
 sf0 : wr.frozen? ⟨s, 0, none⟩ = false
 sf1 : wr.frozen? ⟨s, 1, none⟩ = false
theorem BestRel.step {w wr wp : World} {r s : Nat} {v : Vl} (h : BestRel w wr r s v) (hb : Below wr.heap.size wr wp) : BestRel w wp r s v := by
 have hr0 := h.r0
 have hrs := h.rs
 have hs1 := h.sz
 have hr1 : r < wr.heap.size := by omega
 exact ⟨h.below.trans (hb.mono (by omega)), h.r0, h.rs, Nat.lt_of_lt_of_le h.sz hb.size, ((bcell hb).1 _ _ hr1).trans h.rc0, ((bcell hb).1 _ _ hr1).trans h.rc1, ((bcell hb).2 _ _ hr1).trans h.rf0, ((bcell hb).2 _ _ hr1).trans h.rf1,
  ((bcell hb).1 _ _ hs1).trans h.sc0, ((bcell hb).1 _ _ hs1).trans h.sc1, ((bcell hb).2 _ _ hs1).trans h.sf0, ((bcell hb).2 _ _ hs1).trans h.sf1⟩
theorem BestRel.set_ {w wr : World} {r s : Nat} {v : Vl} (h : BestRel w wr r s v) (ok : Bool) (n : Int) :
 BestRel w ((wr.setCell ⟨s, 0, none⟩ (.bool ok)).setCell ⟨s, 1, none⟩ (.int .i64 n)) r s ⟨ok, n⟩ := by
 have hs1 := h.sz
 have hrs := h.rs
 have hr0 := h.r0
 have hne : r ≠ s := by omega
 have c0 := h.sc0
 have c1 := h.sc1
 have d0 := h.rc0
 have d1 := h.rc1
 have f0 := h.sf0
 have f1 := h.sf1
 have g0 := h.rf0
 have g1 := h.rf1
 refine ⟨?_, hr0, hrs, by simp; omega, ?_, ?_, ?_, ?_, ?_, ?_, ?_, ?_⟩
 ·exact Below.setCell (Below.setCell h.below (by show _ ≤ s; omega) _) (by show _ ≤ s; omega) _
 all_goals simp [go_sem, *]
theorem BestRel.start (w : World) (T : TypeId) (ok : Bool) (n : Int) :
 BestRel w ((w.alloc (.cells #[.bool false, .int .i64 0] T)).alloc (.cells #[.bool ok, .int .i64 n] T)) w.heap.size (w.heap.size + 1) ⟨ok, n⟩ := by
 refine ⟨((Below.refl _ _).alloc (Nat.le_refl _) _).alloc (by simp) _, Nat.le_refl _, by omega, by simp, ?_, ?_, ?_, ?_, ?_, ?_, ?_, ?_⟩
 all_goals simp [go_sem]
theorem maxFunc_some (l : List Vl) (h0 : 0 < l.length) (hl : l.length ≤ 4611686018427387904) (b off cap : Nat) (w : World) (hv : Vals w b off l) :
 Calls Tryz.prog 148 #[.slice (some ⟨b, off, none⟩) l.length cap, .func (.func 149) #[] #[]] w fun e w' => e = .returned (.agg #[.bool (Ag.mx l).ok, .int .i64 (Ag.mx l).n]) ∧ Below w.heap.size w w' := by
 have x0 := hv.ok 0 h0
 have x1 := hv.n 0 h0
 rw [Nat.zero_mul, Nat.add_zero] at x0 x1
 have hbr0 := hv.lt
 have HM := Lib.hid (Ag.mx_one l h0)
 generalize l[0] = e0 at *
 obtain ⟨fo, fn⟩ := e0
 have h1l : ¬ ((l.length : Int) < 1) := by omega
 go_enter Tryz.func148, Tryz.ntmps148
 go_wp2_with fail
 go_loopw [6] (fun i wr => ∃ k : Nat, 1 ≤ k ∧ k ≤ l.length ∧ i = .int .i64 k ∧ BestRel w wr w.heap.size (w.heap.size + 1) (Ag.mx (l.take k))) (fun i _ => l.length - (intOf i).toNat)
 case atStart => exact ⟨1, Nat.le_refl _, h0, rfl, by rw [HM.out]; exact BestRel.start _ _ _ _⟩
 case round =>
  obtain ⟨k, hk1, hk, rfl, hR⟩ := hrel
  have hsz := hR.sz
  have rc0 := hR.rc0
  have rc1 := hR.rc1
  have rf0 := hR.rf0
  have rf1 := hR.rf1
  have sc0 := hR.sc0
  have sc1 := hR.sc1
  have sf0 := hR.sf0
  have sf1 := hR.sf1
  by_cases hlt : k < l.length
  ·have hvr := hv.below hR.below
   have ec0 := hvr.ok k hlt
   have ec1 := hvr.n k hlt
   have hbr := hvr.lt
   have hst := Lib.hid (Ag.mx_take l k hk1 hlt)
   have HR := Lib.hid hR
   clear hR hvr
   generalize l[k] = ek at *
   generalize Ag.mx (l.take k) = sk at *
   obtain ⟨eo, en⟩ := ek
   obtain ⟨so, sn⟩ := sk
   have hkl : (k : Int) < (l.length : Int) := by omega
   have hk0 : (0 : Int) ≤ (k : Int) := by omega
   obtain ⟨kc, kf⟩ := kgrown wr
   by_cases hc : sn < en
   ·have HC : Hid (∀ W, Calls Tryz.prog 149 #[.agg #[.bool eo, .int .i64 en], .agg #[.bool so, .int .i64 sn]] W fun e w' => e = .returned (.int .i64 1) ∧ Below W.heap.size W w') := Lib.hid fun W => by
     have := compare_any eo en so sn W
     unfold Ag.cmp at this
     rw [if_neg (by omega), if_pos hc] at this
     exact this
    have HT := Lib.hid (Ag.mx1_yes (a := ⟨so, sn⟩) (b := ⟨eo, en⟩) hc)
    go_wp2_with fail
    refine wp_region_quiet_below (by kernel_rfl) (by kernel_rfl) ?_
    repeat (quiet_step ((go_at_call 149; exact Calls.regrown_of (HC.out _))))
    refine wpQuiet_nil ?_
    intro _ hw'
    obtain ⟨⟨dq, osq⟩, hw''⟩ := hw'
    subst hw''
    go_wp2_with fail
    go_roundw
    case rel => exact ⟨k + 1, by omega, by omega, by go_num, by rw [hst.out, HT.out]; exact (HR.out.step (below_regrown wr dq osq)).set_ _ _⟩
    case measure => simp [intOf]; omega
   ·have HC : Hid (∀ W, Calls Tryz.prog 149 #[.agg #[.bool eo, .int .i64 en], .agg #[.bool so, .int .i64 sn]] W fun e w' => e = .returned (.int .i64 (Ag.cmp en sn)) ∧ Below W.heap.size W w') := Lib.hid fun W => compare_any eo en so sn W
    have hcn : ¬ 0 < Ag.cmp en sn := by unfold Ag.cmp; split <;> (try split) <;> omega
    generalize Ag.cmp en sn = cq at *
    have HT := Lib.hid (Ag.mx1_no (a := ⟨so, sn⟩) (b := ⟨eo, en⟩) hc)
    go_wp2_with fail
    refine wp_region_quiet_below (by kernel_rfl) (by kernel_rfl) ?_
    repeat (quiet_step ((go_at_call 149; exact Calls.regrown_of (HC.out _))))
    refine wpQuiet_nil ?_
    intro _ hw'
    obtain ⟨⟨dq, osq⟩, hw''⟩ := hw'
    subst hw''
    go_wp2_with fail
    go_roundw
    case rel => exact ⟨k + 1, by omega, by omega, by go_num, by rw [hst.out, HT.out]; exact HR.out.step (below_regrown wr dq osq)⟩
    case measure => simp [intOf]; omega
  ·obtain rfl : k = l.length := by omega
   have hbb := hR.below
   have hr0 := hR.r0
   rw [List.take_length] at *
   clear hR
   go_wp2
   exact bodyPost_ret (v := (.agg #[.bool (Ag.mx l).ok, .int .i64 (Ag.mx l).n])) (by simp [results, Tryz.results148, go_sem, *]) rfl ⟨rfl, Bq⟩
theorem minFunc_some (l : List Vl) (h0 : 0 < l.length) (hl : l.length ≤ 4611686018427387904) (b off cap : Nat) (w : World) (hv : Vals w b off l) :
 Calls Tryz.prog 150 #[.slice (some ⟨b, off, none⟩) l.length cap, .func (.func 149) #[] #[]] w fun e w' => e = .returned (.agg #[.bool (Ag.mn l).ok, .int .i64 (Ag.mn l).n]) ∧ Below w.heap.size w w' := by
 have x0 := hv.ok 0 h0
 have x1 := hv.n 0 h0
 rw [Nat.zero_mul, Nat.add_zero] at x0 x1
 have hbr0 := hv.lt
 have HM := Lib.hid (Ag.mn_one l h0)
 generalize l[0] = e0 at *
 obtain ⟨fo, fn⟩ := e0
 have h1l : ¬ ((l.length : Int) < 1) := by omega
 go_enter Tryz.func150, Tryz.ntmps150
 go_wp2_with fail
 go_loopw [6] (fun i wr => ∃ k : Nat, 1 ≤ k ∧ k ≤ l.length ∧ i = .int .i64 k ∧ BestRel w wr w.heap.size (w.heap.size + 1) (Ag.mn (l.take k))) (fun i _ => l.length - (intOf i).toNat)
 case atStart => exact ⟨1, Nat.le_refl _, h0, rfl, by rw [HM.out]; exact BestRel.start _ _ _ _⟩
 case round =>
  obtain ⟨k, hk1, hk, rfl, hR⟩ := hrel
  have hsz := hR.sz
  have rc0 := hR.rc0
  have rc1 := hR.rc1
  have rf0 := hR.rf0
  have rf1 := hR.rf1
  have sc0 := hR.sc0
  have sc1 := hR.sc1
  have sf0 := hR.sf0
  have sf1 := hR.sf1
  by_cases hlt : k < l.length
  ·have hvr := hv.below hR.below
   have ec0 := hvr.ok k hlt
   have ec1 := hvr.n k hlt
   have hbr := hvr.lt
   have hst := Lib.hid (Ag.mn_take l k hk1 hlt)
   have HR := Lib.hid hR
   clear hR hvr
   generalize l[k] = ek at *
   generalize Ag.mn (l.take k) = sk at *
   obtain ⟨eo, en⟩ := ek
   obtain ⟨so, sn⟩ := sk
   have hkl : (k : Int) < (l.length : Int) := by omega
   have hk0 : (0 : Int) ≤ (k : Int) := by omega
   obtain ⟨kc, kf⟩ := kgrown wr
   by_cases hc : en < sn
   ·have HC : Hid (∀ W, Calls Tryz.prog 149 #[.agg #[.bool eo, .int .i64 en], .agg #[.bool so, .int .i64 sn]] W fun e w' => e = .returned (.int .i64 (-1)) ∧ Below W.heap.size W w') := Lib.hid fun W => by
     have := compare_any eo en so sn W
     unfold Ag.cmp at this
     rw [if_pos hc] at this
     exact this
    have HT := Lib.hid (Ag.mn1_yes (a := ⟨so, sn⟩) (b := ⟨eo, en⟩) hc)
    go_wp2_with fail
    refine wp_region_quiet_below (by kernel_rfl) (by kernel_rfl) ?_
    repeat (quiet_step ((go_at_call 149; exact Calls.regrown_of (HC.out _))))
    refine wpQuiet_nil ?_
    intro _ hw'
    obtain ⟨⟨dq, osq⟩, hw''⟩ := hw'
    subst hw''
    go_wp2_with fail
    go_roundw
    case rel => exact ⟨k + 1, by omega, by omega, by go_num, by rw [hst.out, HT.out]; exact (HR.out.step (below_regrown wr dq osq)).set_ _ _⟩
    case measure => simp [intOf]; omega
   ·have HC : Hid (∀ W, Calls Tryz.prog 149 #[.agg #[.bool eo, .int .i64 en], .agg #[.bool so, .int .i64 sn]] W fun e w' => e = .returned (.int .i64 (Ag.cmp en sn)) ∧ Below W.heap.size W w') := Lib.hid fun W => compare_any eo en so sn W
    have hcn : ¬ Ag.cmp en sn < 0 := by unfold Ag.cmp; split <;> (try split) <;> omega
    generalize Ag.cmp en sn = cq at *
    have HT := Lib.hid (Ag.mn1_no (a := ⟨so, sn⟩) (b := ⟨eo, en⟩) hc)
    go_wp2_with fail
    refine wp_region_quiet_below (by kernel_rfl) (by kernel_rfl) ?_
    repeat (quiet_step ((go_at_call 149; exact Calls.regrown_of (HC.out _))))
    refine wpQuiet_nil ?_
    intro _ hw'
    obtain ⟨⟨dq, osq⟩, hw''⟩ := hw'
    subst hw''
    go_wp2_with fail
    go_roundw
    case rel => exact ⟨k + 1, by omega, by omega, by go_num, by rw [hst.out, HT.out]; exact HR.out.step (below_regrown wr dq osq)⟩
    case measure => simp [intOf]; omega
  ·obtain rfl : k = l.length := by omega
   have hbb := hR.below
   have hr0 := hR.r0
   rw [List.take_length] at *
   clear hR
   go_wp2
   exact bodyPost_ret (v := (.agg #[.bool (Ag.mn l).ok, .int .i64 (Ag.mn l).n])) (by simp [results, Tryz.results150, go_sem, *]) rfl ⟨rfl, Bq⟩
end
section
namespace Dv
structure Inv (n1 n0 u t q r : Nat) : Prop where
 sum : q * n1 + r = u
 low : (u * 4294967296 + t) / (n1 * 4294967296 + n0) ≤ q
 top : q ≤ 4294967297
theorem y_pos {n1 n0 : Nat} (h1 : 2147483648 ≤ n1) : 0 < n1 * 4294967296 + n0 := by omega
theorem digit_aux (u t y : Nat) (hu : u < y) (ht : t < 4294967296) : u * 4294967296 + t < 4294967296 * y := by omega
theorem digit_lt {n1 n0 u t : Nat} (h1 : 2147483648 ≤ n1) (hu : u < n1 * 4294967296 + n0) (ht : t < 4294967296) :
 (u * 4294967296 + t) / (n1 * 4294967296 + n0) < 4294967296 := by
 rw [Nat.div_lt_iff_lt_mul (y_pos h1)]
 exact digit_aux _ _ _ hu ht
theorem start {n1 n0 u t : Nat} (h1 : 2147483648 ≤ n1) (h0 : n0 < 4294967296) (hu : u < n1 * 4294967296 + n0) (ht : t < 4294967296) :
 Inv n1 n0 u t (u / n1) (u % n1) := by
 refine ⟨by rw [Nat.mul_comm]; exact Nat.div_add_mod u n1, ?_, ?_⟩
 ·rw [Nat.le_div_iff_mul_le (by omega)]
  have h := Nat.div_mul_le_self (u * 4294967296 + t) (n1 * 4294967296 + n0)
  generalize (u * 4294967296 + t) / (n1 * 4294967296 + n0) = Q at *
  rw [Nat.mul_add, ← Nat.mul_assoc] at h
  generalize Q * n1 = a at *
  generalize Q * n0 = b at *
  omega
 ·have : u / n1 < 4294967298 := by rw [Nat.div_lt_iff_lt_mul (by omega)]; omega
  omega
theorem step {n1 n0 u t q r : Nat} (h1 : 2147483648 ≤ n1) (hu : u < n1 * 4294967296 + n0) (ht : t < 4294967296)
 (h : Inv n1 n0 u t q r) (hc : 4294967296 ≤ q ∨ 4294967296 * r + t < q * n0) : 1 ≤ q ∧ Inv n1 n0 u t (q - 1) (r + n1) ∧ (u * 4294967296 + t) / (n1 * 4294967296 + n0) < q := by
 obtain ⟨hs, hl, ht'⟩ := h
 have hlt : (u * 4294967296 + t) / (n1 * 4294967296 + n0) < q := by
  rcases hc with hc | hc
  ·exact Nat.lt_of_lt_of_le (digit_lt h1 hu ht) hc
  ·rw [Nat.div_lt_iff_lt_mul (y_pos h1), Nat.mul_add, ← Nat.mul_assoc]
   generalize q * n1 = a at *
   generalize q * n0 = b at *
   omega
 have h1q : 1 ≤ q := Nat.lt_of_le_of_lt (Nat.zero_le _) hlt
 refine ⟨h1q, ⟨?_, Nat.le_sub_one_of_lt hlt, by omega⟩, hlt⟩
 obtain ⟨p, rfl⟩ : ∃ p, q = p + 1 := ⟨q - 1, by omega⟩
 rw [Nat.add_sub_cancel]
 rw [Nat.add_mul] at hs
 omega
theorem stop {n1 n0 u t q r : Nat} (h1 : 2147483648 ≤ n1) (h0 : n0 < 4294967296)
 (h : Inv n1 n0 u t q r) (hc : (q * n0 ≤ 4294967296 * r + t) ∨ (4294967296 ≤ r ∧ q ≤ 4294967296)) :
 q = (u * 4294967296 + t) / (n1 * 4294967296 + n0) ∧ q * (n1 * 4294967296 + n0) ≤ u * 4294967296 + t := by
 obtain ⟨hs, hl, _⟩ := h
 have hle : q * n0 ≤ 4294967296 * r + t := by
  rcases hc with hc | ⟨hr, hq⟩
  ·exact hc
  ·have := Nat.mul_le_mul hq (show n0 ≤ 4294967295 by omega)
   omega
 have hy : q * (n1 * 4294967296 + n0) ≤ u * 4294967296 + t := by
  rw [Nat.mul_add, ← Nat.mul_assoc]
  generalize q * n1 = a at *
  generalize q * n0 = b at *
  omega
 exact ⟨Nat.le_antisymm ((Nat.le_div_iff_mul_le (y_pos h1)).2 hy) hl, hy⟩
theorem prod_lt {q n0 : Nat} (hq : q < 4294967296) (h0 : n0 < 4294967296) : q * n0 < 18446744073709551616 := by
 have := Nat.mul_le_mul (show q ≤ 4294967295 by omega) (show n0 ≤ 4294967295 by omega)
 omega
theorem two_aux (a b m d0 : Nat) (h : b + m = a) : a * 4294967296 + d0 = (m * 4294967296 + d0) + b * 4294967296 := by omega
theorem two' (a d0 y : Nat) (hy : 0 < y) :
 (a * 4294967296 + d0) / y = a / y * 4294967296 + (a % y * 4294967296 + d0) / y ∧
 (a * 4294967296 + d0) % y = (a % y * 4294967296 + d0) % y := by
 rw [two_aux a (y * (a / y)) (a % y) d0 (Nat.div_add_mod a y), Nat.mul_assoc, Nat.add_mul_div_left _ _ hy, Nat.add_mul_mod_self_left]
 exact ⟨Nat.add_comm _ _, rfl⟩
theorem scaled (N y S : Nat) (hS : 0 < S) : N * S / (y * S) = N / y ∧ N * S % (y * S) / S = N % y := by
 refine ⟨Nat.mul_div_mul_right _ _ hS, ?_⟩
 rw [Nat.mul_mod_mul_right, Nat.mul_div_cancel _ hS]
theorem shifted_aux (a b c d : Nat) (h : 18446744073709551616 * c + d = a) : b * 18446744073709551616 + a = (b + c) * 18446744073709551616 + d := by omega
theorem shifted (hi lo S T : Nat) (hST : S * T = 18446744073709551616) (hS : 0 < S) :
 (hi * 18446744073709551616 + lo) * S = (hi * S + lo / T) * 18446744073709551616 + lo * S % 18446744073709551616 := by
 have e : lo * S / 18446744073709551616 = lo / T := by
  rw [← hST, Nat.mul_comm S T]; exact Nat.mul_div_mul_right _ _ hS
 have h := Nat.div_add_mod (lo * S) 18446744073709551616
 rw [e] at h
 have e2 : (hi * 18446744073709551616 + lo) * S = hi * S * 18446744073709551616 + lo * S := by rw [Nat.add_mul, Nat.mul_right_comm]
 rw [e2]
 exact shifted_aux (lo * S) (hi * S) (lo / T) (lo * S % 18446744073709551616) h
theorem high_lt {hi lo y S T : Nat} (hST : S * T = 18446744073709551616) (hlo : lo < 18446744073709551616) (h : hi < y) : hi * S + lo / T < y * S ∧ lo / T < S := by
 have h1 : lo / T < S := by
  rw [Nat.div_lt_iff_lt_mul (Nat.pos_of_ne_zero (fun h0 => by rw [h0] at hST; omega))]; omega
 have h2 := Nat.mul_le_mul_right S (show hi + 1 ≤ y from h)
 rw [Nat.add_mul] at h2
 omega
def InvI (n1 n0 u t : Nat) (a b : Int) : Prop := 0 ≤ a ∧ 0 ≤ b ∧ b ≤ 4294967295 ∧ Inv n1 n0 u t a.toNat b.toNat
theorem startI {n1 n0 u t : Nat} (h1 : 2147483648 ≤ n1) (h2 : n1 < 4294967296) (h0 : n0 < 4294967296) (hu : u < n1 * 4294967296 + n0) (ht : t < 4294967296) :
 InvI n1 n0 u t ((u / n1 : Nat) : Int) ((u % n1 : Nat) : Int) :=
 ⟨Int.natCast_nonneg _, Int.natCast_nonneg _, by have := Nat.mod_lt u (show 0 < n1 by omega); omega, by rw [Int.toNat_natCast, Int.toNat_natCast]; exact start h1 h0 hu ht⟩
theorem boundsI {n1 n0 u t : Nat} {a b : Int} (h : InvI n1 n0 u t a b) : 0 ≤ a ∧ a ≤ 4294967297 ∧ 0 ≤ b ∧ b ≤ 4294967295 := by
 obtain ⟨h1, h2, h3, h4⟩ := h
 have := h4.top
 exact ⟨h1, by omega, h2, h3⟩
theorem prodI {a : Int} {n0 : Nat} (h0 : 0 ≤ a) (h1 : a ≤ 4294967295) (h : n0 < 4294967296) : ∃ P : Int, a * (n0 : Int) = P ∧ 0 ≤ P ∧ P ≤ 18446744073709551615 := by
 obtain ⟨x, rfl⟩ := Int.eq_ofNat_of_zero_le h0
 have hp := prod_lt (q := x) (n0 := n0) (by omega) h
 refine ⟨_, rfl, by rw [← Int.natCast_mul]; exact Int.natCast_nonneg _, ?_⟩
 rw [← Int.natCast_mul]
 omega
theorem stepI_nat {n1 n0 u t : Nat} {a b : Int} (h1 : 2147483648 ≤ n1) (hu : u < n1 * 4294967296 + n0) (ht : t < 4294967296)
 (h : InvI n1 n0 u t a b) (hc : 4294967296 ≤ a ∨ 4294967296 * b + t < a * n0) : 1 ≤ a.toNat ∧ Inv n1 n0 u t (a.toNat - 1) (b.toNat + n1) := by
 obtain ⟨ha, hb, h3, h4⟩ := h
 obtain ⟨x, rfl⟩ := Int.eq_ofNat_of_zero_le ha
 obtain ⟨z, rfl⟩ := Int.eq_ofNat_of_zero_le hb
 simp only [Int.toNat_natCast] at h4 ⊢
 have hs := step h1 hu ht h4 (by
  rcases hc with hc | hc
  ·exact .inl (by omega)
  ·right
   rw [← Int.natCast_mul] at hc
   omega)
 exact ⟨hs.1, hs.2.1⟩
theorem stepI {n1 n0 u t : Nat} {a b : Int} (h1 : 2147483648 ≤ n1) (hu : u < n1 * 4294967296 + n0) (ht : t < 4294967296)
 (h : InvI n1 n0 u t a b) (hc : 4294967296 ≤ a ∨ 4294967296 * b + t < a * n0) (hb2 : b + n1 ≤ 4294967295) : 1 ≤ a ∧ InvI n1 n0 u t (a - 1) (b + n1) := by
 obtain ⟨hs1, hs2⟩ := stepI_nat h1 hu ht h hc
 obtain ⟨ha, hb, h3, h4⟩ := h
 refine ⟨by omega, by omega, by omega, hb2, ?_⟩
 have e1 : (a - 1).toNat = a.toNat - 1 := by omega
 have e2 : (b + (n1 : Int)).toNat = b.toNat + n1 := by omega
 rw [e1, e2]
 exact hs2
theorem breakI {n1 n0 u t Q : Nat} {a b : Int} (h1 : 2147483648 ≤ n1) (h0 : n0 < 4294967296) (hu : u < n1 * 4294967296 + n0) (ht : t < 4294967296)
 (hQ : Q = (u * 4294967296 + t) / (n1 * 4294967296 + n0))
 (h : InvI n1 n0 u t a b) (hc : 4294967296 ≤ a ∨ 4294967296 * b + t < a * n0) (hb2 : 4294967296 ≤ b + n1) : a = (Q : Int) + 1 := by
 obtain ⟨hs1, hs2⟩ := stepI_nat h1 hu ht h hc
 obtain ⟨ha, hb, h3, h4⟩ := h
 have htop := h4.top
 have := (stop h1 h0 hs2 (.inr ⟨by omega, by omega⟩)).1.trans hQ.symm
 omega
theorem doneI {n1 n0 u t Q : Nat} {a b : Int} (h1 : 2147483648 ≤ n1) (h0 : n0 < 4294967296)
 (hQ : Q = (u * 4294967296 + t) / (n1 * 4294967296 + n0))
 (h : InvI n1 n0 u t a b) (hc : a * n0 ≤ 4294967296 * b + t) : a = (Q : Int) := by
 obtain ⟨ha, hb, h3, h4⟩ := h
 obtain ⟨x, rfl⟩ := Int.eq_ofNat_of_zero_le ha
 obtain ⟨z, rfl⟩ := Int.eq_ofNat_of_zero_le hb
 simp only [Int.toNat_natCast] at h4
 have := (stop h1 h0 h4 (.inl (by rw [← Int.natCast_mul] at hc; omega))).1.trans hQ.symm
 omega
end Dv
end
section
open Go.RowKit
theorem ret2_u64 {a b c d : Int} (h : a = c) (k : b = d) : Ending.returned (.tuple #[.int .u64 a, .int .u64 b]) = .returned (.tuple #[.int .u64 c, .int .u64 d]) := by rw [h, k]
theorem below_drewN (B : Nat) (w : World) (n : Nat) : Below B w (w.drewN n) := ⟨rfl, rfl, rfl, Nat.le_refl _, fun _ _ => rfl⟩
theorem div64_low (lo y : Nat) (hlo : lo < 18446744073709551616) (hy : y < 18446744073709551616) (h0 : 0 < y) (w : World) :
 Calls Tryz.prog 163 #[.int .u64 0, .int .u64 lo, .int .u64 y] w fun e w' => e = .returned (.tuple #[.int .u64 ((lo / y : Nat) : Int), .int .u64 ((lo % y : Nat) : Int)]) ∧ Below w.heap.size w w' := by
 have hy0 : ((y : Int) == 0) = false := by simp; omega
 go_enter Tryz.func163, Tryz.ntmps163
 go_wp2_with fail
 go_quiet (fail)
 go_wp2
 ((try simp only [Exit.inBlock, Exit.then]); refine bodyPost_ret (results_tmp2 rfl _ _ _) rfl ?_)
 exact ⟨ret2_u64 (by rw [← Int.natCast_ediv, wrapN _ (Nat.lt_of_le_of_lt (Nat.div_le_self _ _) hlo)]) (by rw [Int.natCast_emod]), below_drewN _ _ _⟩
theorem quoN (u n : Nat) (hu : u < 18446744073709551616) : IntKind.u64.wrap ((u : Int) / (n : Int)) = ((u / n : Nat) : Int) := by
 rw [← Int.natCast_ediv, wrapN _ (Nat.lt_of_le_of_lt (Nat.div_le_self _ _) hu)]
theorem quoN' (u n : Nat) : ((u : Int) / (n : Int)) = ((u / n : Nat) : Int) := by rw [← Int.natCast_ediv]
theorem remN_aux (u n : Nat) : (u : Int) - ((u / n : Nat) : Int) * (n : Int) = ((u % n : Nat) : Int) := by
 have h := Nat.div_add_mod u n
 rw [Nat.mul_comm] at h
 rw [mulN]
 generalize u / n * n = x at *
 omega
theorem remN (u n : Nat) (hu : u < 18446744073709551616) : IntKind.u64.wrap ((u : Int) - IntKind.u64.wrap (IntKind.u64.wrap ((u : Int) / (n : Int)) * (n : Int))) = ((u % n : Nat) : Int) := by
 have hm : u % n ≤ u := Nat.mod_le _ _
 have hd : u / n * n ≤ u := Nat.div_mul_le_self _ _
 rw [quoN u n hu, mulN, wrapN _ (by omega), ← mulN, remN_aux, wrapN _ (by omega)]
theorem remN' (u n : Nat) (hu : u < 18446744073709551616) : IntKind.u64.wrap ((u : Int) - IntKind.u64.wrap ((u : Int) / (n : Int) * (n : Int))) = ((u % n : Nat) : Int) := by
 have hm : u % n ≤ u := Nat.mod_le _ _
 have hd : u / n * n ≤ u := Nat.div_mul_le_self _ _
 rw [quoN' u n, mulN, wrapN _ (by omega), ← mulN, remN_aux, wrapN _ (by omega)]
theorem div64_core (hi lo y s Y U L n1 n0 l1 l0 Q1 r1 Q0 r0 : Nat) (hh : hi < y) (h0 : 0 < hi) (hs : s ≤ 63)
 (HC : Hid (∀ W, Calls Tryz.prog 165 #[.int .u64 y] W fun e w' => e = .returned (.int .i64 s) ∧ W = w'))
 (e1 : IntKind.u64.wrap ((y : Int) * 2 ^ s) = Y) (e2 : bits .or .u64 (IntKind.u64.wrap ((hi : Int) * 2 ^ s)) ((lo : Int) / 2 ^ (64 - s)) = U)
 (e3 : IntKind.u64.wrap ((lo : Int) * 2 ^ s) = L) (e4 : (Y : Int) / 4294967296 = n1) (e5 : bits .and .u64 Y 4294967295 = n0)
 (e6 : (L : Int) / 4294967296 = l1) (e7 : bits .and .u64 L 4294967295 = l0)
 (e8 : IntKind.u64.wrap (IntKind.u64.wrap (IntKind.u64.wrap ((U : Int) * 4294967296) + (l1 : Int)) - IntKind.u64.wrap ((Q1 : Int) * (Y : Int))) = r1)
 (e9 : IntKind.u64.wrap (IntKind.u64.wrap (IntKind.u64.wrap ((r1 : Int) * 4294967296) + (l0 : Int)) - IntKind.u64.wrap ((Q0 : Int) * (Y : Int))) = r0)
 (b1 : 2147483648 ≤ n1) (b2 : n1 < 4294967296) (b3 : n0 < 4294967296) (b4 : l1 < 4294967296) (b5 : l0 < 4294967296) (b6 : U < 18446744073709551616) (b7 : r1 < 18446744073709551616)
 (b8 : Q1 < 4294967296) (b9 : Q0 < 4294967296) (hU : Hid (U < n1 * 4294967296 + n0)) (hr1 : Hid (r1 < n1 * 4294967296 + n0))
 (HQ1 : Hid (Q1 = (U * 4294967296 + l1) / (n1 * 4294967296 + n0))) (HQ0 : Hid (Q0 = (r1 * 4294967296 + l0) / (n1 * 4294967296 + n0)))
 (w : World) :
 Calls Tryz.prog 163 #[.int .u64 hi, .int .u64 lo, .int .u64 y] w fun e w' => e = .returned (.tuple #[.int .u64 ((Q1 * 4294967296 + Q0 : Nat) : Int), .int .u64 ((r0 / 2 ^ s : Nat) : Int)]) ∧ Below w.heap.size w w' := by
 have hy0 : ((y : Int) == 0) = false := by simp; omega
 have hh0 : ((hi : Int) == 0) = false := by simp; omega
 go_enter Tryz.func163, Tryz.ntmps163
 go_wp2_with (go_at_call 165; go_must (refine (HC.out _).mono ?_; rintro e w' ⟨rfl, rfl⟩))
 go_loop [15, 16] (fun x z => ∃ a b : Int, Dv.InvI n1 n0 U l1 a b ∧ x = .int .u64 a ∧ z = .int .u64 b) (fun x _ => (intOf x).toNat)
 case atStart => exact ⟨_, _, Dv.startI b1 b2 b3 hU.out b4, by (first | exact congrArg (Value.int .u64) (quoN U n1 b6) | exact congrArg (Value.int .u64) (quoN' U n1)), by first | exact congrArg (Value.int .u64) (remN U n1 b6) | exact congrArg (Value.int .u64) (remN' U n1 b6)⟩
 case round =>
  obtain ⟨a, b, hI, rfl, rfl⟩ := hrel
  clear e1 e2 e3 e4 e5 e6 e7 hy0 hh0
  obtain ⟨i1, i2, i3, i4⟩ := Dv.boundsI hI
  have HI := Lib.hid hI
  clear hI
  by_cases hA : 4294967296 ≤ a
  ·by_cases hC : 4294967296 ≤ b + (n1 : Int)
   ·obtain rfl := Dv.breakI b1 b3 hU.out b4 HQ1.out HI.out (.inl hA) hC
    clear HI i1 i2
    go_wp2
    go_loop [18, 16] (fun x z => ∃ a b : Int, Dv.InvI n1 n0 r1 l0 a b ∧ x = .int .u64 a ∧ z = .int .u64 b) (fun x _ => (intOf x).toNat)
    case atStart => exact ⟨_, _, Dv.startI b1 b2 b3 hr1.out b5, by (first | exact congrArg (Value.int .u64) (quoN r1 n1 b7) | exact congrArg (Value.int .u64) (quoN' r1 n1)), by first | exact congrArg (Value.int .u64) (remN r1 n1 b7) | exact congrArg (Value.int .u64) (remN' r1 n1 b7)⟩
    case round =>
     obtain ⟨a, b, hI, rfl, rfl⟩ := hrel
     skip
     obtain ⟨i1, i2, i3, i4⟩ := Dv.boundsI hI
     have HI := Lib.hid hI
     clear hI
     by_cases hA : 4294967296 ≤ a
     ·by_cases hC : 4294967296 ≤ b + (n1 : Int)
      ·obtain rfl := Dv.breakI b1 b3 hr1.out b5 HQ0.out HI.out (.inl hA) hC
       clear HI i1 i2
       go_wp2
       ((try simp only [Exit.inBlock, Exit.then]); refine bodyPost_ret (results_tmp2 rfl _ _ _) rfl ?_)
       exact ⟨rfl, Below.refl _ _⟩
      ·obtain ⟨h1a, hI2⟩ := Dv.stepI b1 hr1.out b5 HI.out (.inl hA) (by omega)
       have HI2 := Lib.hid hI2
       clear hI2 HI
       go_wp2
       go_round
       case rel => exact ⟨_, _, HI2.out, rfl, rfl⟩
       case measure => simp [intOf]; omega
     ·obtain ⟨P, eP, bP1, bP2⟩ := Dv.prodI i1 (show a ≤ 4294967295 by omega) b3
      by_cases hT : 4294967296 * b + (l0 : Int) < P
      ·by_cases hC : 4294967296 ≤ b + (n1 : Int)
       ·obtain rfl := Dv.breakI b1 b3 hr1.out b5 HQ0.out HI.out (.inr (by rw [eP]; exact hT)) hC
        clear HI i1 i2
        go_wp2
        ((try simp only [Exit.inBlock, Exit.then]); refine bodyPost_ret (results_tmp2 rfl _ _ _) rfl ?_)
        exact ⟨rfl, Below.refl _ _⟩
       ·obtain ⟨h1a, hI2⟩ := Dv.stepI b1 hr1.out b5 HI.out (.inr (by rw [eP]; exact hT)) (by omega)
        have HI2 := Lib.hid hI2
        clear hI2 HI
        go_wp2
        go_round
        case rel => exact ⟨_, _, HI2.out, rfl, rfl⟩
        case measure => simp [intOf]; omega
      ·obtain rfl := Dv.doneI b1 b3 HQ0.out HI.out (by rw [eP]; omega)
       clear HI i1 i2
       go_wp2
       ((try simp only [Exit.inBlock, Exit.then]); refine bodyPost_ret (results_tmp2 rfl _ _ _) rfl ?_)
       exact ⟨rfl, Below.refl _ _⟩
   ·obtain ⟨h1a, hI2⟩ := Dv.stepI b1 hU.out b4 HI.out (.inl hA) (by omega)
    have HI2 := Lib.hid hI2
    clear hI2 HI
    go_wp2
    go_round
    case rel => exact ⟨_, _, HI2.out, rfl, rfl⟩
    case measure => simp [intOf]; omega
  ·obtain ⟨P, eP, bP1, bP2⟩ := Dv.prodI i1 (show a ≤ 4294967295 by omega) b3
   by_cases hT : 4294967296 * b + (l1 : Int) < P
   ·by_cases hC : 4294967296 ≤ b + (n1 : Int)
    ·obtain rfl := Dv.breakI b1 b3 hU.out b4 HQ1.out HI.out (.inr (by rw [eP]; exact hT)) hC
     clear HI i1 i2
     go_wp2
     go_loop [18, 16] (fun x z => ∃ a b : Int, Dv.InvI n1 n0 r1 l0 a b ∧ x = .int .u64 a ∧ z = .int .u64 b) (fun x _ => (intOf x).toNat)
     case atStart => exact ⟨_, _, Dv.startI b1 b2 b3 hr1.out b5, by (first | exact congrArg (Value.int .u64) (quoN r1 n1 b7) | exact congrArg (Value.int .u64) (quoN' r1 n1)), by first | exact congrArg (Value.int .u64) (remN r1 n1 b7) | exact congrArg (Value.int .u64) (remN' r1 n1 b7)⟩
     case round =>
      obtain ⟨a, b, hI, rfl, rfl⟩ := hrel
      skip
      obtain ⟨i1, i2, i3, i4⟩ := Dv.boundsI hI
      have HI := Lib.hid hI
      clear hI
      by_cases hA : 4294967296 ≤ a
      ·by_cases hC : 4294967296 ≤ b + (n1 : Int)
       ·obtain rfl := Dv.breakI b1 b3 hr1.out b5 HQ0.out HI.out (.inl hA) hC
        clear HI i1 i2
        go_wp2
        ((try simp only [Exit.inBlock, Exit.then]); refine bodyPost_ret (results_tmp2 rfl _ _ _) rfl ?_)
        exact ⟨rfl, Below.refl _ _⟩
       ·obtain ⟨h1a, hI2⟩ := Dv.stepI b1 hr1.out b5 HI.out (.inl hA) (by omega)
        have HI2 := Lib.hid hI2
        clear hI2 HI
        go_wp2
        go_round
        case rel => exact ⟨_, _, HI2.out, rfl, rfl⟩
        case measure => simp [intOf]; omega
      ·obtain ⟨P, eP, bP1, bP2⟩ := Dv.prodI i1 (show a ≤ 4294967295 by omega) b3
       by_cases hT : 4294967296 * b + (l0 : Int) < P
       ·by_cases hC : 4294967296 ≤ b + (n1 : Int)
        ·obtain rfl := Dv.breakI b1 b3 hr1.out b5 HQ0.out HI.out (.inr (by rw [eP]; exact hT)) hC
         clear HI i1 i2
         go_wp2
         ((try simp only [Exit.inBlock, Exit.then]); refine bodyPost_ret (results_tmp2 rfl _ _ _) rfl ?_)
         exact ⟨rfl, Below.refl _ _⟩
        ·obtain ⟨h1a, hI2⟩ := Dv.stepI b1 hr1.out b5 HI.out (.inr (by rw [eP]; exact hT)) (by omega)
         have HI2 := Lib.hid hI2
         clear hI2 HI
         go_wp2
         go_round
         case rel => exact ⟨_, _, HI2.out, rfl, rfl⟩
         case measure => simp [intOf]; omega
       ·obtain rfl := Dv.doneI b1 b3 HQ0.out HI.out (by rw [eP]; omega)
        clear HI i1 i2
        go_wp2
        ((try simp only [Exit.inBlock, Exit.then]); refine bodyPost_ret (results_tmp2 rfl _ _ _) rfl ?_)
        exact ⟨rfl, Below.refl _ _⟩
    ·obtain ⟨h1a, hI2⟩ := Dv.stepI b1 hU.out b4 HI.out (.inr (by rw [eP]; exact hT)) (by omega)
     have HI2 := Lib.hid hI2
     clear hI2 HI
     go_wp2
     go_round
     case rel => exact ⟨_, _, HI2.out, rfl, rfl⟩
     case measure => simp [intOf]; omega
   ·obtain rfl := Dv.doneI b1 b3 HQ1.out HI.out (by rw [eP]; omega)
    clear HI i1 i2
    go_wp2
    go_loop [18, 16] (fun x z => ∃ a b : Int, Dv.InvI n1 n0 r1 l0 a b ∧ x = .int .u64 a ∧ z = .int .u64 b) (fun x _ => (intOf x).toNat)
    case atStart => exact ⟨_, _, Dv.startI b1 b2 b3 hr1.out b5, by (first | exact congrArg (Value.int .u64) (quoN r1 n1 b7) | exact congrArg (Value.int .u64) (quoN' r1 n1)), by first | exact congrArg (Value.int .u64) (remN r1 n1 b7) | exact congrArg (Value.int .u64) (remN' r1 n1 b7)⟩
    case round =>
     obtain ⟨a, b, hI, rfl, rfl⟩ := hrel
     skip
     obtain ⟨i1, i2, i3, i4⟩ := Dv.boundsI hI
     have HI := Lib.hid hI
     clear hI
     by_cases hA : 4294967296 ≤ a
     ·by_cases hC : 4294967296 ≤ b + (n1 : Int)
      ·obtain rfl := Dv.breakI b1 b3 hr1.out b5 HQ0.out HI.out (.inl hA) hC
       clear HI i1 i2
       go_wp2
       ((try simp only [Exit.inBlock, Exit.then]); refine bodyPost_ret (results_tmp2 rfl _ _ _) rfl ?_)
       exact ⟨rfl, Below.refl _ _⟩
      ·obtain ⟨h1a, hI2⟩ := Dv.stepI b1 hr1.out b5 HI.out (.inl hA) (by omega)
       have HI2 := Lib.hid hI2
       clear hI2 HI
       go_wp2
       go_round
       case rel => exact ⟨_, _, HI2.out, rfl, rfl⟩
       case measure => simp [intOf]; omega
     ·obtain ⟨P, eP, bP1, bP2⟩ := Dv.prodI i1 (show a ≤ 4294967295 by omega) b3
      by_cases hT : 4294967296 * b + (l0 : Int) < P
      ·by_cases hC : 4294967296 ≤ b + (n1 : Int)
       ·obtain rfl := Dv.breakI b1 b3 hr1.out b5 HQ0.out HI.out (.inr (by rw [eP]; exact hT)) hC
        clear HI i1 i2
        go_wp2
        ((try simp only [Exit.inBlock, Exit.then]); refine bodyPost_ret (results_tmp2 rfl _ _ _) rfl ?_)
        exact ⟨rfl, Below.refl _ _⟩
       ·obtain ⟨h1a, hI2⟩ := Dv.stepI b1 hr1.out b5 HI.out (.inr (by rw [eP]; exact hT)) (by omega)
        have HI2 := Lib.hid hI2
        clear hI2 HI
        go_wp2
        go_round
        case rel => exact ⟨_, _, HI2.out, rfl, rfl⟩
        case measure => simp [intOf]; omega
      ·obtain rfl := Dv.doneI b1 b3 HQ0.out HI.out (by rw [eP]; omega)
       clear HI i1 i2
       go_wp2
       ((try simp only [Exit.inBlock, Exit.then]); refine bodyPost_ret (results_tmp2 rfl _ _ _) rfl ?_)
       exact ⟨rfl, Below.refl _ _⟩
theorem restN (N x r : Nat) (U l : Nat) (hN : N = U * 4294967296 + l) (hx : x + r = N) (hr : r < 18446744073709551616) :
 IntKind.u64.wrap (IntKind.u64.wrap (IntKind.u64.wrap ((U : Int) * 4294967296) + (l : Int)) - IntKind.u64.wrap (x : Int)) = r := by
 simp only [IntKind.wrap_u64]
 omega
theorem digits_join (U L : Nat) : (U * 4294967296 + L / 4294967296) * 4294967296 + L % 4294967296 = U * 18446744073709551616 + L := by omega
theorem digits_of (Y : Nat) : Y / 4294967296 * 4294967296 + Y % 4294967296 = Y := by omega
theorem digit_top (Y : Nat) (h : 9223372036854775808 ≤ Y) : 2147483648 ≤ Y / 4294967296 := by omega
theorem digit_high (Y : Nat) (h : Y < 18446744073709551616) : Y / 4294967296 < 4294967296 := by omega
theorem castPow (a s : Nat) : (a : Int) * 2 ^ s = ((a * 2 ^ s : Nat) : Int) := by
 rw [Int.natCast_mul, Int.natCast_pow]; first | done | rfl
theorem castPowDiv (a s : Nat) : (a : Int) / 2 ^ s = ((a / 2 ^ s : Nat) : Int) := by
 rw [Int.natCast_ediv, Int.natCast_pow]; first | done | rfl
theorem div64_high (hi lo y : Nat) (hlo : lo < 18446744073709551616) (hy : y < 18446744073709551616) (h0 : 0 < hi) (hh : hi < y) (w : World) :
 Calls Tryz.prog 163 #[.int .u64 hi, .int .u64 lo, .int .u64 y] w fun e w' => e = .returned (.tuple #[.int .u64 (((hi * 18446744073709551616 + lo) / y : Nat) : Int), .int .u64 (((hi * 18446744073709551616 + lo) % y : Nat) : Int)]) ∧ Below w.heap.size w w' := by
 obtain ⟨k, hk, y1, y2⟩ := bitLen_bounds 64 y (by omega) (by omega)
 have hk63 : k ≤ 63 := by
  have := Lib.bitLen_le y 64 (by omega) (by omega)
  unfold Lib.bitLen at this
  omega
 obtain ⟨s, hs⟩ : ∃ s, s = 64 - Lib.bitLen y := ⟨_, rfl⟩
 have hsk : s = 63 - k := by rw [hs]; unfold Lib.bitLen; omega
 have HC : Hid (∀ W, Calls Tryz.prog 165 #[.int .u64 y] W fun e w' => e = .returned (.int .i64 s) ∧ W = w') := by
  apply Lib.hid; intro W; rw [hs]; exact leadingZeros_any y hy W
 obtain ⟨S, hS⟩ : ∃ S, S = 2 ^ s := ⟨_, rfl⟩
 obtain ⟨T, hT⟩ : ∃ T, T = 2 ^ (64 - s) := ⟨_, rfl⟩
 have hST : S * T = 18446744073709551616 := by
  rw [hS, hT, ← Nat.pow_add, show s + (64 - s) = 64 by omega]
 have hSpos : 0 < S := by rw [hS]; exact Nat.pos_of_ne_zero (by simp)
 have hYlow : 9223372036854775808 ≤ y * S := by
  have h := Nat.mul_le_mul_right S y1
  rw [hS, hsk, ← Nat.pow_add, show k + (63 - k) = 63 by omega] at h
  rw [hS, hsk]
  exact h
 have hYhigh : y * S < 18446744073709551616 := by
  have h := Nat.mul_lt_mul_of_pos_right y2 hSpos
  rw [hS, hsk, ← Nat.pow_add, show k + 1 + (63 - k) = 64 by omega] at h
  rw [hS, hsk]
  exact h
 obtain ⟨hU, hT2⟩ := Dv.high_lt (lo := lo) hST hlo hh
 have hsh := Dv.shifted hi lo S T hST hSpos
 obtain ⟨c, hc⟩ : ∃ c, c = lo / T := ⟨_, rfl⟩
 rw [← hc] at hU hT2 hsh
 have hUhi : hi * S < 18446744073709551616 := Nat.lt_of_le_of_lt (Nat.le_add_right _ c) (Nat.lt_trans hU hYhigh)
 have hsc := Dv.scaled (hi * 18446744073709551616 + lo) y S hSpos
 have e1 : IntKind.u64.wrap ((y : Int) * 2 ^ s) = ((y * S : Nat) : Int) := by rw [castPow, ← hS, wrapN _ hYhigh]
 have e2 : bits .or .u64 (IntKind.u64.wrap ((hi : Int) * 2 ^ s)) ((lo : Int) / 2 ^ (64 - s)) = ((hi * S + c : Nat) : Int) := by
  have hc64 : c < 18446744073709551616 := by rw [hc]; exact Nat.lt_of_le_of_lt (Nat.div_le_self _ _) hlo
  rw [castPow, castPowDiv, ← hS, ← hT, ← hc, wrapN _ hUhi, orN _ _ hUhi hc64]
  have h := Nat.two_pow_add_eq_or_of_lt (i := s) (b := c) (by rw [← hS]; exact hT2) hi
  rw [← hS, Nat.mul_comm S hi] at h
  rw [← h]
 have e3 : IntKind.u64.wrap ((lo : Int) * 2 ^ s) = ((lo * S % 18446744073709551616 : Nat) : Int) := by rw [castPow, ← hS, wrapM]
 have hL : lo * S % 18446744073709551616 < 18446744073709551616 := Nat.mod_lt _ (by omega)
 generalize lo * S % 18446744073709551616 = L at *
 generalize hi * S + c = U at *
 obtain ⟨Y, hY⟩ : ∃ Y, Y = y * S := ⟨_, rfl⟩
 rw [← hY] at e1 hU hYlow hYhigh hsc
 have hYd := Nat.div_add_mod Y 4294967296
 have hLd := Nat.div_add_mod L 4294967296
 have hY2 := digits_of Y
 have hn1 := digit_top Y hYlow
 have hl1 := digit_high L hL
 have hL2 := digits_join U L
 have hYpos : 0 < Y := Nat.lt_of_lt_of_le (by decide) hYlow
 have ht := Dv.two' (U * 4294967296 + L / 4294967296) (L % 4294967296) Y hYpos
 rw [hL2, ← hsh] at ht
 have hr1 := Nat.mod_lt (U * 4294967296 + L / 4294967296) hYpos
 have hd1 := Nat.div_add_mod (U * 4294967296 + L / 4294967296) Y
 have hq1 := Dv.digit_lt (n1 := Y / 4294967296) (n0 := Y % 4294967296) (u := U) (t := L / 4294967296) hn1 (by rw [hY2]; exact hU) hl1
 rw [hY2] at hq1
 have hr0 := Nat.mod_lt ((U * 4294967296 + L / 4294967296) % Y * 4294967296 + L % 4294967296) hYpos
 have hd0 := Nat.div_add_mod ((U * 4294967296 + L / 4294967296) % Y * 4294967296 + L % 4294967296) Y
 have hq0 := Dv.digit_lt (n1 := Y / 4294967296) (n0 := Y % 4294967296) (u := (U * 4294967296 + L / 4294967296) % Y) (t := L % 4294967296) hn1 (by rw [hY2]; exact hr1) (Nat.mod_lt _ (by decide))
 rw [hY2] at hq0
 rw [← hsc.1, ← hsc.2, ht.1, ht.2]
 have HT := Lib.hid ht
 clear ht hsc hsh
 obtain ⟨Q1, hQ1⟩ : ∃ Q, Q = (U * 4294967296 + L / 4294967296) / Y := ⟨_, rfl⟩
 obtain ⟨r1, hR1⟩ : ∃ r, r = (U * 4294967296 + L / 4294967296) % Y := ⟨_, rfl⟩
 rw [← hQ1, ← hR1] at hd1
 rw [← hR1] at hd0 hq0 hr0 hr1
 rw [← hQ1] at hq1
 rw [← hQ1, ← hR1]
 obtain ⟨Q0, hQ0⟩ : ∃ Q, Q = (r1 * 4294967296 + L % 4294967296) / Y := ⟨_, rfl⟩
 obtain ⟨r0, hR0⟩ : ∃ r, r = (r1 * 4294967296 + L % 4294967296) % Y := ⟨_, rfl⟩
 rw [← hQ0, ← hR0] at hd0
 rw [← hR0] at hr0
 rw [← hQ0] at hq0
 rw [← hQ0, ← hR0, hS]
 refine div64_core hi lo y s Y U L (Y / 4294967296) (Y % 4294967296) (L / 4294967296) (L % 4294967296) Q1 r1 Q0 r0 hh h0 (by rw [hsk]; exact Nat.sub_le _ _) HC e1 e2 e3 (divN Y) (maskN Y hYhigh) (divN L) (maskN L hL)
  (by rw [mulN]; exact restN (U * 4294967296 + L / 4294967296) (Q1 * Y) r1 U (L / 4294967296) rfl (by rw [Nat.mul_comm]; exact hd1) (Nat.lt_trans hr1 hYhigh))
  (by rw [mulN]; exact restN (r1 * 4294967296 + L % 4294967296) (Q0 * Y) r0 r1 (L % 4294967296) rfl (by rw [Nat.mul_comm]; exact hd0) (Nat.lt_trans hr0 hYhigh))
  hn1 (digit_high Y hYhigh) (Nat.mod_lt _ (by decide)) hl1 (Nat.mod_lt _ (by decide)) (Nat.lt_trans hU hYhigh) (Nat.lt_trans hr1 hYhigh) hq1 hq0 (Lib.hid (by rw [hY2]; exact hU)) (Lib.hid (by rw [hY2]; exact hr1)) (Lib.hid (by rw [hY2]; exact hQ1)) (Lib.hid (by rw [hY2]; exact hQ0)) w
theorem div64_any (hi lo y : Nat) (hlo : lo < 18446744073709551616) (hy : y < 18446744073709551616) (hh : hi < y) (w : World) :
 Calls Tryz.prog 163 #[.int .u64 hi, .int .u64 lo, .int .u64 y] w fun e w' => e = .returned (.tuple #[.int .u64 (((hi * 18446744073709551616 + lo) / y : Nat) : Int), .int .u64 (((hi * 18446744073709551616 + lo) % y : Nat) : Int)]) ∧ Below w.heap.size w w' := by
 by_cases h : hi = 0
 ·subst h
  rw [Nat.zero_mul, Nat.zero_add]
  exact div64_low lo y hlo hy hh w
 ·exact div64_high hi lo y hlo hy (by omega) hh w
end
section
open Go.RowKit
def MdPost (a b c : Int) (w : World) (e : Ending) (w' : World) : Prop := ∃ n ok, Fx.Md a b c n ok ∧ e = .returned (.tuple #[.int .i64 n, .bool ok]) ∧ Below w.heap.size w w'
theorem md_zero_any (a b : Int) (w : World) :
 Calls Tryz.prog 156 #[.int .i64 a, .int .i64 b, .int .i64 0] w fun e w' => MdPost a b 0 w e w' := by
 go_enter Tryz.func156, Tryz.ntmps156
 go_wp2
 ((try simp only [Exit.inBlock, Exit.then]); refine bodyPost_ret (results_tmp2 rfl _ _ _) rfl ?_)
 exact ⟨_, _, Fx.md_zero rfl, rfl, Below.refl _ _⟩
structure MdIn (a b c x y d hi lo q r : Int) : Prop where
 A : ∀ W, Calls Tryz.prog 162 #[.int .i64 a] W fun e w' => e = .returned (.int .u64 x) ∧ W = w'
 B : ∀ W, Calls Tryz.prog 162 #[.int .i64 b] W fun e w' => e = .returned (.int .u64 y) ∧ W = w'
 C : ∀ W, Calls Tryz.prog 162 #[.int .i64 c] W fun e w' => e = .returned (.int .u64 d) ∧ W = w'
 M : ∀ W, Calls Tryz.prog 161 #[.int .u64 x, .int .u64 y] W fun e w' => e = .returned (.tuple #[.int .u64 hi, .int .u64 lo]) ∧ W = w'
 D : hi < d → ∀ W, Calls Tryz.prog 163 #[.int .u64 hi, .int .u64 lo, .int .u64 d] W fun e w' => e = .returned (.tuple #[.int .u64 q, .int .u64 r]) ∧ Below W.heap.size W w'
 d0 : 0 < d
 d1 : d ≤ 9223372036854775808
 q0 : 0 ≤ q
 q1 : q ≤ 18446744073709551615
 r0 : 0 ≤ r
 r1 : r < d
theorem md_over (a b c x y d hi lo q r : Int) (H : MdIn a b c x y d hi lo q r) (HC0 : Hid (c ≠ 0)) (hd : d ≤ hi) (HQ : Hid (4611686018427387904 < Fx.mdq a b c)) (w : World) :
 Calls Tryz.prog 156 #[.int .i64 a, .int .i64 b, .int .i64 c] w fun e w' => MdPost a b c w e w' := by
 have hc0 : (c == 0) = false := by simp [HC0.out]
 go_enter Tryz.func156, Tryz.ntmps156
 go_wp2_with fail
 (go_at_call 162; go_must (refine (H.A _).mono ?_; rintro e w' ⟨rfl, rfl⟩))
 go_wp2_with fail
 (go_at_call 162; go_must (refine (H.B _).mono ?_; rintro e w' ⟨rfl, rfl⟩))
 go_wp2_with fail
 (go_at_call 161; go_must (refine (H.M _).mono ?_; rintro e w' ⟨rfl, rfl⟩))
 go_wp2_with fail
 (go_at_call 162; go_must (refine (H.C _).mono ?_; rintro e w' ⟨rfl, rfl⟩))
 go_wp2_with fail
 all_goals
  ((try simp only [Exit.inBlock, Exit.then]); refine bodyPost_ret (results_tmp2 rfl _ _ _) rfl ?_)
  first
  | exact ⟨_, _, Fx.md_big (by have := HQ.out; omega), rfl, Bq⟩
  | exact ⟨_, _, Fx.md_neg HC0.out HQ.out.symm (by omega) ‹_›, rfl, Bq⟩
  | exact ⟨_, _, Fx.md_pos HC0.out HQ.out.symm (by omega) ‹_›, rfl, Bq⟩
theorem md_most (a b c x y d hi lo q r : Int) (H : MdIn a b c x y d hi lo q r) (HC0 : Hid (c ≠ 0)) (hd : hi < d) (hq : 4611686018427387904 < q) (HQ : Hid (4611686018427387904 < Fx.mdq a b c)) (w : World) :
 Calls Tryz.prog 156 #[.int .i64 a, .int .i64 b, .int .i64 c] w fun e w' => MdPost a b c w e w' := by
 have hc0 : (c == 0) = false := by simp [HC0.out]
 have HD := Lib.hid (H.D hd)
 have d1 := H.d1
 have q0 := H.q0
 have r0 := H.r0
 have r1 := H.r1
 go_enter Tryz.func156, Tryz.ntmps156
 go_wp2_with fail
 (go_at_call 162; go_must (refine (H.A _).mono ?_; rintro e w' ⟨rfl, rfl⟩))
 go_wp2_with fail
 (go_at_call 162; go_must (refine (H.B _).mono ?_; rintro e w' ⟨rfl, rfl⟩))
 go_wp2_with fail
 (go_at_call 161; go_must (refine (H.M _).mono ?_; rintro e w' ⟨rfl, rfl⟩))
 go_wp2_with fail
 (go_at_call 162; go_must (refine (H.C _).mono ?_; rintro e w' ⟨rfl, rfl⟩))
 go_wp2_with fail
 (go_at_call 163; go_must (refine (HD.out _).mono ?_; rintro e w' ⟨rfl, hb⟩; obtain ⟨hc, hf⟩ := bcell hb; (try have hz0 : w.heap.size < w'.heap.size := Bz hb); (try have hz1 : w.heap.size + 1 < w'.heap.size := Bz hb); (try have hz2 : w.heap.size + 1 + 1 < w'.heap.size := Bz hb); have hz := hb.size; (try simp at hz)))
 go_wp2_with fail
 all_goals
  ((try simp only [Exit.inBlock, Exit.then]); refine bodyPost_ret (results_tmp2 rfl _ _ _) rfl ?_)
  first
  | exact ⟨_, _, Fx.md_big (by have := HQ.out; omega), rfl, Bq⟩
  | exact ⟨_, _, Fx.md_neg HC0.out HQ.out.symm (by omega) ‹_›, rfl, Bq⟩
  | exact ⟨_, _, Fx.md_pos HC0.out HQ.out.symm (by omega) ‹_›, rfl, Bq⟩
theorem md_up (a b c x y d hi lo q r : Int) (H : MdIn a b c x y d hi lo q r) (HC0 : Hid (c ≠ 0)) (hd : hi < d) (hq : q ≤ 4611686018427387904) (hr : d ≤ 2 * r) (HQ : Hid ((Fx.mdq a b c : Int) = q + 1)) (w : World) :
 Calls Tryz.prog 156 #[.int .i64 a, .int .i64 b, .int .i64 c] w fun e w' => MdPost a b c w e w' := by
 have hc0 : (c == 0) = false := by simp [HC0.out]
 have HD := Lib.hid (H.D hd)
 have d1 := H.d1
 have q0 := H.q0
 have r0 := H.r0
 have r1 := H.r1
 go_enter Tryz.func156, Tryz.ntmps156
 go_wp2_with fail
 (go_at_call 162; go_must (refine (H.A _).mono ?_; rintro e w' ⟨rfl, rfl⟩))
 go_wp2_with fail
 (go_at_call 162; go_must (refine (H.B _).mono ?_; rintro e w' ⟨rfl, rfl⟩))
 go_wp2_with fail
 (go_at_call 161; go_must (refine (H.M _).mono ?_; rintro e w' ⟨rfl, rfl⟩))
 go_wp2_with fail
 (go_at_call 162; go_must (refine (H.C _).mono ?_; rintro e w' ⟨rfl, rfl⟩))
 go_wp2_with fail
 (go_at_call 163; go_must (refine (HD.out _).mono ?_; rintro e w' ⟨rfl, hb⟩; obtain ⟨hc, hf⟩ := bcell hb; (try have hz0 : w.heap.size < w'.heap.size := Bz hb); (try have hz1 : w.heap.size + 1 < w'.heap.size := Bz hb); (try have hz2 : w.heap.size + 1 + 1 < w'.heap.size := Bz hb); have hz := hb.size; (try simp at hz)))
 go_wp2_with fail
 all_goals
  ((try simp only [Exit.inBlock, Exit.then]); refine bodyPost_ret (results_tmp2 rfl _ _ _) rfl ?_)
  first
  | exact ⟨_, _, Fx.md_big (by have := HQ.out; omega), rfl, Bq⟩
  | exact ⟨_, _, Fx.md_neg HC0.out HQ.out.symm (by omega) ‹_›, rfl, Bq⟩
  | exact ⟨_, _, Fx.md_pos HC0.out HQ.out.symm (by omega) ‹_›, rfl, Bq⟩
theorem md_down (a b c x y d hi lo q r : Int) (H : MdIn a b c x y d hi lo q r) (HC0 : Hid (c ≠ 0)) (hd : hi < d) (hq : q ≤ 4611686018427387904) (hr : 2 * r < d) (HQ : Hid ((Fx.mdq a b c : Int) = q)) (w : World) :
 Calls Tryz.prog 156 #[.int .i64 a, .int .i64 b, .int .i64 c] w fun e w' => MdPost a b c w e w' := by
 have hc0 : (c == 0) = false := by simp [HC0.out]
 have HD := Lib.hid (H.D hd)
 have d1 := H.d1
 have q0 := H.q0
 have r0 := H.r0
 have r1 := H.r1
 go_enter Tryz.func156, Tryz.ntmps156
 go_wp2_with fail
 (go_at_call 162; go_must (refine (H.A _).mono ?_; rintro e w' ⟨rfl, rfl⟩))
 go_wp2_with fail
 (go_at_call 162; go_must (refine (H.B _).mono ?_; rintro e w' ⟨rfl, rfl⟩))
 go_wp2_with fail
 (go_at_call 161; go_must (refine (H.M _).mono ?_; rintro e w' ⟨rfl, rfl⟩))
 go_wp2_with fail
 (go_at_call 162; go_must (refine (H.C _).mono ?_; rintro e w' ⟨rfl, rfl⟩))
 go_wp2_with fail
 (go_at_call 163; go_must (refine (HD.out _).mono ?_; rintro e w' ⟨rfl, hb⟩; obtain ⟨hc, hf⟩ := bcell hb; (try have hz0 : w.heap.size < w'.heap.size := Bz hb); (try have hz1 : w.heap.size + 1 < w'.heap.size := Bz hb); (try have hz2 : w.heap.size + 1 + 1 < w'.heap.size := Bz hb); have hz := hb.size; (try simp at hz)))
 go_wp2_with fail
 all_goals
  ((try simp only [Exit.inBlock, Exit.then]); refine bodyPost_ret (results_tmp2 rfl _ _ _) rfl ?_)
  first
  | exact ⟨_, _, Fx.md_big (by have := HQ.out; omega), rfl, Bq⟩
  | exact ⟨_, _, Fx.md_neg HC0.out HQ.out.symm (by omega) ‹_›, rfl, Bq⟩
  | exact ⟨_, _, Fx.md_pos HC0.out HQ.out.symm (by omega) ‹_›, rfl, Bq⟩
theorem mulDiv_any (a b c : Int) (a1 : -9223372036854775808 ≤ a) (a2 : a ≤ 9223372036854775807) (b1 : -9223372036854775808 ≤ b) (b2 : b ≤ 9223372036854775807) (c1 : -9223372036854775808 ≤ c) (c2 : c ≤ 9223372036854775807) (w : World) :
 Calls Tryz.prog 156 #[.int .i64 a, .int .i64 b, .int .i64 c] w fun e w' => MdPost a b c w e w' := by
 by_cases hc : c = 0
 ·subst hc; exact md_zero_any a b w
 have hx := Fx.mag_le a1 a2
 have hy := Fx.mag_le b1 b2
 have hd := Fx.mag_le c1 c2
 have hd0 := Fx.mag_pos hc
 obtain ⟨p, hp⟩ : ∃ p, p = Fx.mag a * Fx.mag b := ⟨_, rfl⟩
 have hmq : Fx.mdq a b c = Fx.rnd p (Fx.mag c) := by unfold Fx.mdq; rw [← hp]
 have hw := Fx.whole p
 have hp128 : p / 18446744073709551616 < 18446744073709551616 := by
  have := Nat.mul_le_mul hx hy
  rw [← hp] at this
  rw [Nat.div_lt_iff_lt_mul (by decide)]
  exact Nat.lt_of_le_of_lt this (by decide)
 have hrd := Nat.mod_lt p hd0
 have hge := Fx.rnd_ge p (Fx.mag c)
 have H : MdIn a b c (Fx.mag a) (Fx.mag b) (Fx.mag c) ((p / 18446744073709551616 : Nat) : Int) ((p % 18446744073709551616 : Nat) : Int) (if p / 18446744073709551616 < Fx.mag c then ((p / Fx.mag c : Nat) : Int) else 0) ((p % Fx.mag c : Nat) : Int) := by
  refine ⟨fun W => magnitude_any a a1 a2 W, fun W => magnitude_any b b1 b2 W, fun W => magnitude_any c c1 c2 W, fun W => ?_, fun h W => ?_, by omega, by omega, ?_, ?_, by omega, by omega⟩
  ·have := mul64_any (Fx.mag a) (Fx.mag b) (by omega) (by omega) W
   rw [← hp] at this
   exact this
  ·have hlt : p / 18446744073709551616 < Fx.mag c := by omega
   have := div64_any (p / 18446744073709551616) (p % 18446744073709551616) (Fx.mag c) (Nat.mod_lt _ (by decide)) (by omega) hlt W
   rw [hw] at this
   rw [if_pos hlt]
   exact this
  ·split
   ·exact Int.natCast_nonneg _
   ·exact Int.le_refl _
  ·split
   ·rename_i h
    have : p / Fx.mag c < 18446744073709551616 := by
     rw [Nat.div_lt_iff_lt_mul hd0]
     have h3 := Nat.div_add_mod p 18446744073709551616
     have h4 := Nat.mod_lt p (show 0 < 18446744073709551616 by decide)
     omega
    omega
   ·omega
 by_cases h1 : p / 18446744073709551616 < Fx.mag c
 ·rw [if_pos h1] at H
  by_cases h2 : 4611686018427387904 < p / Fx.mag c
  ·exact md_most a b c _ _ _ _ _ _ _ H (Lib.hid hc) (by omega) (by omega) (Lib.hid (by rw [hmq]; omega)) w
  ·by_cases h3 : Fx.mag c ≤ 2 * (p % Fx.mag c)
   ·exact md_up a b c _ _ _ _ _ _ _ H (Lib.hid hc) (by omega) (by omega) (by omega) (Lib.hid (by rw [hmq, Fx.rnd_up h3]; omega)) w
   ·exact md_down a b c _ _ _ _ _ _ _ H (Lib.hid hc) (by omega) (by omega) (by omega) (Lib.hid (by rw [hmq, Fx.rnd_down (by omega)])) w
 ·have := Fx.words p (Fx.mag c) (by omega) hd0
  exact md_over a b c _ _ _ _ _ _ _ H (Lib.hid hc) (by omega) (Lib.hid (by rw [hmq]; omega)) w
end
section
open Go.RowKit
open Fx (Vl)
theorem mulDiv_val (a b c : Int) (a1 : -9223372036854775808 ≤ a) (a2 : a ≤ 9223372036854775807) (b1 : -9223372036854775808 ≤ b) (b2 : b ≤ 9223372036854775807) (c1 : -9223372036854775808 ≤ c) (c2 : c ≤ 9223372036854775807) (w : World) :
 Calls Tryz.prog 156 #[.int .i64 a, .int .i64 b, .int .i64 c] w fun e w' => e = .returned (.tuple #[.int .i64 (Fx.mdn a b c), .bool (Fx.mdok a b c)]) ∧ Below w.heap.size w w' :=
 (mulDiv_any a b c a1 a2 b1 b2 c1 c2 w).mono fun e w' ⟨n, ok, h, he, hb⟩ => ⟨by rw [he, h.num, h.ok], hb⟩
theorem div_any (a : Bool) (m : Int) (b : Bool) (n : Int) (w : World) :
 Calls Tryz.prog 145 #[.agg #[.bool a, .int .i64 m], .agg #[.bool b, .int .i64 n]] w fun e w' => e = .returned (.agg #[.bool (Fx.div ⟨a, m⟩ ⟨b, n⟩).ok, .int .i64 (Fx.div ⟨a, m⟩ ⟨b, n⟩).n]) ∧ Below w.heap.size w w' := by
 cases h : Fx.num ⟨a, m⟩
 ·rw [Fx.div_no1 h]
  go_enter Tryz.func145, Tryz.ntmps145
  go_wp2_with (go_at_call 154; go_must (refine (isNumber_any _ _ _).mono ?_; rintro e w' ⟨rfl, hb⟩; obtain ⟨hc, hf⟩ := bcell hb; (try have hz0 : w.heap.size < w'.heap.size := Bz hb); (try have hz1 : w.heap.size + 1 < w'.heap.size := Bz hb); (try have hz2 : w.heap.size + 1 + 1 < w'.heap.size := Bz hb); have hz := hb.size; (try simp at hz)))
  exact bodyPost_ret (v := .agg #[.bool false, .int .i64 0]) (by simp [results, Tryz.results145, go_sem, *]) rfl ⟨rfl, Bq⟩
 ·cases h2 : Fx.num ⟨b, n⟩
  ·rw [Fx.div_no2 h2]
   go_enter Tryz.func145, Tryz.ntmps145
   go_wp2_with (go_at_call 154; go_must (refine (isNumber_any _ _ _).mono ?_; rintro e w' ⟨rfl, hb⟩; obtain ⟨hc, hf⟩ := bcell hb; (try have hz0 : w.heap.size < w'.heap.size := Bz hb); (try have hz1 : w.heap.size + 1 < w'.heap.size := Bz hb); (try have hz2 : w.heap.size + 1 + 1 < w'.heap.size := Bz hb); have hz := hb.size; (try simp at hz)))
   exact bodyPost_ret (v := .agg #[.bool false, .int .i64 0]) (by simp [results, Tryz.results145, go_sem, *]) rfl ⟨rfl, Bq⟩
  ·rw [Fx.div_yes h h2]
   obtain ⟨rfl, m1, m2⟩ := Fx.num_iff.1 h
   obtain ⟨rfl, n1, n2⟩ := Fx.num_iff.1 h2
   have HM : Hid (∀ W, Calls Tryz.prog 156 #[.int .i64 m, .int .i64 1000000, .int .i64 n] W fun e w' => e = .returned (.tuple #[.int .i64 (Fx.mdn m 1000000 n), .bool (Fx.mdok m 1000000 n)]) ∧ Below W.heap.size W w') :=
    Lib.hid fun W => mulDiv_val m 1000000 n (by omega) (by omega) (by omega) (by omega) (by omega) (by omega) W
   cases ho : Fx.mdok m 1000000 n
   ·rw [Fx.mdv_no ho]
    go_enter Tryz.func145, Tryz.ntmps145
    go_wp2_with first | (go_at_call 154; go_must (refine (isNumber_any _ _ _).mono ?_; rintro e w' ⟨rfl, hb⟩; obtain ⟨hc, hf⟩ := bcell hb; (try have hz0 : w.heap.size < w'.heap.size := Bz hb); (try have hz1 : w.heap.size + 1 < w'.heap.size := Bz hb); (try have hz2 : w.heap.size + 1 + 1 < w'.heap.size := Bz hb); have hz := hb.size; (try simp at hz))) | (go_at_call 156; go_must (refine (HM.out _).mono ?_; rintro e w' ⟨rfl, hb⟩; obtain ⟨hc, hf⟩ := bcell hb; (try have hz0 : w.heap.size < w'.heap.size := Bz hb); (try have hz1 : w.heap.size + 1 < w'.heap.size := Bz hb); (try have hz2 : w.heap.size + 1 + 1 < w'.heap.size := Bz hb); have hz := hb.size; (try simp at hz))) | (go_at_call 155; go_must (refine (ofQuotient_no _ _).mono ?_; rintro e w' ⟨rfl, hb⟩; obtain ⟨hc, hf⟩ := bcell hb; (try have hz0 : w.heap.size < w'.heap.size := Bz hb); (try have hz1 : w.heap.size + 1 < w'.heap.size := Bz hb); (try have hz2 : w.heap.size + 1 + 1 < w'.heap.size := Bz hb); have hz := hb.size; (try simp at hz)))
    exact bodyPost_ret (v := .agg #[.bool false, .int .i64 0]) (by simp [results, Tryz.results145, go_sem, *]) rfl ⟨rfl, Bq⟩
   ·rw [Fx.mdv_yes ho]
    go_enter Tryz.func145, Tryz.ntmps145
    go_wp2_with first | (go_at_call 154; go_must (refine (isNumber_any _ _ _).mono ?_; rintro e w' ⟨rfl, hb⟩; obtain ⟨hc, hf⟩ := bcell hb; (try have hz0 : w.heap.size < w'.heap.size := Bz hb); (try have hz1 : w.heap.size + 1 < w'.heap.size := Bz hb); (try have hz2 : w.heap.size + 1 + 1 < w'.heap.size := Bz hb); have hz := hb.size; (try simp at hz))) | (go_at_call 156; go_must (refine (HM.out _).mono ?_; rintro e w' ⟨rfl, hb⟩; obtain ⟨hc, hf⟩ := bcell hb; (try have hz0 : w.heap.size < w'.heap.size := Bz hb); (try have hz1 : w.heap.size + 1 < w'.heap.size := Bz hb); (try have hz2 : w.heap.size + 1 + 1 < w'.heap.size := Bz hb); have hz := hb.size; (try simp at hz))) | (go_at_call 155; go_must (refine (ofQuotient_yes _ _).mono ?_; rintro e w' ⟨rfl, hb⟩; obtain ⟨hc, hf⟩ := bcell hb; (try have hz0 : w.heap.size < w'.heap.size := Bz hb); (try have hz1 : w.heap.size + 1 < w'.heap.size := Bz hb); (try have hz2 : w.heap.size + 1 + 1 < w'.heap.size := Bz hb); have hz := hb.size; (try simp at hz)))
    exact bodyPost_ret (v := (.agg #[.bool (Fx.of (Fx.mdn m 1000000 n)).ok, .int .i64 (Fx.of (Fx.mdn m 1000000 n)).n])) (by simp [results, Tryz.results145, go_sem, *]) rfl ⟨rfl, Bq⟩
end
section
open Go.RowKit Go.Sort
open Fx (Vl)
open Me
theorem together_some (kind : Int) (l : List Vl) (h0 : 0 < l.length) (hl : l.length ≤ 1000000) (b off cap : Nat) (w : World) (hv : Vals w b off l) :
 Calls Tryz.prog 135 #[.int .i64 kind, .slice (some ⟨b, off, none⟩) l.length cap] w fun e w' => e = .returned (.agg #[.bool (Ag.tg kind l).ok, .int .i64 (Ag.tg kind l).n]) ∧ Below w.heap.size w w' := by
 have HA : Hid (∀ W, Below w.heap.size w W → Calls Tryz.prog 146 #[.slice (some ⟨b, off, none⟩) l.length cap] W fun e w' => e = .returned (.agg #[.bool (sum l).ok, .int .i64 (sum l).n]) ∧ Below W.heap.size W w') := Lib.hid fun W hb => add_some l (by omega) b off cap W (hv.below hb)
 have hne : ¬ ((l.length : Int) = 0) := by omega
 by_cases h1 : kind = 1
 ·subst h1
  have HI : Hid (∀ W, Calls Tryz.prog 147 #[.int .i64 (l.length : Int)] W fun e w' => e = .returned (.agg #[.bool (Fx.of ((l.length : Int) * 1000000)).ok, .int .i64 (Fx.of ((l.length : Int) * 1000000)).n]) ∧ Below W.heap.size W w') := Lib.hid fun W => int_any _ W
  have HD : Hid (∀ s d W, Calls Tryz.prog 145 #[(.agg #[.bool s.ok, .int .i64 s.n]), (.agg #[.bool d.ok, .int .i64 d.n])] W fun e w' => e = .returned (.agg #[.bool (Fx.div s d).ok, .int .i64 (Fx.div s d).n]) ∧ Below W.heap.size W w') := Lib.hid fun s d W => div_any s.ok s.n d.ok d.n W
  replace HD := Lib.hid (HD.out (sum l) (Fx.of ((l.length : Int) * 1000000)))
  rw [Ag.tg_1 h0]
  generalize Fx.div (sum l) (Fx.of ((l.length : Int) * 1000000)) = q at *
  generalize Fx.of ((l.length : Int) * 1000000) = d at *
  generalize sum l = s at *
  obtain ⟨qo, qn⟩ := q
  obtain ⟨do_, dn⟩ := d
  obtain ⟨so, sn⟩ := s
  go_enter Tryz.func135, Tryz.ntmps135
  go_wp2_with first | (go_at_call 146; (((with_reducible refine (HA.out _ ((Below.refl _ _).alloc (Nat.le_refl _) _)).mono ?_)); rintro e w1 ⟨rfl, hb1⟩; obtain ⟨hc1, hf1⟩ := bcell hb1; (try have hq1w : w.heap.size < w1.heap.size := Bz hb1); have hs1 := hb1.size; (try simp at hs1))) | (go_at_call 147; (((with_reducible refine (HI.out _).mono ?_)); rintro e w2 ⟨rfl, hb2⟩; obtain ⟨hc2, hf2⟩ := bcell hb2; (try have hq2w : w.heap.size < w2.heap.size := Bz hb2); (try have hq2w1 : w1.heap.size < w2.heap.size := Bz hb2); have hs2 := hb2.size; (try simp at hs2))) | (go_at_call 145; (((with_reducible refine (HD.out _).mono ?_)); rintro e w3 ⟨rfl, hb3⟩; obtain ⟨hc3, hf3⟩ := bcell hb3; (try have hq3w : w.heap.size < w3.heap.size := Bz hb3); (try have hq3w2 : w2.heap.size < w3.heap.size := Bz hb3); have hs3 := hb3.size; (try simp at hs3)))
  exact bodyPost_ret (v := .agg #[.bool qo, .int .i64 qn]) (by simp [results, Tryz.results135, go_sem, *]) rfl ⟨rfl, Bq⟩
 by_cases h2 : kind = 2
 ·subst h2
  rw [Ag.tg_2 h0]
  generalize sum l = s at *
  obtain ⟨so, sn⟩ := s
  go_enter Tryz.func135, Tryz.ntmps135
  go_wp2_with (go_at_call 146; (((with_reducible refine (HA.out _ ((Below.refl _ _).alloc (Nat.le_refl _) _)).mono ?_)); rintro e w1 ⟨rfl, hb1⟩; obtain ⟨hc1, hf1⟩ := bcell hb1; (try have hq1w : w.heap.size < w1.heap.size := Bz hb1); have hs1 := hb1.size; (try simp at hs1)))
  exact bodyPost_ret (v := .agg #[.bool so, .int .i64 sn]) (by simp [results, Tryz.results135, go_sem, *]) rfl ⟨rfl, Bq⟩
 clear HA
 by_cases h3 : kind = 3
 ·subst h3
  rw [Ag.tg_3 h0]
  have x0 := hv.ok (l.length - 1) (by omega)
  have x1 := hv.n (l.length - 1) (by omega)
  have hbr := hv.lt
  generalize l[l.length - 1]'(by omega) = e at *
  obtain ⟨eo, en⟩ := e
  clear hv
  generalize l.length = n at *
  obtain ⟨m, rfl⟩ : ∃ m, n = m + 1 := ⟨n - 1, by omega⟩
  simp only [Nat.add_sub_cancel] at x0 x1
  go_enter Tryz.func135, Tryz.ntmps135
  go_wp2_with fail
  exact bodyPost_ret (v := .agg #[.bool eo, .int .i64 en]) (by simp [results, Tryz.results135, go_sem, *]) rfl ⟨rfl, Bq⟩
 by_cases h4 : kind = 4
 ·subst h4
  have HM : Hid (∀ W, Below w.heap.size w W → Calls Tryz.prog 148 #[.slice (some ⟨b, off, none⟩) l.length cap, .func (.func 149) #[] #[]] W fun e w' => e = .returned (.agg #[.bool (Ag.mx l).ok, .int .i64 (Ag.mx l).n]) ∧ Below W.heap.size W w') := Lib.hid fun W hb => maxFunc_some l h0 (by omega) b off cap W (hv.below hb)
  rw [Ag.tg_4 h0]
  generalize Ag.mx l = s at *
  obtain ⟨so, sn⟩ := s
  go_enter Tryz.func135, Tryz.ntmps135
  go_wp2_with (go_at_call 148; (((with_reducible refine (HM.out _ ((Below.refl _ _).alloc (Nat.le_refl _) _)).mono ?_)); rintro e w1 ⟨rfl, hb1⟩; obtain ⟨hc1, hf1⟩ := bcell hb1; (try have hq1w : w.heap.size < w1.heap.size := Bz hb1); have hs1 := hb1.size; (try simp at hs1)))
  exact bodyPost_ret (v := .agg #[.bool so, .int .i64 sn]) (by simp [results, Tryz.results135, go_sem, *]) rfl ⟨rfl, Bq⟩
 by_cases h5 : kind = 5
 ·subst h5
  have HM : Hid (∀ W, Below w.heap.size w W → Calls Tryz.prog 150 #[.slice (some ⟨b, off, none⟩) l.length cap, .func (.func 149) #[] #[]] W fun e w' => e = .returned (.agg #[.bool (Ag.mn l).ok, .int .i64 (Ag.mn l).n]) ∧ Below W.heap.size W w') := Lib.hid fun W hb => minFunc_some l h0 (by omega) b off cap W (hv.below hb)
  rw [Ag.tg_5 h0]
  generalize Ag.mn l = s at *
  obtain ⟨so, sn⟩ := s
  go_enter Tryz.func135, Tryz.ntmps135
  go_wp2_with (go_at_call 150; (((with_reducible refine (HM.out _ ((Below.refl _ _).alloc (Nat.le_refl _) _)).mono ?_)); rintro e w1 ⟨rfl, hb1⟩; obtain ⟨hc1, hf1⟩ := bcell hb1; (try have hq1w : w.heap.size < w1.heap.size := Bz hb1); have hs1 := hb1.size; (try simp at hs1)))
  exact bodyPost_ret (v := .agg #[.bool so, .int .i64 sn]) (by simp [results, Tryz.results135, go_sem, *]) rfl ⟨rfl, Bq⟩
 rw [Ag.tg_no h1 h2 h3 h4 h5]
 clear hv
 go_enter Tryz.func135, Tryz.ntmps135
 go_wp2_with fail
 exact bodyPost_ret (v := .agg #[.bool false, .int .i64 0]) (by simp [results, Tryz.results135, go_sem, *]) rfl ⟨rfl, Bq⟩
theorem together_zero (kind : Int) (x : Option Addr) (cap : Nat) (w : World) :
 Calls Tryz.prog 135 #[.int .i64 kind, .slice x 0 cap] w fun e w' => e = .returned (.agg #[.bool (Ag.tg kind []).ok, .int .i64 (Ag.tg kind []).n]) ∧ Below w.heap.size w w' := by
 rw [Ag.tg_nil]
 go_enter Tryz.func135, Tryz.ntmps135
 go_wp2_with fail
 exact bodyPost_ret (v := .agg #[.bool false, .int .i64 0]) (by simp [results, Tryz.results135, go_sem, *]) rfl ⟨rfl, Bq⟩
theorem together_v (kind : Int) (l : List Vl) (hl : l.length ≤ 1000000) (v : Value) (w : World) (hv : Sl w v l) :
 Calls Tryz.prog 135 #[.int .i64 kind, v] w fun e w' => e = .returned (.agg #[.bool (Ag.tg kind l).ok, .int .i64 (Ag.tg kind l).n]) ∧ Below w.heap.size w w' := by
 rcases hv with ⟨rfl, x, cap, rfl⟩ | ⟨h0, b, off, cap, rfl, hv⟩
 ·exact together_zero kind x cap w
 ·exact together_some kind l h0 hl b off cap w hv
theorem put_v (kind xff : Int) (l : List Vl) (hl : l.length ≤ 1000000) (v : Value) (w : World) (hv : Sl w v l) :
 Calls Tryz.prog 117 #[.int .i64 kind, .int .i64 xff, v] w fun e w' => e = .returned (.agg #[.bool (Ag.put kind xff l).ok, .int .i64 (Ag.put kind xff l).n]) ∧ Below w.heap.size w w' := by
 have HK : Hid (∀ W, Below w.heap.size w W → Calls Tryz.prog 133 #[v] W (Knew W (Ag.kn l))) := Lib.hid fun W hb => known_v l hl v W (hv.below hb)
 have hkl : (Ag.kn l).length ≤ 1000000 := Nat.le_trans (Ag.kn_len l) hl
 have HT : Hid (∀ u W, Sl W u (Ag.kn l) → Calls Tryz.prog 135 #[.int .i64 kind, u] W fun e w' => e = .returned (.agg #[.bool (Ag.tg kind (Ag.kn l)).ok, .int .i64 (Ag.tg kind (Ag.kn l)).n]) ∧ Below W.heap.size W w') := Lib.hid fun u W h => together_v kind _ hkl u W h
 have HE : Hid (∀ W, Calls Tryz.prog 134 #[.int .i64 xff, .int .i64 ((Ag.kn l).length : Int), .int .i64 (l.length : Int)] W fun e w' => e = .returned (.bool (Ag.en xff ((Ag.kn l).length : Int) (l.length : Int))) ∧ W = w') := Lib.hid fun W => enough_any _ _ _ W
 have HQ : Hid (Ag.put kind xff l = if Ag.en xff ((Ag.kn l).length : Int) (l.length : Int) = true then Ag.tg kind (Ag.kn l) else Fx.none) := Lib.hid rfl
 obtain ⟨A, c, rfl⟩ := hv.form
 clear hv
 generalize Ag.en xff ((Ag.kn l).length : Int) (l.length : Int) = en at *
 generalize Ag.put kind xff l = p at *
 generalize Ag.tg kind (Ag.kn l) = q at *
 generalize Ag.kn l = m at *
 obtain ⟨qo, qn⟩ := q
 cases en
 ·obtain rfl : p = Fx.none := HQ.out
  go_enter Tryz.func117, Tryz.ntmps117
  go_wp2_with first
   | (go_at_call 133; go_must (refine (HK.out _ Bq).mono ?_; rintro e w1 ⟨v1, rfl, ho1, hb1⟩; obtain ⟨hc1, hf1⟩ := bcell hb1; have hq1w : w.heap.size < w1.heap.size := Nat.lt_of_lt_of_le (by simp) hb1.size; obtain ⟨A1, c1, rfl⟩ := ho1.slice; have HS1 := Lib.hid ho1.sl; clear ho1))
   | (go_at_call 134; go_must (refine (HE.out _).mono ?_; rintro e w' ⟨rfl, rfl⟩))
  exact bodyPost_ret (v := .agg #[.bool false, .int .i64 0]) (by simp [results, Tryz.results117, go_sem, *]) rfl ⟨rfl, Bq⟩
 ·obtain rfl : p = ⟨qo, qn⟩ := HQ.out
  go_enter Tryz.func117, Tryz.ntmps117
  go_wp2_with first
   | (go_at_call 133; go_must (refine (HK.out _ Bq).mono ?_; rintro e w1 ⟨v1, rfl, ho1, hb1⟩; obtain ⟨hc1, hf1⟩ := bcell hb1; have hq1w : w.heap.size < w1.heap.size := Nat.lt_of_lt_of_le (by simp) hb1.size; obtain ⟨A1, c1, rfl⟩ := ho1.slice; have HS1 := Lib.hid ho1.sl; clear ho1))
   | (go_at_call 134; go_must (refine (HE.out _).mono ?_; rintro e w' ⟨rfl, rfl⟩))
   | (go_at_call 135; (((with_reducible refine (HT.out _ _ HS1.out).mono ?_)); rintro e w2 ⟨rfl, hb2⟩; obtain ⟨hc2, hf2⟩ := bcell hb2; (try have hq2w : w.heap.size < w2.heap.size := Bz hb2); (try have hq2w1 : w1.heap.size < w2.heap.size := Bz hb2); have hs2 := hb2.size; (try simp at hs2)))
  exact bodyPost_ret (v := .agg #[.bool qo, .int .i64 qn]) (by simp [results, Tryz.results117, go_sem, *]) rfl ⟨rfl, Bq⟩
end
end Go.Proofs.YtbakngbmfgnmcaaGreatDoor
