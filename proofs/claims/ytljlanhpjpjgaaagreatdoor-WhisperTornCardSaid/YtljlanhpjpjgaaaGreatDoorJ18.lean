/- AgEn AgCmp FxDivPure -/
import Derived.Test.YtljlanhpjpjgaaaGreatDoorJ1
import Derived.Test.YtljlanhpjpjgaaaGreatDoorJ12
import Derived.Test.YtljlanhpjpjgaaaGreatDoorJ17
import Derived.Test.YtljlanhpjpjgaaaGreatDoorJ14
namespace Go.Proofs.YtljlanhpjpjgaaaGreatDoor
set_option maxRecDepth 100000
set_option maxHeartbeats 8000000
section
open Go.RowKit
namespace Ag
theorem prod_bd {x a : Int} (h1 : 0 ≤ x ∧ x ≤ 16777216) (h2 : 0 ≤ a ∧ a ≤ 16777216) : 0 ≤ x * a ∧ x * a ≤ 281474976710656 :=
 ⟨Int.mul_nonneg h1.1 h2.1, by have := Int.mul_le_mul h1.2 h2.2 h2.1 (by omega); omega⟩
theorem en_of (xff known all : Int) : en xff known all = (decide (0 < lim known) && decide (lim known ≤ lim all) && decide (lim xff * lim all ≤ lim known * 1000000)) := by
 unfold en; rw [Bool.decide_and, Bool.decide_and, Bool.and_assoc]
end Ag
theorem limited_any (n : Int) (w : World) : Calls Tryz.prog 135 #[.int .i64 n] w fun e w' => e = .returned (.int .i64 (Ag.lim n)) ∧ w = w' := by
 go_enter Tryz.func135, Tryz.ntmps135
 go_wp2
 go_ret
 exact ⟨ret_int (by unfold Ag.lim; split <;> (try split) <;> omega), rfl⟩
theorem hold_any (n : Int) (w : World) : Calls Tryz.prog 129 #[.int .i64 n] w fun e w' => e = .returned (.int .i64 (Ag.lim n)) ∧ w = w' := by
 go_enter Tryz.func129, Tryz.ntmps129
 go_wp2
 go_ret
 exact ⟨ret_int (by unfold Ag.lim; split <;> (try split) <;> omega), rfl⟩
theorem enough_any (xff known all : Int) (w : World) :
 Calls Tryz.prog 125 #[.int .i64 xff, .int .i64 known, .int .i64 all] w fun e w' => e = .returned (.bool (Ag.en xff known all)) ∧ w = w' := by
 have H1 : Hid (∀ W, Calls Tryz.prog 135 #[.int .i64 xff] W fun e w' => e = .returned (.int .i64 (Ag.lim xff)) ∧ W = w') := Lib.hid fun W => limited_any _ W
 have H2 : Hid (∀ W, Calls Tryz.prog 135 #[.int .i64 known] W fun e w' => e = .returned (.int .i64 (Ag.lim known)) ∧ W = w') := Lib.hid fun W => limited_any _ W
 have H3 : Hid (∀ W, Calls Tryz.prog 135 #[.int .i64 all] W fun e w' => e = .returned (.int .i64 (Ag.lim all)) ∧ W = w') := Lib.hid fun W => limited_any _ W
 have b1 := Ag.lim_bd xff
 have b2 := Ag.lim_bd known
 have b3 := Ag.lim_bd all
 have bp := Ag.prod_bd b1 b3
 have HE := Lib.hid (Ag.en_of xff known all)
 generalize Ag.en xff known all = q at *
 generalize Ag.lim xff = x at *
 generalize Ag.lim known = k at *
 generalize Ag.lim all = a at *
 by_cases t1 : 0 < k
 ·by_cases t2 : k ≤ a
  ·obtain ⟨p, hp⟩ : ∃ p, x * a = p := ⟨_, rfl⟩
   rw [hp] at bp
   by_cases t3 : p ≤ k * 1000000
   ·have HQ : Hid (q = true) := Lib.hid (by rw [HE.out, hp]; simp [t1, t2, t3])
    clear HE
    go_enter Tryz.func125, Tryz.ntmps125
    go_wp2_with first | (go_at_call 135; ((with_reducible refine (H1.out _).mono ?_); rintro e w' ⟨rfl, rfl⟩)) | (go_at_call 135; ((with_reducible refine (H2.out _).mono ?_); rintro e w' ⟨rfl, rfl⟩)) | (go_at_call 135; ((with_reducible refine (H3.out _).mono ?_); rintro e w' ⟨rfl, rfl⟩))
    go_ret
    exact ⟨by rw [HQ.out]; first | rfl | (simp; omega), rfl⟩
   ·have HQ : Hid (q = false) := Lib.hid (by rw [HE.out, hp]; simp [t3])
    clear HE
    go_enter Tryz.func125, Tryz.ntmps125
    go_wp2_with first | (go_at_call 135; ((with_reducible refine (H1.out _).mono ?_); rintro e w' ⟨rfl, rfl⟩)) | (go_at_call 135; ((with_reducible refine (H2.out _).mono ?_); rintro e w' ⟨rfl, rfl⟩)) | (go_at_call 135; ((with_reducible refine (H3.out _).mono ?_); rintro e w' ⟨rfl, rfl⟩))
    go_ret
    exact ⟨by rw [HQ.out]; first | rfl | (simp; omega), rfl⟩
  ·have HQ : Hid (q = false) := Lib.hid (by rw [HE.out]; simp [t2])
   clear HE bp
   go_enter Tryz.func125, Tryz.ntmps125
   go_wp2_with first | (go_at_call 135; ((with_reducible refine (H1.out _).mono ?_); rintro e w' ⟨rfl, rfl⟩)) | (go_at_call 135; ((with_reducible refine (H2.out _).mono ?_); rintro e w' ⟨rfl, rfl⟩)) | (go_at_call 135; ((with_reducible refine (H3.out _).mono ?_); rintro e w' ⟨rfl, rfl⟩))
   go_ret
   exact ⟨by rw [HQ.out]; first | rfl | (simp; omega), rfl⟩
 ·have HQ : Hid (q = false) := Lib.hid (by rw [HE.out]; simp [t1])
  clear HE bp
  go_enter Tryz.func125, Tryz.ntmps125
  go_wp2_with first | (go_at_call 135; ((with_reducible refine (H1.out _).mono ?_); rintro e w' ⟨rfl, rfl⟩)) | (go_at_call 135; ((with_reducible refine (H2.out _).mono ?_); rintro e w' ⟨rfl, rfl⟩)) | (go_at_call 135; ((with_reducible refine (H3.out _).mono ?_); rintro e w' ⟨rfl, rfl⟩))
  go_ret
  exact ⟨by rw [HQ.out]; first | rfl | (simp; omega), rfl⟩
theorem refEnough_any (xff known all : Int) (w : World) :
 Calls Tryz.prog 112 #[.int .i64 xff, .int .i64 known, .int .i64 all] w fun e w' => e = .returned (.bool (Ag.en xff known all)) ∧ w = w' := by
 have H1 : Hid (∀ W, Calls Tryz.prog 129 #[.int .i64 xff] W fun e w' => e = .returned (.int .i64 (Ag.lim xff)) ∧ W = w') := Lib.hid fun W => hold_any _ W
 have H2 : Hid (∀ W, Calls Tryz.prog 129 #[.int .i64 known] W fun e w' => e = .returned (.int .i64 (Ag.lim known)) ∧ W = w') := Lib.hid fun W => hold_any _ W
 have H3 : Hid (∀ W, Calls Tryz.prog 129 #[.int .i64 all] W fun e w' => e = .returned (.int .i64 (Ag.lim all)) ∧ W = w') := Lib.hid fun W => hold_any _ W
 have b1 := Ag.lim_bd xff
 have b2 := Ag.lim_bd known
 have b3 := Ag.lim_bd all
 have bp := Ag.prod_bd b1 b3
 have HE := Lib.hid (Ag.en_of xff known all)
 generalize Ag.en xff known all = q at *
 generalize Ag.lim xff = x at *
 generalize Ag.lim known = k at *
 generalize Ag.lim all = a at *
 by_cases t1 : 0 < k
 ·by_cases t2 : k ≤ a
  ·obtain ⟨p, hp⟩ : ∃ p, x * a = p := ⟨_, rfl⟩
   rw [hp] at bp
   by_cases t3 : p ≤ k * 1000000
   ·have HQ : Hid (q = true) := Lib.hid (by rw [HE.out, hp]; simp [t1, t2, t3])
    clear HE
    go_enter Tryz.func112, Tryz.ntmps112
    go_wp2_with first | (go_at_call 129; ((with_reducible refine (H1.out _).mono ?_); rintro e w' ⟨rfl, rfl⟩)) | (go_at_call 129; ((with_reducible refine (H2.out _).mono ?_); rintro e w' ⟨rfl, rfl⟩)) | (go_at_call 129; ((with_reducible refine (H3.out _).mono ?_); rintro e w' ⟨rfl, rfl⟩))
    go_ret
    exact ⟨by rw [HQ.out]; first | rfl | (simp; omega), rfl⟩
   ·have HQ : Hid (q = false) := Lib.hid (by rw [HE.out, hp]; simp [t3])
    clear HE
    go_enter Tryz.func112, Tryz.ntmps112
    go_wp2_with first | (go_at_call 129; ((with_reducible refine (H1.out _).mono ?_); rintro e w' ⟨rfl, rfl⟩)) | (go_at_call 129; ((with_reducible refine (H2.out _).mono ?_); rintro e w' ⟨rfl, rfl⟩)) | (go_at_call 129; ((with_reducible refine (H3.out _).mono ?_); rintro e w' ⟨rfl, rfl⟩))
    go_ret
    exact ⟨by rw [HQ.out]; first | rfl | (simp; omega), rfl⟩
  ·have HQ : Hid (q = false) := Lib.hid (by rw [HE.out]; simp [t2])
   clear HE bp
   go_enter Tryz.func112, Tryz.ntmps112
   go_wp2_with first | (go_at_call 129; ((with_reducible refine (H1.out _).mono ?_); rintro e w' ⟨rfl, rfl⟩)) | (go_at_call 129; ((with_reducible refine (H2.out _).mono ?_); rintro e w' ⟨rfl, rfl⟩)) | (go_at_call 129; ((with_reducible refine (H3.out _).mono ?_); rintro e w' ⟨rfl, rfl⟩))
   go_ret
   exact ⟨by rw [HQ.out]; first | rfl | (simp; omega), rfl⟩
 ·have HQ : Hid (q = false) := Lib.hid (by rw [HE.out]; simp [t1])
  clear HE bp
  go_enter Tryz.func112, Tryz.ntmps112
  go_wp2_with first | (go_at_call 129; ((with_reducible refine (H1.out _).mono ?_); rintro e w' ⟨rfl, rfl⟩)) | (go_at_call 129; ((with_reducible refine (H2.out _).mono ?_); rintro e w' ⟨rfl, rfl⟩)) | (go_at_call 129; ((with_reducible refine (H3.out _).mono ?_); rintro e w' ⟨rfl, rfl⟩))
  go_ret
  exact ⟨by rw [HQ.out]; first | rfl | (simp; omega), rfl⟩
end
section
open Go.RowKit Go.Sort
open Fx (Vl)
open Me
theorem isNaN_any (n : Int) (w : World) : Calls Tryz.prog 155 #[.int .i64 n] w fun e w' => e = .returned (.bool false) ∧ w = w' := by
 go_enter Tryz.func155, Tryz.ntmps155
 go_wp2
 go_ret
 exact ⟨rfl, rfl⟩
def Ag.cmp (m n : Int) : Int := if m < n then -1 else if n < m then 1 else 0
theorem compare_int (m n : Int) (w : World) : Calls Tryz.prog 149 #[.int .i64 m, .int .i64 n] w fun e w' => e = .returned (.int .i64 (Ag.cmp m n)) ∧ w = w' := by
 have HN : Hid (∀ n W, Calls Tryz.prog 155 #[.int .i64 n] W fun e w' => e = .returned (.bool false) ∧ W = w') := Lib.hid isNaN_any
 by_cases h1 : m < n
 ·have HQ : Hid (Ag.cmp m n = -1) := Lib.hid (by unfold Ag.cmp; rw [if_pos h1])
  go_enter Tryz.func149, Tryz.ntmps149
  go_wp2_with (go_at_call 155; go_must (refine (HN.out _ _).mono ?_; rintro e w' ⟨rfl, rfl⟩))
  go_ret
  exact ⟨by rw [HQ.out]; rfl, rfl⟩
 ·by_cases h2 : n < m
  ·have HQ : Hid (Ag.cmp m n = 1) := Lib.hid (by unfold Ag.cmp; rw [if_neg h1, if_pos h2])
   go_enter Tryz.func149, Tryz.ntmps149
   go_wp2_with (go_at_call 155; go_must (refine (HN.out _ _).mono ?_; rintro e w' ⟨rfl, rfl⟩))
   go_ret
   exact ⟨by rw [HQ.out]; rfl, rfl⟩
  ·have HQ : Hid (Ag.cmp m n = 0) := Lib.hid (by unfold Ag.cmp; rw [if_neg h1, if_neg h2])
   go_enter Tryz.func149, Tryz.ntmps149
   go_wp2_with (go_at_call 155; go_must (refine (HN.out _ _).mono ?_; rintro e w' ⟨rfl, rfl⟩))
   go_ret
   exact ⟨by rw [HQ.out]; rfl, rfl⟩
theorem compare_any (a : Bool) (m : Int) (b : Bool) (n : Int) (w : World) :
 Calls Tryz.prog 140 #[.agg #[.bool a, .int .i64 m], .agg #[.bool b, .int .i64 n]] w fun e w' => e = .returned (.int .i64 (Ag.cmp m n)) ∧ Below w.heap.size w w' := by
 have HC : Hid (∀ W, Calls Tryz.prog 149 #[.int .i64 m, .int .i64 n] W fun e w' => e = .returned (.int .i64 (Ag.cmp m n)) ∧ W = w') := Lib.hid fun W => compare_int m n W
 generalize Ag.cmp m n = c at *
 go_enter Tryz.func140, Tryz.ntmps140
 go_wp2_with (go_at_call 149; go_must (refine (HC.out _).mono ?_; rintro e w' ⟨rfl, rfl⟩))
 go_ret
 exact ⟨rfl, Bq⟩
structure BestRel (w wr : World) (r s : Nat) (v : Vl) : Prop where
 below : Below w.heap.size w wr
 r0 : w.heap.size ≤ r
 rs : r < s
 sz : s < wr.heap.size
 rc0 : wr.cell? ⟨r, 0, none⟩ = some (.bool false)
 rc1 : wr.cell? ⟨r, 1, none⟩ = some (.int .i64 0)
 rf0 : wr.frozen? ⟨r, 0, none⟩ = false
 rf1 : wr.frozen? ⟨r, 1, none⟩ = false
 sc0 : wr.cell? ⟨s, 0, none⟩ = some (.bool v.ok)
 sc1 : wr.cell? ⟨s, 1, none⟩ = some (.int .i64 v.n)
 sf0 : wr.frozen? ⟨s, 0, none⟩ = false
 sf1 : wr.frozen? ⟨s, 1, none⟩ = false
theorem BestRel.step {w wr wp : World} {r s : Nat} {v : Vl} (h : BestRel w wr r s v) (hb : Below wr.heap.size wr wp) : BestRel w wp r s v := by
 have hr0 := h.r0
 have hrs := h.rs
 have hs1 := h.sz
 have hr1 : r < wr.heap.size := by omega
 exact ⟨h.below.trans (hb.mono (by omega)), h.r0, h.rs, Nat.lt_of_lt_of_le h.sz hb.size, ((bcell hb).1 _ _ hr1).trans h.rc0, ((bcell hb).1 _ _ hr1).trans h.rc1, ((bcell hb).2 _ _ hr1).trans h.rf0, ((bcell hb).2 _ _ hr1).trans h.rf1,
  ((bcell hb).1 _ _ hs1).trans h.sc0, ((bcell hb).1 _ _ hs1).trans h.sc1, ((bcell hb).2 _ _ hs1).trans h.sf0, ((bcell hb).2 _ _ hs1).trans h.sf1⟩
theorem BestRel.set_ {w wr : World} {r s : Nat} {v : Vl} (h : BestRel w wr r s v) (ok : Bool) (n : Int) :
 BestRel w ((wr.setCell ⟨s, 0, none⟩ (.bool ok)).setCell ⟨s, 1, none⟩ (.int .i64 n)) r s ⟨ok, n⟩ := by
 have hs1 := h.sz
 have hrs := h.rs
 have hr0 := h.r0
 have hne : r ≠ s := by omega
 have c0 := h.sc0
 have c1 := h.sc1
 have d0 := h.rc0
 have d1 := h.rc1
 have f0 := h.sf0
 have f1 := h.sf1
 have g0 := h.rf0
 have g1 := h.rf1
 refine ⟨?_, hr0, hrs, by simp; omega, ?_, ?_, ?_, ?_, ?_, ?_, ?_, ?_⟩
 ·exact Below.setCell (Below.setCell h.below (by show _ ≤ s; omega) _) (by show _ ≤ s; omega) _
 all_goals simp [go_sem, *]
theorem BestRel.start (w : World) (T : TypeId) (ok : Bool) (n : Int) :
 BestRel w ((w.alloc (.cells #[.bool false, .int .i64 0] T)).alloc (.cells #[.bool ok, .int .i64 n] T)) w.heap.size (w.heap.size + 1) ⟨ok, n⟩ := by
 refine ⟨((Below.refl _ _).alloc (Nat.le_refl _) _).alloc (by simp) _, Nat.le_refl _, by omega, by simp, ?_, ?_, ?_, ?_, ?_, ?_, ?_, ?_⟩
 all_goals simp [go_sem]
theorem maxFunc_some (l : List Vl) (h0 : 0 < l.length) (hl : l.length ≤ 4611686018427387904) (b off cap : Nat) (w : World) (hv : Vals w b off l) :
 Calls Tryz.prog 139 #[.slice (some ⟨b, off, none⟩) l.length cap, .func (.func 140) #[] #[]] w fun e w' => e = .returned (.agg #[.bool (Ag.mx l).ok, .int .i64 (Ag.mx l).n]) ∧ Below w.heap.size w w' := by
 have x0 := hv.ok 0 h0
 have x1 := hv.n 0 h0
 rw [Nat.zero_mul, Nat.add_zero] at x0 x1
 have hbr0 := hv.lt
 have HM := Lib.hid (Ag.mx_one l h0)
 generalize l[0] = e0 at *
 obtain ⟨fo, fn⟩ := e0
 have h1l : ¬ ((l.length : Int) < 1) := by omega
 go_enter Tryz.func139, Tryz.ntmps139
 go_wp2_with fail
 go_loopw [6] (fun i wr => ∃ k : Nat, 1 ≤ k ∧ k ≤ l.length ∧ i = .int .i64 k ∧ BestRel w wr w.heap.size (w.heap.size + 1) (Ag.mx (l.take k))) (fun i _ => l.length - (intOf i).toNat)
 case atStart => exact ⟨1, Nat.le_refl _, h0, rfl, by rw [HM.out]; exact BestRel.start _ _ _ _⟩
 case round =>
  obtain ⟨k, hk1, hk, rfl, hR⟩ := hrel
  have hsz := hR.sz
  have rc0 := hR.rc0
  have rc1 := hR.rc1
  have rf0 := hR.rf0
  have rf1 := hR.rf1
  have sc0 := hR.sc0
  have sc1 := hR.sc1
  have sf0 := hR.sf0
  have sf1 := hR.sf1
  by_cases hlt : k < l.length
  ·have hvr := hv.below hR.below
   have ec0 := hvr.ok k hlt
   have ec1 := hvr.n k hlt
   have hbr := hvr.lt
   have hst := Lib.hid (Ag.mx_take l k hk1 hlt)
   have HR := Lib.hid hR
   clear hR hvr
   generalize l[k] = ek at *
   generalize Ag.mx (l.take k) = sk at *
   obtain ⟨eo, en⟩ := ek
   obtain ⟨so, sn⟩ := sk
   have hkl : (k : Int) < (l.length : Int) := by omega
   have hk0 : (0 : Int) ≤ (k : Int) := by omega
   obtain ⟨kc, kf⟩ := kgrown wr
   by_cases hc : sn < en
   ·have HC : Hid (∀ W, Calls Tryz.prog 140 #[.agg #[.bool eo, .int .i64 en], .agg #[.bool so, .int .i64 sn]] W fun e w' => e = .returned (.int .i64 1) ∧ Below W.heap.size W w') := Lib.hid fun W => by
     have := compare_any eo en so sn W
     unfold Ag.cmp at this
     rw [if_neg (by omega), if_pos hc] at this
     exact this
    have HT := Lib.hid (Ag.mx1_yes (a := ⟨so, sn⟩) (b := ⟨eo, en⟩) hc)
    go_wp2_with fail
    refine wp_region_quiet_below (by kernel_rfl) (by kernel_rfl) ?_
    repeat (quiet_step ((go_at_call 140; exact Calls.regrown_of (HC.out _))))
    refine wpQuiet_nil ?_
    intro _ hw'
    obtain ⟨⟨dq, osq⟩, hw''⟩ := hw'
    subst hw''
    go_wp2_with fail
    go_roundw
    case rel => exact ⟨k + 1, by omega, by omega, by go_num, by rw [hst.out, HT.out]; exact (HR.out.step (below_regrown wr dq osq)).set_ _ _⟩
    case measure => simp [intOf]; omega
   ·have HC : Hid (∀ W, Calls Tryz.prog 140 #[.agg #[.bool eo, .int .i64 en], .agg #[.bool so, .int .i64 sn]] W fun e w' => e = .returned (.int .i64 (Ag.cmp en sn)) ∧ Below W.heap.size W w') := Lib.hid fun W => compare_any eo en so sn W
    have hcn : ¬ 0 < Ag.cmp en sn := by unfold Ag.cmp; split <;> (try split) <;> omega
    generalize Ag.cmp en sn = cq at *
    have HT := Lib.hid (Ag.mx1_no (a := ⟨so, sn⟩) (b := ⟨eo, en⟩) hc)
    go_wp2_with fail
    refine wp_region_quiet_below (by kernel_rfl) (by kernel_rfl) ?_
    repeat (quiet_step ((go_at_call 140; exact Calls.regrown_of (HC.out _))))
    refine wpQuiet_nil ?_
    intro _ hw'
    obtain ⟨⟨dq, osq⟩, hw''⟩ := hw'
    subst hw''
    go_wp2_with fail
    go_roundw
    case rel => exact ⟨k + 1, by omega, by omega, by go_num, by rw [hst.out, HT.out]; exact HR.out.step (below_regrown wr dq osq)⟩
    case measure => simp [intOf]; omega
  ·obtain rfl : k = l.length := by omega
   have hbb := hR.below
   have hr0 := hR.r0
   rw [List.take_length] at *
   clear hR
   go_wp2
   exact bodyPost_ret (v := (.agg #[.bool (Ag.mx l).ok, .int .i64 (Ag.mx l).n])) (by simp [results, Tryz.results139, go_sem, *]) rfl ⟨rfl, Bq⟩
theorem minFunc_some (l : List Vl) (h0 : 0 < l.length) (hl : l.length ≤ 4611686018427387904) (b off cap : Nat) (w : World) (hv : Vals w b off l) :
 Calls Tryz.prog 141 #[.slice (some ⟨b, off, none⟩) l.length cap, .func (.func 140) #[] #[]] w fun e w' => e = .returned (.agg #[.bool (Ag.mn l).ok, .int .i64 (Ag.mn l).n]) ∧ Below w.heap.size w w' := by
 have x0 := hv.ok 0 h0
 have x1 := hv.n 0 h0
 rw [Nat.zero_mul, Nat.add_zero] at x0 x1
 have hbr0 := hv.lt
 have HM := Lib.hid (Ag.mn_one l h0)
 generalize l[0] = e0 at *
 obtain ⟨fo, fn⟩ := e0
 have h1l : ¬ ((l.length : Int) < 1) := by omega
 go_enter Tryz.func141, Tryz.ntmps141
 go_wp2_with fail
 go_loopw [6] (fun i wr => ∃ k : Nat, 1 ≤ k ∧ k ≤ l.length ∧ i = .int .i64 k ∧ BestRel w wr w.heap.size (w.heap.size + 1) (Ag.mn (l.take k))) (fun i _ => l.length - (intOf i).toNat)
 case atStart => exact ⟨1, Nat.le_refl _, h0, rfl, by rw [HM.out]; exact BestRel.start _ _ _ _⟩
 case round =>
  obtain ⟨k, hk1, hk, rfl, hR⟩ := hrel
  have hsz := hR.sz
  have rc0 := hR.rc0
  have rc1 := hR.rc1
  have rf0 := hR.rf0
  have rf1 := hR.rf1
  have sc0 := hR.sc0
  have sc1 := hR.sc1
  have sf0 := hR.sf0
  have sf1 := hR.sf1
  by_cases hlt : k < l.length
  ·have hvr := hv.below hR.below
   have ec0 := hvr.ok k hlt
   have ec1 := hvr.n k hlt
   have hbr := hvr.lt
   have hst := Lib.hid (Ag.mn_take l k hk1 hlt)
   have HR := Lib.hid hR
   clear hR hvr
   generalize l[k] = ek at *
   generalize Ag.mn (l.take k) = sk at *
   obtain ⟨eo, en⟩ := ek
   obtain ⟨so, sn⟩ := sk
   have hkl : (k : Int) < (l.length : Int) := by omega
   have hk0 : (0 : Int) ≤ (k : Int) := by omega
   obtain ⟨kc, kf⟩ := kgrown wr
   by_cases hc : en < sn
   ·have HC : Hid (∀ W, Calls Tryz.prog 140 #[.agg #[.bool eo, .int .i64 en], .agg #[.bool so, .int .i64 sn]] W fun e w' => e = .returned (.int .i64 (-1)) ∧ Below W.heap.size W w') := Lib.hid fun W => by
     have := compare_any eo en so sn W
     unfold Ag.cmp at this
     rw [if_pos hc] at this
     exact this
    have HT := Lib.hid (Ag.mn1_yes (a := ⟨so, sn⟩) (b := ⟨eo, en⟩) hc)
    go_wp2_with fail
    refine wp_region_quiet_below (by kernel_rfl) (by kernel_rfl) ?_
    repeat (quiet_step ((go_at_call 140; exact Calls.regrown_of (HC.out _))))
    refine wpQuiet_nil ?_
    intro _ hw'
    obtain ⟨⟨dq, osq⟩, hw''⟩ := hw'
    subst hw''
    go_wp2_with fail
    go_roundw
    case rel => exact ⟨k + 1, by omega, by omega, by go_num, by rw [hst.out, HT.out]; exact (HR.out.step (below_regrown wr dq osq)).set_ _ _⟩
    case measure => simp [intOf]; omega
   ·have HC : Hid (∀ W, Calls Tryz.prog 140 #[.agg #[.bool eo, .int .i64 en], .agg #[.bool so, .int .i64 sn]] W fun e w' => e = .returned (.int .i64 (Ag.cmp en sn)) ∧ Below W.heap.size W w') := Lib.hid fun W => compare_any eo en so sn W
    have hcn : ¬ Ag.cmp en sn < 0 := by unfold Ag.cmp; split <;> (try split) <;> omega
    generalize Ag.cmp en sn = cq at *
    have HT := Lib.hid (Ag.mn1_no (a := ⟨so, sn⟩) (b := ⟨eo, en⟩) hc)
    go_wp2_with fail
    refine wp_region_quiet_below (by kernel_rfl) (by kernel_rfl) ?_
    repeat (quiet_step ((go_at_call 140; exact Calls.regrown_of (HC.out _))))
    refine wpQuiet_nil ?_
    intro _ hw'
    obtain ⟨⟨dq, osq⟩, hw''⟩ := hw'
    subst hw''
    go_wp2_with fail
    go_roundw
    case rel => exact ⟨k + 1, by omega, by omega, by go_num, by rw [hst.out, HT.out]; exact HR.out.step (below_regrown wr dq osq)⟩
    case measure => simp [intOf]; omega
  ·obtain rfl : k = l.length := by omega
   have hbb := hR.below
   have hr0 := hR.r0
   rw [List.take_length] at *
   clear hR
   go_wp2
   exact bodyPost_ret (v := (.agg #[.bool (Ag.mn l).ok, .int .i64 (Ag.mn l).n])) (by simp [results, Tryz.results141, go_sem, *]) rfl ⟨rfl, Bq⟩
end
section
namespace Dv
structure Inv (n1 n0 u t q r : Nat) : Prop where
 sum : q * n1 + r = u
 low : (u * 4294967296 + t) / (n1 * 4294967296 + n0) ≤ q
 top : q ≤ 4294967297
theorem y_pos {n1 n0 : Nat} (h1 : 2147483648 ≤ n1) : 0 < n1 * 4294967296 + n0 := by omega
theorem digit_aux (u t y : Nat) (hu : u < y) (ht : t < 4294967296) : u * 4294967296 + t < 4294967296 * y := by omega
theorem digit_lt {n1 n0 u t : Nat} (h1 : 2147483648 ≤ n1) (hu : u < n1 * 4294967296 + n0) (ht : t < 4294967296) :
 (u * 4294967296 + t) / (n1 * 4294967296 + n0) < 4294967296 := by
 rw [Nat.div_lt_iff_lt_mul (y_pos h1)]
 exact digit_aux _ _ _ hu ht
theorem start {n1 n0 u t : Nat} (h1 : 2147483648 ≤ n1) (h0 : n0 < 4294967296) (hu : u < n1 * 4294967296 + n0) (ht : t < 4294967296) :
 Inv n1 n0 u t (u / n1) (u % n1) := by
 refine ⟨by rw [Nat.mul_comm]; exact Nat.div_add_mod u n1, ?_, ?_⟩
 ·rw [Nat.le_div_iff_mul_le (by omega)]
  have h := Nat.div_mul_le_self (u * 4294967296 + t) (n1 * 4294967296 + n0)
  generalize (u * 4294967296 + t) / (n1 * 4294967296 + n0) = Q at *
  rw [Nat.mul_add, ← Nat.mul_assoc] at h
  generalize Q * n1 = a at *
  generalize Q * n0 = b at *
  omega
 ·have : u / n1 < 4294967298 := by rw [Nat.div_lt_iff_lt_mul (by omega)]; omega
  omega
theorem step {n1 n0 u t q r : Nat} (h1 : 2147483648 ≤ n1) (hu : u < n1 * 4294967296 + n0) (ht : t < 4294967296)
 (h : Inv n1 n0 u t q r) (hc : 4294967296 ≤ q ∨ 4294967296 * r + t < q * n0) : 1 ≤ q ∧ Inv n1 n0 u t (q - 1) (r + n1) ∧ (u * 4294967296 + t) / (n1 * 4294967296 + n0) < q := by
 obtain ⟨hs, hl, ht'⟩ := h
 have hlt : (u * 4294967296 + t) / (n1 * 4294967296 + n0) < q := by
  rcases hc with hc | hc
  ·exact Nat.lt_of_lt_of_le (digit_lt h1 hu ht) hc
  ·rw [Nat.div_lt_iff_lt_mul (y_pos h1), Nat.mul_add, ← Nat.mul_assoc]
   generalize q * n1 = a at *
   generalize q * n0 = b at *
   omega
 have h1q : 1 ≤ q := Nat.lt_of_le_of_lt (Nat.zero_le _) hlt
 refine ⟨h1q, ⟨?_, Nat.le_sub_one_of_lt hlt, by omega⟩, hlt⟩
 obtain ⟨p, rfl⟩ : ∃ p, q = p + 1 := ⟨q - 1, by omega⟩
 rw [Nat.add_sub_cancel]
 rw [Nat.add_mul] at hs
 omega
theorem stop {n1 n0 u t q r : Nat} (h1 : 2147483648 ≤ n1) (h0 : n0 < 4294967296)
 (h : Inv n1 n0 u t q r) (hc : (q * n0 ≤ 4294967296 * r + t) ∨ (4294967296 ≤ r ∧ q ≤ 4294967296)) :
 q = (u * 4294967296 + t) / (n1 * 4294967296 + n0) ∧ q * (n1 * 4294967296 + n0) ≤ u * 4294967296 + t := by
 obtain ⟨hs, hl, _⟩ := h
 have hle : q * n0 ≤ 4294967296 * r + t := by
  rcases hc with hc | ⟨hr, hq⟩
  ·exact hc
  ·have := Nat.mul_le_mul hq (show n0 ≤ 4294967295 by omega)
   omega
 have hy : q * (n1 * 4294967296 + n0) ≤ u * 4294967296 + t := by
  rw [Nat.mul_add, ← Nat.mul_assoc]
  generalize q * n1 = a at *
  generalize q * n0 = b at *
  omega
 exact ⟨Nat.le_antisymm ((Nat.le_div_iff_mul_le (y_pos h1)).2 hy) hl, hy⟩
theorem prod_lt {q n0 : Nat} (hq : q < 4294967296) (h0 : n0 < 4294967296) : q * n0 < 18446744073709551616 := by
 have := Nat.mul_le_mul (show q ≤ 4294967295 by omega) (show n0 ≤ 4294967295 by omega)
 omega
theorem two_aux (a b m d0 : Nat) (h : b + m = a) : a * 4294967296 + d0 = (m * 4294967296 + d0) + b * 4294967296 := by omega
theorem two' (a d0 y : Nat) (hy : 0 < y) :
 (a * 4294967296 + d0) / y = a / y * 4294967296 + (a % y * 4294967296 + d0) / y ∧
 (a * 4294967296 + d0) % y = (a % y * 4294967296 + d0) % y := by
 rw [two_aux a (y * (a / y)) (a % y) d0 (Nat.div_add_mod a y), Nat.mul_assoc, Nat.add_mul_div_left _ _ hy, Nat.add_mul_mod_self_left]
 exact ⟨Nat.add_comm _ _, rfl⟩
theorem scaled (N y S : Nat) (hS : 0 < S) : N * S / (y * S) = N / y ∧ N * S % (y * S) / S = N % y := by
 refine ⟨Nat.mul_div_mul_right _ _ hS, ?_⟩
 rw [Nat.mul_mod_mul_right, Nat.mul_div_cancel _ hS]
theorem shifted_aux (a b c d : Nat) (h : 18446744073709551616 * c + d = a) : b * 18446744073709551616 + a = (b + c) * 18446744073709551616 + d := by omega
theorem shifted (hi lo S T : Nat) (hST : S * T = 18446744073709551616) (hS : 0 < S) :
 (hi * 18446744073709551616 + lo) * S = (hi * S + lo / T) * 18446744073709551616 + lo * S % 18446744073709551616 := by
 have e : lo * S / 18446744073709551616 = lo / T := by
  rw [← hST, Nat.mul_comm S T]; exact Nat.mul_div_mul_right _ _ hS
 have h := Nat.div_add_mod (lo * S) 18446744073709551616
 rw [e] at h
 have e2 : (hi * 18446744073709551616 + lo) * S = hi * S * 18446744073709551616 + lo * S := by rw [Nat.add_mul, Nat.mul_right_comm]
 rw [e2]
 exact shifted_aux (lo * S) (hi * S) (lo / T) (lo * S % 18446744073709551616) h
theorem high_lt {hi lo y S T : Nat} (hST : S * T = 18446744073709551616) (hlo : lo < 18446744073709551616) (h : hi < y) : hi * S + lo / T < y * S ∧ lo / T < S := by
 have h1 : lo / T < S := by
  rw [Nat.div_lt_iff_lt_mul (Nat.pos_of_ne_zero (fun h0 => by rw [h0] at hST; omega))]; omega
 have h2 := Nat.mul_le_mul_right S (show hi + 1 ≤ y from h)
 rw [Nat.add_mul] at h2
 omega
def InvI (n1 n0 u t : Nat) (a b : Int) : Prop := 0 ≤ a ∧ 0 ≤ b ∧ b ≤ 4294967295 ∧ Inv n1 n0 u t a.toNat b.toNat
theorem startI {n1 n0 u t : Nat} (h1 : 2147483648 ≤ n1) (h2 : n1 < 4294967296) (h0 : n0 < 4294967296) (hu : u < n1 * 4294967296 + n0) (ht : t < 4294967296) :
 InvI n1 n0 u t ((u / n1 : Nat) : Int) ((u % n1 : Nat) : Int) :=
 ⟨Int.natCast_nonneg _, Int.natCast_nonneg _, by have := Nat.mod_lt u (show 0 < n1 by omega); omega, by rw [Int.toNat_natCast, Int.toNat_natCast]; exact start h1 h0 hu ht⟩
theorem boundsI {n1 n0 u t : Nat} {a b : Int} (h : InvI n1 n0 u t a b) : 0 ≤ a ∧ a ≤ 4294967297 ∧ 0 ≤ b ∧ b ≤ 4294967295 := by
 obtain ⟨h1, h2, h3, h4⟩ := h
 have := h4.top
 exact ⟨h1, by omega, h2, h3⟩
theorem prodI {a : Int} {n0 : Nat} (h0 : 0 ≤ a) (h1 : a ≤ 4294967295) (h : n0 < 4294967296) : ∃ P : Int, a * (n0 : Int) = P ∧ 0 ≤ P ∧ P ≤ 18446744073709551615 := by
 obtain ⟨x, rfl⟩ := Int.eq_ofNat_of_zero_le h0
 have hp := prod_lt (q := x) (n0 := n0) (by omega) h
 refine ⟨_, rfl, by rw [← Int.natCast_mul]; exact Int.natCast_nonneg _, ?_⟩
 rw [← Int.natCast_mul]
 omega
theorem stepI_nat {n1 n0 u t : Nat} {a b : Int} (h1 : 2147483648 ≤ n1) (hu : u < n1 * 4294967296 + n0) (ht : t < 4294967296)
 (h : InvI n1 n0 u t a b) (hc : 4294967296 ≤ a ∨ 4294967296 * b + t < a * n0) : 1 ≤ a.toNat ∧ Inv n1 n0 u t (a.toNat - 1) (b.toNat + n1) := by
 obtain ⟨ha, hb, h3, h4⟩ := h
 obtain ⟨x, rfl⟩ := Int.eq_ofNat_of_zero_le ha
 obtain ⟨z, rfl⟩ := Int.eq_ofNat_of_zero_le hb
 simp only [Int.toNat_natCast] at h4 ⊢
 have hs := step h1 hu ht h4 (by
  rcases hc with hc | hc
  ·exact .inl (by omega)
  ·right
   rw [← Int.natCast_mul] at hc
   omega)
 exact ⟨hs.1, hs.2.1⟩
theorem stepI {n1 n0 u t : Nat} {a b : Int} (h1 : 2147483648 ≤ n1) (hu : u < n1 * 4294967296 + n0) (ht : t < 4294967296)
 (h : InvI n1 n0 u t a b) (hc : 4294967296 ≤ a ∨ 4294967296 * b + t < a * n0) (hb2 : b + n1 ≤ 4294967295) : 1 ≤ a ∧ InvI n1 n0 u t (a - 1) (b + n1) := by
 obtain ⟨hs1, hs2⟩ := stepI_nat h1 hu ht h hc
 obtain ⟨ha, hb, h3, h4⟩ := h
 refine ⟨by omega, by omega, by omega, hb2, ?_⟩
 have e1 : (a - 1).toNat = a.toNat - 1 := by omega
 have e2 : (b + (n1 : Int)).toNat = b.toNat + n1 := by omega
 rw [e1, e2]
 exact hs2
theorem breakI {n1 n0 u t Q : Nat} {a b : Int} (h1 : 2147483648 ≤ n1) (h0 : n0 < 4294967296) (hu : u < n1 * 4294967296 + n0) (ht : t < 4294967296)
 (hQ : Q = (u * 4294967296 + t) / (n1 * 4294967296 + n0))
 (h : InvI n1 n0 u t a b) (hc : 4294967296 ≤ a ∨ 4294967296 * b + t < a * n0) (hb2 : 4294967296 ≤ b + n1) : a = (Q : Int) + 1 := by
 obtain ⟨hs1, hs2⟩ := stepI_nat h1 hu ht h hc
 obtain ⟨ha, hb, h3, h4⟩ := h
 have htop := h4.top
 have := (stop h1 h0 hs2 (.inr ⟨by omega, by omega⟩)).1.trans hQ.symm
 omega
theorem doneI {n1 n0 u t Q : Nat} {a b : Int} (h1 : 2147483648 ≤ n1) (h0 : n0 < 4294967296)
 (hQ : Q = (u * 4294967296 + t) / (n1 * 4294967296 + n0))
 (h : InvI n1 n0 u t a b) (hc : a * n0 ≤ 4294967296 * b + t) : a = (Q : Int) := by
 obtain ⟨ha, hb, h3, h4⟩ := h
 obtain ⟨x, rfl⟩ := Int.eq_ofNat_of_zero_le ha
 obtain ⟨z, rfl⟩ := Int.eq_ofNat_of_zero_le hb
 simp only [Int.toNat_natCast] at h4
 have := (stop h1 h0 h4 (.inl (by rw [← Int.natCast_mul] at hc; omega))).1.trans hQ.symm
 omega
end Dv
end
end Go.Proofs.YtljlanhpjpjgaaaGreatDoor
