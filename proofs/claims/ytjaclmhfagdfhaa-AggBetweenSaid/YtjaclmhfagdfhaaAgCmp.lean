/-
  CONTRACTS: how agg compares two values; the greatest and the least of a row (slices.MaxFunc, slices.MinFunc).
-/
import Derived.Test.YtjaclmhfagdfhaaAgPure
import Derived.Test.YtjaclmhfagdfhaaAgRow
namespace Go.Proofs.Ytjaclmhfagdfhaa
open Go.RowKit Go.Sort
open Fx (Vl)
open Me

theorem isNaN_any (n : Int) (w : World) : Calls Try.prog 54 #[.int .i64 n] w fun e w' => e = .returned (.bool false) ∧ w = w' := by
  go_enter Try.func54, Try.ntmps54
  go_wp2
  go_ret
  exact ⟨rfl, rfl⟩

def Ag.cmp (m n : Int) : Int := if m < n then -1 else if n < m then 1 else 0
theorem compare_int (m n : Int) (w : World) : Calls Try.prog 48 #[.int .i64 m, .int .i64 n] w fun e w' => e = .returned (.int .i64 (Ag.cmp m n)) ∧ w = w' := by
  have HN : Hid (∀ n W, Calls Try.prog 54 #[.int .i64 n] W fun e w' => e = .returned (.bool false) ∧ W = w') := Lib.hid isNaN_any
  by_cases h1 : m < n
  · have HQ : Hid (Ag.cmp m n = -1) := Lib.hid (by unfold Ag.cmp; rw [if_pos h1])
    go_enter Try.func48, Try.ntmps48
    go_wp2_with (go_at_call 54; go_must (refine (HN.out _ _).mono ?_; rintro e w' ⟨rfl, rfl⟩))
    go_ret
    exact ⟨by rw [HQ.out]; rfl, rfl⟩
  · by_cases h2 : n < m
    · have HQ : Hid (Ag.cmp m n = 1) := Lib.hid (by unfold Ag.cmp; rw [if_neg h1, if_pos h2])
      go_enter Try.func48, Try.ntmps48
      go_wp2_with (go_at_call 54; go_must (refine (HN.out _ _).mono ?_; rintro e w' ⟨rfl, rfl⟩))
      go_ret
      exact ⟨by rw [HQ.out]; rfl, rfl⟩
    · have HQ : Hid (Ag.cmp m n = 0) := Lib.hid (by unfold Ag.cmp; rw [if_neg h1, if_neg h2])
      go_enter Try.func48, Try.ntmps48
      go_wp2_with (go_at_call 54; go_must (refine (HN.out _ _).mono ?_; rintro e w' ⟨rfl, rfl⟩))
      go_ret
      exact ⟨by rw [HQ.out]; rfl, rfl⟩

theorem compare_any (a : Bool) (m : Int) (b : Bool) (n : Int) (w : World) :
    Calls Try.prog 36 #[.agg #[.bool a, .int .i64 m], .agg #[.bool b, .int .i64 n]] w fun e w' => e = .returned (.int .i64 (Ag.cmp m n)) ∧ Below w.heap.size w w' := by
  have HC : Hid (∀ W, Calls Try.prog 48 #[.int .i64 m, .int .i64 n] W fun e w' => e = .returned (.int .i64 (Ag.cmp m n)) ∧ W = w') := Lib.hid fun W => compare_int m n W
  generalize Ag.cmp m n = c at *
  go_enter Try.func36, Try.ntmps36
  go_wp2_with (go_at_call 48; go_must (refine (HC.out _).mono ?_; rintro e w' ⟨rfl, rfl⟩))
  go_ret
  exact ⟨rfl, (by repeat (first | exact Below.refl _ _ | assumption | refine Below.setCell ?_ (by first | (simp; done) | omega | (simp; omega) | (simp at *; omega)) _ | refine Below.alloc ?_ (by first | (simp; done) | omega | (simp; omega) | (simp at *; omega)) _ | refine Below.drew ?_ | (refine Below.trans ?_ (Below.mono (by assumption) (by first | (simp; done) | omega | (simp; omega) | (simp at *; omega)))) | (refine Below.trans ?_ (Below.mono (below_regrown _ _ _) (by first | (simp; done) | omega | (simp; omega) | (simp at *; omega))))))⟩

/-- What holds at every turn: of the world; of the result's block r, of the block s of what is greatest (or least) so far. -/
structure BestRel (w wr : World) (r s : Nat) (v : Vl) : Prop where
  below : Below w.heap.size w wr
  r0 : w.heap.size ≤ r
  rs : r < s
  sz : s < wr.heap.size
  rc0 : wr.cell? ⟨r, 0, none⟩ = some (.bool false)
  rc1 : wr.cell? ⟨r, 1, none⟩ = some (.int .i64 0)
  rf0 : wr.frozen? ⟨r, 0, none⟩ = false
  rf1 : wr.frozen? ⟨r, 1, none⟩ = false
  sc0 : wr.cell? ⟨s, 0, none⟩ = some (.bool v.ok)
  sc1 : wr.cell? ⟨s, 1, none⟩ = some (.int .i64 v.n)
  sf0 : wr.frozen? ⟨s, 0, none⟩ = false
  sf1 : wr.frozen? ⟨s, 1, none⟩ = false
theorem BestRel.step {w wr wp : World} {r s : Nat} {v : Vl} (h : BestRel w wr r s v) (hb : Below wr.heap.size wr wp) : BestRel w wp r s v := by
  have hr0 := h.r0
  have hrs := h.rs
  have hs1 := h.sz
  have hr1 : r < wr.heap.size := by omega
  exact ⟨h.below.trans (hb.mono (by omega)), h.r0, h.rs, Nat.lt_of_lt_of_le h.sz hb.size, ((bcell hb).1 _ _ hr1).trans h.rc0, ((bcell hb).1 _ _ hr1).trans h.rc1, ((bcell hb).2 _ _ hr1).trans h.rf0, ((bcell hb).2 _ _ hr1).trans h.rf1,
    ((bcell hb).1 _ _ hs1).trans h.sc0, ((bcell hb).1 _ _ hs1).trans h.sc1, ((bcell hb).2 _ _ hs1).trans h.sf0, ((bcell hb).2 _ _ hs1).trans h.sf1⟩
theorem BestRel.set_ {w wr : World} {r s : Nat} {v : Vl} (h : BestRel w wr r s v) (ok : Bool) (n : Int) :
    BestRel w ((wr.setCell ⟨s, 0, none⟩ (.bool ok)).setCell ⟨s, 1, none⟩ (.int .i64 n)) r s ⟨ok, n⟩ := by
  have hs1 := h.sz
  have hrs := h.rs
  have hr0 := h.r0
  have hne : r ≠ s := by omega
  have c0 := h.sc0
  have c1 := h.sc1
  have d0 := h.rc0
  have d1 := h.rc1
  have f0 := h.sf0
  have f1 := h.sf1
  have g0 := h.rf0
  have g1 := h.rf1
  refine ⟨?_, hr0, hrs, by simp; omega, ?_, ?_, ?_, ?_, ?_, ?_, ?_, ?_⟩
  · exact Below.setCell (Below.setCell h.below (by show _ ≤ s; omega) _) (by show _ ≤ s; omega) _
  all_goals simp [go_sem, *]
theorem BestRel.start (w : World) (T : TypeId) (ok : Bool) (n : Int) :
    BestRel w ((w.alloc (.cells #[.bool false, .int .i64 0] T)).alloc (.cells #[.bool ok, .int .i64 n] T)) w.heap.size (w.heap.size + 1) ⟨ok, n⟩ := by
  refine ⟨((Below.refl _ _).alloc (Nat.le_refl _) _).alloc (by simp) _, Nat.le_refl _, by omega, by simp, ?_, ?_, ?_, ?_, ?_, ?_, ?_, ?_⟩
  all_goals simp [go_sem]

set_option maxHeartbeats 2000000 in
theorem maxFunc_some (l : List Vl) (h0 : 0 < l.length) (hl : l.length ≤ 4611686018427387904) (b off cap : Nat) (w : World) (hv : Vals w b off l) :
    Calls Try.prog 35 #[.slice (some ⟨b, off, none⟩) l.length cap, .func (.func 36) #[] #[]] w fun e w' => e = .returned (.agg #[.bool (Ag.mx l).ok, .int .i64 (Ag.mx l).n]) ∧ Below w.heap.size w w' := by
  have x0 := hv.ok 0 h0
  have x1 := hv.n 0 h0
  rw [Nat.zero_mul, Nat.add_zero] at x0 x1
  have hbr0 := hv.lt
  have HM := Lib.hid (Ag.mx_one l h0)
  generalize l[0] = e0 at *
  obtain ⟨fo, fn⟩ := e0
  have h1l : ¬ ((l.length : Int) < 1) := by omega
  go_enter Try.func35, Try.ntmps35
  go_wp2_with fail
  go_loopw [6] (fun i wr => ∃ k : Nat, 1 ≤ k ∧ k ≤ l.length ∧ i = .int .i64 k ∧ BestRel w wr w.heap.size (w.heap.size + 1) (Ag.mx (l.take k))) (fun i _ => l.length - (intOf i).toNat)
  case atStart => exact ⟨1, Nat.le_refl _, h0, rfl, by rw [HM.out]; exact BestRel.start _ _ _ _⟩
  case round =>
    obtain ⟨k, hk1, hk, rfl, hR⟩ := hrel
    have hsz := hR.sz
    have rc0 := hR.rc0
    have rc1 := hR.rc1
    have rf0 := hR.rf0
    have rf1 := hR.rf1
    have sc0 := hR.sc0
    have sc1 := hR.sc1
    have sf0 := hR.sf0
    have sf1 := hR.sf1
    by_cases hlt : k < l.length
    · have hvr := hv.below hR.below
      have ec0 := hvr.ok k hlt
      have ec1 := hvr.n k hlt
      have hbr := hvr.lt
      have hst := Lib.hid (Ag.mx_take l k hk1 hlt)
      have HR := Lib.hid hR
      clear hR hvr
      generalize l[k] = ek at *
      generalize Ag.mx (l.take k) = sk at *
      obtain ⟨eo, en⟩ := ek
      obtain ⟨so, sn⟩ := sk
      have hkl : (k : Int) < (l.length : Int) := by omega
      have hk0 : (0 : Int) ≤ (k : Int) := by omega
      obtain ⟨kc, kf⟩ := kgrown wr
      by_cases hc : sn < en
      · have HC : Hid (∀ W, Calls Try.prog 36 #[.agg #[.bool eo, .int .i64 en], .agg #[.bool so, .int .i64 sn]] W fun e w' => e = .returned (.int .i64 1) ∧ Below W.heap.size W w') := Lib.hid fun W => by
          have := compare_any eo en so sn W
          unfold Ag.cmp at this
          rw [if_neg (by omega), if_pos hc] at this
          exact this
        have HT := Lib.hid (Ag.mx1_yes (a := ⟨so, sn⟩) (b := ⟨eo, en⟩) hc)
        go_wp2_with fail
        refine wp_region_quiet_below (by kernel_rfl) (by kernel_rfl) ?_
        repeat (quiet_step ((go_at_call 36; exact Calls.regrown_of (HC.out _))))
        refine wpQuiet_nil ?_
        intro _ hw'
        obtain ⟨⟨dq, osq⟩, hw''⟩ := hw'
        subst hw''
        go_wp2_with fail
        go_roundw
        case rel => exact ⟨k + 1, by omega, by omega, by go_num, by rw [hst.out, HT.out]; exact (HR.out.step (below_regrown wr dq osq)).set_ _ _⟩
        case measure => simp [intOf]; omega
      · have HC : Hid (∀ W, Calls Try.prog 36 #[.agg #[.bool eo, .int .i64 en], .agg #[.bool so, .int .i64 sn]] W fun e w' => e = .returned (.int .i64 (Ag.cmp en sn)) ∧ Below W.heap.size W w') := Lib.hid fun W => compare_any eo en so sn W
        have hcn : ¬ 0 < Ag.cmp en sn := by unfold Ag.cmp; split <;> (try split) <;> omega
        generalize Ag.cmp en sn = cq at *
        have HT := Lib.hid (Ag.mx1_no (a := ⟨so, sn⟩) (b := ⟨eo, en⟩) hc)
        go_wp2_with fail
        refine wp_region_quiet_below (by kernel_rfl) (by kernel_rfl) ?_
        repeat (quiet_step ((go_at_call 36; exact Calls.regrown_of (HC.out _))))
        refine wpQuiet_nil ?_
        intro _ hw'
        obtain ⟨⟨dq, osq⟩, hw''⟩ := hw'
        subst hw''
        go_wp2_with fail
        go_roundw
        case rel => exact ⟨k + 1, by omega, by omega, by go_num, by rw [hst.out, HT.out]; exact HR.out.step (below_regrown wr dq osq)⟩
        case measure => simp [intOf]; omega
    · obtain rfl : k = l.length := by omega
      have hbb := hR.below
      have hr0 := hR.r0
      rw [List.take_length] at *
      clear hR
      go_wp2
      exact bodyPost_ret (v := (.agg #[.bool (Ag.mx l).ok, .int .i64 (Ag.mx l).n])) (by simp [results, Try.results35, go_sem, *]) rfl ⟨rfl, (by repeat (first | exact Below.refl _ _ | assumption | refine Below.setCell ?_ (by first | (simp; done) | omega | (simp; omega) | (simp at *; omega)) _ | refine Below.alloc ?_ (by first | (simp; done) | omega | (simp; omega) | (simp at *; omega)) _ | refine Below.drew ?_ | (refine Below.trans ?_ (Below.mono (by assumption) (by first | (simp; done) | omega | (simp; omega) | (simp at *; omega)))) | (refine Below.trans ?_ (Below.mono (below_regrown _ _ _) (by first | (simp; done) | omega | (simp; omega) | (simp at *; omega))))))⟩

set_option maxHeartbeats 2000000 in
theorem minFunc_some (l : List Vl) (h0 : 0 < l.length) (hl : l.length ≤ 4611686018427387904) (b off cap : Nat) (w : World) (hv : Vals w b off l) :
    Calls Try.prog 37 #[.slice (some ⟨b, off, none⟩) l.length cap, .func (.func 36) #[] #[]] w fun e w' => e = .returned (.agg #[.bool (Ag.mn l).ok, .int .i64 (Ag.mn l).n]) ∧ Below w.heap.size w w' := by
  have x0 := hv.ok 0 h0
  have x1 := hv.n 0 h0
  rw [Nat.zero_mul, Nat.add_zero] at x0 x1
  have hbr0 := hv.lt
  have HM := Lib.hid (Ag.mn_one l h0)
  generalize l[0] = e0 at *
  obtain ⟨fo, fn⟩ := e0
  have h1l : ¬ ((l.length : Int) < 1) := by omega
  go_enter Try.func37, Try.ntmps37
  go_wp2_with fail
  go_loopw [6] (fun i wr => ∃ k : Nat, 1 ≤ k ∧ k ≤ l.length ∧ i = .int .i64 k ∧ BestRel w wr w.heap.size (w.heap.size + 1) (Ag.mn (l.take k))) (fun i _ => l.length - (intOf i).toNat)
  case atStart => exact ⟨1, Nat.le_refl _, h0, rfl, by rw [HM.out]; exact BestRel.start _ _ _ _⟩
  case round =>
    obtain ⟨k, hk1, hk, rfl, hR⟩ := hrel
    have hsz := hR.sz
    have rc0 := hR.rc0
    have rc1 := hR.rc1
    have rf0 := hR.rf0
    have rf1 := hR.rf1
    have sc0 := hR.sc0
    have sc1 := hR.sc1
    have sf0 := hR.sf0
    have sf1 := hR.sf1
    by_cases hlt : k < l.length
    · have hvr := hv.below hR.below
      have ec0 := hvr.ok k hlt
      have ec1 := hvr.n k hlt
      have hbr := hvr.lt
      have hst := Lib.hid (Ag.mn_take l k hk1 hlt)
      have HR := Lib.hid hR
      clear hR hvr
      generalize l[k] = ek at *
      generalize Ag.mn (l.take k) = sk at *
      obtain ⟨eo, en⟩ := ek
      obtain ⟨so, sn⟩ := sk
      have hkl : (k : Int) < (l.length : Int) := by omega
      have hk0 : (0 : Int) ≤ (k : Int) := by omega
      obtain ⟨kc, kf⟩ := kgrown wr
      by_cases hc : en < sn
      · have HC : Hid (∀ W, Calls Try.prog 36 #[.agg #[.bool eo, .int .i64 en], .agg #[.bool so, .int .i64 sn]] W fun e w' => e = .returned (.int .i64 (-1)) ∧ Below W.heap.size W w') := Lib.hid fun W => by
          have := compare_any eo en so sn W
          unfold Ag.cmp at this
          rw [if_pos hc] at this
          exact this
        have HT := Lib.hid (Ag.mn1_yes (a := ⟨so, sn⟩) (b := ⟨eo, en⟩) hc)
        go_wp2_with fail
        refine wp_region_quiet_below (by kernel_rfl) (by kernel_rfl) ?_
        repeat (quiet_step ((go_at_call 36; exact Calls.regrown_of (HC.out _))))
        refine wpQuiet_nil ?_
        intro _ hw'
        obtain ⟨⟨dq, osq⟩, hw''⟩ := hw'
        subst hw''
        go_wp2_with fail
        go_roundw
        case rel => exact ⟨k + 1, by omega, by omega, by go_num, by rw [hst.out, HT.out]; exact (HR.out.step (below_regrown wr dq osq)).set_ _ _⟩
        case measure => simp [intOf]; omega
      · have HC : Hid (∀ W, Calls Try.prog 36 #[.agg #[.bool eo, .int .i64 en], .agg #[.bool so, .int .i64 sn]] W fun e w' => e = .returned (.int .i64 (Ag.cmp en sn)) ∧ Below W.heap.size W w') := Lib.hid fun W => compare_any eo en so sn W
        have hcn : ¬ Ag.cmp en sn < 0 := by unfold Ag.cmp; split <;> (try split) <;> omega
        generalize Ag.cmp en sn = cq at *
        have HT := Lib.hid (Ag.mn1_no (a := ⟨so, sn⟩) (b := ⟨eo, en⟩) hc)
        go_wp2_with fail
        refine wp_region_quiet_below (by kernel_rfl) (by kernel_rfl) ?_
        repeat (quiet_step ((go_at_call 36; exact Calls.regrown_of (HC.out _))))
        refine wpQuiet_nil ?_
        intro _ hw'
        obtain ⟨⟨dq, osq⟩, hw''⟩ := hw'
        subst hw''
        go_wp2_with fail
        go_roundw
        case rel => exact ⟨k + 1, by omega, by omega, by go_num, by rw [hst.out, HT.out]; exact HR.out.step (below_regrown wr dq osq)⟩
        case measure => simp [intOf]; omega
    · obtain rfl : k = l.length := by omega
      have hbb := hR.below
      have hr0 := hR.r0
      rw [List.take_length] at *
      clear hR
      go_wp2
      exact bodyPost_ret (v := (.agg #[.bool (Ag.mn l).ok, .int .i64 (Ag.mn l).n])) (by simp [results, Try.results37, go_sem, *]) rfl ⟨rfl, (by repeat (first | exact Below.refl _ _ | assumption | refine Below.setCell ?_ (by first | (simp; done) | omega | (simp; omega) | (simp at *; omega)) _ | refine Below.alloc ?_ (by first | (simp; done) | omega | (simp; omega) | (simp at *; omega)) _ | refine Below.drew ?_ | (refine Below.trans ?_ (Below.mono (by assumption) (by first | (simp; done) | omega | (simp; omega) | (simp at *; omega)))) | (refine Below.trans ?_ (Below.mono (below_regrown _ _ _) (by first | (simp; done) | omega | (simp; omega) | (simp at *; omega))))))⟩
end Go.Proofs.Ytjaclmhfagdfhaa
