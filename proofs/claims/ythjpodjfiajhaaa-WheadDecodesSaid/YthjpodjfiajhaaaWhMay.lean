/-
  CONTRACTS: the document's own headers: which may be.
-/
import Derived.Test.YthjpodjfiajhaaaWhSide
import Derived.Test.YthjpodjfiajhaaaWhVal
namespace Go.Proofs.Ythjpodjfiajhaaa
open Go.RowKit Go.Sort
open Wh (At)

theorem Wh.av_run {l : List (Int × Int)} {k : Nat} (hk : k ≤ l.length) (h : 1048576 < Wh.run l k)   : Wh.av l = false := by
  cases ha : Wh.alls l l.length
  · unfold Wh.av; simp [ha]
  · have := Wh.run_le (Wh.alls_cnt ha) k hk
    exact Wh.av_big (by omega)

theorem lowBox {w W : World} {o : Obj} (h : Below (w.heap.size + 1) (w.alloc o) W) : Below w.heap.size w W := ((Below.refl _ _).alloc (Nat.le_refl _) _).trans (h.mono (Nat.le_succ _))

set_option maxHeartbeats 4000000 in
theorem may_some (ag xf : Int) (g1 : 1 ≤ ag) (g2 : ag ≤ 5) (x1 : 0 ≤ xf) (x2 : xf ≤ 1000000) (l : List (Int × Int)) (b off cap : Nat) (w : World) (hA : Ars w b off l) (hcap : l.length ≤ cap) (h1 : 1 ≤ l.length) (h8 : l.length ≤ 8) :
    Calls Try.prog 21 #[.agg #[.int .i64 ag, .int .i64 xf, .slice (some ⟨b, off, none⟩) l.length cap]] w fun e w' => e = .returned (.bool (Wh.av l)) ∧ Below w.heap.size w w' := by
  have HF : Hid (∀ k, k < l.length → Wh.stp l k = false → Wh.av l = false) := Lib.hid fun k hk h => Wh.av_stp hk h
  have HA := Lib.hid hA
  have H1 : Hid (∀ k, Wh.num (At l k).1 = false → Wh.stp l k = false) := Lib.hid fun k => Wh.stp_f1
  have H2 : Hid (∀ k, Wh.num (At l k).2 = false → Wh.stp l k = false) := Lib.hid fun k => Wh.stp_f2
  have H3 : Hid (∀ k, 0 < k → Wh.fol (At l (k - 1)) (At l k) = false → Wh.stp l k = false) := Lib.hid fun k => Wh.stp_f3
  have HT : Hid (∀ k, Wh.alls l k = true → Wh.num (At l k).1 = true → Wh.num (At l k).2 = true → (k = 0 ∨ Wh.fol (At l (k - 1)) (At l k) = true) → Wh.alls l (k + 1) = true) := Lib.hid fun k h h1 h2 h3 => Wh.alls_succ h (Wh.stp_t h1 h2 h3)
  have HB : Hid (∀ k m, k < m → Wh.alls l m = true → (1 ≤ (At l k).1 ∧ (At l k).1 ≤ 16777216) ∧ (1 ≤ (At l k).2 ∧ (At l k).2 ≤ 16777216)) := Lib.hid fun k m => Wh.alls_num
  have HU : Hid (∀ k, Wh.run l (k + 1) = Wh.run l k + 12 + 12 * (At l k).2) := Lib.hid fun k => Wh.run_succ l k
  have HG : Hid (∀ k, k ≤ l.length → 1048576 < Wh.run l k → Wh.av l = false) := Lib.hid fun k hk h => Wh.av_run hk h
  have HZ : Hid (Wh.run l 0 = 16) := Lib.hid (Wh.run_zero l)
  have HN : Hid (∀ k, 16 ≤ Wh.run l k ∧ Wh.run l k ≤ 1048576 → 16 ≤ Wh.run l k ∧ Wh.run l k ≤ 1048576) := Lib.hid fun _ h => h
  clear hA
  go_enter Try.func21, Try.ntmps21
  go_wp2
  go_loopw [3, 4] (fun n i wr => ∃ j : Nat, j ≤ l.length ∧ i = .int .i64 j ∧ n = .int .i64 (Wh.run l j) ∧ Hid (Wh.alls l j = true) ∧ (16 ≤ Wh.run l j ∧ Wh.run l j ≤ 1048576) ∧ Below (w.heap.size + 1) (w.alloc (.cells #[.int .i64 ag, .int .i64 xf, .slice (some ⟨b, off, none⟩) l.length cap] 25)) wr) (fun _ i _ => l.length - (intOf i).toNat)
  case atStart => exact ⟨0, Nat.zero_le _, rfl, by rw [HZ.out], Lib.hid rfl, by rw [HZ.out]; omega, Below.refl _ _⟩
  case round =>
    obtain ⟨j, hj, rfl, rfl, hal, hrn, hR⟩ := hrel
    have hx2 : wr.cell? ⟨w.heap.size, 2, none⟩ = some (.slice (some ⟨b, off, none⟩) l.length cap) := (hR.cell (p := ⟨w.heap.size, 2, none⟩) (Nat.lt_succ_self _)).trans (by simp [go_sem])
    have hsz : w.heap.size < wr.heap.size := by have := hR.size; simp at this; omega
    have hAr := HA.out.below (lowBox hR)
    have hbl := hAr.lt
    have HR := Lib.hid hR
    clear hR HN
    by_cases hlt : j < l.length
    · have c0 := hAr.st j hlt
      have c1 := hAr.ct j hlt
      have HJ := Lib.hid (HF.out j hlt)
      have HJ1 := Lib.hid (H1.out j)
      have HJ2 := Lib.hid (H2.out j)
      have HJ3 := Lib.hid (H3.out j)
      have HJT := Lib.hid (HT.out j hal.out)
      have HJU := Lib.hid (HU.out j)
      have HJG : Hid (1048576 < Wh.run l j + 12 + 12 * (At l j).2 → Wh.av l = false) := Lib.hid fun h => HG.out (j + 1) (by omega) (by rw [HU.out]; exact h)
      have hp : (∀ m, j = m + 1 → (1 ≤ (At l m).1 ∧ (At l m).1 ≤ 16777216) ∧ (1 ≤ (At l m).2 ∧ (At l m).2 ≤ 16777216)) := fun m e => HB.out m j (by omega) hal.out
      have HP := Lib.hid hp
      have HPC : Hid (∀ m, j = m + 1 → wr.cell? ⟨b, off + m * 2, none⟩ = some (.int .i64 (At l m).1) ∧ wr.cell? ⟨b, off + m * 2 + 1, none⟩ = some (.int .i64 (At l m).2)) := Lib.hid fun m e => ⟨hAr.st m (by omega), hAr.ct m (by omega)⟩
      clear hp hAr HF HA H1 H2 H3 HT HB HU HG HZ hal
      by_cases k1 : (At l j).1 < 1
      · have HQ := Lib.hid (HJ.out (HJ1.out (by unfold Wh.num; simp; omega)))
        have d1 : decide ((At l j).1 < 1) = true := decide_eq_true k1
        clear HJ HJ1 HJ2 HJ3 HJT HJU HJG HP HPC
        generalize At l j = a at *
        obtain ⟨s, c⟩ := a
        dsimp only at *
        go_wp2_with fail
        obtain ⟨kc, kf⟩ := kgrown (wr.alloc (.cells #[.int .i64 s, .int .i64 c] 41))
        refine wp_region_quiet_below (by kernel_rfl) (by kernel_rfl) ?_
        repeat (go_big_quiet_step (fail))
        refine wpQuiet_nil ?_
        intro _ hw'
        obtain ⟨⟨dq, osq⟩, hw''⟩ := hw'
        subst hw''
        go_wp2
        go_ret
        exact ⟨by rw [HQ.out]; rfl, (HR.out.alloc (by have := HR.out.size; simp at this; omega) _).trans ((below_regrown _ _ _).mono (by have := HR.out.size; simp at this ⊢; omega)) |> lowBox⟩
      have d1 : decide ((At l j).1 < 1) = false := decide_eq_false k1
      by_cases k2 : 16777216 < (At l j).1
      · have HQ := Lib.hid (HJ.out (HJ1.out (by unfold Wh.num; simp; omega)))
        have d2 : decide (16777216 < (At l j).1) = true := decide_eq_true k2
        clear HJ HJ1 HJ2 HJ3 HJT HJU HJG HP HPC
        generalize At l j = a at *
        obtain ⟨s, c⟩ := a
        dsimp only at *
        go_wp2_with fail
        obtain ⟨kc, kf⟩ := kgrown (wr.alloc (.cells #[.int .i64 s, .int .i64 c] 41))
        refine wp_region_quiet_below (by kernel_rfl) (by kernel_rfl) ?_
        repeat (go_big_quiet_step (fail))
        refine wpQuiet_nil ?_
        intro _ hw'
        obtain ⟨⟨dq, osq⟩, hw''⟩ := hw'
        subst hw''
        go_wp2
        go_ret
        exact ⟨by rw [HQ.out]; rfl, (HR.out.alloc (by have := HR.out.size; simp at this; omega) _).trans ((below_regrown _ _ _).mono (by have := HR.out.size; simp at this ⊢; omega)) |> lowBox⟩
      have d2 : decide (16777216 < (At l j).1) = false := decide_eq_false k2
      by_cases k3 : (At l j).2 < 1
      · have HQ := Lib.hid (HJ.out (HJ2.out (by unfold Wh.num; simp; omega)))
        have d3 : decide ((At l j).2 < 1) = true := decide_eq_true k3
        clear HJ HJ1 HJ2 HJ3 HJT HJU HJG HP HPC
        generalize At l j = a at *
        obtain ⟨s, c⟩ := a
        dsimp only at *
        go_wp2_with fail
        obtain ⟨kc, kf⟩ := kgrown (wr.alloc (.cells #[.int .i64 s, .int .i64 c] 41))
        refine wp_region_quiet_below (by kernel_rfl) (by kernel_rfl) ?_
        repeat (go_big_quiet_step (fail))
        refine wpQuiet_nil ?_
        intro _ hw'
        obtain ⟨⟨dq, osq⟩, hw''⟩ := hw'
        subst hw''
        go_wp2
        go_ret
        exact ⟨by rw [HQ.out]; rfl, (HR.out.alloc (by have := HR.out.size; simp at this; omega) _).trans ((below_regrown _ _ _).mono (by have := HR.out.size; simp at this ⊢; omega)) |> lowBox⟩
      have d3 : decide ((At l j).2 < 1) = false := decide_eq_false k3
      by_cases k4 : 16777216 < (At l j).2
      · have HQ := Lib.hid (HJ.out (HJ2.out (by unfold Wh.num; simp; omega)))
        have d4 : decide (16777216 < (At l j).2) = true := decide_eq_true k4
        clear HJ HJ1 HJ2 HJ3 HJT HJU HJG HP HPC
        generalize At l j = a at *
        obtain ⟨s, c⟩ := a
        dsimp only at *
        go_wp2_with fail
        obtain ⟨kc, kf⟩ := kgrown (wr.alloc (.cells #[.int .i64 s, .int .i64 c] 41))
        refine wp_region_quiet_below (by kernel_rfl) (by kernel_rfl) ?_
        repeat (go_big_quiet_step (fail))
        refine wpQuiet_nil ?_
        intro _ hw'
        obtain ⟨⟨dq, osq⟩, hw''⟩ := hw'
        subst hw''
        go_wp2
        go_ret
        exact ⟨by rw [HQ.out]; rfl, (HR.out.alloc (by have := HR.out.size; simp at this; omega) _).trans ((below_regrown _ _ _).mono (by have := HR.out.size; simp at this ⊢; omega)) |> lowBox⟩
      have d4 : decide (16777216 < (At l j).2) = false := decide_eq_false k4
      have q1 : 1 ≤ (At l j).1 := by omega
      have q2 : (At l j).1 ≤ 16777216 := by omega
      have q3 : 1 ≤ (At l j).2 := by omega
      have q4 : (At l j).2 ≤ 16777216 := by omega
      have HJT := Lib.hid (HJT.out (Wh.num_t q1 q2) (Wh.num_t q3 q4))
      clear k1 k2 k3 k4
      cases j with
      | zero =>
        have HQ := Lib.hid (HJT.out (.inl rfl))
        simp only [Nat.zero_mul, Nat.add_zero] at c0 c1
        clear HJ HJ1 HJ2 HJ3 HJT HP HPC
        generalize Wh.run l 0 = q at *
        generalize At l 0 = a at *
        obtain ⟨s, c⟩ := a
        dsimp only at *
        by_cases k5 : 1048576 < q + 12 + 12 * c
        · have HQ := Lib.hid (HJG.out k5)
          clear HJG
          go_wp2_with fail
          obtain ⟨kc, kf⟩ := kgrown (wr.alloc (.cells #[.int .i64 s, .int .i64 c] 41))
          refine wp_region_quiet_below (by kernel_rfl) (by kernel_rfl) ?_
          repeat (go_big_quiet_step (fail))
          refine wpQuiet_nil ?_
          intro _ hw'
          obtain ⟨⟨dq, osq⟩, hw''⟩ := hw'
          subst hw''
          go_wp2
          go_ret
          exact ⟨by rw [HQ.out]; rfl, lowBox ((HR.out.alloc (by have := HR.out.size; simp at this; omega) _).trans ((below_regrown _ _ _).mono (by have := HR.out.size; simp at this ⊢; omega)))⟩
        · clear HJG
          go_wp2_with fail
          obtain ⟨kc, kf⟩ := kgrown (wr.alloc (.cells #[.int .i64 s, .int .i64 c] 41))
          refine wp_region_quiet_below (by kernel_rfl) (by kernel_rfl) ?_
          repeat (go_big_quiet_step (fail))
          refine wpQuiet_nil ?_
          intro _ hw'
          obtain ⟨⟨dq, osq⟩, hw''⟩ := hw'
          subst hw''
          go_wp2
          go_roundw
          case rel => exact ⟨1, by omega, by go_num, by rw [HJU.out], HQ, by rw [HJU.out]; omega, (HR.out.alloc (by have := HR.out.size; simp at this; omega) _).trans ((below_regrown _ _ _).mono (by have := HR.out.size; simp at this ⊢; omega))⟩
          case measure => simp [intOf]; omega
      | succ m =>
        obtain ⟨⟨p1, p2⟩, p3, p4⟩ := HP.out m rfl
        obtain ⟨e0, e1⟩ := HPC.out m rfl
        have HK3 : Hid (Wh.fol (At l m) (At l (m + 1)) = false → Wh.av l = false) := Lib.hid fun h => HJ.out (HJ3.out (by omega) h)
        have HKT : Hid (Wh.fol (At l m) (At l (m + 1)) = true → Wh.alls l (m + 1 + 1) = true) := Lib.hid fun h => HJT.out (.inr h)
        have hg : decide ((0 : Int) < (m : Int) + 1) = true := decide_eq_true (by omega)
        have HFO := Lib.hid (side_any (At l m).1 (At l m).2 (At l (m + 1)).1 (At l (m + 1)).2 p1 p2 p3 p4 q1 q2 q3 q4)
        have hml : m + 1 ≤ l.length := by omega
        clear HJ HJ1 HJ2 HJ3 HJT HP HPC
        generalize Wh.run l (m + 1) = q at *
        generalize At l (m + 1) = a at *
        generalize At l m = a0 at *
        obtain ⟨s, c⟩ := a
        obtain ⟨s0, cc⟩ := a0
        dsimp only at *
        cases hfo : Wh.fol (s0, cc) (s, c)
        · have HQ := Lib.hid (HK3.out hfo)
          clear HK3 HKT
          go_wp2_with fail
          obtain ⟨kc, kf⟩ := kgrown (wr.alloc (.cells #[.int .i64 s, .int .i64 c] 41))
          refine wp_region_quiet_below (by kernel_rfl) (by kernel_rfl) ?_
          repeat (go_big_quiet_step ((go_at_call 29; exact Calls.regrown_of (HFO.out _))))
          refine wpQuiet_nil ?_
          intro _ hw'
          obtain ⟨⟨dq, osq⟩, hw''⟩ := hw'
          subst hw''
          go_wp2
          go_ret
          exact ⟨by rw [HQ.out]; rfl, lowBox ((HR.out.alloc (by have := HR.out.size; simp at this; omega) _).trans ((below_regrown _ _ _).mono (by have := HR.out.size; simp at this ⊢; omega)))⟩
        · have HQ := Lib.hid (HKT.out hfo)
          clear HK3 HKT
          by_cases k5 : 1048576 < q + 12 + 12 * c
          · have HQ := Lib.hid (HJG.out k5)
            clear HJG
            go_wp2_with fail
            obtain ⟨kc, kf⟩ := kgrown (wr.alloc (.cells #[.int .i64 s, .int .i64 c] 41))
            refine wp_region_quiet_below (by kernel_rfl) (by kernel_rfl) ?_
            repeat (go_big_quiet_step ((go_at_call 29; exact Calls.regrown_of (HFO.out _))))
            refine wpQuiet_nil ?_
            intro _ hw'
            obtain ⟨⟨dq, osq⟩, hw''⟩ := hw'
            subst hw''
            go_wp2
            go_ret
            exact ⟨by rw [HQ.out]; rfl, lowBox ((HR.out.alloc (by have := HR.out.size; simp at this; omega) _).trans ((below_regrown _ _ _).mono (by have := HR.out.size; simp at this ⊢; omega)))⟩
          · clear HJG
            go_wp2_with fail
            obtain ⟨kc, kf⟩ := kgrown (wr.alloc (.cells #[.int .i64 s, .int .i64 c] 41))
            refine wp_region_quiet_below (by kernel_rfl) (by kernel_rfl) ?_
            repeat (go_big_quiet_step ((go_at_call 29; exact Calls.regrown_of (HFO.out _))))
            refine wpQuiet_nil ?_
            intro _ hw'
            obtain ⟨⟨dq, osq⟩, hw''⟩ := hw'
            subst hw''
            go_wp2
            go_roundw
            case rel => exact ⟨m + 1 + 1, by omega, by go_num, by rw [HJU.out], HQ, by rw [HJU.out]; omega, (HR.out.alloc (by have := HR.out.size; simp at this; omega) _).trans ((below_regrown _ _ _).mono (by have := HR.out.size; simp at this ⊢; omega))⟩
            case measure => simp [intOf]; omega
    · obtain rfl : j = l.length := by omega
      obtain ⟨k, hk⟩ : ∃ k, l.length = k + 1 := ⟨l.length - 1, by omega⟩
      have c0 := hAr.st k (by omega)
      have c1 := hAr.ct k (by omega)
      obtain ⟨⟨p1, p2⟩, p3, p4⟩ := HB.out k l.length (by omega) hal.out
      have HQ : Hid (Wh.av l = decide ((At l k).1 * (At l k).2 ≤ 4294967295)) := Lib.hid (by
        have := Wh.av_end h1 h8 hal.out hrn.2
        rw [this]
        unfold Wh.lsp
        rw [hk]
        rfl)
      have bm := Wh.mul_bd p1 p2 p3 p4
      have hw : IntKind.i64.wrap ((At l k).1 * (At l k).2) = (At l k).1 * (At l k).2 := IntWalk.i64_in _ (by omega)
      clear hAr HF HA H1 H2 H3 HT HB HU HG HZ hal
      generalize hls : l.length = n at *
      have HLS := Lib.hid hls
      clear hls
      subst hk
      generalize At l k = a at *
      obtain ⟨s, c⟩ := a
      dsimp only at *
      generalize hmu : s * c = mu at *
      have HMU := Lib.hid hmu
      clear hmu
      have hw2 : IntKind.i64.wrap (s * c) = mu := by rw [HMU.out]; exact hw
      go_wp2
      go_ret
      exact ⟨by rw [HQ.out]; rfl, lowBox (HR.out.alloc (by have := HR.out.size; simp at this; omega) _)⟩
end Go.Proofs.Ythjpodjfiajhaaa
