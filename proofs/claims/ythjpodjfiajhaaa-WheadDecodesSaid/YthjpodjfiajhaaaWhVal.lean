/-
  CONTRACTS: whead's archives: where they end, whether they may be.
-/
import Derived.Test.YthjpodjfiajhaaaWhFol
namespace Go.Proofs.Ythjpodjfiajhaaa
open Go.RowKit Go.Sort
open Wh (At)

set_option maxHeartbeats 1000000 in
theorem end_any (l : List (Int × Int)) (b off cap k : Nat) (w : World) (hA : Ars w b off l) (hcap : l.length ≤ cap) (hk : k ≤ l.length) (h8 : l.length ≤ 8) (hcn : ∀ i, i < l.length → 1 ≤ (At l i).2 ∧ (At l i).2 ≤ 16777216) :
    Calls Try.prog 25 #[.slice (some ⟨b, off, none⟩) l.length cap, .int .i64 k] w fun e w' => e = .returned (.int .i64 (Wh.ends l k)) ∧ Below w.heap.size w w' := by
  have HB : Hid (∀ i, i ≤ l.length → 16 ≤ Wh.ends l i ∧ Wh.ends l i ≤ 2000000000) := Lib.hid fun i hi => Wh.ends_bd h8 hcn i hi
  have HN := Lib.hid hcn
  have HL := Lib.hid (headBytes_any (l.length : Int) (by omega) (by omega))
  have HZ := Lib.hid (Wh.ends_zero l)
  have HS := Lib.hid (Wh.ends_succ l)
  have HA := Lib.hid hA
  clear hcn hA
  go_enter Try.func25, Try.ntmps25
  go_wp2_with (go_at_call 16; go_must (refine (HL.out _).mono ?_; rintro e w' ⟨rfl, rfl⟩))
  go_loopw [5, 15] (fun q i wr => ∃ j : Nat, j ≤ k ∧ i = .int .i64 j ∧ q = .int .i64 (Wh.ends l j) ∧ Below w.heap.size w wr) (fun _ i _ => k - (intOf i).toNat)
  case atStart => exact ⟨0, Nat.zero_le _, rfl, by rw [HZ.out, Int.mul_comm], Below.refl _ _⟩
  case round =>
    obtain ⟨j, hj, rfl, rfl, hR⟩ := hrel
    by_cases hlt : j < k
    · have hAr := HA.out.below hR
      have hbl := hAr.lt
      have c0 := hAr.st j (by omega)
      have c1 := hAr.ct j (by omega)
      have b1 := HN.out j (by omega)
      have b2 := HB.out j (by omega)
      have HE := Lib.hid (HS.out j)
      have HR := Lib.hid hR
      clear hR hAr HB HS HZ HN HL
      generalize Wh.ends l j = q at *
      generalize At l j = a at *
      obtain ⟨s, c⟩ := a
      go_wp2
      go_roundw
      case rel =>
        refine ⟨j + 1, by omega, by go_num, ?_, HR.out.alloc HR.out.size _⟩
        exact congrArg (Value.int .i64) (by have := HE.out; dsimp only at this; omega)
      case measure => simp [intOf]; omega
    · obtain rfl : j = k := by omega
      go_wp2
      go_ret
      exact ⟨rfl, hR⟩

set_option maxHeartbeats 1000000 in
theorem areValid_nil (A : Option Addr) (cap : Nat) (w : World) :
    Calls Try.prog 27 #[.slice A 0 cap] w fun e w' => e = .returned (.bool false) ∧ Below w.heap.size w w' := by
  go_enter Try.func27, Try.ntmps27
  go_wp2
  go_ret
  exact ⟨rfl, Below.refl _ _⟩

set_option maxHeartbeats 1000000 in
theorem areValid_long (A : Option Addr) (n cap : Nat) (hn : 8 < n) (w : World) :
    Calls Try.prog 27 #[.slice A n cap] w fun e w' => e = .returned (.bool false) ∧ Below w.heap.size w w' := by
  go_enter Try.func27, Try.ntmps27
  go_wp2
  go_ret
  exact ⟨rfl, Below.refl _ _⟩

set_option maxHeartbeats 1000000 in
theorem areValid_some (l : List (Int × Int)) (b off cap : Nat) (w : World) (hA : Ars w b off l) (hcap : l.length ≤ cap) (h1 : 1 ≤ l.length) (h8 : l.length ≤ 8) :
    Calls Try.prog 27 #[.slice (some ⟨b, off, none⟩) l.length cap] w fun e w' => e = .returned (.bool (Wh.av l)) ∧ Below w.heap.size w w' := by
  have HF : Hid (∀ k, k < l.length → Wh.stp l k = false → Wh.av l = false) := Lib.hid fun k hk h => Wh.av_stp hk h
  have HA := Lib.hid hA
  have H1 : Hid (∀ k, Wh.num (At l k).1 = false → Wh.stp l k = false) := Lib.hid fun k => Wh.stp_f1
  have H2 : Hid (∀ k, Wh.num (At l k).2 = false → Wh.stp l k = false) := Lib.hid fun k => Wh.stp_f2
  have H3 : Hid (∀ k, 0 < k → Wh.fol (At l (k - 1)) (At l k) = false → Wh.stp l k = false) := Lib.hid fun k => Wh.stp_f3
  have HT : Hid (∀ k, Wh.alls l k = true → Wh.num (At l k).1 = true → Wh.num (At l k).2 = true → (k = 0 ∨ Wh.fol (At l (k - 1)) (At l k) = true) → Wh.alls l (k + 1) = true) := Lib.hid fun k h h1 h2 h3 => Wh.alls_succ h (Wh.stp_t h1 h2 h3)
  have HB : Hid (∀ k m, k < m → Wh.alls l m = true → (1 ≤ (At l k).1 ∧ (At l k).1 ≤ 16777216) ∧ (1 ≤ (At l k).2 ∧ (At l k).2 ≤ 16777216)) := Lib.hid fun k m => Wh.alls_num
  clear hA
  go_enter Try.func27, Try.ntmps27
  go_wp2
  go_loopw [15] (fun i wr => ∃ j : Nat, j ≤ l.length ∧ i = .int .i64 j ∧ Hid (Wh.alls l j = true) ∧ Below w.heap.size w wr) (fun i _ => l.length - (intOf i).toNat)
  case atStart => exact ⟨0, Nat.zero_le _, rfl, Lib.hid rfl, Below.refl _ _⟩
  case round =>
    obtain ⟨j, hj, rfl, hal, hR⟩ := hrel
    by_cases hlt : j < l.length
    · have hAr := HA.out.below hR
      have hbl := hAr.lt
      have c0 := hAr.st j hlt
      have c1 := hAr.ct j hlt
      have HR := Lib.hid hR
      have HJ := Lib.hid (HF.out j hlt)
      have HJ1 := Lib.hid (H1.out j)
      have HJ2 := Lib.hid (H2.out j)
      have HJ3 := Lib.hid (H3.out j)
      have HJT := Lib.hid (HT.out j hal.out)
      cases n1 : Wh.num (At l j).1
      · have HQ := Lib.hid (HJ.out (HJ1.out n1))
        clear hR hAr HF HA H1 H2 H3 HT HB HJ HJ1 HJ2 HJ3 HJT
        generalize At l j = a at *
        obtain ⟨s, c⟩ := a
        go_wp2_with (go_at_call 30; go_must (refine (isNum_any _ _).mono ?_; rintro e w' ⟨rfl, rfl⟩))
        go_ret
        exact ⟨by rw [HQ.out]; rfl, HR.out.alloc HR.out.size _⟩
      · cases n2 : Wh.num (At l j).2
        · have HQ := Lib.hid (HJ.out (HJ2.out n2))
          clear hR hAr HF HA H1 H2 H3 HT HB HJ HJ1 HJ2 HJ3 HJT
          generalize At l j = a at *
          obtain ⟨s, c⟩ := a
          go_wp2_with (go_at_call 30; go_must (refine (isNum_any _ _).mono ?_; rintro e w' ⟨rfl, rfl⟩))
          go_ret
          exact ⟨by rw [HQ.out]; rfl, HR.out.alloc HR.out.size _⟩
        · have HJT := Lib.hid (HJT.out n1 n2)
          cases j with
          | zero =>
            have HQ := Lib.hid (HJT.out (.inl rfl))
            simp only [Nat.zero_mul, Nat.add_zero] at c0 c1
            clear hR hAr HF HA H1 H2 H3 HT HB HJ HJ1 HJ2 HJ3 HJT
            generalize At l 0 = a at *
            obtain ⟨s, c⟩ := a
            go_wp2_with (go_at_call 30; go_must (refine (isNum_any _ _).mono ?_; rintro e w' ⟨rfl, rfl⟩))
            refine wp_region_quiet_below (by kernel_rfl) (by kernel_rfl) ?_
            repeat (go_big_quiet_step (fail))
            refine wpQuiet_nil ?_
            intro _ hw'
            obtain ⟨⟨dq, osq⟩, hw''⟩ := hw'
            subst hw''
            go_wp2
            go_roundw
            case rel => exact ⟨1, by omega, by go_num, HQ, (HR.out.alloc HR.out.size _).trans ((below_regrown _ _ _).mono (by have := HR.out.size; simp; omega))⟩
            case measure => simp [intOf]; omega
          | succ m =>
            have d0 := hAr.st m (by omega)
            have d1 := hAr.ct m (by omega)
            obtain ⟨⟨p1, p2⟩, p3, p4⟩ := HB.out m (m + 1) (by omega) hal.out
            obtain ⟨q1, q2⟩ := Wh.num_bd n1
            obtain ⟨q3, q4⟩ := Wh.num_bd n2
            have HK3 : Hid (Wh.fol (At l m) (At l (m + 1)) = false → Wh.av l = false) := Lib.hid fun h => HJ.out (HJ3.out (by omega) h)
            have HKT : Hid (Wh.fol (At l m) (At l (m + 1)) = true → Wh.alls l (m + 1 + 1) = true) := Lib.hid fun h => HJT.out (.inr h)
            have hg : decide ((0 : Int) < (m : Int) + 1) = true := decide_eq_true (by omega)
            have HFO := Lib.hid (follows_any (At l m).1 (At l m).2 (At l (m + 1)).1 (At l (m + 1)).2 p1 p2 p3 p4 q1 q2 q3 q4)
            have hml : m + 1 ≤ l.length := by omega
            clear hR hAr HF HA H1 H2 H3 HT HB HJ HJ1 HJ2 hal HJ3 HJT
            generalize At l (m + 1) = a at *
            generalize At l m = a0 at *
            obtain ⟨s, c⟩ := a
            obtain ⟨s0, cc⟩ := a0
            cases hfo : Wh.fol (s0, cc) (s, c)
            · have HQ := Lib.hid (HK3.out hfo)
              clear HK3 HKT
              go_wp2_with (go_at_call 30; go_must (refine (isNum_any _ _).mono ?_; rintro e w' ⟨rfl, rfl⟩))
              obtain ⟨kc, kf⟩ := kgrown (wr.alloc (.cells #[.int .i64 s, .int .i64 c] 41))
              refine wp_region_quiet_below (by kernel_rfl) (by kernel_rfl) ?_
              repeat (go_big_quiet_step ((go_at_call 31; exact Calls.regrown_of (HFO.out _))))
              refine wpQuiet_nil ?_
              intro _ hw'
              obtain ⟨⟨dq, osq⟩, hw''⟩ := hw'
              subst hw''
              go_wp2
              go_ret
              exact ⟨by rw [HQ.out]; rfl, (HR.out.alloc HR.out.size _).trans ((below_regrown _ _ _).mono (by have := HR.out.size; simp; omega))⟩
            · have HQ := Lib.hid (HKT.out hfo)
              clear HK3 HKT
              go_wp2_with (go_at_call 30; go_must (refine (isNum_any _ _).mono ?_; rintro e w' ⟨rfl, rfl⟩))
              obtain ⟨kc, kf⟩ := kgrown (wr.alloc (.cells #[.int .i64 s, .int .i64 c] 41))
              refine wp_region_quiet_below (by kernel_rfl) (by kernel_rfl) ?_
              repeat (go_big_quiet_step ((go_at_call 31; exact Calls.regrown_of (HFO.out _))))
              refine wpQuiet_nil ?_
              intro _ hw'
              obtain ⟨⟨dq, osq⟩, hw''⟩ := hw'
              subst hw''
              go_wp2
              go_roundw
              case rel => exact ⟨m + 1 + 1, by omega, by go_num, HQ, (HR.out.alloc HR.out.size _).trans ((below_regrown _ _ _).mono (by have := HR.out.size; simp; omega))⟩
              case measure => simp [intOf]; omega
    · obtain rfl : j = l.length := by omega
      have hAr := HA.out.below hR
      have HE := Lib.hid (fun W hb => end_any l b off cap l.length W (Ars.below hAr (w' := W) hb) hcap (Nat.le_refl _) h8 (Wh.alls_cnt hal.out))
      have bE := (Wh.ends_bd h8 (Wh.alls_cnt hal.out) l.length (Nat.le_refl _))
      have bL := Wh.lsp_bd h1 hal.out
      have HL := Lib.hid (fun W hb => lastSpan_any l b off cap W (Ars.below hAr (w' := W) hb) h1 h8 (IntWalk.i64_in _ (by omega)))
      have HX : Hid (1048576 < Wh.ends l l.length → Wh.av l = false) := Lib.hid Wh.av_big
      have HY : Hid (Wh.ends l l.length ≤ 1048576 → Wh.av l = decide (Wh.lsp l ≤ 4294967295)) := Lib.hid (Wh.av_end h1 h8 hal.out)
      clear HF HA H1 H2 H3 HT HB hal hAr
      generalize Wh.ends l l.length = en at *
      generalize Wh.lsp l = ls at *
      by_cases g1 : en ≤ 1048576
      · have HQ := Lib.hid (HY.out g1)
        go_wp2_with first | (go_at_call 25; (((with_reducible refine (HE.out _ (Below.refl _ _)).mono ?_)); rintro e w1 ⟨rfl, hb1⟩; obtain ⟨hc1, hf1⟩ := bcell hb1; (try have hq1wr : wr.heap.size < w1.heap.size := Nat.lt_of_lt_of_le (by first | assumption | (simp; done) | (simp; omega)) hb1.size); have hs1 := hb1.size; (try simp at hs1))) | (go_at_call 18; (((with_reducible refine (HL.out _ hb1).mono ?_)); rintro e w2 ⟨rfl, hb2⟩; obtain ⟨hc2, hf2⟩ := bcell hb2; (try have hq2wr : wr.heap.size < w2.heap.size := Nat.lt_of_lt_of_le (by first | assumption | (simp; done) | (simp; omega)) hb2.size); have hs2 := hb2.size; (try simp at hs2)))
        go_ret
        exact ⟨by rw [HQ.out]; rfl, hR.trans ((hb1.trans (hb2.mono hb1.size)).mono hR.size)⟩
      · have HQ := Lib.hid (HX.out (by omega))
        go_wp2_with first | (go_at_call 25; go_must (refine (HE.out _ (Below.refl _ _)).mono ?_; rintro e w' ⟨rfl, hb⟩; obtain ⟨hc, hf⟩ := bcell hb; (try have hz0 : w.heap.size < w'.heap.size := Nat.lt_of_lt_of_le (by first | assumption | (simp; done) | (simp; omega)) hb.size); (try have hz1 : w.heap.size + 1 < w'.heap.size := Nat.lt_of_lt_of_le (by first | assumption | (simp; done) | (simp; omega)) hb.size); (try have hz2 : w.heap.size + 1 + 1 < w'.heap.size := Nat.lt_of_lt_of_le (by first | assumption | (simp; done) | (simp; omega)) hb.size); have hz := hb.size; (try simp at hz))) | (go_at_call 18; go_must (refine (HL.out _ hb).mono ?_; rintro e w' ⟨rfl, hb⟩; obtain ⟨hc, hf⟩ := bcell hb; (try have hz0 : w.heap.size < w'.heap.size := Nat.lt_of_lt_of_le (by first | assumption | (simp; done) | (simp; omega)) hb.size); (try have hz1 : w.heap.size + 1 < w'.heap.size := Nat.lt_of_lt_of_le (by first | assumption | (simp; done) | (simp; omega)) hb.size); (try have hz2 : w.heap.size + 1 + 1 < w'.heap.size := Nat.lt_of_lt_of_le (by first | assumption | (simp; done) | (simp; omega)) hb.size); have hz := hb.size; (try simp at hz)))
        go_ret
        exact ⟨by rw [HQ.out]; rfl, hR.trans (hb.mono hR.size)⟩

/-- A header's own row of archives, empty ones let in. -/
def Row (w : World) (A : Option Addr) (l : List (Int × Int)) (cap : Nat) : Prop := l.length ≤ cap ∧ (0 < l.length → ∃ b off, A = some ⟨b, off, none⟩ ∧ Ars w b off l)
theorem Row.below {w w' : World} {A : Option Addr} {l : List (Int × Int)} {cap : Nat} (h : Row w A l cap) (hb : Below w.heap.size w w') : Row w' A l cap :=
  ⟨h.1, fun h0 => by obtain ⟨b, off, e, hA⟩ := h.2 h0; exact ⟨b, off, e, hA.below hb⟩⟩

theorem areValid_any (l : List (Int × Int)) (A : Option Addr) (cap : Nat) (w : World) (h : Row w A l cap) :
    Calls Try.prog 27 #[.slice A l.length cap] w fun e w' => e = .returned (.bool (Wh.av l)) ∧ Below w.heap.size w w' := by
  by_cases h0 : l.length = 0
  · rw [Wh.av_nil h0, h0]; exact areValid_nil A cap w
  · by_cases h8 : 8 < l.length
    · rw [Wh.av_long h8]; exact areValid_long A _ cap h8 w
    · obtain ⟨b, off, rfl, hA⟩ := h.2 (by omega)
      exact areValid_some l b off cap w hA h.1 (by omega) (by omega)
end Go.Proofs.Ythjpodjfiajhaaa
