/-
  CONTRACTS: chapter 3's law: does such a row stand; such a row spoilt.
-/
import Derived.Test.YtiacpopgnmledaaVsRow
namespace Go.Proofs.Ytiacpopgnmledaa
open Go.RowKit
open Me Vf

set_option maxRecDepth 100000 in
theorem stands_any (l : List UInt8) (g cap : Nat) (bv : Value) (base : Nat) (I : Nat → Prop) (w : World) (h : w.ownsRow base 5 1 (.slice (some ⟨g, 0, none⟩) (l.length + 1) cap) (l.length + 1) (by8 (l ++ [171]))) (hb : Bs w I bv l) (hl : l.length ≤ 1048576) :
    Calls Try.prog 18 #[.slice (some ⟨g, 0, none⟩) (l.length + 1) cap, bv] w fun e w' => e = .returned (.bool true) ∧ Below w.heap.size w w' := by
  obtain ⟨_, c, e, hc, hcm⟩ := Vp.own_form h
  injection e with e1 e2 e3
  subst e1 e3
  have hg : g < w.heap.size := (h.lt g rfl).2
  have hcell : ∀ j, j < l.length + 1 → w.cell? ⟨g, j, none⟩ = (by8 (l ++ [171]))[j]? := fun j hj => h.cellAt j (by omega)
  have ha : Bs w (fun b => b = g) (.slice (some ⟨g, 0, none⟩) l.length cap) l := by
    refine ⟨_, cap, rfl, by omega, hcm, fun hn => ⟨_, rfl, hg, rfl, fun j u hu => ?_⟩⟩
    have hj : j < l.length := by
      rcases Nat.lt_or_ge j l.length with h | h
      · exact h
      · rw [List.getElem?_eq_none (by rw [by8_len]; exact h)] at hu; cases hu
    rw [Addr.add_lit, Nat.zero_add, hcell j (by omega), by8_append, List.getElem?_append_left (by rw [by8_len]; exact hj)]
    exact hu
  have hlast : w.cell? ⟨g, l.length, none⟩ = some (.int .u8 171) := by
    rw [hcell _ (by omega), by8_append, List.getElem?_append_right (by rw [by8_len]; exact Nat.le_refl _), by8_len]
    simp [by8]
  have hs := same_any l l _ bv _ I w ha hb (by omega)
  rw [beq_self_eq_true] at hs
  have HS := Lib.hid hs
  have HC := Lib.hid hlast
  obtain ⟨A2, c2, rfl, hc2, hcm2, _⟩ := hb
  unfold maxLen at hcm hcm2
  have hl' : (l.length : Int) ≤ 1048576 := by omega
  clear hs hlast ha hcell h
  generalize l.length = n at *
  go_enter Try.func18, Try.ntmps18
  go_wp2_with (go_at_call 21; ((with_reducible refine (HS.out).mono ?_); rintro e w1 ⟨rfl, hb1⟩; have hc1 := (hb1.cell (p := ⟨g, n, none⟩) hg).trans HC.out; have HB1 := Lib.hid hb1; clear hb1))
  go_ret
  exact ⟨rfl, HB1.out⟩

set_option maxRecDepth 100000 in
set_option maxHeartbeats 1000000 in
theorem spoil_any (v : Value) (xs : List Value) (n base : Nat) (w : World) (h : w.ownsRow base 5 1 v n xs) (hb : base ≤ w.heap.size) (hn : n ≤ 1048577) :
    Calls Try.prog 19 #[v] w fun e w' => e = .returned (.tuple #[]) ∧ Kp (fun b => v.ownBlock = some b) w w' := by
  obtain ⟨i0, hi0, hz0, hz1, hz2⟩ := info_parts u8info
  have HI := Lib.hid hi0
  have HZ := Lib.hid (And.intro hz0 (And.intro hz1 hz2))
  clear hi0 hz0 hz1 hz2
  obtain ⟨A, c, rfl, hc, hcm⟩ := Vp.own_form h
  have HO := Lib.hid (h.alloc (.cells #[.int .u8 99] 5))
  have HF := Lib.hid (Rd.fresh w [.int .u8 99] 5 w.heap.size rfl)
  have hn' : (n : Int) ≤ 1048577 := by omega
  clear h
  go_enter Try.func19, Try.ntmps19
  go_wp2_with (at_builtin; (refine wpList_app _ rfl (.tmp 4) (.tmp 5) 40 rfl base 5 i0 (.int .u8 0) 1 1 Try.underlying40 HI.out HZ.out.1 HZ.out.2.1 HZ.out.2.2 rfl (by decide) (.slice A n c) n xs rfl HO.out (fun b => b = w.heap.size) (some ⟨w.heap.size, 0, none⟩) 1 1 [.int .u8 99] rfl rfl HF.out (by intro u hu; simp at hu; subst hu; rfl) (by unfold maxLen; omega) (by omega) (by simp; omega) ?_; intro v1 w1 hown1 hg1 hat1 hnil1; obtain ⟨g1, c1, rfl⟩ := owns_form hown1 (by omega); have HO1 := Lib.hid hown1; have HG1 := Lib.hid hg1; have HA1 := Lib.hid hat1; have hcm1 : ((n + 1 : Nat) : Int) ≤ (c1 : Int) := (by obtain ⟨_, _, e, h9, _⟩ := Vp.own_form hown1; injection e with _ _ e3; omega); clear hown1 hg1 hat1 hnil1))
  have hk1 : Kp (fun b => (Value.slice A n c).ownBlock = some b) w w1 := (Kp.of_below ((Below.refl _ _).alloc (Nat.le_refl _) _)).grown HG1.out (fun g hg => .inr hg)
  have hgo : (Value.slice A n c).ownBlock = some g1 ∨ w.heap.size ≤ g1 := by
    rcases HA1.out with e | e
    · exact .inl e.symm
    · simp [Value.ownBlock] at e
      exact .inr (by omega)
  have HK1 := Lib.hid hk1
  clear hk1
  go_loopw [3] (fun i wr => ∃ (k : Nat) (ys : List Value), k ≤ n + 1 ∧ i = .int .i64 k ∧ Hid (wr.ownsRow base 5 1 (.slice (some ⟨g1, 0, none⟩) (n + 1) c1) (n + 1) ys) ∧ Hid (Kp (fun b => (Value.slice A n c).ownBlock = some b) w wr)) (fun i _ => n + 1 - (intOf i).toNat)
  case atStart => exact ⟨0, _, Nat.zero_le _, rfl, HO1, HK1⟩
  case round =>
    obtain ⟨k, ys, hk, rfl, how, hkp⟩ := hrel
    by_cases hlt : k < n + 1
    · have hlt' : (k : Int) < (n : Int) + 1 := by omega
      have hyl : ys.length = (n + 1) * 1 := how.out.1
      have hcell : wr.cell? ⟨g1, k, none⟩ = some (ys[k]'(by omega)) := by
        rw [how.out.cellAt k (by omega)]
        exact List.getElem?_eq_getElem (by omega)
      have hfrz := how.out.frozenAt k
      have hst := how.out.stored k (.int .u8 98)
      have HST := Lib.hid hst.1
      have HKP := Lib.hid (hkp.out.grown hst.2 (fun g hg => (Option.some.inj hg) ▸ hgo.symm))
      clear hst how hkp
      generalize ys[k] = y at *
      clear hyl
      go_wp2_with fail
      go_roundw
      case rel => exact ⟨k + 1, _, by omega, by go_num, HST, HKP⟩
      case measure => simp [intOf]; omega
    · obtain rfl : k = n + 1 := by omega
      have HKP := Lib.hid hkp.out
      clear how hkp
      go_wp2_with fail
      ((try simp only [Exit.inBlock, Exit.then]); first | (refine bodyPost_ret (results_none rfl _ _ _) rfl ?_) | (refine bodyPost_end (results_none rfl _ _ _) rfl ?_))
      exact ⟨rfl, HKP.out⟩
end Go.Proofs.Ytiacpopgnmledaa
