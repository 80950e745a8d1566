/- FxRm FxRmul AgRef AgLaw WpPa WpLa WqPure -/
import Derived.Test.YtbakngbmfgnmcaaGreatDoorJ1
import Derived.Test.YtbakngbmfgnmcaaGreatDoorJ10
import Derived.Test.YtbakngbmfgnmcaaGreatDoorJ7
import Derived.Test.YtbakngbmfgnmcaaGreatDoorJ6
namespace Go.Proofs.YtbakngbmfgnmcaaGreatDoor
set_option maxRecDepth 100000
set_option maxHeartbeats 8000000
section
open Go.RowKit
theorem rm_zero_any (a b : Int) (w : World) :
 Calls Tryz.prog 153 #[.int .i64 a, .int .i64 b, .int .i64 0] w fun e w' => MdPost a b 0 w e w' := by
 go_enter Tryz.func153, Tryz.ntmps153
 go_wp2
 ((try simp only [Exit.inBlock, Exit.then]); refine bodyPost_ret (results_tmp2 rfl _ _ _) rfl ?_)
 exact ⟨_, _, Fx.md_zero rfl, rfl, Below.refl _ _⟩
structure RmIn (a b c x y d hi lo : Int) : Prop where
 A : ∀ W, Calls Tryz.prog 160 #[.int .i64 a] W fun e w' => e = .returned (.int .u64 x) ∧ W = w'
 B : ∀ W, Calls Tryz.prog 160 #[.int .i64 b] W fun e w' => e = .returned (.int .u64 y) ∧ W = w'
 C : ∀ W, Calls Tryz.prog 160 #[.int .i64 c] W fun e w' => e = .returned (.int .u64 d) ∧ W = w'
 M : ∀ W, Calls Tryz.prog 159 #[.int .u64 x, .int .u64 y] W fun e w' => e = .returned (.tuple #[.int .u64 hi, .int .u64 lo]) ∧ W = w'
theorem and1 (x : Nat) (hx : x < 18446744073709551616) : bits .and .u64 (x : Int) 1 = ((x % 2 : Nat) : Int) := by
 have h := bits_and_u64_nat x 1 hx (by omega)
 rw [Nat.and_one_is_mod] at h
 exact h
theorem or1 (x β : Nat) (hx : x * 2 + β < 18446744073709551616) (hβ : β < 2) : bits .or .u64 ((x : Int) * 2) (β : Int) = ((x * 2 + β : Nat) : Int) := by
 have h := bits_or_u64_nat (x * 2) β (by omega) (by omega)
 have h2 := Nat.two_pow_add_eq_or_of_lt (i := 1) (b := β) (by omega) x
 rw [Nat.pow_one, Nat.mul_comm 2 x] at h2
 rw [← h2] at h
 rw [← h, Int.natCast_mul]; rfl
theorem or1' (x : Nat) (hx : x * 2 + 1 < 18446744073709551616) : bits .or .u64 ((x * 2 : Nat) : Int) 1 = ((x * 2 + 1 : Nat) : Int) := by
 have h := or1 x 1 hx (by omega)
 rw [Int.natCast_mul]; exact h
theorem and63 (i : Nat) (hi : i < 9223372036854775808) : bits .and .i64 (i : Int) 63 = ((i % 64 : Nat) : Int) := by
 have h1 : (BitVec.ofInt 64 (i : Int)).toNat = i := by
  rw [BitVec.ofInt_natCast, BitVec.toNat_ofNat]; exact Nat.mod_eq_of_lt (by omega)
 have e : i &&& 63 = i % 64 := Nat.and_two_pow_sub_one_eq_mod i 6
 show IntKind.i64.wrap ((BitVec.ofInt 64 (i : Int) &&& BitVec.ofInt 64 63).toNat : Int) = _
 rw [BitVec.toNat_and, h1, show (BitVec.ofInt 64 63).toNat = 63 by decide, e, IntKind.wrap_i64]
 omega
theorem rm_core (a b c x y : Int) (N D : Nat) (hN : Hid (N < 340282366920938463463374607431768211456)) (hD0 : 0 < D) (hD1 : D ≤ 9223372036854775808) (hi lo d : Int) (hhi : Hid (hi = ((N / 18446744073709551616 : Nat) : Int))) (hlo : Hid (lo = ((N % 18446744073709551616 : Nat) : Int))) (hdD : Hid (d = (D : Int))) (HQQ : Hid (Fx.mdq a b c = Fx.rnd N D))
 (H : RmIn a b c x y d hi lo) (HC0 : Hid (c ≠ 0)) (w : World) :
 Calls Tryz.prog 153 #[.int .i64 a, .int .i64 b, .int .i64 c] w fun e w' => MdPost a b c w e w' := by
 have hc0 : (c == 0) = false := by simp [HC0.out]
 have hd0 : 0 < d := by rw [hdD.out]; omega
 have hd1 : d ≤ 9223372036854775808 := by rw [hdD.out]; omega
 go_enter Tryz.func153, Tryz.ntmps153
 go_wp2_with fail
 (go_at_call 160; go_must (refine (H.A _).mono ?_; rintro e w' ⟨rfl, rfl⟩))
 go_wp2_with fail
 (go_at_call 160; go_must (refine (H.B _).mono ?_; rintro e w' ⟨rfl, rfl⟩))
 go_wp2_with fail
 (go_at_call 159; go_must (refine (H.M _).mono ?_; rintro e w' ⟨rfl, rfl⟩))
 go_wp2_with fail
 (go_at_call 160; go_must (refine (H.C _).mono ?_; rintro e w' ⟨rfl, rfl⟩))
 go_wp2_with fail
 go_loop [11, 12, 13, 14] (fun q r o i => ∃ (qi ri ii : Int) (ob : Bool), Fx.Rm N D ii qi ri ob ∧ q = .int .u64 qi ∧ r = .int .u64 ri ∧ o = .bool ob ∧ i = .int .i64 ii) (fun _ _ _ i => (intOf i + 1).toNat)
 case atStart => exact ⟨_, _, _, _, Fx.rm_start N D hN.out, rfl, rfl, rfl, rfl⟩
 case round =>
  obtain ⟨qi, ri, ii, ob, hR, rfl, rfl, rfl, rfl⟩ := hrel
  have i1 := hR.lo
  have i2 := hR.hi
  have q0 := hR.q0
  have q1 := hR.q1
  have hrr := Fx.rm_rest hR hD0
  have r0 : 0 ≤ ri := hrr.1
  have r1 : ri < d := by rw [hdD.out]; exact hrr.2
  clear hrr
  by_cases hi0 : 0 ≤ ii
  ·obtain ⟨q2, hq2⟩ : ∃ q2, q2 = qi * 2 % 18446744073709551616 := ⟨_, rfl⟩
   have eQ : IntKind.u64.wrap (qi * 2) = q2 := by rw [IntKind.wrap_u64, hq2]
   have eQ1 : bits .or .u64 q2 1 = q2 + 1 := by
    obtain ⟨k, hk⟩ : ∃ k : Nat, q2 = ((k * 2 : Nat) : Int) := ⟨(q2 / 2).toNat, by omega⟩
    rw [hk, or1' k (by omega)]; rfl
   have hb2 : N / 2 ^ ii.toNat % 2 < 2 := Nat.mod_lt _ (by omega)
   obtain ⟨β, hβ⟩ : ∃ β, β = N / 2 ^ ii.toNat % 2 := ⟨_, rfl⟩
   rw [← hβ] at hb2
   obtain ⟨s, hs⟩ : ∃ s : Int, s = ri * 2 + β := ⟨_, rfl⟩
   have eO : bits .or .u64 (ri * 2) (β : Int) = s := by
    obtain ⟨k, hk⟩ := Int.eq_ofNat_of_zero_le r0
    rw [hs, hk, or1 k β (by omega) hb2, Int.natCast_add, Int.natCast_mul]; rfl
   obtain ⟨o2, ho2⟩ : ∃ o2 : Bool, o2 = (ob || decide (4611686018427387904 ≤ qi)) := ⟨_, rfl⟩
   have eV : ob = false → (qi / 4611686018427387904 != 0) = o2 := by
    intro h; rw [ho2, h, Bool.false_or, bne]
    by_cases hc : 4611686018427387904 ≤ qi
    ·rw [show (qi / 4611686018427387904 == 0) = false by simp; omega]; simp [hc]
    ·rw [show (qi / 4611686018427387904 == 0) = true by simp; omega]; simp [hc]
   have eT : ob = true → o2 = true := by intro h; rw [ho2, h, Bool.true_or]
   have hst := Fx.rm_step hR hi0 hD0 β hβ q2 hq2 s hs o2 ho2
   rw [← hdD.out] at hst
   have s0 : 0 ≤ s := by omega
   have s1 : s ≤ 18446744073709551615 := by omega
   have q20 : 0 ≤ q2 := by omega
   have q21 : q2 ≤ 18446744073709551614 := by omega
   obtain ⟨m, hm⟩ : ∃ m, m = ii.toNat % 64 := ⟨_, rfl⟩
   have eW : bits .and .i64 ii 63 = (m : Int) := by
    obtain ⟨k, hk⟩ := Int.eq_ofNat_of_zero_le hi0
    rw [hm, hk, Int.toNat_natCast, and63 k (by omega)]
   have m1 : m ≤ 63 := by omega
   have elo : (lo / 2 ^ m) = ((N % 18446744073709551616 / 2 ^ m : Nat) : Int) := by rw [hlo.out, castPowDiv]
   have hlo2 : N % 18446744073709551616 / 2 ^ m < 18446744073709551616 := Nat.lt_of_le_of_lt (Nat.div_le_self _ _) (Nat.mod_lt _ (by omega))
   by_cases h64 : 64 ≤ ii
   ·obtain ⟨m2, hm2⟩ : ∃ m2, m2 = ii.toNat - 64 := ⟨_, rfl⟩
    have e64 : ii - 64 = (m2 : Int) := by omega
    have m3 : m2 ≤ 63 := by omega
    have eB : bits .and .u64 (hi / 2 ^ m2) 1 = (β : Int) := by
     rw [hhi.out, castPowDiv, and1 _ (Nat.lt_of_le_of_lt (Nat.div_le_self _ _) (by have := hN.out; omega)), Fx.bit_high, hβ, show 64 + m2 = ii.toNat by omega]
    have h642 : (64 : Int) ≤ ii := h64
    clear hR hs hq2 hβ ho2 hm hm2 elo hlo2
    cases ob
    ·have eV2 := eV rfl
     clear eV eT
     by_cases hds : d ≤ s
     ·have hR2 := Lib.hid (hst.1 hds)
      clear hst
      go_wp2
      go_round
      case rel => exact ⟨_, _, _, _, hR2.out, rfl, rfl, rfl, rfl⟩
      case measure => simp [intOf]; omega
     ·have hR2 := Lib.hid (hst.2 (by omega))
      clear hst
      go_wp2
      go_round
      case rel => exact ⟨_, _, _, _, hR2.out, rfl, rfl, rfl, rfl⟩
      case measure => simp [intOf]; omega
    ·have eT2 := eT rfl
     clear eV eT
     subst eT2
     by_cases hds : d ≤ s
     ·have hR2 := Lib.hid (hst.1 hds)
      clear hst
      go_wp2
      go_round
      case rel => exact ⟨_, _, _, _, hR2.out, rfl, rfl, rfl, rfl⟩
      case measure => simp [intOf]; omega
     ·have hR2 := Lib.hid (hst.2 (by omega))
      clear hst
      go_wp2
      go_round
      case rel => exact ⟨_, _, _, _, hR2.out, rfl, rfl, rfl, rfl⟩
      case measure => simp [intOf]; omega
   ·have eB : bits .and .u64 (lo / 2 ^ m) 1 = (β : Int) := by
     have hmm : ii.toNat % 64 = ii.toNat := Nat.mod_eq_of_lt (by omega)
     rw [elo, and1 _ hlo2, Fx.bit_low _ _ (by omega), hβ, hm, hmm]
    have h642 : ii < (64 : Int) := by omega
    clear hR hs hq2 hβ ho2 hm elo hlo2 h64
    cases ob
    ·have eV2 := eV rfl
     clear eV eT
     by_cases hds : d ≤ s
     ·have hR2 := Lib.hid (hst.1 hds)
      clear hst
      go_wp2
      go_round
      case rel => exact ⟨_, _, _, _, hR2.out, rfl, rfl, rfl, rfl⟩
      case measure => simp [intOf]; omega
     ·have hR2 := Lib.hid (hst.2 (by omega))
      clear hst
      go_wp2
      go_round
      case rel => exact ⟨_, _, _, _, hR2.out, rfl, rfl, rfl, rfl⟩
      case measure => simp [intOf]; omega
    ·have eT2 := eT rfl
     clear eV eT
     subst eT2
     by_cases hds : d ≤ s
     ·have hR2 := Lib.hid (hst.1 hds)
      clear hst
      go_wp2
      go_round
      case rel => exact ⟨_, _, _, _, hR2.out, rfl, rfl, rfl, rfl⟩
      case measure => simp [intOf]; omega
     ·have hR2 := Lib.hid (hst.2 (by omega))
      clear hst
      go_wp2
      go_round
      case rel => exact ⟨_, _, _, _, hR2.out, rfl, rfl, rfl, rfl⟩
      case measure => simp [intOf]; omega
  ·obtain ⟨hr, hoT, hoF⟩ := Fx.rm_end hR (by omega)
   have hge := Fx.rnd_ge N D
   have hii : ii < 0 := by omega
   cases ob
   ·obtain ⟨hqN, hq63⟩ := hoF rfl
    by_cases h2 : d ≤ 2 * ri
    ·have hup : Fx.rnd N D = N / D + 1 := Fx.rnd_up (by have := hdD.out; omega)
     have HQ : Hid ((Fx.mdq a b c : Int) = qi + 1) := Lib.hid (by rw [HQQ.out, hup, hqN]; omega)
     clear hr hqN hup hge hoT hoF hR
     go_wp2
     all_goals
      ((try simp only [Exit.inBlock, Exit.then]); refine bodyPost_ret (results_tmp2 rfl _ _ _) rfl ?_)
      first
      | exact ⟨_, _, Fx.md_big (by have := HQ.out; omega), rfl, Below.refl _ _⟩
      | exact ⟨_, _, Fx.md_neg HC0.out HQ.out.symm (by omega) ‹_›, rfl, Below.refl _ _⟩
      | exact ⟨_, _, Fx.md_pos HC0.out HQ.out.symm (by omega) ‹_›, rfl, Below.refl _ _⟩
    ·have hdn : Fx.rnd N D = N / D := Fx.rnd_down (by have := hdD.out; omega)
     have HQ : Hid ((Fx.mdq a b c : Int) = qi) := Lib.hid (by rw [HQQ.out, hdn, hqN])
     clear hr hqN hdn hge hoT hoF hR
     go_wp2
     all_goals
      ((try simp only [Exit.inBlock, Exit.then]); refine bodyPost_ret (results_tmp2 rfl _ _ _) rfl ?_)
      first
      | exact ⟨_, _, Fx.md_big (by have := HQ.out; omega), rfl, Below.refl _ _⟩
      | exact ⟨_, _, Fx.md_neg HC0.out HQ.out.symm (by omega) ‹_›, rfl, Below.refl _ _⟩
      | exact ⟨_, _, Fx.md_pos HC0.out HQ.out.symm (by omega) ‹_›, rfl, Below.refl _ _⟩
   ·have HQ : Hid (4611686018427387904 < Fx.mdq a b c) := Lib.hid (by rw [HQQ.out]; have := hoT rfl; omega)
    clear hr hge hoT hoF hR
    go_wp2
    all_goals
     ((try simp only [Exit.inBlock, Exit.then]); refine bodyPost_ret (results_tmp2 rfl _ _ _) rfl ?_)
     first
     | exact ⟨_, _, Fx.md_big (by have := HQ.out; omega), rfl, Below.refl _ _⟩
     | exact ⟨_, _, Fx.md_neg HC0.out HQ.out.symm (by omega) ‹_›, rfl, Below.refl _ _⟩
     | exact ⟨_, _, Fx.md_pos HC0.out HQ.out.symm (by omega) ‹_›, rfl, Below.refl _ _⟩
theorem refMulDiv_any (a b c : Int) (a1 : -9223372036854775808 ≤ a) (a2 : a ≤ 9223372036854775807) (b1 : -9223372036854775808 ≤ b) (b2 : b ≤ 9223372036854775807) (c1 : -9223372036854775808 ≤ c) (c2 : c ≤ 9223372036854775807) (w : World) :
 Calls Tryz.prog 153 #[.int .i64 a, .int .i64 b, .int .i64 c] w fun e w' => MdPost a b c w e w' := by
 by_cases hc : c = 0
 ·subst hc; exact rm_zero_any a b w
 have hx := Fx.mag_le a1 a2
 have hy := Fx.mag_le b1 b2
 have hd := Fx.mag_le c1 c2
 have hd0 := Fx.mag_pos hc
 have hN : Fx.mag a * Fx.mag b < 340282366920938463463374607431768211456 := Nat.lt_of_le_of_lt (Nat.mul_le_mul hx hy) (by decide)
 exact rm_core a b c (Fx.mag a) (Fx.mag b) (Fx.mag a * Fx.mag b) (Fx.mag c) (Lib.hid hN) hd0 hd _ _ _ (Lib.hid rfl) (Lib.hid rfl) (Lib.hid rfl) (Lib.hid rfl)
  ⟨fun W => fsize_any a a1 a2 W, fun W => fsize_any b b1 b2 W, fun W => fsize_any c c1 c2 W, fun W => times_any (Fx.mag a) (Fx.mag b) (by omega) (by omega) W⟩ (Lib.hid hc) w
theorem refMulDiv_val (a b c : Int) (a1 : -9223372036854775808 ≤ a) (a2 : a ≤ 9223372036854775807) (b1 : -9223372036854775808 ≤ b) (b2 : b ≤ 9223372036854775807) (c1 : -9223372036854775808 ≤ c) (c2 : c ≤ 9223372036854775807) (w : World) :
 Calls Tryz.prog 153 #[.int .i64 a, .int .i64 b, .int .i64 c] w fun e w' => e = .returned (.tuple #[.int .i64 (Fx.mdn a b c), .bool (Fx.mdok a b c)]) ∧ Below w.heap.size w w' :=
 (refMulDiv_any a b c a1 a2 b1 b2 c1 c2 w).mono fun e w' ⟨n, ok, h, he, hb⟩ => ⟨by rw [he, h.num, h.ok], hb⟩
end
section
open Go.RowKit
theorem refDiv_any (a : Bool) (m : Int) (b : Bool) (n : Int) (w : World) :
 Calls Tryz.prog 141 #[.agg #[.bool a, .int .i64 m], .agg #[.bool b, .int .i64 n]] w fun e w' => e = .returned (.agg #[.bool (Fx.div ⟨a, m⟩ ⟨b, n⟩).ok, .int .i64 (Fx.div ⟨a, m⟩ ⟨b, n⟩).n]) ∧ Below w.heap.size w w' := by
 cases h : Fx.num ⟨a, m⟩
 ·rw [Fx.div_no1 h]
  go_enter Tryz.func141, Tryz.ntmps141
  go_wp2_with (go_at_call 152; go_must (refine (two_any _ _ _ _ _).mono ?_; rintro e w' ⟨rfl, hb⟩; obtain ⟨hc, hf⟩ := bcell hb; (try have hz0 : w.heap.size < w'.heap.size := Bz hb); (try have hz1 : w.heap.size + 1 < w'.heap.size := Bz hb); (try have hz2 : w.heap.size + 1 + 1 < w'.heap.size := Bz hb); have hz := hb.size; (try simp at hz)))
  exact bodyPost_ret (v := .agg #[.bool false, .int .i64 0]) (by simp [results, Tryz.results141, go_sem, *]) rfl ⟨rfl, Bq⟩
 ·cases h2 : Fx.num ⟨b, n⟩
  ·rw [Fx.div_no2 h2]
   go_enter Tryz.func141, Tryz.ntmps141
   go_wp2_with (go_at_call 152; go_must (refine (two_any _ _ _ _ _).mono ?_; rintro e w' ⟨rfl, hb⟩; obtain ⟨hc, hf⟩ := bcell hb; (try have hz0 : w.heap.size < w'.heap.size := Bz hb); (try have hz1 : w.heap.size + 1 < w'.heap.size := Bz hb); (try have hz2 : w.heap.size + 1 + 1 < w'.heap.size := Bz hb); have hz := hb.size; (try simp at hz)))
   exact bodyPost_ret (v := .agg #[.bool false, .int .i64 0]) (by simp [results, Tryz.results141, go_sem, *]) rfl ⟨rfl, Bq⟩
  ·rw [Fx.div_yes h h2]
   obtain ⟨rfl, m1, m2⟩ := Fx.num_iff.1 h
   obtain ⟨rfl, n1, n2⟩ := Fx.num_iff.1 h2
   have HM : Hid (∀ W, Calls Tryz.prog 153 #[.int .i64 m, .int .i64 1000000, .int .i64 n] W fun e w' => e = .returned (.tuple #[.int .i64 (Fx.mdn m 1000000 n), .bool (Fx.mdok m 1000000 n)]) ∧ Below W.heap.size W w') :=
    Lib.hid fun W => refMulDiv_val m 1000000 n (by omega) (by omega) (by omega) (by omega) (by omega) (by omega) W
   cases ho : Fx.mdok m 1000000 n
   ·rw [Fx.mdv_no ho]
    go_enter Tryz.func141, Tryz.ntmps141
    go_wp2_with first | (go_at_call 152; go_must (refine (two_any _ _ _ _ _).mono ?_; rintro e w' ⟨rfl, hb⟩; obtain ⟨hc, hf⟩ := bcell hb; (try have hz0 : w.heap.size < w'.heap.size := Bz hb); (try have hz1 : w.heap.size + 1 < w'.heap.size := Bz hb); (try have hz2 : w.heap.size + 1 + 1 < w'.heap.size := Bz hb); have hz := hb.size; (try simp at hz))) | (go_at_call 153; go_must (refine (HM.out _).mono ?_; rintro e w' ⟨rfl, hb⟩; obtain ⟨hc, hf⟩ := bcell hb; (try have hz0 : w.heap.size < w'.heap.size := Bz hb); (try have hz1 : w.heap.size + 1 < w'.heap.size := Bz hb); (try have hz2 : w.heap.size + 1 + 1 < w'.heap.size := Bz hb); have hz := hb.size; (try simp at hz)))
    exact bodyPost_ret (v := .agg #[.bool false, .int .i64 0]) (by simp [results, Tryz.results141, go_sem, *]) rfl ⟨rfl, Bq⟩
   ·rw [Fx.mdv_yes ho]
    go_enter Tryz.func141, Tryz.ntmps141
    go_wp2_with first | (go_at_call 152; go_must (refine (two_any _ _ _ _ _).mono ?_; rintro e w' ⟨rfl, hb⟩; obtain ⟨hc, hf⟩ := bcell hb; (try have hz0 : w.heap.size < w'.heap.size := Bz hb); (try have hz1 : w.heap.size + 1 < w'.heap.size := Bz hb); (try have hz2 : w.heap.size + 1 + 1 < w'.heap.size := Bz hb); have hz := hb.size; (try simp at hz))) | (go_at_call 153; go_must (refine (HM.out _).mono ?_; rintro e w' ⟨rfl, hb⟩; obtain ⟨hc, hf⟩ := bcell hb; (try have hz0 : w.heap.size < w'.heap.size := Bz hb); (try have hz1 : w.heap.size + 1 < w'.heap.size := Bz hb); (try have hz2 : w.heap.size + 1 + 1 < w'.heap.size := Bz hb); have hz := hb.size; (try simp at hz))) | (go_at_call 109; go_must (refine (refOf_any _ _).mono ?_; rintro e w' ⟨rfl, hb⟩; obtain ⟨hc, hf⟩ := bcell hb; (try have hz0 : w.heap.size < w'.heap.size := Bz hb); (try have hz1 : w.heap.size + 1 < w'.heap.size := Bz hb); (try have hz2 : w.heap.size + 1 + 1 < w'.heap.size := Bz hb); have hz := hb.size; (try simp at hz)))
    exact bodyPost_ret (v := (.agg #[.bool (Fx.of (Fx.mdn m 1000000 n)).ok, .int .i64 (Fx.of (Fx.mdn m 1000000 n)).n])) (by simp [results, Tryz.results141, go_sem, *]) rfl ⟨rfl, Bq⟩
end
section
open Go.RowKit Go.Sort
open Fx (Vl)
open Me
def Ag.run (kind : Int) (m : List Vl) (k : Nat) : Vl := if kind = 4 then Ag.mx (m.take k) else if kind = 5 then Ag.mn (m.take k) else m.getD 0 Fx.none
theorem Ag.run_one (kind : Int) (m : List Vl) (h : 0 < m.length) : Ag.run kind m 1 = m[0] := by
 unfold Ag.run
 split
 ·exact Ag.mx_one m h
 ·split
  ·exact Ag.mn_one m h
  ·rw [List.getD_eq_getElem?_getD, List.getElem?_eq_getElem h]; rfl
def Ag.best (kind : Int) (a b : Vl) : Vl := if kind = 4 then Ag.mx1 a b else if kind = 5 then Ag.mn1 a b else a
theorem Ag.run_step (kind : Int) (m : List Vl) (k : Nat) (h1 : 1 ≤ k) (h : k < m.length) : Ag.run kind m (k + 1) = Ag.best kind (Ag.run kind m k) m[k] := by
 unfold Ag.run Ag.best
 split
 ·exact Ag.mx_take m k h1 h
 ·split
  ·exact Ag.mn_take m k h1 h
  ·rfl
theorem Ag.best_4 {a b : Vl} (h : a.n < b.n) : Ag.best 4 a b = b := Ag.mx1_yes h
theorem Ag.best_4n {a b : Vl} (h : ¬ a.n < b.n) : Ag.best 4 a b = a := Ag.mx1_no h
theorem Ag.best_5 {a b : Vl} (h : b.n < a.n) : Ag.best 5 a b = b := Ag.mn1_yes h
theorem Ag.best_5n {a b : Vl} (h : ¬ b.n < a.n) : Ag.best 5 a b = a := Ag.mn1_no h
theorem Ag.best_no {kind : Int} {a b : Vl} (h4 : kind ≠ 4) (h5 : kind ≠ 5) : Ag.best kind a b = a := by unfold Ag.best; rw [if_neg h4, if_neg h5]
theorem Ag.run_4 (m : List Vl) : Ag.run 4 m m.length = Ag.mx m := by unfold Ag.run; rw [if_pos rfl, List.take_length]
theorem Ag.run_5 (m : List Vl) : Ag.run 5 m m.length = Ag.mn m := by unfold Ag.run; rw [if_neg (by decide), if_pos rfl, List.take_length]
theorem OwnV.vals {base : Nat} {w : World} {v : Value} {l : List Vl} (h : OwnV base w v l) (h0 : 0 < l.length) : ∃ b off cap, v = .slice (some ⟨b, off, none⟩) l.length cap ∧ Vals w b off l := by
 rcases h.sl with ⟨e, _⟩ | ⟨_, h⟩
 ·rw [e] at h0; exact absurd h0 (Nat.lt_irrefl _)
 ·exact h
theorem BestRel.start2 {w w' : World} {T : TypeId} (ok : Bool) (n : Int) (hb : Below (w.alloc (.cells #[.bool false, .int .i64 0] T)).heap.size (w.alloc (.cells #[.bool false, .int .i64 0] T)) w') :
 BestRel w (w'.alloc (.cells #[.bool ok, .int .i64 n] T)) w.heap.size w'.heap.size ⟨ok, n⟩ := by
 have hz := hb.size
 have hsz : (w.alloc (.cells #[.bool false, .int .i64 0] T)).heap.size = w.heap.size + 1 := by simp
 rw [hsz] at hz
 have hc : ∀ f, w'.cell? ⟨w.heap.size, f, none⟩ = (w.alloc (.cells #[.bool false, .int .i64 0] T)).cell? ⟨w.heap.size, f, none⟩ := fun f => hb.cell (p := ⟨w.heap.size, f, none⟩) (by rw [hsz]; show w.heap.size < _; omega)
 have hf : ∀ f, w'.frozen? ⟨w.heap.size, f, none⟩ = (w.alloc (.cells #[.bool false, .int .i64 0] T)).frozen? ⟨w.heap.size, f, none⟩ := fun f => hb.frozen (p := ⟨w.heap.size, f, none⟩) (by rw [hsz]; show w.heap.size < _; omega)
 have hlt : w.heap.size < w'.heap.size := by omega
 refine ⟨?_, Nat.le_refl _, by omega, by simp, ?_, ?_, ?_, ?_, ?_, ?_, ?_, ?_⟩
 ·exact (((Below.refl w.heap.size w).alloc (Nat.le_refl _) _).trans (hb.mono (by omega))).alloc (by omega) _
 all_goals simp [go_sem, *]
theorem BestRel.drewN {w wr : World} {r s : Nat} {v : Vl} (h : BestRel w wr r s v) (n : Nat) : BestRel w (wr.drewN n) r s v := h.step (below_drewN _ _ _)
theorem refOf_v (kind : Int) (l : List Vl) (hl : l.length ≤ 1000000) (v : Value) (w : World) (hv : Sl w v l) :
 Calls Tryz.prog 127 #[.int .i64 kind, v] w fun e w' => e = .returned (.agg #[.bool (Ag.tg kind (Ag.kn l)).ok, .int .i64 (Ag.tg kind (Ag.kn l)).n]) ∧ Below w.heap.size w w' := by
 have HK : Hid (∀ W, Below w.heap.size w W → Calls Tryz.prog 126 #[v] W (Knew W (Ag.kn l))) := Lib.hid fun W hb => refKnown_v l hl v W (hv.below hb)
 have hkl : (Ag.kn l).length ≤ 1000000 := Nat.le_trans (Ag.kn_len l) hl
 obtain ⟨A, c, rfl⟩ := hv.form
 clear hv
 generalize Ag.kn l = m at *
 by_cases hz : m.length = 0
 ·rw [show Ag.tg kind m = Fx.none from if_pos hz]
  have hzi : (m.length : Int) = 0 := by omega
  go_enter Tryz.func127, Tryz.ntmps127
  go_wp2_with (go_at_call 126; go_must (refine (HK.out _ Bq).mono ?_; rintro e w1 ⟨v1, rfl, ho1, hb1⟩; obtain ⟨hc1, hf1⟩ := bcell hb1; have hq1w : w.heap.size < w1.heap.size := Nat.lt_of_lt_of_le (by simp) hb1.size; obtain ⟨A1, c1, rfl⟩ := ho1.slice; clear ho1))
  exact bodyPost_ret (v := .agg #[.bool false, .int .i64 0]) (by simp [results, Tryz.results127, go_sem, *]) rfl ⟨rfl, Bq⟩
 have hz0 : 0 < m.length := by omega
 have hzi : ¬ ((m.length : Int) = 0) := by omega
 by_cases hlo : kind < 1
 ·rw [Ag.tg_no (by omega) (by omega) (by omega) (by omega) (by omega)]
  go_enter Tryz.func127, Tryz.ntmps127
  go_wp2_with (go_at_call 126; go_must (refine (HK.out _ Bq).mono ?_; rintro e w1 ⟨v1, rfl, ho1, hb1⟩; obtain ⟨hc1, hf1⟩ := bcell hb1; have hq1w : w.heap.size < w1.heap.size := Nat.lt_of_lt_of_le (by simp) hb1.size; obtain ⟨A1, c1, rfl⟩ := ho1.slice; clear ho1))
  exact bodyPost_ret (v := .agg #[.bool false, .int .i64 0]) (by simp [results, Tryz.results127, go_sem, *]) rfl ⟨rfl, Bq⟩
 by_cases hhi : 5 < kind
 ·rw [Ag.tg_no (by omega) (by omega) (by omega) (by omega) (by omega)]
  go_enter Tryz.func127, Tryz.ntmps127
  go_wp2_with (go_at_call 126; go_must (refine (HK.out _ Bq).mono ?_; rintro e w1 ⟨v1, rfl, ho1, hb1⟩; obtain ⟨hc1, hf1⟩ := bcell hb1; have hq1w : w.heap.size < w1.heap.size := Nat.lt_of_lt_of_le (by simp) hb1.size; obtain ⟨A1, c1, rfl⟩ := ho1.slice; clear ho1))
  exact bodyPost_ret (v := .agg #[.bool false, .int .i64 0]) (by simp [results, Tryz.results127, go_sem, *]) rfl ⟨rfl, Bq⟩
 generalize hQ : Ag.tg kind m = q
 have HQ := Lib.hid hQ
 clear hQ
 have hzb : ((m.length : Int) == 0) = false := by simpa using hz
 have hlo2 : 1 ≤ kind := by omega
 have hhi2 : kind ≤ 5 := by omega
 have hcond : ¬ (((((m.length : Int) == 0) = true ∨ kind < 1)) ∨ 5 < kind) := by
  rintro ((h | h) | h)
  ·rw [hzb] at h; cases h
  ·omega
  ·omega
 have HRO := Lib.hid (Ag.run_one kind m hz0)
 have HRS := Lib.hid (Ag.run_step kind m)
 go_enter Tryz.func127, Tryz.ntmps127
 go_wp2_with (go_at_call 126; go_must (refine (HK.out _ Bq).mono ?_; rintro e w1 ⟨v1, rfl, ho1, hb1⟩; obtain ⟨hc1, hf1⟩ := bcell hb1; have hq1w : w.heap.size < w1.heap.size := Nat.lt_of_lt_of_le (by simp) hb1.size; obtain ⟨b, off, cap, rfl, hv1⟩ := ho1.vals hz0; have x0 := hv1.ok 0 hz0; have x1 := hv1.n 0 hz0; rw [Nat.zero_mul, Nat.add_zero] at x0 x1; have hbr0 := hv1.lt; have HV1 := Lib.hid hv1; have HB1 := Lib.hid hb1; clear ho1 hv1; generalize m[0] = e0 at *; obtain ⟨fo, fn⟩ := e0))
 have HBR := Lib.hid (BestRel.start2 (T := 105) fo fn HB1.out)
 clear hc1 hf1 x0 x1
 go_loopw [7] (fun i wr => ∃ k : Nat, 1 ≤ k ∧ k ≤ m.length ∧ i = .int .i64 k ∧ BestRel w wr w.heap.size w1.heap.size (Ag.run kind m k) ∧ Below w1.heap.size w1 wr) (fun i _ => m.length - (intOf i).toNat)
 case atStart => exact ⟨1, Nat.le_refl _, hz0, rfl, by rw [HRO.out]; exact HBR.out, (Below.refl _ _).alloc (Nat.le_refl _) _⟩
 case round =>
  obtain ⟨k, hk1, hk, rfl, hR, hbb1⟩ := hrel
  have hvr := HV1.out.below hbb1
  have HBB := Lib.hid hbb1
  clear hbb1
  have hsz := hR.sz
  have rc0 := hR.rc0
  have rc1 := hR.rc1
  have rf0 := hR.rf0
  have rf1 := hR.rf1
  have sc0 := hR.sc0
  have sc1 := hR.sc1
  have sf0 := hR.sf0
  have sf1 := hR.sf1
  by_cases hlt : k < m.length
  ·have ec0 := hvr.ok k hlt
   have ec1 := hvr.n k hlt
   have hbr := hvr.lt
   have hst := Lib.hid (HRS.out k hk1 hlt)
   have HR := Lib.hid hR
   clear hR hvr
   generalize m[k] = ek at *
   generalize Ag.run kind m k = sk at *
   obtain ⟨eo, en⟩ := ek
   obtain ⟨so, sn⟩ := sk
   have hkl : (k : Int) < (m.length : Int) := by omega
   have hk0 : (0 : Int) ≤ (k : Int) := by omega
   have stay : Hid (∀ n, Ag.best kind ⟨so, sn⟩ ⟨eo, en⟩ = ⟨so, sn⟩ → ∃ k' : Nat, 1 ≤ k' ∧ k' ≤ m.length ∧ (Value.int .i64 ((k : Int) + 1)) = .int .i64 k' ∧ BestRel w (wr.drewN n) w.heap.size w1.heap.size (Ag.run kind m k') ∧ Below w1.heap.size w1 (wr.drewN n)) :=
    Lib.hid fun n e => ⟨k + 1, by omega, by omega, by go_num, by rw [hst.out, e]; exact HR.out.drewN n, HBB.out.trans (below_drewN _ _ _)⟩
   have turn : Hid (∀ n, Ag.best kind ⟨so, sn⟩ ⟨eo, en⟩ = ⟨eo, en⟩ → ∃ k' : Nat, 1 ≤ k' ∧ k' ≤ m.length ∧ (Value.int .i64 ((k : Int) + 1)) = .int .i64 k' ∧ BestRel w (((wr.drewN n).setCell ⟨w1.heap.size, 0, none⟩ (.bool eo)).setCell ⟨w1.heap.size, 1, none⟩ (.int .i64 en)) w.heap.size w1.heap.size (Ag.run kind m k') ∧ Below w1.heap.size w1 (((wr.drewN n).setCell ⟨w1.heap.size, 0, none⟩ (.bool eo)).setCell ⟨w1.heap.size, 1, none⟩ (.int .i64 en))) :=
    Lib.hid fun n e => ⟨k + 1, by omega, by omega, by go_num, by rw [hst.out, e]; exact (HR.out.drewN n).set_ _ _, Below.setCell (Below.setCell (HBB.out.trans (below_drewN _ _ _)) (Nat.le_refl _) _) (Nat.le_refl _) _⟩
   by_cases h4 : kind = 4
   ·have d4 : (kind == 4) = true := by simpa using h4
    have d5 : (kind == 5) = false := by rw [h4]; rfl
    have H4 := Lib.hid h4
    clear h4
    by_cases hc : sn < en
    ·have hd : decide (sn < en) = true := by simpa using hc
     go_wp2_with fail
     go_quiet (fail)
     go_wp2_with fail
     go_roundw
     case rel => exact turn.out _ (by rw [H4.out]; exact Ag.best_4 hc)
     case measure => simp [intOf]; omega
    ·have hd : decide (sn < en) = false := by simpa using hc
     go_wp2_with fail
     go_quiet (fail)
     go_wp2_with fail
     go_roundw
     case rel => exact stay.out _ (by rw [H4.out]; exact Ag.best_4n (Int.not_lt.2 hc))
     case measure => simp [intOf]; omega
   by_cases h5 : kind = 5
   ·have d4 : (kind == 4) = false := by simpa using h4
    have d5 : (kind == 5) = true := by simpa using h5
    have H5 := Lib.hid h5
    clear h5 h4
    by_cases hc : en < sn
    ·have hd : decide (en < sn) = true := by simpa using hc
     go_wp2_with fail
     go_quiet (fail)
     go_wp2_with fail
     go_roundw
     case rel => exact turn.out _ (by rw [H5.out]; exact Ag.best_5 hc)
     case measure => simp [intOf]; omega
    ·have hd : decide (en < sn) = false := by simpa using hc
     go_wp2_with fail
     go_quiet (fail)
     go_wp2_with fail
     go_roundw
     case rel => exact stay.out _ (by rw [H5.out]; exact Ag.best_5n (Int.not_lt.2 hc))
     case measure => simp [intOf]; omega
   have d4 : (kind == 4) = false := by simpa using h4
   have d5 : (kind == 5) = false := by simpa using h5
   go_wp2_with fail
   go_quiet (fail)
   go_wp2_with fail
   go_roundw
   case rel => exact stay.out _ (Ag.best_no h4 h5)
   case measure => simp [intOf]; omega
  ·obtain rfl : k = m.length := by omega
   have HBL := Lib.hid hR.below
   have hr0 := hR.r0
   have hrs := hR.rs
   have hqw : w.heap.size < wr.heap.size := Nat.lt_trans hrs hsz
   have HVR := Lib.hid hvr
   have HA : Hid (∀ W, Below wr.heap.size wr W → Calls Tryz.prog 140 #[.slice (some ⟨b, off, none⟩) m.length cap] W fun e w' => e = .returned (.agg #[.bool (sum m).ok, .int .i64 (sum m).n]) ∧ Below W.heap.size W w') := Lib.hid fun W hb => refAdd_some m (by omega) b off cap W (hvr.below hb)
   have hlast0 := hvr.ok (m.length - 1) (by omega)
   have hlast1 := hvr.n (m.length - 1) (by omega)
   have hbr := hvr.lt
   clear hR hvr HRS HRO HBR
   by_cases h1 : kind = 1
   ·subst h1
    have HI : Hid (∀ W, Calls Tryz.prog 142 #[.int .i64 (m.length : Int)] W fun e w' => e = .returned (.agg #[.bool (Fx.of ((m.length : Int) * 1000000)).ok, .int .i64 (Fx.of ((m.length : Int) * 1000000)).n]) ∧ Below W.heap.size W w') := Lib.hid fun W => refInt_any _ W
    have HD : Hid (∀ s d W, Calls Tryz.prog 141 #[(.agg #[.bool s.ok, .int .i64 s.n]), (.agg #[.bool d.ok, .int .i64 d.n])] W fun e w' => e = .returned (.agg #[.bool (Fx.div s d).ok, .int .i64 (Fx.div s d).n]) ∧ Below W.heap.size W w') := Lib.hid fun s d W => refDiv_any s.ok s.n d.ok d.n W
    replace HD := Lib.hid (HD.out (sum m) (Fx.of ((m.length : Int) * 1000000)))
    have hq := HQ.out.symm.trans (Ag.tg_1 hz0)
    clear hlast0 hlast1 sc0 sc1
    generalize Fx.div (sum m) (Fx.of ((m.length : Int) * 1000000)) = q' at *
    generalize Fx.of ((m.length : Int) * 1000000) = d at *
    generalize sum m = s at *
    obtain ⟨qo, qn⟩ := q'
    subst hq
    obtain ⟨do_, dn⟩ := d
    obtain ⟨so, sn⟩ := s
    go_wp2_with first | (go_at_call 140; (((with_reducible refine (HA.out _ (Below.refl _ _)).mono ?_)); rintro e w5 ⟨rfl, hb5⟩; obtain ⟨hc5, hf5⟩ := bcell hb5; (try have hq5w : w.heap.size < w5.heap.size := Bz hb5); (try have hq5wr : wr.heap.size < w5.heap.size := Bz hb5); have hs5 := hb5.size; (try simp at hs5))) | (go_at_call 142; (((with_reducible refine (HI.out _).mono ?_)); rintro e w6 ⟨rfl, hb6⟩; obtain ⟨hc6, hf6⟩ := bcell hb6; (try have hq6w : w.heap.size < w6.heap.size := Bz hb6); (try have hq6w5 : w5.heap.size < w6.heap.size := Bz hb6); have hs6 := hb6.size; (try simp at hs6))) | (go_at_call 141; (((with_reducible refine (HD.out _).mono ?_)); rintro e w7 ⟨rfl, hb7⟩; obtain ⟨hc7, hf7⟩ := bcell hb7; (try have hq7w : w.heap.size < w7.heap.size := Bz hb7); (try have hq7w6 : w6.heap.size < w7.heap.size := Bz hb7); have hs7 := hb7.size; (try simp at hs7)))
    have HBX : Hid (Below wr.heap.size wr w7) := Lib.hid Bq
    exact bodyPost_ret (v := .agg #[.bool qo, .int .i64 qn]) (by simp [results, Tryz.results127, go_sem, *]) rfl ⟨rfl, Below.setCell (Below.setCell (HBL.out.trans (HBX.out.mono (Nat.le_of_lt hqw))) (Nat.le_refl _) _) (Nat.le_refl _) _⟩
   by_cases h2 : kind = 2
   ·subst h2
    have hq := HQ.out.symm.trans (Ag.tg_2 hz0)
    clear hlast0 hlast1 sc0 sc1
    generalize sum m = s at *
    obtain ⟨so, sn⟩ := s
    subst hq
    go_wp2_with (go_at_call 140; (((with_reducible refine (HA.out _ (Below.refl _ _)).mono ?_)); rintro e w5 ⟨rfl, hb5⟩; obtain ⟨hc5, hf5⟩ := bcell hb5; (try have hq5w : w.heap.size < w5.heap.size := Bz hb5); (try have hq5wr : wr.heap.size < w5.heap.size := Bz hb5); have hs5 := hb5.size; (try simp at hs5)))
    have HBX : Hid (Below wr.heap.size wr w5) := Lib.hid Bq
    exact bodyPost_ret (v := .agg #[.bool so, .int .i64 sn]) (by simp [results, Tryz.results127, go_sem, *]) rfl ⟨rfl, Below.setCell (Below.setCell (HBL.out.trans (HBX.out.mono (Nat.le_of_lt hqw))) (Nat.le_refl _) _) (Nat.le_refl _) _⟩
   clear HA
   by_cases h3 : kind = 3
   ·subst h3
    have hq := HQ.out.symm.trans (Ag.tg_3 hz0)
    generalize m[m.length - 1]'(by omega) = e at *
    obtain ⟨eo, en⟩ := e
    subst hq
    clear HV1 HVR HK HQ
    generalize m.length = n at *
    obtain ⟨p, rfl⟩ : ∃ p, n = p + 1 := ⟨n - 1, by omega⟩
    simp only [Nat.add_sub_cancel] at hlast0 hlast1
    go_wp2_with fail
    exact bodyPost_ret (v := .agg #[.bool eo, .int .i64 en]) (by simp [results, Tryz.results127, go_sem, *]) rfl ⟨rfl, Below.setCell (Below.setCell HBL.out (Nat.le_refl _) _) (Nat.le_refl _) _⟩
   by_cases h4 : kind = 4
   ·subst h4
    have hq := HQ.out.symm.trans ((Ag.tg_4 hz0).trans (Ag.run_4 m).symm)
    clear hlast0 hlast1
    generalize Ag.run 4 m m.length = s at *
    obtain ⟨so, sn⟩ := s
    subst hq
    go_wp2_with fail
    exact bodyPost_ret (v := .agg #[.bool so, .int .i64 sn]) (by simp [results, Tryz.results127, go_sem, *]) rfl ⟨rfl, Below.setCell (Below.setCell HBL.out (Nat.le_refl _) _) (Nat.le_refl _) _⟩
   obtain rfl : kind = 5 := by omega
   have hq := HQ.out.symm.trans ((Ag.tg_5 hz0).trans (Ag.run_5 m).symm)
   clear hlast0 hlast1
   generalize Ag.run 5 m m.length = s at *
   obtain ⟨so, sn⟩ := s
   subst hq
   go_wp2_with fail
   exact bodyPost_ret (v := .agg #[.bool so, .int .i64 sn]) (by simp [results, Tryz.results127, go_sem, *]) rfl ⟨rfl, Below.setCell (Below.setCell HBL.out (Nat.le_refl _) _) (Nat.le_refl _) _⟩
end
section
open Go.RowKit Go.Sort
open Fx (Vl)
open Me
theorem refPut_v (kind xff : Int) (l : List Vl) (hl : l.length ≤ 1000000) (v : Value) (w : World) (hv : Sl w v l) :
 Calls Tryz.prog 113 #[.int .i64 kind, .int .i64 xff, v] w fun e w' => e = .returned (.agg #[.bool (Ag.put kind xff l).ok, .int .i64 (Ag.put kind xff l).n]) ∧ Below w.heap.size w w' := by
 have HK : Hid (∀ W, Below w.heap.size w W → Calls Tryz.prog 126 #[v] W (Knew W (Ag.kn l))) := Lib.hid fun W hb => refKnown_v l hl v W (hv.below hb)
 have HT : Hid (∀ W, Below w.heap.size w W → Calls Tryz.prog 127 #[.int .i64 kind, v] W fun e w' => e = .returned (.agg #[.bool (Ag.tg kind (Ag.kn l)).ok, .int .i64 (Ag.tg kind (Ag.kn l)).n]) ∧ Below W.heap.size W w') := Lib.hid fun W hb => refOf_v kind l hl v W (hv.below hb)
 have HE : Hid (∀ W, Calls Tryz.prog 125 #[.int .i64 xff, .int .i64 ((Ag.kn l).length : Int), .int .i64 (l.length : Int)] W fun e w' => e = .returned (.bool (Ag.en xff ((Ag.kn l).length : Int) (l.length : Int))) ∧ W = w') := Lib.hid fun W => refEnough_any _ _ _ W
 have HQ : Hid (Ag.put kind xff l = if Ag.en xff ((Ag.kn l).length : Int) (l.length : Int) = true then Ag.tg kind (Ag.kn l) else Fx.none) := Lib.hid rfl
 obtain ⟨A, c, rfl⟩ := hv.form
 clear hv
 generalize Ag.en xff ((Ag.kn l).length : Int) (l.length : Int) = en at *
 generalize Ag.put kind xff l = p at *
 generalize Ag.tg kind (Ag.kn l) = q at *
 generalize Ag.kn l = m at *
 obtain ⟨qo, qn⟩ := q
 cases en
 ·obtain rfl : p = Fx.none := HQ.out
  go_enter Tryz.func113, Tryz.ntmps113
  go_wp2_with first
   | (go_at_call 126; go_must (refine (HK.out _ Bq).mono ?_; rintro e w1 ⟨v1, rfl, ho1, hb1⟩; obtain ⟨hc1, hf1⟩ := bcell hb1; have hq1w : w.heap.size < w1.heap.size := Nat.lt_of_lt_of_le (by simp) hb1.size; obtain ⟨A1, c1, rfl⟩ := ho1.slice; clear ho1))
   | (go_at_call 125; go_must (refine (HE.out _).mono ?_; rintro e w' ⟨rfl, rfl⟩))
  exact bodyPost_ret (v := .agg #[.bool false, .int .i64 0]) (by simp [results, Tryz.results113, go_sem, *]) rfl ⟨rfl, Bq⟩
 ·obtain rfl : p = ⟨qo, qn⟩ := HQ.out
  go_enter Tryz.func113, Tryz.ntmps113
  go_wp2_with first
   | (go_at_call 126; go_must (refine (HK.out _ Bq).mono ?_; rintro e w1 ⟨v1, rfl, ho1, hb1⟩; obtain ⟨hc1, hf1⟩ := bcell hb1; have hq1w : w.heap.size < w1.heap.size := Nat.lt_of_lt_of_le (by simp) hb1.size; have HW1 : Hid (Below w.heap.size w w1) := Lib.hid (lowBox' (hb1.mono (by simp))); obtain ⟨A1, c1, rfl⟩ := ho1.slice; clear ho1))
   | (go_at_call 125; go_must (refine (HE.out _).mono ?_; rintro e w' ⟨rfl, rfl⟩))
   | (go_at_call 127; (((with_reducible refine (HT.out _ HW1.out).mono ?_)); rintro e w2 ⟨rfl, hb2⟩; obtain ⟨hc2, hf2⟩ := bcell hb2; (try have hq2w : w.heap.size < w2.heap.size := Bz hb2); (try have hq2w1 : w1.heap.size < w2.heap.size := Bz hb2); have hs2 := hb2.size; (try simp at hs2)))
  exact bodyPost_ret (v := .agg #[.bool qo, .int .i64 qn]) (by simp [results, Tryz.results113, go_sem, *]) rfl ⟨rfl, Bq⟩
end
section
open Go.RowKit Go.Sort
open Fx (Vl)
open Me
open Wp
namespace Wp
theorem sm_cnt {l : List (Int × Int)} {i : Nat} : ∀ k, (∀ j, j < k → 1 ≤ (Wh.At l j).2) → i < k → 12 * (Wh.At l i).2 ≤ Wh.sm l k
 | 0, _, h => by omega
 | k + 1, hc, h => by
   unfold Wh.sm
   have h0 : 0 ≤ Wh.sm l k := by
    clear h
    have : ∀ m, m ≤ k → 0 ≤ Wh.sm l m := fun m => by
     induction m with
     | zero => intro _; exact Int.le_refl _
     | succ m ih => intro hm; unfold Wh.sm; have := ih (by omega); have := hc m (by omega); omega
    exact this k (Nat.le_refl _)
   by_cases e : i = k
   ·subst e; omega
   ·have := sm_cnt (l := l) (i := i) k (fun j hj => hc j (by omega)) (by omega)
    have := hc k (by omega)
    omega
theorem cnt_bd {h : Hd} (hv : h.val = true) (i : Nat) (hi : i < h.l.length) : h.cnt i ≤ 87381 := by
 obtain ⟨_, _, _, ha⟩ := Wh.val_t hv
 obtain ⟨a1, a2, a3, a4, a5⟩ := Wh.av_t ha
 have h1 := sm_cnt (l := h.l) (i := i) h.l.length (fun j hj => ((Wh.alls_num hj a3).2).1) hi
 have h2 : Wh.ends h.l h.l.length = 16 + 12 * (h.l.length : Int) + Wh.sm h.l h.l.length := rfl
 show (Wh.At h.l i).2 ≤ 87381
 omega
theorem many_bd {h : Hd} (hv : h.val = true) (i : Nat) (hi : i + 1 < h.l.length) : h.step (i + 1) / h.step i = (many h i : Int) ∧ many h i ≤ 87381 := by
 obtain ⟨_, _, _, ha⟩ := Wh.val_t hv
 obtain ⟨a1, a2, a3, a4, a5⟩ := Wh.av_t ha
 have hs := Wh.alls_stp hi a3
 have h0 : 0 ≤ h.step (i + 1) / h.step i := Int.ediv_nonneg (by have := (Hd.nums hv (i + 1) hi).1; omega) (by have := (Hd.nums hv i (by omega)).1; omega)
 have h1 : h.step (i + 1) / h.step i ≤ h.cnt i := by
  unfold Wh.stp Wh.fol at hs
  simp only [Bool.and_eq_true, Bool.or_eq_true, decide_eq_true_eq, Nat.add_sub_cancel] at hs
  rcases hs.2 with e | e
  ·omega
  ·exact e.2
 have h2 := cnt_bd hv i (by omega)
 unfold many
 omega
theorem vals_succ (fs : List Vf.Fl) (n : List UInt8) (h : Hd) (i : Nat) (t : Int) (k : Nat) : vals fs n h i t (k + 1) = vals fs n h i t k ++ [value fs n h i (Sl.al t (h.step (i + 1)) + (k : Int) * h.step i)] := by
 unfold vals; rw [List.range_succ, List.map_append]; rfl
theorem vals_len (fs : List Vf.Fl) (n : List UInt8) (h : Hd) (i : Nat) (t : Int) (k : Nat) : (vals fs n h i t k).length = k := by unfold vals; simp
theorem al_bd {t s : Int} (h0 : 0 ≤ t) (hs : 1 ≤ s) : 0 ≤ Sl.al t s ∧ Sl.al t s ≤ t := by
 rw [Sl.al_eq hs h0]
 have h1 := Int.emod_nonneg t (by omega : s ≠ 0)
 have h2 := Int.emod_lt_of_pos t (by omega : 0 < s)
 have h3 := Int.mul_nonneg (by omega : 0 ≤ s) (Int.ediv_nonneg h0 (by omega : 0 ≤ s))
 have h4 := Int.emod_add_mul_ediv t s
 omega
end Wp
theorem below_via {a b c : World} (h : Below b.heap.size b c) (k : Below a.heap.size a b) : Below a.heap.size a c := k.trans (h.mono k.size)
theorem keep2 {w : World} {x g i : Nat} {u v : Value} (h : x ≠ g) : ((w.setCell ⟨g, 0, none⟩ u).setCell ⟨g, 1, none⟩ v).cell? ⟨x, i, none⟩ = w.cell? ⟨x, i, none⟩ :=
 World.cell?_of_block ((Below.heap_setCell _ _ _ _ h).trans (Below.heap_setCell _ _ _ _ h))
theorem rpasses_any {w : World} {V : Nat → Prop} {c x fs : Nat} {S : Vf.Sv} {n : List UInt8} {h : Hd} {A : Option Addr} {cap : Nat} (ro : RO w V fs c S) (hc : c ≤ 999990) (f : FileR w x fs n h A cap) (hx : V x) (hA : ∀ a, A = some a → V a.block) (hv : h.val = true) (i : Nat) (hi : i + 1 < h.l.length) (t : Int) (ht0 : 0 ≤ t) (ht : t ≤ 4294967295) :
 Calls Tryz.prog 90 #[.pointer (some ⟨x, 0, none⟩), .int .i64 (i : Int), .int .i64 t] w fun e w' => e = .returned (.bool (passes S n h i t).2) ∧ RO w' V fs (c + 3) (passes S n h i t).1 ∧ Kp (fun b => ¬ V b) w w' := by
 obtain ⟨b, off, rfl, ha⟩ := f.ars.2 (by omega)
 have hVb : V b := hA _ rfl
 have c2 : w.cell? ⟨x, 2, none⟩ = some (.int .i64 h.ag) := f.row.cell 2
 have c3 : w.cell? ⟨x, 3, none⟩ = some (.int .i64 h.xf) := f.row.cell 3
 have c4 : w.cell? ⟨x, 4, none⟩ = some (.slice (some ⟨b, off, none⟩) h.l.length cap) := f.row.cell 4
 have s0 : w.cell? ⟨b, off + i * 2, none⟩ = some (.int .i64 (h.step i)) := ha.st i (by omega)
 have s1 : w.cell? ⟨b, off + i * 2 + 1, none⟩ = some (.int .i64 (h.cnt i)) := ha.ct i (by omega)
 have s2 : w.cell? ⟨b, off + (i + 1) * 2, none⟩ = some (.int .i64 (h.step (i + 1))) := ha.st (i + 1) (by omega)
 have s3 : w.cell? ⟨b, off + (i + 1) * 2 + 1, none⟩ = some (.int .i64 (h.cnt (i + 1))) := ha.ct (i + 1) (by omega)
 have hxl := f.row.lt
 have hbl := ha.lt
 obtain ⟨⟨a1, a2⟩, _⟩ := Hd.nums hv i (by omega)
 obtain ⟨⟨b1, b2⟩, _⟩ := Hd.nums hv (i + 1) (by omega)
 have HF := Lib.hid f
 have HRO := Lib.hid ro
 have hil : (i : Int) < (h.l.length : Int) := by omega
 obtain ⟨j, hj⟩ : ∃ j, Hid (j = i + 1) := ⟨_, Lib.hid rfl⟩
 have hij : (i : Int) + 1 = (j : Int) := by rw [hj.out]; rfl
 have hil1 : (j : Int) < (h.l.length : Int) := by omega
 have hi0 : (0 : Int) ≤ (i : Int) := by omega
 have hj0 : (0 : Int) ≤ (j : Int) := by omega
 have hwj : IntKind.i64.wrap (j : Int) = (j : Int) := IntWalk.i64_in _ (by have := (Hd.len hv).2; omega)
 rw [← hj.out] at s2 s3 b1 b2
 clear f ha ro
 obtain ⟨u0, hu0⟩ : ∃ u, Hid (u = h.step i) := ⟨_, Lib.hid rfl⟩
 obtain ⟨u1, hu1⟩ : ∃ u, Hid (u = h.cnt i) := ⟨_, Lib.hid rfl⟩
 obtain ⟨u2, hu2⟩ : ∃ u, Hid (u = h.step j) := ⟨_, Lib.hid rfl⟩
 obtain ⟨u3, hu3⟩ : ∃ u, Hid (u = h.cnt j) := ⟨_, Lib.hid rfl⟩
 obtain ⟨N, hN⟩ : ∃ N, Hid (N = h.l.length) := ⟨_, Lib.hid rfl⟩
 rw [← hu0.out] at s0 a1 a2
 rw [← hu1.out] at s1
 rw [← hu2.out] at s2 b1 b2
 rw [← hu3.out] at s3
 rw [← hN.out] at c4 hil hil1
 go_enter Tryz.func90, Tryz.ntmps90
 go_wp2_with fail
 go_cut [7, 8] (fun s7 s8 wx => ∃ p q : Nat, s7 = .pointer (some ⟨p, 0, none⟩) ∧ s8 = .pointer (some ⟨q, 0, none⟩) ∧ w.heap.size ≤ p ∧ w.heap.size ≤ q ∧ Hid (RowAt wx p 69 #[.int .i64 u0, .int .i64 u1]) ∧ Hid (RowAt wx q 69 #[.int .i64 u2, .int .i64 u3]) ∧ Below w.heap.size w wx)
 case first =>
  go_region_held3 (fun W => W.cell? ⟨x, 4, none⟩ = some (.slice (some ⟨b, off, none⟩) N cap) ∧ W.cell? ⟨b, off + i * 2, none⟩ = some (.int .i64 u0) ∧ W.cell? ⟨b, off + i * 2 + 1, none⟩ = some (.int .i64 u1) ∧ W.cell? ⟨b, off + j * 2, none⟩ = some (.int .i64 u2) ∧ W.cell? ⟨b, off + j * 2 + 1, none⟩ = some (.int .i64 u3)) (first | exact ⟨c4, s0, s1, s2, s3⟩ | go_keep) (fail)
  all_goals go_wp2_with fail
  all_goals go_meet
  all_goals
   first
    | refine ⟨w.heap.size, w.heap.size + 1, rfl, rfl, Nat.le_refl _, by omega, ?_, ?_, ?_⟩
    | refine ⟨w.heap.size + 1, w.heap.size, rfl, rfl, by omega, Nat.le_refl _, ?_, ?_, ?_⟩
  ·exact Lib.hid (((RowAt.new w _ _).alloc _).drew)
  ·exact Lib.hid (by rw [show w.heap.size + 1 = (w.alloc (.cells #[.int .i64 u0, .int .i64 u1] 69)).heap.size by simp]; exact (RowAt.new _ _ _).drew)
  ·exact Bq
  ·exact Lib.hid (by rw [show w.heap.size + 1 = (w.alloc (.cells #[.int .i64 u2, .int .i64 u3] 69)).heap.size by simp]; exact (RowAt.new _ _ _).drew)
  ·exact Lib.hid (((RowAt.new w _ _).alloc _).drew)
  ·exact Bq
 case rest =>
  obtain ⟨p, q, rfl, rfl, hp, hq, HP, HQ2, hbc⟩ := hcut
  have HBC := Lib.hid hbc
  have hcs := hbc.size
  have p0 : wc.cell? ⟨p, 0, none⟩ = some (.int .i64 u0) := HP.out.cell 0
  have q0 : wc.cell? ⟨q, 0, none⟩ = some (.int .i64 u2) := HQ2.out.cell 0
  have hpl := HP.out.lt
  have hql := HQ2.out.lt
  have HAL : Hid (∀ W, Calls Tryz.prog 80 #[.int .i64 t, .int .i64 u2] W fun e w' => e = .returned (.int .i64 (Sl.al t u2)) ∧ W = w') := Lib.hid fun W => ralign_any t _ (by omega) W
  clear hbc s0 s1 s2 s3 c4
  obtain ⟨g, hg⟩ : ∃ g, Hid (g = Sl.al t u2) := ⟨_, Lib.hid rfl⟩
  rw [← hg.out] at HAL
  go_wp2_with (go_at_call 80; ((with_reducible refine (HAL.out _).mono ?_); rintro e w' ⟨rfl, rfl⟩))
  obtain ⟨hK0, hM⟩ := many_bd hv i hi
  obtain ⟨M, HM⟩ : ∃ M, Hid (M = many h i) := ⟨_, Lib.hid rfl⟩
  have hK : u2 / u0 = (M : Int) := by rw [hu2.out, hu0.out, hj.out, HM.out]; exact hK0
  have hM' : M ≤ 87381 := by rw [HM.out]; exact hM
  have hwM : IntKind.i64.wrap (M : Int) = (M : Int) := IntWalk.i64_in _ (by omega)
  have hMu : (M : Int) * u0 ≤ u2 := by rw [← hK]; exact Int.ediv_mul_le _ (by omega)
  have hgb : 0 ≤ g ∧ g ≤ t := by rw [hg.out]; exact al_bd ht0 (by omega)
  have hu0' : 0 < u0 := by omega
  clear hK0 hM
  obtain ⟨i0, hi0', hz0, hz1, hz2⟩ := info_parts infoVal
  have HI := Lib.hid hi0'
  have HZ := Lib.hid (And.intro hz0 (And.intro hz1 hz2))
  clear hi0' hz0 hz1 hz2
  have HVL : Hid (∀ (k : Nat) W, k < M → Below w.heap.size w W → Calls Tryz.prog 81 #[.pointer (some ⟨x, 0, none⟩), .int .i64 (i : Int), .int .i64 (g + (k : Int) * u0)] W fun e w' => e = .returned (.agg #[.bool (value S.now n h i (g + (k : Int) * u0)).ok, .int .i64 (value S.now n h i (g + (k : Int) * u0)).n]) ∧ Below W.heap.size W w') := Lib.hid fun k W hk hb => by
   have h1 : (k : Int) * u0 ≤ (M : Int) * u0 := Int.mul_le_mul_of_nonneg_right (by omega) (by omega)
   exact rvalue_any (HRO.out.below hb) (by omega) (HF.out.below hb) hv i (by omega) _ (by omega)
  go_loopw [10, 11] (fun v u wr => ∃ k : Nat, k ≤ M ∧ u = .int .i64 k ∧ OwnV wc.heap.size wr v (vals S.now n h i t k) ∧ Below wc.heap.size wc wr) (fun _ u _ => M - (intOf u).toNat)
  case atStart => exact ⟨0, Nat.zero_le _, rfl, OwnV.nil _ _, Below.refl _ _⟩
  case round =>
   obtain ⟨k, hk, rfl, hown, hbel⟩ := hrel
   have hvl := vals_len S.now n h i t k
   have HVS := Lib.hid (vals_succ S.now n h i t k)
   generalize hml : vals S.now n h i t k = m at *
   have HML := Lib.hid hml
   clear hml
   obtain ⟨A3, c3', rfl⟩ := hown.slice
   have HO := Lib.hid hown
   have HB := Lib.hid hbel
   have hws := hbel.size
   have HWB : Hid (Below w.heap.size w wr) := Lib.hid (HBC.out.trans (hbel.mono hcs))
   have p0r : wr.cell? ⟨p, 0, none⟩ = some (.int .i64 u0) := ((bcell hbel).1 _ _ hpl).trans p0
   have q0r : wr.cell? ⟨q, 0, none⟩ = some (.int .i64 u2) := ((bcell hbel).1 _ _ hql).trans q0
   have hpr : p < wr.heap.size := Nat.lt_of_lt_of_le hpl hws
   have hqr : q < wr.heap.size := Nat.lt_of_lt_of_le hql hws
   clear hown hbel p0 q0
   rw [hvl] at HO
   by_cases hlt : k < M
   ·have h1 : (k : Int) * u0 ≤ (M : Int) * u0 := Int.mul_le_mul_of_nonneg_right (by omega) (by omega)
    have h2 : 0 ≤ (k : Int) * u0 := Int.mul_nonneg (by omega) (by omega)
    have HVk := Lib.hid (HVL.out k · hlt)
    rw [← hj.out, ← hu2.out, ← hu0.out, ← hg.out] at HVS
    generalize value S.now n h i (g + (k : Int) * u0) = qv at *
    obtain ⟨qo, qn⟩ := qv
    obtain ⟨mm, hmm⟩ : ∃ mm, (k : Int) * u0 = mm := ⟨_, rfl⟩
    rw [hmm] at h1 h2
    obtain ⟨r, hr⟩ : ∃ r, g + mm = r := ⟨_, rfl⟩
    rw [hmm, hr] at HVk
    have hwm : IntKind.i64.wrap mm = mm := IntWalk.i64_in _ (by omega)
    have hwr : IntKind.i64.wrap r = r := IntWalk.i64_in _ (by omega)
    have hkM : (k : Int) < (M : Int) := by omega
    have HOX : Hid (∀ W, Below wr.heap.size wr W → W.ownsRow wc.heap.size 105 2 (.slice A3 k c3') k (cellsOf m)) := Lib.hid fun W hb => by
     have h := HO.out.below hb
     unfold OwnV at h
     rw [hvl] at h
     exact h
    go_wp2_with first
     | (go_at_call 81; (with_reducible refine (HVk.out _ HWB.out).mono ?_); rintro e w4 ⟨rfl, hb4⟩; have HB4 := Lib.hid hb4; have hs4 := hb4.size; clear hb4)
     | (at_builtin; refine wpList_app _ rfl (.tmp 43) (.tmp 53) 86 rfl wc.heap.size 105 i0 (.agg #[.bool false, .int .i64 0]) 2 16 Tryz.underlying86 HI.out HZ.out.1 HZ.out.2.1 HZ.out.2.2 rfl (by decide) (.slice A3 k c3') k (cellsOf m) rfl (HOX.out _ (HB4.out.alloc hs4 _)) (fun b => b = w4.heap.size) (some ⟨w4.heap.size, 0, none⟩) 1 1 [.bool qo, .int .i64 qn] rfl rfl (Rd.fresh _ _ _ _ rfl) (by intro u hu; simp at hu; rcases hu with rfl | rfl <;> rfl) (by unfold maxLen; omega) (by omega) (by simp; omega) ?_; intro v5 w5 hown5 hg5 hat5 hnil5)
    have HN := Lib.hid (own_append (v := .slice A3 k c3') (m := m) (HB.out.trans ((HB4.out.alloc hs4 _).mono hws)) (HO.out.below (HB4.out.alloc hs4 _)) (by rw [hvl]; exact hown5) hg5)
    obtain ⟨A5, n5, c5, rfl⟩ := own_slice hown5
    clear hown5 hg5 hat5 hnil5
    go_wp2_with fail
    go_roundw
    case rel => exact ⟨k + 1, by omega, by go_num, by rw [HVS.out]; exact HN.out.1, HN.out.2⟩
    case measure => simp [intOf]; omega
   ·have hkM : k = M := by omega
    have HQ : Hid (passes S n h i t = if (Ag.put h.ag h.xf m).ok = false ∨ g = 0 then (S, false) else (write S n h j t (Ag.put h.ag h.xf m).n, true)) := Lib.hid (by
     unfold passes
     rw [← HM.out, ← hkM, HML.out, ← hj.out, ← hu2.out, ← hg.out])
    subst hkM
    have y2 : wr.cell? ⟨x, 2, none⟩ = some (.int .i64 h.ag) := ((bcell HWB.out).1 _ _ hxl).trans c2
    have y3 : wr.cell? ⟨x, 3, none⟩ = some (.int .i64 h.xf) := ((bcell HWB.out).1 _ _ hxl).trans c3
    have hxr : x < wr.heap.size := Nat.lt_of_lt_of_le hxl HWB.out.size
    have HPU : Hid (∀ W, Below wr.heap.size wr W → Calls Tryz.prog 113 #[.int .i64 h.ag, .int .i64 h.xf, .slice A3 m.length c3'] W fun e w' => e = .returned (.agg #[.bool (Ag.put h.ag h.xf m).ok, .int .i64 (Ag.put h.ag h.xf m).n]) ∧ Below W.heap.size W w') := Lib.hid fun W hb => refPut_v h.ag h.xf m (by omega) _ W (by have h := HO.out.sl.below hb; rw [← hvl] at h; exact h)
    have HRW : Hid (∀ W u, Below w.heap.size w W → Calls Tryz.prog 89 #[.pointer (some ⟨x, 0, none⟩), .int .i64 (j : Int), .int .i64 t, .int .i64 u] W (Wrote W V fs (c + 3) (write S n h j t u))) := Lib.hid fun W u hb => rwrite_any (HRO.out.below hb) hc (HF.out.below hb) hx hA hv j (by rw [hj.out]; exact hi) t u (by omega)
    clear HVL HVS HO HB HML c2 c3 hvl
    generalize Ag.put h.ag h.xf m = P at *
    generalize h.ag = ag at *
    generalize h.xf = xf at *
    obtain ⟨po, pn⟩ := P
    go_wp2_with fail
    go_cut [12] (fun s12 wx => ∃ g' : Nat, s12 = .pointer (some ⟨g', 0, none⟩) ∧ Hid (RowAt wx g' 105 #[.bool po, .int .i64 pn]) ∧ Below w.heap.size w wx)
    case first =>
     clear a1 a2 b1 b2 hMu hgb hu0' hwM hK hM' p0r q0r hpr hqr hpl hql hws hp hq hcs
     have hxn : x ≠ wr.heap.size := by omega
     go_region_held3 (fun W => W.cell? ⟨x, 2, none⟩ = some (.int .i64 ag) ∧ W.cell? ⟨x, 3, none⟩ = some (.int .i64 xf)) (first | exact ⟨y2, y3⟩ | exact ⟨z2, z3⟩ | exact ⟨(keep2 hxn).trans z2, (keep2 hxn).trans z3⟩ | go_keep)
      (first | (go_at_call 113; (with_reducible refine (HPU.out _ (by first | exact Below.refl _ _ | exact (Below.refl _ _).drew | exact ((Below.refl _ _).alloc (Nat.le_refl _) _) | exact ((Below.refl _ _).alloc (Nat.le_refl _) _).drew | exact ((Below.refl _ _).drew).alloc (Nat.le_refl _) _)).mono ?_); rintro e w6 ⟨rfl, hb6⟩; obtain ⟨hc6, hf6⟩ := bcell hb6; (try have hz6 : wr.heap.size < w6.heap.size := Bz hb6); (try have hrw6 : RowAt w6 wr.heap.size 105 #[.bool false, .int .i64 0] := RowAt.below (by first | exact RowAt.new _ _ _ | exact (RowAt.new _ _ _).drew) hb6 (by first | assumption | (simp; done) | (simp; omega))); have HB6 : Hid (Below wr.heap.size wr w6) := Lib.hid (below_via hb6 (by first | exact Below.refl _ _ | exact (Below.refl _ _).drew | exact ((Below.refl _ _).alloc (Nat.le_refl _) _) | exact ((Below.refl _ _).alloc (Nat.le_refl _) _).drew | exact ((Below.refl _ _).drew).alloc (Nat.le_refl _) _)); have z2 := ((bcell HB6.out).1 _ _ hxr).trans y2; have z3 := ((bcell HB6.out).1 _ _ hxr).trans y3))
     all_goals go_wp2_with fail
     all_goals go_meet
     ·have hw6 := HWB.out.trans (HB6.out.mono HWB.out.size)
      exact ⟨w6.heap.size, rfl, Lib.hid (RowAt.new _ _ _), hw6.alloc hw6.size _⟩
     ·have hw6 := HWB.out.trans (HB6.out.mono HWB.out.size)
      exact ⟨wr.heap.size, rfl, Lib.hid (by have h := (hrw6.set_ 0 (.bool po)).set_ 1 (.int .i64 pn); simpa using h), Below.setCell (Below.setCell hw6 HWB.out.size _) HWB.out.size _⟩
    case rest =>
     obtain ⟨g', rfl, HG, hbx⟩ := hcut
     have v0 : wc.cell? ⟨g', 0, none⟩ = some (.bool po) := HG.out.cell 0
     have v1 : wc.cell? ⟨g', 1, none⟩ = some (.int .i64 pn) := HG.out.cell 1
     have hgl := HG.out.lt
     have HBX := Lib.hid hbx
     clear hbx HPU y2 y3
     have stay : Hid (po = false ∨ g = 0 → (Value.bool (passes S n h i t).2) = .bool false ∧ RO wc V fs (c + 3) (passes S n h i t).1 ∧ Kp (fun b => ¬ V b) w wc) := Lib.hid fun e => by
      rw [HQ.out, if_pos e]
      exact ⟨rfl, (HRO.out.below HBX.out).more (by omega) (fun _ h => h), Kp.of_below HBX.out⟩
     cases po
     ·obtain ⟨k1, k2, k3⟩ := stay.out (.inl rfl)
      clear stay HRW
      go_wp2_with fail
      go_ret
      exact ⟨by first | rfl | (rw [k1]; rfl), k2, k3⟩
     ·by_cases hg0 : g = 0
      ·obtain ⟨k1, k2, k3⟩ := stay.out (.inr hg0)
       have hgz : (g == 0) = true := by simpa using hg0
       have HG0 := Lib.hid hg0
       clear stay HRW hg0
       go_wp2_with fail
       go_ret
       exact ⟨by first | rfl | (rw [k1]; rfl), k2, k3⟩
      ·have hgz : (g == 0) = false := by simpa using hg0
       have HQ' : Hid (passes S n h i t = (write S n h j t pn, true)) := Lib.hid (by rw [HQ.out, if_neg (by rintro (h | h); cases h; exact hg0 h)])
       clear stay HQ hg0
       go_wp2_with (go_at_call 89; (with_reducible refine (HRW.out _ _ HBX.out).mono ?_); rintro e w7 ⟨rfl, hro7, hk7⟩)
       go_ret
       exact ⟨by rw [HQ'.out]; rfl, by rw [HQ'.out]; exact hro7, (Kp.of_below HBX.out).trans hk7 (fun _ _ h => h)⟩
end
section
open Go.RowKit Go.Sort
open Fx (Vl)
open Me
open Wp
namespace Wp
theorem passes_no {S : Vf.Sv} {n : List UInt8} {h : Hd} {i : Nat} {t : Int} (e : (passes S n h i t).2 = false) : (passes S n h i t).1 = S := by
 unfold passes at e ⊢
 dsimp only at e ⊢
 split at e
 ·rename_i hh; rw [if_pos hh]
 ·cases e
theorem climb_no {n : List UInt8} {h : Hd} {t : Int} {m : Nat} {S : Vf.Sv} {k : Nat} (e : (passes S n h k t).2 = false) : climb n h t m S k = S := by
 cases m with
 | zero => rfl
 | succ m => unfold climb; rw [if_neg (by rw [e]; exact Bool.false_ne_true)]
theorem climb_yes {n : List UInt8} {h : Hd} {t : Int} {m : Nat} {S : Vf.Sv} {k : Nat} (e : (passes S n h k t).2 = true) : climb n h t (m + 1) S k = climb n h t m (passes S n h k t).1 (k + 1) := by
 conv => lhs; unfold climb
 rw [if_pos e]
theorem first_yes {h : Hd} {d : Int} {m i : Nat} (e : d < h.step i * h.cnt i) : first h d (m + 1) i = some i := by unfold first; rw [if_pos e]
theorem first_no {h : Hd} {d : Int} {m i : Nat} (e : ¬ d < h.step i * h.cnt i) : first h d (m + 1) i = first h d m (i + 1) := by
 conv => lhs; unfold first
 rw [if_neg e]
theorem lays_bad {S : Vf.Sv} {n : List UInt8} {h : Hd} {now : Int} {p : Int × Int} (e : p.1 < 1 ∨ now < p.1 ∨ Fx.inR p.2 = false) : lays S n h now p = (S, false) := by unfold lays; rw [if_pos e]
theorem lays_none {S : Vf.Sv} {n : List UInt8} {h : Hd} {now : Int} {p : Int × Int} (e : ¬ (p.1 < 1 ∨ now < p.1 ∨ Fx.inR p.2 = false)) (hf : first h (now - p.1) h.l.length 0 = none) : lays S n h now p = (S, false) := by unfold lays; rw [if_neg e, hf]
theorem lays_zero {S : Vf.Sv} {n : List UInt8} {h : Hd} {now : Int} {p : Int × Int} {i : Nat} (e : ¬ (p.1 < 1 ∨ now < p.1 ∨ Fx.inR p.2 = false)) (hf : first h (now - p.1) h.l.length 0 = some i) (hz : Sl.al p.1 (h.step i) = 0) : lays S n h now p = (S, false) := by
 unfold lays; rw [if_neg e, hf]
 dsimp only
 rw [if_pos hz]
theorem lays_yes {S : Vf.Sv} {n : List UInt8} {h : Hd} {now : Int} {p : Int × Int} {i : Nat} (e : ¬ (p.1 < 1 ∨ now < p.1 ∨ Fx.inR p.2 = false)) (hf : first h (now - p.1) h.l.length 0 = some i) (hz : ¬ Sl.al p.1 (h.step i) = 0) : lays S n h now p = (climb n h p.1 (h.l.length - 1 - i) (write S n h i p.1 p.2) i, true) := by
 unfold lays; rw [if_neg e, hf]
 dsimp only
 rw [if_neg hz]
end Wp
theorem rlays_any {w : World} {V : Nat → Prop} {c x fs : Nat} {S : Vf.Sv} {n : List UInt8} {h : Hd} {A : Option Addr} {cap : Nat} (ro : RO w V fs c S) (hc : c ≤ 999900) (f : FileR w x fs n h A cap) (hx : V x) (hA : ∀ a, A = some a → V a.block) (hv : h.val = true) (now : Int) (hn1 : 1 ≤ now) (hn2 : now ≤ 4294967295) (pa pn : Int) :
 Calls Tryz.prog 57 #[.pointer (some ⟨x, 0, none⟩), .int .i64 now, .agg #[.int .i64 pa, .int .i64 pn]] w fun e w' => e = .returned (.bool (lays S n h now (pa, pn)).2) ∧ RO w' V fs (c + 27) (lays S n h now (pa, pn)).1 ∧ Kp (fun b => ¬ V b) w w' := by
 have HIS : Hid (∀ W, Calls Tryz.prog 88 #[.agg #[.bool true, .int .i64 pn]] W fun e w' => e = .returned (.bool (Fx.inR pn)) ∧ Below W.heap.size W w') := Lib.hid fun W => refIsV_any true pn W
 have HRO := Lib.hid ro
 have HF := Lib.hid f
 have hX : Below w.heap.size w (w.alloc (.cells #[.int .i64 pa, .int .i64 pn] 54)) := (Below.refl _ _).alloc (Nat.le_refl _) _
 have bad : Hid (pa < 1 ∨ now < pa ∨ Fx.inR pn = false → ∀ W, Below w.heap.size w W → .bool false = Value.bool (lays S n h now (pa, pn)).2 ∧ RO W V fs (c + 27) (lays S n h now (pa, pn)).1 ∧ Kp (fun b => ¬ V b) w W) := Lib.hid fun e W hb => by
  rw [lays_bad (p := (pa, pn)) e]
  exact ⟨rfl, (ro.below hb).more (by omega) (fun _ h => h), Kp.of_below hb⟩
 clear ro f
 by_cases k1 : pa < 1
 ·have HB := Lib.hid (bad.out (.inl k1))
  clear bad
  go_enter Tryz.func57, Tryz.ntmps57
  go_wp2_with fail
  go_ret
  obtain ⟨e1, e2, e3⟩ := HB.out _ hX
  exact ⟨by rw [← e1]; rfl, e2, e3⟩
 by_cases k2 : now < pa
 ·have HB := Lib.hid (bad.out (.inr (.inl k2)))
  clear bad
  go_enter Tryz.func57, Tryz.ntmps57
  go_wp2_with fail
  go_ret
  obtain ⟨e1, e2, e3⟩ := HB.out _ hX
  exact ⟨by rw [← e1]; rfl, e2, e3⟩
 cases k3 : Fx.inR pn
 ·have HB := Lib.hid (bad.out (.inr (.inr k3)))
  rw [k3] at HIS
  clear bad k3
  go_enter Tryz.func57, Tryz.ntmps57
  go_wp2_with (go_at_call 88; (((with_reducible refine (HIS.out _).mono ?_)); rintro e w1 ⟨rfl, hb1⟩; obtain ⟨hc1, hf1⟩ := bcell hb1; (try have hq1w : w.heap.size < w1.heap.size := Bz hb1); have hs1 := hb1.size; (try simp at hs1)))
  go_ret
  obtain ⟨e1, e2, e3⟩ := HB.out w1 (hX.trans (hb1.mono hX.size))
  exact ⟨by rw [← e1]; rfl, e2, e3⟩
 have hgood : ¬ (pa < 1 ∨ now < pa ∨ Fx.inR pn = false) := by rintro (e | e | e); exact k1 e; exact k2 e; rw [k3] at e; cases e
 have HG := Lib.hid hgood
 rw [k3] at HIS
 clear bad k3 hgood
 obtain ⟨b, off, rfl, ha⟩ := HF.out.ars.2 (by have := Hd.len hv; omega)
 obtain ⟨V', hV'⟩ : ∃ V' : Nat → Prop, ∀ i, V' i ↔ (V i ∨ i = w.heap.size) := ⟨_, fun _ => Iff.rfl⟩
 have HV := Lib.hid hV'
 have HROX : Hid (RO (w.alloc (.cells #[.int .i64 pa, .int .i64 pn] 54)) V' fs c S) := Lib.hid (HRO.out.add hX fun i hi => ((hV' i).1 hi).imp id (fun e => by subst e; exact ⟨Nat.le_refl _, by simp⟩))
 have hxl := HF.out.row.lt
 clear hV' ha
 go_enter Tryz.func57, Tryz.ntmps57
 go_wp2_with (go_at_call 88; (((with_reducible refine (HIS.out _).mono ?_)); rintro e w1 ⟨rfl, hb1⟩; obtain ⟨hc1, hf1⟩ := bcell hb1; (try have hq1w : w.heap.size < w1.heap.size := Bz hb1); have hs1 := hb1.size; (try simp at hs1)))
 have HB1 := Lib.hid hb1
 have hs1' : w.heap.size + 1 ≤ w1.heap.size := by have := hb1.size; simp at this; omega
 have HFX : Hid (FileR w1 x fs n h (some ⟨b, off, none⟩) cap) := Lib.hid (HF.out.below (lowBox' (hb1.mono (by simp))))
 have HRO1 : Hid (RO w1 V' fs c S) := Lib.hid (HROX.out.below hb1)
 have HBX : Hid (RowAt w1 w.heap.size 54 #[.int .i64 pa, .int .i64 pn]) := Lib.hid ((RowAt.new w _ _).below hb1 (by simp))
 have HBW : Hid (Below w.heap.size w w1) := Lib.hid (lowBox' (hb1.mono (by simp)))
 have hlen := Hd.len hv
 have HNM := Lib.hid (Hd.nums hv)
 clear hb1 hc1 hf1 hq1w hs1 HROX HF
 obtain ⟨N, hN⟩ : ∃ N, Hid (N = h.l.length) := ⟨_, Lib.hid rfl⟩
 rw [← hN.out] at hlen
 obtain ⟨d, hd⟩ : ∃ d, now - pa = d := ⟨_, rfl⟩
 have HD := Lib.hid hd
 have hd0 : 0 ≤ d ∧ d ≤ 4294967295 := by omega
 go_loopw [7] (fun u wr => ∃ i : Nat, i ≤ N ∧ u = .int .i64 i ∧ Hid (first h d N 0 = first h d (N - i) i) ∧ Below w1.heap.size w1 wr) (fun u _ => N - (intOf u).toNat)
 case atStart => exact ⟨0, Nat.zero_le _, rfl, Lib.hid rfl, Below.refl _ _⟩
 case round =>
  obtain ⟨i, hi, rfl, HFI, hbel⟩ := hrel
  have HB := Lib.hid hbel
  have hws := hbel.size
  have HFR := Lib.hid (HFX.out.below hbel)
  have HRR := Lib.hid (HRO1.out.below hbel)
  have HBR := Lib.hid (HBX.out.below hbel HBX.out.lt)
  have HWR : Hid (Below w.heap.size w wr) := Lib.hid (HBW.out.trans (hbel.mono HBW.out.size))
  have y4 : wr.cell? ⟨x, 4, none⟩ = some (.slice (some ⟨b, off, none⟩) N cap) := by rw [hN.out]; exact HFR.out.row.cell 4
  have g0 : wr.cell? ⟨w.heap.size, 0, none⟩ = some (.int .i64 pa) := HBR.out.cell 0
  have g1 : wr.cell? ⟨w.heap.size, 1, none⟩ = some (.int .i64 pn) := HBR.out.cell 1
  have hgl := HBR.out.lt
  have hxr := HFR.out.row.lt
  clear hbel
  by_cases hlt : i < N
  ·obtain ⟨b', off', eb, ha⟩ := HFR.out.ars.2 (by rw [← hN.out]; omega)
   injection eb with eb; injection eb with eb1 eb2
   subst eb1 eb2
   obtain ⟨⟨n1, n2⟩, n3, n4⟩ := HNM.out i (by rw [← hN.out]; exact hlt)
   have s0 : wr.cell? ⟨b, off + i * 2, none⟩ = some (.int .i64 (h.step i)) := ha.st i (by rw [← hN.out]; exact hlt)
   have s1 : wr.cell? ⟨b, off + i * 2 + 1, none⟩ = some (.int .i64 (h.cnt i)) := ha.ct i (by rw [← hN.out]; exact hlt)
   have hbl := ha.lt
   have hiN : (i : Int) < (N : Int) := by omega
   have hi0 : (0 : Int) ≤ (i : Int) := by omega
   obtain ⟨m, hm⟩ : ∃ m, N - i = m + 1 := ⟨N - i - 1, by omega⟩
   have HM := Lib.hid hm
   clear ha hm
   have hsc : 0 ≤ h.step i * h.cnt i ∧ h.step i * h.cnt i ≤ 281474976710656 := ⟨Int.mul_nonneg (by omega) (by omega), by have := Int.mul_le_mul n2 n4 (by omega) (by omega); omega⟩
   obtain ⟨sc, hsce⟩ : ∃ sc, h.step i * h.cnt i = sc := ⟨_, rfl⟩
   have HSC := Lib.hid hsce
   rw [hsce] at hsc
   obtain ⟨u0, hu0⟩ : ∃ u, Hid (u = h.step i) := ⟨_, Lib.hid rfl⟩
   obtain ⟨u1, hu1⟩ : ∃ u, Hid (u = h.cnt i) := ⟨_, Lib.hid rfl⟩
   rw [← hu0.out, ← hu1.out] at hsce
   rw [← hu0.out] at s0 n1 n2
   rw [← hu1.out] at s1 n3 n4
   have hwsc : IntKind.i64.wrap sc = sc := IntWalk.i64_in _ (by omega)
   have hwd : IntKind.i64.wrap d = d := IntWalk.i64_in _ (by omega)
   by_cases hcov : d < sc
   ·have HFS : Hid (first h d N 0 = some i) := Lib.hid (by rw [HFI.out, HM.out, first_yes (by rw [HSC.out]; exact hcov)])
    have HAL : Hid (∀ W, Calls Tryz.prog 80 #[.int .i64 pa, .int .i64 u0] W fun e w' => e = .returned (.int .i64 (Sl.al pa u0)) ∧ W = w') := Lib.hid fun W => ralign_any pa _ (by omega) W
    obtain ⟨g, hg⟩ : ∃ g, Hid (g = Sl.al pa u0) := ⟨_, Lib.hid rfl⟩
    rw [← hg.out] at HAL
    by_cases hg0 : g = 0
    ·have HQ : Hid (lays S n h now (pa, pn) = (S, false)) := Lib.hid (lays_zero (p := (pa, pn)) HG.out (by show first h (now - pa) h.l.length 0 = _; rw [HD.out, ← hN.out]; exact HFS.out) (by show Sl.al pa (h.step i) = 0; rw [← hu0.out, ← hg.out]; exact hg0))
     have hgz : (g == 0) = true := by simpa using hg0
     clear hg0
     go_wp2_with (go_at_call 80; ((with_reducible refine (HAL.out _).mono ?_); rintro e w' ⟨rfl, rfl⟩))
     go_ret
     have hbb : Below w.heap.size w (wr.alloc (.cells #[.int .i64 u0, .int .i64 u1] 69)) := HWR.out.alloc HWR.out.size _
     exact ⟨by rw [HQ.out]; rfl, by rw [HQ.out]; exact (HRO.out.below hbb).more (by omega) (fun _ h => h), Kp.of_below hbb⟩
    have hgz : (g == 0) = false := by simpa using hg0
    have HQ : Hid (lays S n h now (pa, pn) = (climb n h pa (N - 1 - i) (write S n h i pa pn) i, true)) := Lib.hid (by rw [hN.out]; exact lays_yes (p := (pa, pn)) HG.out (by show first h (now - pa) h.l.length 0 = _; rw [HD.out, ← hN.out]; exact HFS.out) (by show ¬ Sl.al pa (h.step i) = 0; rw [← hu0.out, ← hg.out]; exact hg0))
    have HRW : Hid (∀ W, Below wr.heap.size wr W → Calls Tryz.prog 89 #[.pointer (some ⟨x, 0, none⟩), .int .i64 (i : Int), .int .i64 pa, .int .i64 pn] W (Wrote W V' fs (c + 3) (write S n h i pa pn))) := Lib.hid fun W hb => rwrite_any (HRR.out.below hb) (by omega) (HFR.out.below hb) ((HV.out x).2 (.inl hx)) (fun a e => (HV.out _).2 (.inl (hA a e))) hv i (by rw [← hN.out]; exact hlt) pa pn (by omega)
    have HVX : Hid (V' x ∧ V' b ∧ V' w.heap.size) := Lib.hid ⟨(HV.out x).2 (.inl hx), (HV.out b).2 (.inl (hA _ rfl)), (HV.out _).2 (.inr rfl)⟩
    clear hg0 HFS HFI
    generalize write S n h i pa pn = S1 at *
    go_wp2_with first
     | (go_at_call 80; ((with_reducible refine (HAL.out _).mono ?_); rintro e w' ⟨rfl, rfl⟩))
     | (go_at_call 89; (with_reducible refine (HRW.out _ ((Below.refl _ _).alloc (Nat.le_refl _) _)).mono ?_); rintro e w5 ⟨rfl, hro5, hk5⟩; have HRO5 := Lib.hid hro5; have HK5 : Hid (Kp (fun b => ¬ V' b) wr w5) := Lib.hid ((Kp.of_below ((Below.refl _ _).alloc (Nat.le_refl _) _)).trans hk5 (fun _ _ h => h)); clear hro5 hk5)
    have hKB : Hid (∀ W, Kp (fun b => ¬ V' b) wr W → FileR W x fs n h (some ⟨b, off, none⟩) cap ∧ RowAt W w.heap.size 54 #[.int .i64 pa, .int .i64 pn] ∧ Kp (fun b => ¬ V b) w W) := Lib.hid fun W hk =>
     ⟨HFR.out.keep hk HVX.out.1 (fun a e => by cases e; exact HVX.out.2.1), (hk.block _ hgl (fun o => o HVX.out.2.2)).trans HBR.out, (Kp.of_below HWR.out).trans (hk.mono (fun i _ ho hv => ho ((HV.out i).2 (.inl hv)))) (fun _ _ h => h)⟩
    obtain ⟨wo, hwo⟩ : ∃ wo, wo = wr := ⟨_, rfl⟩
    subst hwo
    clear s0 s1 y4 g0 g1
    go_loopw [9] (fun u wr => ∃ (k : Nat) (Sk : Vf.Sv), i ≤ k ∧ k < N ∧ u = .int .i64 k ∧ Hid (RO wr V' fs (c + 3 + 3 * (k - i)) Sk) ∧ Hid (Kp (fun b => ¬ V' b) wo wr) ∧ Hid (climb n h pa (N - 1 - i) S1 i = climb n h pa (N - 1 - k) Sk k)) (fun u _ => N - (intOf u).toNat)
    case atStart => exact ⟨i, S1, Nat.le_refl _, hlt, rfl, by rw [Nat.sub_self]; exact HRO5, HK5, Lib.hid rfl⟩
    case round =>
     obtain ⟨k, Sk, hik, hkN, rfl, HROk, HKk, HCk⟩ := hrel
     obtain ⟨hfq, hrq, _⟩ := hKB.out wr HKk.out
     have HFQ := Lib.hid hfq
     have z4 : wr.cell? ⟨x, 4, none⟩ = some (.slice (some ⟨b, off, none⟩) N cap) := by rw [hN.out]; exact hfq.row.cell 4
     have zg : wr.cell? ⟨w.heap.size, 0, none⟩ = some (.int .i64 pa) := hrq.cell 0
     have hxq := hfq.row.lt
     have hgq := hrq.lt
     clear hfq hrq
     obtain ⟨k', hk'⟩ : ∃ k', Hid (k' = k + 1) := ⟨_, Lib.hid rfl⟩
     have hkk : (k : Int) + 1 = (k' : Int) := by rw [hk'.out]; rfl
     have hwk : IntKind.i64.wrap (k' : Int) = (k' : Int) := IntWalk.i64_in _ (by omega)
     by_cases hk1 : k' < N
     ·have hkI : (k' : Int) < (N : Int) := by omega
      have HPS : Hid (∀ W, W = wr → Calls Tryz.prog 90 #[.pointer (some ⟨x, 0, none⟩), .int .i64 (k : Int), .int .i64 pa] W fun e w' => e = .returned (.bool (passes Sk n h k pa).2) ∧ RO w' V' fs (c + 3 + 3 * (k - i) + 3) (passes Sk n h k pa).1 ∧ Kp (fun b => ¬ V' b) W w') := Lib.hid fun W e => by
       subst e
       exact rpasses_any HROk.out (by omega) HFQ.out HVX.out.1 (fun a e => by cases e; exact HVX.out.2.1) hv k (by rw [← hN.out, ← hk'.out]; exact hk1) pa (by omega) (by omega)
      have HCN : Hid ((passes Sk n h k pa).2 = false → (passes Sk n h k pa).1 = Sk ∧ climb n h pa (N - 1 - k) Sk k = Sk) := Lib.hid fun e => ⟨passes_no e, climb_no e⟩
      have HCY : Hid ((passes Sk n h k pa).2 = true → climb n h pa (N - 1 - k) Sk k = climb n h pa (N - 1 - k') (passes Sk n h k pa).1 k') := Lib.hid fun e => by
       have e1 : N - 1 - k = (N - 1 - k') + 1 := by have := hk'.out; omega
       rw [e1, climb_yes e, hk'.out]
      generalize hpr : passes Sk n h k pa = R at *
      clear hpr
      obtain ⟨R1, R2⟩ := R
      cases R2
      ·obtain ⟨e1, e2⟩ := HCN.out rfl
       have HE1 : Hid (R1 = Sk) := Lib.hid e1
       have HE2 := Lib.hid e2
       clear HCY HCN e1 e2
       go_wp2_with (go_at_call 90; (with_reducible refine (HPS.out _ rfl).mono ?_); rintro e w7 ⟨rfl, hro7, hk7⟩; have HRO7 := Lib.hid hro7; have HK7 := Lib.hid hk7; clear hro7 hk7)
       go_ret
       exact ⟨by rw [HQ.out]; rfl, by
        rw [HQ.out, HCk.out, HE2.out]
        have h7 := HRO7.out
        rw [HE1.out] at h7
        exact h7.more (by omega) (fun i hi => (HV.out i).2 (.inl hi)), (hKB.out _ (HKk.out.trans HK7.out (fun _ _ h => h))).2.2⟩
      ·have HE2 := Lib.hid (HCY.out rfl)
       clear HCY HCN
       go_wp2_with (go_at_call 90; (with_reducible refine (HPS.out _ rfl).mono ?_); rintro e w7 ⟨rfl, hro7, hk7⟩; have HRO7 := Lib.hid hro7; have HK7 := Lib.hid hk7; clear hro7 hk7)
       go_roundw
       case rel => exact ⟨k', R1, by have := hk'.out; omega, hk1, by go_num, Lib.hid (HRO7.out.more (by have := hk'.out; omega) (fun _ h => h)), Lib.hid (HKk.out.trans HK7.out (fun _ _ h => h)), Lib.hid (by rw [HCk.out, HE2.out])⟩
       case measure => simp [intOf]; omega
     ·have hkI : ¬ (k' : Int) < (N : Int) := by omega
      have HE2 : Hid (climb n h pa (N - 1 - k) Sk k = Sk) := Lib.hid (by rw [show N - 1 - k = 0 by have := hk'.out; omega]; rfl)
      go_wp2_with fail
      go_ret
      exact ⟨by rw [HQ.out]; rfl, by
       rw [HQ.out, HCk.out, HE2.out]
       exact HROk.out.more (by omega) (fun i hi => (HV.out i).2 (.inl hi)), (hKB.out _ HKk.out).2.2⟩
   ·have HFN : Hid (first h d N 0 = first h d (N - (i + 1)) (i + 1)) := Lib.hid (by rw [HFI.out, HM.out, first_no (by rw [HSC.out]; exact hcov)]; congr 1; have := HM.out; omega)
    go_wp2_with fail
    go_roundw
    case rel => exact ⟨i + 1, by omega, by go_num, HFN, HB.out.alloc hws _⟩
    case measure => simp [intOf]; omega
  ·have hiN : i = N := by omega
   have HQ : Hid (lays S n h now (pa, pn) = (S, false)) := Lib.hid (lays_none (p := (pa, pn)) HG.out (by show first h (now - pa) h.l.length 0 = none; rw [HD.out, ← hN.out, HFI.out, hiN, Nat.sub_self]; rfl))
   have hiI : ¬ (i : Int) < (N : Int) := by omega
   go_wp2_with fail
   go_ret
   exact ⟨by rw [HQ.out]; rfl, by rw [HQ.out]; exact (HRO.out.below HWR.out).more (by omega) (fun _ h => h), Kp.of_below HWR.out⟩
end
section
open Go.RowKit
open Fx (Vl)
namespace Vf
theorem goes_two (m p : List UInt8) (off : Nat) (i : Int) (k : Nat) (x : Fl) (l : List Fl) : goes ⟨2, m, off, p⟩ i k (x :: l) = (if (k : Int) = i then ⟨x.name, upd x.b off p⟩ else x) :: goes ⟨2, m, off, p⟩ i (k + 1) l := by
 rw [goes]
 unfold one
 by_cases h : (k : Int) = i
 ·rw [if_pos ⟨h, rfl⟩, if_pos h]; rfl
 ·rw [if_neg (fun e => h e.1), if_neg (fun e => h e.1), if_neg h]; rfl
theorem goes_two_ix (n m p : List UInt8) (off : Nat) (i : Int) : ∀ (l : List Fl) (k j : Nat), ixFrom n j (goes ⟨2, m, off, p⟩ i k l) = ixFrom n j l
 | [], _, _ => rfl
 | x :: l, k, j => by
   rw [goes_two, ixFrom, ixFrom, goes_two_ix n m p off i l (k + 1) (j + 1)]
   by_cases h : (k : Int) = i
   ·rw [if_pos h]
   ·rw [if_neg h]
theorem goes_two_get (m p : List UInt8) (off : Nat) : ∀ (l : List Fl) (k j : Nat) (i : Nat), k + j = i → (h : j < l.length) → (goes ⟨2, m, off, p⟩ (i : Int) k l)[j]? = some ⟨l[j].name, upd l[j].b off p⟩
 | [], _, _, _, _, h => by simp at h
 | x :: l, k, 0, i, e, h => by
   rw [goes_two, if_pos (by omega)]
   rfl
 | x :: l, k, j + 1, i, e, h => by
   rw [goes_two, List.getElem?_cons_succ, goes_two_get m p off l (k + 1) j i (by omega) (by simpa using h)]
   rfl
structure Has (l : List Fl) (n B : List UInt8) : Prop where
 is : Vf.is n = true
 at_ : ∃ (k : Nat) (nm : List UInt8), Vf.ix l n = (k : Int) ∧ l[k]? = some ⟨nm, B⟩
theorem Has.of_size {l : List Fl} {n : List UInt8} (h : (size l n).2 = 0) : ∃ B, Has l n B ∧ (size l n).1 = (B.length : Int) := by
 unfold size at h ⊢
 by_cases h1 : Vf.is n = false
 ·rw [if_pos h1] at h; cases h
 rw [if_neg h1] at h ⊢
 by_cases h2 : ix l n < 0
 ·rw [if_pos h2] at h; cases h
 rw [if_neg h2]
 have hb := ix_bd l n
 have hlt : (ix l n).toNat < l.length := by omega
 refine ⟨(l.getD (ix l n).toNat ⟨[], []⟩).b, ⟨by simpa using h1, (ix l n).toNat, l[(ix l n).toNat].name, by omega, ?_⟩, rfl⟩
 rw [List.getD_eq_getElem?_getD, List.getElem?_eq_getElem hlt]
 rfl
section
variable {l : List Fl} {n B : List UInt8} (h : Has l n B)
include h
theorem Has.bytes : bytesAt l n = B := by
 obtain ⟨k, nm, h1, h2⟩ := h.at_
 unfold bytesAt
 rw [h1, Int.toNat_natCast, List.getD_eq_getElem?_getD, h2]
 rfl
theorem Has.read_eq {t m : Int} (ht : 0 ≤ t) (hm : 0 ≤ m) (hb : t + m ≤ (B.length : Int)) : Vf.read l n t m = ((B.drop t.toNat).take m.toNat, 0) := by
 obtain ⟨k, nm, h1, h2⟩ := h.at_
 unfold Vf.read
 rw [if_neg (by simp [h.is]), if_neg (by omega), h.bytes, if_neg (by omega)]
end
theorem Has.write_eq {S : Sv} {n B : List UInt8} (h : Has S.now n B) {t : Int} {b : List UInt8} (ht : 0 ≤ t) (hb : t + (b.length : Int) ≤ (B.length : Int)) : Has (Vf.write S n t b).1.now n (upd B t.toNat b) ∧ Vf.write S n t b = (S.act ⟨2, n, t.toNat, b⟩, 0) := by
 obtain ⟨k, nm, h1, h2⟩ := h.at_
 have hl : lenAt S.now n = B.length := by
  unfold lenAt
  rw [h1, Int.toNat_natCast, List.getD_eq_getElem?_getD, h2]
  rfl
 have e : Vf.write S n t b = (S.act ⟨2, n, t.toNat, b⟩, 0) := by
  unfold Vf.write
  rw [if_neg (by simp [h.is]), if_neg (by omega), if_neg (by rw [hl]; omega)]
 refine ⟨⟨h.is, k, nm, ?_, ?_⟩, e⟩
 ·rw [e]
  show ix (does S.now ⟨2, n, t.toNat, b⟩) n = _
  unfold does
  rw [if_neg (by simp), List.append_nil]
  show ixFrom n 0 (goes ⟨2, n, t.toNat, b⟩ _ 0 S.now) = _
  rw [goes_two_ix]
  exact h1
 ·rw [e]
  show (does S.now ⟨2, n, t.toNat, b⟩)[k]? = _
  unfold does
  rw [if_neg (by simp), List.append_nil, h1]
  have hk := (List.getElem?_eq_some_iff.1 h2)
  obtain ⟨hk1, hk2⟩ := hk
  rw [goes_two_get n b t.toNat S.now 0 k k (by omega) hk1, hk2]
end Vf
namespace Wp
open Vf (Has upd)
def slot (B : List UInt8) (o : Nat) : Int × Int := pt ((B.drop o).take 12)
def side (B : List UInt8) (o n : Nat) : List (Int × Int) := (List.range n).map fun k => slot B (o + 12 * k)
theorem side_len (B : List UInt8) (o n : Nat) : (side B o n).length = n := by unfold side; simp
theorem slot_cut {B : List UInt8} {o n k : Nat} (hk : k < n) : ((((B.drop o).take (12 * n)).drop (12 * k)).take 12) = (B.drop (o + 12 * k)).take 12 := by
 rw [List.drop_take, List.drop_drop, List.take_take]
 congr 1
 omega
def round (B : List UInt8) (o c p n : Nat) : List (Int × Int) := side B (o + 12 * p) (min n (c - p)) ++ side B o (n - min n (c - p))
theorem round_len (B : List UInt8) (o c p n : Nat) : (round B o c p n).length = n := by unfold round; rw [List.length_append, side_len, side_len]; omega
theorem round_get {B : List UInt8} {o c p n k : Nat} (hp : p < c) (hn : n ≤ c) (hk : k < n) : (round B o c p n)[k]? = some (slot B (o + 12 * ((p + k) % c))) := by
 unfold round
 by_cases h : k < min n (c - p)
 ·rw [List.getElem?_append_left (by rw [side_len]; exact h)]
  have e : (p + k) % c = p + k := Nat.mod_eq_of_lt (by omega)
  unfold side
  rw [List.getElem?_map, List.getElem?_range h, e]
  show some (slot B _) = _
  congr 2; omega
 ·rw [List.getElem?_append_right (by rw [side_len]; omega), side_len]
  have e : (p + k) % c = p + k - c := by
   rw [Nat.mod_eq_sub_mod (by omega)]
   exact Nat.mod_eq_of_lt (by omega)
  unfold side
  rw [List.getElem?_map, List.getElem?_range (by omega), e]
  show some (slot B _) = _
  congr 2; omega
theorem round_all {B : List UInt8} {o c : Nat} : round B o c 0 c = side B o c := by
 unfold round
 rw [Nat.sub_zero, Nat.min_self, Nat.sub_self, Nat.mul_zero, Nat.add_zero]
 unfold side
 simp
def holds (s st : Int) (ps : List (Int × Int)) (k : Nat) : Vl := let p := ps.getD k (0, 0); if p.1 > 0 ∧ p.1 = st + (k : Int) * s then Fx.of p.2 else Fx.none
def held (s st : Int) (ps : List (Int × Int)) (n : Nat) : List Vl := (List.range n).map (holds s st ps)
theorem held_len (s st : Int) (ps : List (Int × Int)) (n : Nat) : (held s st ps n).length = n := by unfold held; simp
structure Fits (l : List Vf.Fl) (n : List UInt8) (h : Hd) (B : List UInt8) : Prop where
 has : Has l n B
 val : h.val = true
 size : (B.length : Int) = h.size
theorem size_eq {h : Hd} (hv : h.val = true) : h.size = Wh.ends h.l h.l.length := by
 have hv' : Wh.val h.ag h.xf h.l = true := hv
 unfold Hd.size Wh.size
 rw [if_pos hv']
theorem offs_eq {h : Hd} (hv : h.val = true) {i : Nat} (hi : i < h.l.length) : h.offs (i : Int) = Wh.ends h.l i := by
 have hv' : Wh.val h.ag h.xf h.l = true := hv
 unfold Hd.offs Wh.offs
 rw [if_pos ⟨hv', by omega, by omega⟩, Int.toNat_natCast]
theorem sm_mono {l : List (Int × Int)} {i : Nat} : ∀ k, (∀ j, j < k → 1 ≤ (Wh.At l j).2) → i < k → Wh.sm l i + 12 * (Wh.At l i).2 ≤ Wh.sm l k
 | 0, _, h => by omega
 | k + 1, hc, h => by
   have e1 : Wh.sm l (k + 1) = Wh.sm l k + 12 * (Wh.At l k).2 := rfl
   rw [e1]
   by_cases e : i = k
   ·subst e; exact Int.le_refl _
   ·have h1 := sm_mono (l := l) (i := i) k (fun j hj => hc j (by omega)) (by omega)
    have h2 := hc k (by omega)
    omega
theorem ring_in {h : Hd} (hv : h.val = true) {i : Nat} (hi : i < h.l.length) : 16 + 12 * (h.l.length : Int) ≤ h.offs (i : Int) ∧ h.offs (i : Int) + 12 * h.cnt i ≤ h.size := by
 obtain ⟨_, _, _, ha⟩ := Wh.val_t hv
 obtain ⟨a1, a2, a3, a4, a5⟩ := Wh.av_t ha
 have hc : ∀ j, j < h.l.length → 1 ≤ (Wh.At h.l j).2 := fun j hj => ((Wh.alls_num hj a3).2).1
 rw [size_eq hv, offs_eq hv hi]
 unfold Wh.ends
 have h1 := sm_mono (l := h.l) (i := i) h.l.length hc hi
 have h0 : 0 ≤ Wh.sm h.l i := by
  have : ∀ m, m ≤ h.l.length → 0 ≤ Wh.sm h.l m := fun m => by
   induction m with
   | zero => intro _; exact Int.le_refl _
   | succ m ih => intro hm; unfold Wh.sm; have := ih (by omega); have := hc m (by omega); omega
  exact this i (by omega)
 show _ ∧ _ + 12 * (Wh.At h.l i).2 ≤ _
 omega
theorem Fits.ring {l : List Vf.Fl} {n : List UInt8} {h : Hd} {B : List UInt8} (f : Fits l n h B) {i : Nat} (hi : i < h.l.length) : 28 ≤ h.offs (i : Int) ∧ h.offs (i : Int) + 12 * h.cnt i ≤ (B.length : Int) := by
 have h1 := ring_in f.val hi
 rw [f.size]
 omega
end Wp
end
end Go.Proofs.YtbakngbmfgnmcaaGreatDoor
