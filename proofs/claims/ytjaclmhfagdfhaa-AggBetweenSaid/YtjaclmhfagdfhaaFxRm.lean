/-
  CONTRACT: the document's MulDiv, bit by bit.
-/
import Derived.Test.YtjaclmhfagdfhaaFxMd
namespace Go.Proofs.Ytjaclmhfagdfhaa
open Go.RowKit

set_option maxHeartbeats 1000000 in
theorem rm_zero_any (a b : Int) (w : World) :
    Calls Try.prog 40 #[.int .i64 a, .int .i64 b, .int .i64 0] w fun e w' => MdPost a b 0 w e w' := by
  go_enter Try.func40, Try.ntmps40
  go_wp2
  ((try simp only [Exit.inBlock, Exit.then]); refine bodyPost_ret (results_tmp2 rfl _ _ _) rfl ?_)
  exact ⟨_, _, Fx.md_zero rfl, rfl, Below.refl _ _⟩

/-- What the calls within come to. -/
structure RmIn (a b c x y d hi lo : Int) : Prop where
  A : ∀ W, Calls Try.prog 50 #[.int .i64 a] W fun e w' => e = .returned (.int .u64 x) ∧ W = w'
  B : ∀ W, Calls Try.prog 50 #[.int .i64 b] W fun e w' => e = .returned (.int .u64 y) ∧ W = w'
  C : ∀ W, Calls Try.prog 50 #[.int .i64 c] W fun e w' => e = .returned (.int .u64 d) ∧ W = w'
  M : ∀ W, Calls Try.prog 49 #[.int .u64 x, .int .u64 y] W fun e w' => e = .returned (.tuple #[.int .u64 hi, .int .u64 lo]) ∧ W = w'

theorem and1 (x : Nat) (hx : x < 18446744073709551616) : bits .and .u64 (x : Int) 1 = ((x % 2 : Nat) : Int) := by
  have h := bits_and_u64_nat x 1 hx (by omega)
  rw [Nat.and_one_is_mod] at h
  exact h
theorem or1 (x β : Nat) (hx : x * 2 + β < 18446744073709551616) (hβ : β < 2) : bits .or .u64 ((x : Int) * 2) (β : Int) = ((x * 2 + β : Nat) : Int) := by
  have h := bits_or_u64_nat (x * 2) β (by omega) (by omega)
  have h2 := Nat.two_pow_add_eq_or_of_lt (i := 1) (b := β) (by omega) x
  rw [Nat.pow_one, Nat.mul_comm 2 x] at h2
  rw [← h2] at h
  rw [← h, Int.natCast_mul]; rfl
theorem or1' (x : Nat) (hx : x * 2 + 1 < 18446744073709551616) : bits .or .u64 ((x * 2 : Nat) : Int) 1 = ((x * 2 + 1 : Nat) : Int) := by
  have h := or1 x 1 hx (by omega)
  rw [Int.natCast_mul]; exact h
theorem and63 (i : Nat) (hi : i < 9223372036854775808) : bits .and .i64 (i : Int) 63 = ((i % 64 : Nat) : Int) := by
  have h1 : (BitVec.ofInt 64 (i : Int)).toNat = i := by
    rw [BitVec.ofInt_natCast, BitVec.toNat_ofNat]; exact Nat.mod_eq_of_lt (by omega)
  have e : i &&& 63 = i % 64 := Nat.and_two_pow_sub_one_eq_mod i 6
  show IntKind.i64.wrap ((BitVec.ofInt 64 (i : Int) &&& BitVec.ofInt 64 63).toNat : Int) = _
  rw [BitVec.toNat_and, h1, show (BitVec.ofInt 64 63).toNat = 63 by decide, e, IntKind.wrap_i64]
  omega

set_option maxHeartbeats 4000000 in
theorem rm_core (a b c x y : Int) (N D : Nat) (hN : Hid (N < 340282366920938463463374607431768211456)) (hD0 : 0 < D) (hD1 : D ≤ 9223372036854775808) (hi lo d : Int) (hhi : Hid (hi = ((N / 18446744073709551616 : Nat) : Int))) (hlo : Hid (lo = ((N % 18446744073709551616 : Nat) : Int))) (hdD : Hid (d = (D : Int))) (HQQ : Hid (Fx.mdq a b c = Fx.rnd N D))
    (H : RmIn a b c x y d hi lo) (HC0 : Hid (c ≠ 0)) (w : World) :
    Calls Try.prog 40 #[.int .i64 a, .int .i64 b, .int .i64 c] w fun e w' => MdPost a b c w e w' := by
  have hc0 : (c == 0) = false := by simp [HC0.out]
  have hd0 : 0 < d := by rw [hdD.out]; omega
  have hd1 : d ≤ 9223372036854775808 := by rw [hdD.out]; omega
  go_enter Try.func40, Try.ntmps40
  go_wp2_with fail
  (go_at_call 50; go_must (refine (H.A _).mono ?_; rintro e w' ⟨rfl, rfl⟩))
  go_wp2_with fail
  (go_at_call 50; go_must (refine (H.B _).mono ?_; rintro e w' ⟨rfl, rfl⟩))
  go_wp2_with fail
  (go_at_call 49; go_must (refine (H.M _).mono ?_; rintro e w' ⟨rfl, rfl⟩))
  go_wp2_with fail
  (go_at_call 50; go_must (refine (H.C _).mono ?_; rintro e w' ⟨rfl, rfl⟩))
  go_wp2_with fail
  go_loop [11, 12, 13, 14] (fun q r o i => ∃ (qi ri ii : Int) (ob : Bool), Fx.Rm N D ii qi ri ob ∧ q = .int .u64 qi ∧ r = .int .u64 ri ∧ o = .bool ob ∧ i = .int .i64 ii) (fun _ _ _ i => (intOf i + 1).toNat)
  case atStart => exact ⟨_, _, _, _, Fx.rm_start N D hN.out, rfl, rfl, rfl, rfl⟩
  case round =>
    obtain ⟨qi, ri, ii, ob, hR, rfl, rfl, rfl, rfl⟩ := hrel
    have i1 := hR.lo
    have i2 := hR.hi
    have q0 := hR.q0
    have q1 := hR.q1
    have hrr := Fx.rm_rest hR hD0
    have r0 : 0 ≤ ri := hrr.1
    have r1 : ri < d := by rw [hdD.out]; exact hrr.2
    clear hrr
    by_cases hi0 : 0 ≤ ii
    · obtain ⟨q2, hq2⟩ : ∃ q2, q2 = qi * 2 % 18446744073709551616 := ⟨_, rfl⟩
      have eQ : IntKind.u64.wrap (qi * 2) = q2 := by rw [IntKind.wrap_u64, hq2]
      have eQ1 : bits .or .u64 q2 1 = q2 + 1 := by
        obtain ⟨k, hk⟩ : ∃ k : Nat, q2 = ((k * 2 : Nat) : Int) := ⟨(q2 / 2).toNat, by omega⟩
        rw [hk, or1' k (by omega)]; rfl
      have hb2 : N / 2 ^ ii.toNat % 2 < 2 := Nat.mod_lt _ (by omega)
      obtain ⟨β, hβ⟩ : ∃ β, β = N / 2 ^ ii.toNat % 2 := ⟨_, rfl⟩
      rw [← hβ] at hb2
      obtain ⟨s, hs⟩ : ∃ s : Int, s = ri * 2 + β := ⟨_, rfl⟩
      have eO : bits .or .u64 (ri * 2) (β : Int) = s := by
        obtain ⟨k, hk⟩ := Int.eq_ofNat_of_zero_le r0
        rw [hs, hk, or1 k β (by omega) hb2, Int.natCast_add, Int.natCast_mul]; rfl
      obtain ⟨o2, ho2⟩ : ∃ o2 : Bool, o2 = (ob || decide (4611686018427387904 ≤ qi)) := ⟨_, rfl⟩
      have eV : ob = false → (qi / 4611686018427387904 != 0) = o2 := by
        intro h; rw [ho2, h, Bool.false_or, bne]
        by_cases hc : 4611686018427387904 ≤ qi
        · rw [show (qi / 4611686018427387904 == 0) = false by simp; omega]; simp [hc]
        · rw [show (qi / 4611686018427387904 == 0) = true by simp; omega]; simp [hc]
      have eT : ob = true → o2 = true := by intro h; rw [ho2, h, Bool.true_or]
      have hst := Fx.rm_step hR hi0 hD0 β hβ q2 hq2 s hs o2 ho2
      rw [← hdD.out] at hst
      have s0 : 0 ≤ s := by omega
      have s1 : s ≤ 18446744073709551615 := by omega
      have q20 : 0 ≤ q2 := by omega
      have q21 : q2 ≤ 18446744073709551614 := by omega
      obtain ⟨m, hm⟩ : ∃ m, m = ii.toNat % 64 := ⟨_, rfl⟩
      have eW : bits .and .i64 ii 63 = (m : Int) := by
        obtain ⟨k, hk⟩ := Int.eq_ofNat_of_zero_le hi0
        rw [hm, hk, Int.toNat_natCast, and63 k (by omega)]
      have m1 : m ≤ 63 := by omega
      have elo : (lo / 2 ^ m) = ((N % 18446744073709551616 / 2 ^ m : Nat) : Int) := by rw [hlo.out, castPowDiv]
      have hlo2 : N % 18446744073709551616 / 2 ^ m < 18446744073709551616 := Nat.lt_of_le_of_lt (Nat.div_le_self _ _) (Nat.mod_lt _ (by omega))
      by_cases h64 : 64 ≤ ii
      · obtain ⟨m2, hm2⟩ : ∃ m2, m2 = ii.toNat - 64 := ⟨_, rfl⟩
        have e64 : ii - 64 = (m2 : Int) := by omega
        have m3 : m2 ≤ 63 := by omega
        have eB : bits .and .u64 (hi / 2 ^ m2) 1 = (β : Int) := by
          rw [hhi.out, castPowDiv, and1 _ (Nat.lt_of_le_of_lt (Nat.div_le_self _ _) (by have := hN.out; omega)), Fx.bit_high, hβ, show 64 + m2 = ii.toNat by omega]
        have h642 : (64 : Int) ≤ ii := h64
        clear hR hs hq2 hβ ho2 hm hm2 elo hlo2
        cases ob
        · have eV2 := eV rfl
          clear eV eT
          by_cases hds : d ≤ s
          · have hR2 := Lib.hid (hst.1 hds)
            clear hst
            go_wp2
            go_round
            case rel => exact ⟨_, _, _, _, hR2.out, rfl, rfl, rfl, rfl⟩
            case measure => simp [intOf]; omega
          · have hR2 := Lib.hid (hst.2 (by omega))
            clear hst
            go_wp2
            go_round
            case rel => exact ⟨_, _, _, _, hR2.out, rfl, rfl, rfl, rfl⟩
            case measure => simp [intOf]; omega
        · have eT2 := eT rfl
          clear eV eT
          subst eT2
          by_cases hds : d ≤ s
          · have hR2 := Lib.hid (hst.1 hds)
            clear hst
            go_wp2
            go_round
            case rel => exact ⟨_, _, _, _, hR2.out, rfl, rfl, rfl, rfl⟩
            case measure => simp [intOf]; omega
          · have hR2 := Lib.hid (hst.2 (by omega))
            clear hst
            go_wp2
            go_round
            case rel => exact ⟨_, _, _, _, hR2.out, rfl, rfl, rfl, rfl⟩
            case measure => simp [intOf]; omega
      · have eB : bits .and .u64 (lo / 2 ^ m) 1 = (β : Int) := by
          have hmm : ii.toNat % 64 = ii.toNat := Nat.mod_eq_of_lt (by omega)
          rw [elo, and1 _ hlo2, Fx.bit_low _ _ (by omega), hβ, hm, hmm]
        have h642 : ii < (64 : Int) := by omega
        clear hR hs hq2 hβ ho2 hm elo hlo2 h64
        cases ob
        · have eV2 := eV rfl
          clear eV eT
          by_cases hds : d ≤ s
          · have hR2 := Lib.hid (hst.1 hds)
            clear hst
            go_wp2
            go_round
            case rel => exact ⟨_, _, _, _, hR2.out, rfl, rfl, rfl, rfl⟩
            case measure => simp [intOf]; omega
          · have hR2 := Lib.hid (hst.2 (by omega))
            clear hst
            go_wp2
            go_round
            case rel => exact ⟨_, _, _, _, hR2.out, rfl, rfl, rfl, rfl⟩
            case measure => simp [intOf]; omega
        · have eT2 := eT rfl
          clear eV eT
          subst eT2
          by_cases hds : d ≤ s
          · have hR2 := Lib.hid (hst.1 hds)
            clear hst
            go_wp2
            go_round
            case rel => exact ⟨_, _, _, _, hR2.out, rfl, rfl, rfl, rfl⟩
            case measure => simp [intOf]; omega
          · have hR2 := Lib.hid (hst.2 (by omega))
            clear hst
            go_wp2
            go_round
            case rel => exact ⟨_, _, _, _, hR2.out, rfl, rfl, rfl, rfl⟩
            case measure => simp [intOf]; omega
    · obtain ⟨hr, hoT, hoF⟩ := Fx.rm_end hR (by omega)
      have hge := Fx.rnd_ge N D
      have hii : ii < 0 := by omega
      cases ob
      · obtain ⟨hqN, hq63⟩ := hoF rfl
        by_cases h2 : d ≤ 2 * ri
        · have hup : Fx.rnd N D = N / D + 1 := Fx.rnd_up (by have := hdD.out; omega)
          have HQ : Hid ((Fx.mdq a b c : Int) = qi + 1) := Lib.hid (by rw [HQQ.out, hup, hqN]; omega)
          clear hr hqN hup hge hoT hoF hR
          go_wp2
          all_goals
            ((try simp only [Exit.inBlock, Exit.then]); refine bodyPost_ret (results_tmp2 rfl _ _ _) rfl ?_)
            first
            | exact ⟨_, _, Fx.md_big (by have := HQ.out; omega), rfl, Below.refl _ _⟩
            | exact ⟨_, _, Fx.md_neg HC0.out HQ.out.symm (by omega) ‹_›, rfl, Below.refl _ _⟩
            | exact ⟨_, _, Fx.md_pos HC0.out HQ.out.symm (by omega) ‹_›, rfl, Below.refl _ _⟩
        · have hdn : Fx.rnd N D = N / D := Fx.rnd_down (by have := hdD.out; omega)
          have HQ : Hid ((Fx.mdq a b c : Int) = qi) := Lib.hid (by rw [HQQ.out, hdn, hqN])
          clear hr hqN hdn hge hoT hoF hR
          go_wp2
          all_goals
            ((try simp only [Exit.inBlock, Exit.then]); refine bodyPost_ret (results_tmp2 rfl _ _ _) rfl ?_)
            first
            | exact ⟨_, _, Fx.md_big (by have := HQ.out; omega), rfl, Below.refl _ _⟩
            | exact ⟨_, _, Fx.md_neg HC0.out HQ.out.symm (by omega) ‹_›, rfl, Below.refl _ _⟩
            | exact ⟨_, _, Fx.md_pos HC0.out HQ.out.symm (by omega) ‹_›, rfl, Below.refl _ _⟩
      · have HQ : Hid (4611686018427387904 < Fx.mdq a b c) := Lib.hid (by rw [HQQ.out]; have := hoT rfl; omega)
        clear hr hge hoT hoF hR
        go_wp2
        all_goals
          ((try simp only [Exit.inBlock, Exit.then]); refine bodyPost_ret (results_tmp2 rfl _ _ _) rfl ?_)
          first
          | exact ⟨_, _, Fx.md_big (by have := HQ.out; omega), rfl, Below.refl _ _⟩
          | exact ⟨_, _, Fx.md_neg HC0.out HQ.out.symm (by omega) ‹_›, rfl, Below.refl _ _⟩
          | exact ⟨_, _, Fx.md_pos HC0.out HQ.out.symm (by omega) ‹_›, rfl, Below.refl _ _⟩

theorem refMulDiv_any (a b c : Int) (a1 : -9223372036854775808 ≤ a) (a2 : a ≤ 9223372036854775807) (b1 : -9223372036854775808 ≤ b) (b2 : b ≤ 9223372036854775807) (c1 : -9223372036854775808 ≤ c) (c2 : c ≤ 9223372036854775807) (w : World) :
    Calls Try.prog 40 #[.int .i64 a, .int .i64 b, .int .i64 c] w fun e w' => MdPost a b c w e w' := by
  by_cases hc : c = 0
  · subst hc; exact rm_zero_any a b w
  have hx := Fx.mag_le a1 a2
  have hy := Fx.mag_le b1 b2
  have hd := Fx.mag_le c1 c2
  have hd0 := Fx.mag_pos hc
  have hN : Fx.mag a * Fx.mag b < 340282366920938463463374607431768211456 := Nat.lt_of_le_of_lt (Nat.mul_le_mul hx hy) (by decide)
  exact rm_core a b c (Fx.mag a) (Fx.mag b) (Fx.mag a * Fx.mag b) (Fx.mag c) (Lib.hid hN) hd0 hd _ _ _ (Lib.hid rfl) (Lib.hid rfl) (Lib.hid rfl) (Lib.hid rfl)
    ⟨fun W => size_any a a1 a2 W, fun W => size_any b b1 b2 W, fun W => size_any c c1 c2 W, fun W => times_any (Fx.mag a) (Fx.mag b) (by omega) (by omega) W⟩ (Lib.hid hc) w

theorem refMulDiv_val (a b c : Int) (a1 : -9223372036854775808 ≤ a) (a2 : a ≤ 9223372036854775807) (b1 : -9223372036854775808 ≤ b) (b2 : b ≤ 9223372036854775807) (c1 : -9223372036854775808 ≤ c) (c2 : c ≤ 9223372036854775807) (w : World) :
    Calls Try.prog 40 #[.int .i64 a, .int .i64 b, .int .i64 c] w fun e w' => e = .returned (.tuple #[.int .i64 (Fx.mdn a b c), .bool (Fx.mdok a b c)]) ∧ Below w.heap.size w w' :=
  (refMulDiv_any a b c a1 a2 b1 b2 c1 c2 w).mono fun e w' ⟨n, ok, h, he, hb⟩ => ⟨by rw [he, h.num, h.ok], hb⟩
end Go.Proofs.Ytjaclmhfagdfhaa
