/- AgTg FxRm FxRmul -/
import Derived.Test.YtljlanhpjpjgaaaGreatDoorJ1
import Derived.Test.YtljlanhpjpjgaaaGreatDoorJ15
import Derived.Test.YtljlanhpjpjgaaaGreatDoorJ18
import Derived.Test.YtljlanhpjpjgaaaGreatDoorJ19
namespace Go.Proofs.YtljlanhpjpjgaaaGreatDoor
set_option maxRecDepth 100000
set_option maxHeartbeats 8000000
section
open Go.RowKit Go.Sort
open Fx (Vl)
open Me
theorem together_some (kind : Int) (l : List Vl) (h0 : 0 < l.length) (hl : l.length ≤ 1000000) (b off cap : Nat) (w : World) (hv : Vals w b off l) :
 Calls Tryz.prog 126 #[.int .i64 kind, .slice (some ⟨b, off, none⟩) l.length cap] w fun e w' => e = .returned (.agg #[.bool (Ag.tg kind l).ok, .int .i64 (Ag.tg kind l).n]) ∧ Below w.heap.size w w' := by
 have HA : Hid (∀ W, Below w.heap.size w W → Calls Tryz.prog 137 #[.slice (some ⟨b, off, none⟩) l.length cap] W fun e w' => e = .returned (.agg #[.bool (sum l).ok, .int .i64 (sum l).n]) ∧ Below W.heap.size W w') := Lib.hid fun W hb => add_some l (by omega) b off cap W (hv.below hb)
 have hne : ¬ ((l.length : Int) = 0) := by omega
 by_cases h1 : kind = 1
 ·subst h1
  have HI : Hid (∀ W, Calls Tryz.prog 138 #[.int .i64 (l.length : Int)] W fun e w' => e = .returned (.agg #[.bool (Fx.of ((l.length : Int) * 1000000)).ok, .int .i64 (Fx.of ((l.length : Int) * 1000000)).n]) ∧ Below W.heap.size W w') := Lib.hid fun W => int_any _ W
  have HD : Hid (∀ s d W, Calls Tryz.prog 136 #[(.agg #[.bool s.ok, .int .i64 s.n]), (.agg #[.bool d.ok, .int .i64 d.n])] W fun e w' => e = .returned (.agg #[.bool (Fx.div s d).ok, .int .i64 (Fx.div s d).n]) ∧ Below W.heap.size W w') := Lib.hid fun s d W => div_any s.ok s.n d.ok d.n W
  replace HD := Lib.hid (HD.out (sum l) (Fx.of ((l.length : Int) * 1000000)))
  rw [Ag.tg_1 h0]
  generalize Fx.div (sum l) (Fx.of ((l.length : Int) * 1000000)) = q at *
  generalize Fx.of ((l.length : Int) * 1000000) = d at *
  generalize sum l = s at *
  obtain ⟨qo, qn⟩ := q
  obtain ⟨do_, dn⟩ := d
  obtain ⟨so, sn⟩ := s
  go_enter Tryz.func126, Tryz.ntmps126
  go_wp2_with first | (go_at_call 137; (((with_reducible refine (HA.out _ ((Below.refl _ _).alloc (Nat.le_refl _) _)).mono ?_)); rintro e w1 ⟨rfl, hb1⟩; obtain ⟨hc1, hf1⟩ := bcell hb1; (try have hq1w : w.heap.size < w1.heap.size := Bz hb1); have hs1 := hb1.size; (try simp at hs1))) | (go_at_call 138; (((with_reducible refine (HI.out _).mono ?_)); rintro e w2 ⟨rfl, hb2⟩; obtain ⟨hc2, hf2⟩ := bcell hb2; (try have hq2w : w.heap.size < w2.heap.size := Bz hb2); (try have hq2w1 : w1.heap.size < w2.heap.size := Bz hb2); have hs2 := hb2.size; (try simp at hs2))) | (go_at_call 136; (((with_reducible refine (HD.out _).mono ?_)); rintro e w3 ⟨rfl, hb3⟩; obtain ⟨hc3, hf3⟩ := bcell hb3; (try have hq3w : w.heap.size < w3.heap.size := Bz hb3); (try have hq3w2 : w2.heap.size < w3.heap.size := Bz hb3); have hs3 := hb3.size; (try simp at hs3)))
  exact bodyPost_ret (v := .agg #[.bool qo, .int .i64 qn]) (by simp [results, Tryz.results126, go_sem, *]) rfl ⟨rfl, Bq⟩
 by_cases h2 : kind = 2
 ·subst h2
  rw [Ag.tg_2 h0]
  generalize sum l = s at *
  obtain ⟨so, sn⟩ := s
  go_enter Tryz.func126, Tryz.ntmps126
  go_wp2_with (go_at_call 137; (((with_reducible refine (HA.out _ ((Below.refl _ _).alloc (Nat.le_refl _) _)).mono ?_)); rintro e w1 ⟨rfl, hb1⟩; obtain ⟨hc1, hf1⟩ := bcell hb1; (try have hq1w : w.heap.size < w1.heap.size := Bz hb1); have hs1 := hb1.size; (try simp at hs1)))
  exact bodyPost_ret (v := .agg #[.bool so, .int .i64 sn]) (by simp [results, Tryz.results126, go_sem, *]) rfl ⟨rfl, Bq⟩
 clear HA
 by_cases h3 : kind = 3
 ·subst h3
  rw [Ag.tg_3 h0]
  have x0 := hv.ok (l.length - 1) (by omega)
  have x1 := hv.n (l.length - 1) (by omega)
  have hbr := hv.lt
  generalize l[l.length - 1]'(by omega) = e at *
  obtain ⟨eo, en⟩ := e
  clear hv
  generalize l.length = n at *
  obtain ⟨m, rfl⟩ : ∃ m, n = m + 1 := ⟨n - 1, by omega⟩
  simp only [Nat.add_sub_cancel] at x0 x1
  go_enter Tryz.func126, Tryz.ntmps126
  go_wp2_with fail
  exact bodyPost_ret (v := .agg #[.bool eo, .int .i64 en]) (by simp [results, Tryz.results126, go_sem, *]) rfl ⟨rfl, Bq⟩
 by_cases h4 : kind = 4
 ·subst h4
  have HM : Hid (∀ W, Below w.heap.size w W → Calls Tryz.prog 139 #[.slice (some ⟨b, off, none⟩) l.length cap, .func (.func 140) #[] #[]] W fun e w' => e = .returned (.agg #[.bool (Ag.mx l).ok, .int .i64 (Ag.mx l).n]) ∧ Below W.heap.size W w') := Lib.hid fun W hb => maxFunc_some l h0 (by omega) b off cap W (hv.below hb)
  rw [Ag.tg_4 h0]
  generalize Ag.mx l = s at *
  obtain ⟨so, sn⟩ := s
  go_enter Tryz.func126, Tryz.ntmps126
  go_wp2_with (go_at_call 139; (((with_reducible refine (HM.out _ ((Below.refl _ _).alloc (Nat.le_refl _) _)).mono ?_)); rintro e w1 ⟨rfl, hb1⟩; obtain ⟨hc1, hf1⟩ := bcell hb1; (try have hq1w : w.heap.size < w1.heap.size := Bz hb1); have hs1 := hb1.size; (try simp at hs1)))
  exact bodyPost_ret (v := .agg #[.bool so, .int .i64 sn]) (by simp [results, Tryz.results126, go_sem, *]) rfl ⟨rfl, Bq⟩
 by_cases h5 : kind = 5
 ·subst h5
  have HM : Hid (∀ W, Below w.heap.size w W → Calls Tryz.prog 141 #[.slice (some ⟨b, off, none⟩) l.length cap, .func (.func 140) #[] #[]] W fun e w' => e = .returned (.agg #[.bool (Ag.mn l).ok, .int .i64 (Ag.mn l).n]) ∧ Below W.heap.size W w') := Lib.hid fun W hb => minFunc_some l h0 (by omega) b off cap W (hv.below hb)
  rw [Ag.tg_5 h0]
  generalize Ag.mn l = s at *
  obtain ⟨so, sn⟩ := s
  go_enter Tryz.func126, Tryz.ntmps126
  go_wp2_with (go_at_call 141; (((with_reducible refine (HM.out _ ((Below.refl _ _).alloc (Nat.le_refl _) _)).mono ?_)); rintro e w1 ⟨rfl, hb1⟩; obtain ⟨hc1, hf1⟩ := bcell hb1; (try have hq1w : w.heap.size < w1.heap.size := Bz hb1); have hs1 := hb1.size; (try simp at hs1)))
  exact bodyPost_ret (v := .agg #[.bool so, .int .i64 sn]) (by simp [results, Tryz.results126, go_sem, *]) rfl ⟨rfl, Bq⟩
 rw [Ag.tg_no h1 h2 h3 h4 h5]
 clear hv
 go_enter Tryz.func126, Tryz.ntmps126
 go_wp2_with fail
 exact bodyPost_ret (v := .agg #[.bool false, .int .i64 0]) (by simp [results, Tryz.results126, go_sem, *]) rfl ⟨rfl, Bq⟩
theorem together_zero (kind : Int) (x : Option Addr) (cap : Nat) (w : World) :
 Calls Tryz.prog 126 #[.int .i64 kind, .slice x 0 cap] w fun e w' => e = .returned (.agg #[.bool (Ag.tg kind []).ok, .int .i64 (Ag.tg kind []).n]) ∧ Below w.heap.size w w' := by
 rw [Ag.tg_nil]
 go_enter Tryz.func126, Tryz.ntmps126
 go_wp2_with fail
 exact bodyPost_ret (v := .agg #[.bool false, .int .i64 0]) (by simp [results, Tryz.results126, go_sem, *]) rfl ⟨rfl, Bq⟩
theorem together_v (kind : Int) (l : List Vl) (hl : l.length ≤ 1000000) (v : Value) (w : World) (hv : Sl w v l) :
 Calls Tryz.prog 126 #[.int .i64 kind, v] w fun e w' => e = .returned (.agg #[.bool (Ag.tg kind l).ok, .int .i64 (Ag.tg kind l).n]) ∧ Below w.heap.size w w' := by
 rcases hv with ⟨rfl, x, cap, rfl⟩ | ⟨h0, b, off, cap, rfl, hv⟩
 ·exact together_zero kind x cap w
 ·exact together_some kind l h0 hl b off cap w hv
theorem put_v (kind xff : Int) (l : List Vl) (hl : l.length ≤ 1000000) (v : Value) (w : World) (hv : Sl w v l) :
 Calls Tryz.prog 106 #[.int .i64 kind, .int .i64 xff, v] w fun e w' => e = .returned (.agg #[.bool (Ag.put kind xff l).ok, .int .i64 (Ag.put kind xff l).n]) ∧ Below w.heap.size w w' := by
 have HK : Hid (∀ W, Below w.heap.size w W → Calls Tryz.prog 124 #[v] W (Knew W (Ag.kn l))) := Lib.hid fun W hb => known_v l hl v W (hv.below hb)
 have hkl : (Ag.kn l).length ≤ 1000000 := Nat.le_trans (Ag.kn_len l) hl
 have HT : Hid (∀ u W, Sl W u (Ag.kn l) → Calls Tryz.prog 126 #[.int .i64 kind, u] W fun e w' => e = .returned (.agg #[.bool (Ag.tg kind (Ag.kn l)).ok, .int .i64 (Ag.tg kind (Ag.kn l)).n]) ∧ Below W.heap.size W w') := Lib.hid fun u W h => together_v kind _ hkl u W h
 have HE : Hid (∀ W, Calls Tryz.prog 125 #[.int .i64 xff, .int .i64 ((Ag.kn l).length : Int), .int .i64 (l.length : Int)] W fun e w' => e = .returned (.bool (Ag.en xff ((Ag.kn l).length : Int) (l.length : Int))) ∧ W = w') := Lib.hid fun W => enough_any _ _ _ W
 have HQ : Hid (Ag.put kind xff l = if Ag.en xff ((Ag.kn l).length : Int) (l.length : Int) = true then Ag.tg kind (Ag.kn l) else Fx.none) := Lib.hid rfl
 obtain ⟨A, c, rfl⟩ := hv.form
 clear hv
 generalize Ag.en xff ((Ag.kn l).length : Int) (l.length : Int) = en at *
 generalize Ag.put kind xff l = p at *
 generalize Ag.tg kind (Ag.kn l) = q at *
 generalize Ag.kn l = m at *
 obtain ⟨qo, qn⟩ := q
 cases en
 ·obtain rfl : p = Fx.none := HQ.out
  go_enter Tryz.func106, Tryz.ntmps106
  go_wp2_with first
   | (go_at_call 124; go_must (refine (HK.out _ Bq).mono ?_; rintro e w1 ⟨v1, rfl, ho1, hb1⟩; obtain ⟨hc1, hf1⟩ := bcell hb1; have hq1w : w.heap.size < w1.heap.size := Nat.lt_of_lt_of_le (by simp) hb1.size; obtain ⟨A1, c1, rfl⟩ := ho1.slice; have HS1 := Lib.hid ho1.sl; clear ho1))
   | (go_at_call 125; go_must (refine (HE.out _).mono ?_; rintro e w' ⟨rfl, rfl⟩))
  exact bodyPost_ret (v := .agg #[.bool false, .int .i64 0]) (by simp [results, Tryz.results106, go_sem, *]) rfl ⟨rfl, Bq⟩
 ·obtain rfl : p = ⟨qo, qn⟩ := HQ.out
  go_enter Tryz.func106, Tryz.ntmps106
  go_wp2_with first
   | (go_at_call 124; go_must (refine (HK.out _ Bq).mono ?_; rintro e w1 ⟨v1, rfl, ho1, hb1⟩; obtain ⟨hc1, hf1⟩ := bcell hb1; have hq1w : w.heap.size < w1.heap.size := Nat.lt_of_lt_of_le (by simp) hb1.size; obtain ⟨A1, c1, rfl⟩ := ho1.slice; have HS1 := Lib.hid ho1.sl; clear ho1))
   | (go_at_call 125; go_must (refine (HE.out _).mono ?_; rintro e w' ⟨rfl, rfl⟩))
   | (go_at_call 126; (((with_reducible refine (HT.out _ _ HS1.out).mono ?_)); rintro e w2 ⟨rfl, hb2⟩; obtain ⟨hc2, hf2⟩ := bcell hb2; (try have hq2w : w.heap.size < w2.heap.size := Bz hb2); (try have hq2w1 : w1.heap.size < w2.heap.size := Bz hb2); have hs2 := hb2.size; (try simp at hs2)))
  exact bodyPost_ret (v := .agg #[.bool qo, .int .i64 qn]) (by simp [results, Tryz.results106, go_sem, *]) rfl ⟨rfl, Bq⟩
end
section
open Go.RowKit
theorem rm_zero_any (a b : Int) (w : World) :
 Calls Tryz.prog 144 #[.int .i64 a, .int .i64 b, .int .i64 0] w fun e w' => MdPost a b 0 w e w' := by
 go_enter Tryz.func144, Tryz.ntmps144
 go_wp2
 ((try simp only [Exit.inBlock, Exit.then]); refine bodyPost_ret (results_tmp2 rfl _ _ _) rfl ?_)
 exact ⟨_, _, Fx.md_zero rfl, rfl, Below.refl _ _⟩
structure RmIn (a b c x y d hi lo : Int) : Prop where
 A : ∀ W, Calls Tryz.prog 151 #[.int .i64 a] W fun e w' => e = .returned (.int .u64 x) ∧ W = w'
 B : ∀ W, Calls Tryz.prog 151 #[.int .i64 b] W fun e w' => e = .returned (.int .u64 y) ∧ W = w'
 C : ∀ W, Calls Tryz.prog 151 #[.int .i64 c] W fun e w' => e = .returned (.int .u64 d) ∧ W = w'
 M : ∀ W, Calls Tryz.prog 150 #[.int .u64 x, .int .u64 y] W fun e w' => e = .returned (.tuple #[.int .u64 hi, .int .u64 lo]) ∧ W = w'
theorem and1 (x : Nat) (hx : x < 18446744073709551616) : bits .and .u64 (x : Int) 1 = ((x % 2 : Nat) : Int) := by
 have h := bits_and_u64_nat x 1 hx (by omega)
 rw [Nat.and_one_is_mod] at h
 exact h
theorem or1 (x β : Nat) (hx : x * 2 + β < 18446744073709551616) (hβ : β < 2) : bits .or .u64 ((x : Int) * 2) (β : Int) = ((x * 2 + β : Nat) : Int) := by
 have h := bits_or_u64_nat (x * 2) β (by omega) (by omega)
 have h2 := Nat.two_pow_add_eq_or_of_lt (i := 1) (b := β) (by omega) x
 rw [Nat.pow_one, Nat.mul_comm 2 x] at h2
 rw [← h2] at h
 rw [← h, Int.natCast_mul]; rfl
theorem or1' (x : Nat) (hx : x * 2 + 1 < 18446744073709551616) : bits .or .u64 ((x * 2 : Nat) : Int) 1 = ((x * 2 + 1 : Nat) : Int) := by
 have h := or1 x 1 hx (by omega)
 rw [Int.natCast_mul]; exact h
theorem and63 (i : Nat) (hi : i < 9223372036854775808) : bits .and .i64 (i : Int) 63 = ((i % 64 : Nat) : Int) := by
 have h1 : (BitVec.ofInt 64 (i : Int)).toNat = i := by
  rw [BitVec.ofInt_natCast, BitVec.toNat_ofNat]; exact Nat.mod_eq_of_lt (by omega)
 have e : i &&& 63 = i % 64 := Nat.and_two_pow_sub_one_eq_mod i 6
 show IntKind.i64.wrap ((BitVec.ofInt 64 (i : Int) &&& BitVec.ofInt 64 63).toNat : Int) = _
 rw [BitVec.toNat_and, h1, show (BitVec.ofInt 64 63).toNat = 63 by decide, e, IntKind.wrap_i64]
 omega
theorem rm_core (a b c x y : Int) (N D : Nat) (hN : Hid (N < 340282366920938463463374607431768211456)) (hD0 : 0 < D) (hD1 : D ≤ 9223372036854775808) (hi lo d : Int) (hhi : Hid (hi = ((N / 18446744073709551616 : Nat) : Int))) (hlo : Hid (lo = ((N % 18446744073709551616 : Nat) : Int))) (hdD : Hid (d = (D : Int))) (HQQ : Hid (Fx.mdq a b c = Fx.rnd N D))
 (H : RmIn a b c x y d hi lo) (HC0 : Hid (c ≠ 0)) (w : World) :
 Calls Tryz.prog 144 #[.int .i64 a, .int .i64 b, .int .i64 c] w fun e w' => MdPost a b c w e w' := by
 have hc0 : (c == 0) = false := by simp [HC0.out]
 have hd0 : 0 < d := by rw [hdD.out]; omega
 have hd1 : d ≤ 9223372036854775808 := by rw [hdD.out]; omega
 go_enter Tryz.func144, Tryz.ntmps144
 go_wp2_with fail
 (go_at_call 151; go_must (refine (H.A _).mono ?_; rintro e w' ⟨rfl, rfl⟩))
 go_wp2_with fail
 (go_at_call 151; go_must (refine (H.B _).mono ?_; rintro e w' ⟨rfl, rfl⟩))
 go_wp2_with fail
 (go_at_call 150; go_must (refine (H.M _).mono ?_; rintro e w' ⟨rfl, rfl⟩))
 go_wp2_with fail
 (go_at_call 151; go_must (refine (H.C _).mono ?_; rintro e w' ⟨rfl, rfl⟩))
 go_wp2_with fail
 go_loop [11, 12, 13, 14] (fun q r o i => ∃ (qi ri ii : Int) (ob : Bool), Fx.Rm N D ii qi ri ob ∧ q = .int .u64 qi ∧ r = .int .u64 ri ∧ o = .bool ob ∧ i = .int .i64 ii) (fun _ _ _ i => (intOf i + 1).toNat)
 case atStart => exact ⟨_, _, _, _, Fx.rm_start N D hN.out, rfl, rfl, rfl, rfl⟩
 case round =>
  obtain ⟨qi, ri, ii, ob, hR, rfl, rfl, rfl, rfl⟩ := hrel
  have i1 := hR.lo
  have i2 := hR.hi
  have q0 := hR.q0
  have q1 := hR.q1
  have hrr := Fx.rm_rest hR hD0
  have r0 : 0 ≤ ri := hrr.1
  have r1 : ri < d := by rw [hdD.out]; exact hrr.2
  clear hrr
  by_cases hi0 : 0 ≤ ii
  ·obtain ⟨q2, hq2⟩ : ∃ q2, q2 = qi * 2 % 18446744073709551616 := ⟨_, rfl⟩
   have eQ : IntKind.u64.wrap (qi * 2) = q2 := by rw [IntKind.wrap_u64, hq2]
   have eQ1 : bits .or .u64 q2 1 = q2 + 1 := by
    obtain ⟨k, hk⟩ : ∃ k : Nat, q2 = ((k * 2 : Nat) : Int) := ⟨(q2 / 2).toNat, by omega⟩
    rw [hk, or1' k (by omega)]; rfl
   have hb2 : N / 2 ^ ii.toNat % 2 < 2 := Nat.mod_lt _ (by omega)
   obtain ⟨β, hβ⟩ : ∃ β, β = N / 2 ^ ii.toNat % 2 := ⟨_, rfl⟩
   rw [← hβ] at hb2
   obtain ⟨s, hs⟩ : ∃ s : Int, s = ri * 2 + β := ⟨_, rfl⟩
   have eO : bits .or .u64 (ri * 2) (β : Int) = s := by
    obtain ⟨k, hk⟩ := Int.eq_ofNat_of_zero_le r0
    rw [hs, hk, or1 k β (by omega) hb2, Int.natCast_add, Int.natCast_mul]; rfl
   obtain ⟨o2, ho2⟩ : ∃ o2 : Bool, o2 = (ob || decide (4611686018427387904 ≤ qi)) := ⟨_, rfl⟩
   have eV : ob = false → (qi / 4611686018427387904 != 0) = o2 := by
    intro h; rw [ho2, h, Bool.false_or, bne]
    by_cases hc : 4611686018427387904 ≤ qi
    ·rw [show (qi / 4611686018427387904 == 0) = false by simp; omega]; simp [hc]
    ·rw [show (qi / 4611686018427387904 == 0) = true by simp; omega]; simp [hc]
   have eT : ob = true → o2 = true := by intro h; rw [ho2, h, Bool.true_or]
   have hst := Fx.rm_step hR hi0 hD0 β hβ q2 hq2 s hs o2 ho2
   rw [← hdD.out] at hst
   have s0 : 0 ≤ s := by omega
   have s1 : s ≤ 18446744073709551615 := by omega
   have q20 : 0 ≤ q2 := by omega
   have q21 : q2 ≤ 18446744073709551614 := by omega
   obtain ⟨m, hm⟩ : ∃ m, m = ii.toNat % 64 := ⟨_, rfl⟩
   have eW : bits .and .i64 ii 63 = (m : Int) := by
    obtain ⟨k, hk⟩ := Int.eq_ofNat_of_zero_le hi0
    rw [hm, hk, Int.toNat_natCast, and63 k (by omega)]
   have m1 : m ≤ 63 := by omega
   have elo : (lo / 2 ^ m) = ((N % 18446744073709551616 / 2 ^ m : Nat) : Int) := by rw [hlo.out, castPowDiv]
   have hlo2 : N % 18446744073709551616 / 2 ^ m < 18446744073709551616 := Nat.lt_of_le_of_lt (Nat.div_le_self _ _) (Nat.mod_lt _ (by omega))
   by_cases h64 : 64 ≤ ii
   ·obtain ⟨m2, hm2⟩ : ∃ m2, m2 = ii.toNat - 64 := ⟨_, rfl⟩
    have e64 : ii - 64 = (m2 : Int) := by omega
    have m3 : m2 ≤ 63 := by omega
    have eB : bits .and .u64 (hi / 2 ^ m2) 1 = (β : Int) := by
     rw [hhi.out, castPowDiv, and1 _ (Nat.lt_of_le_of_lt (Nat.div_le_self _ _) (by have := hN.out; omega)), Fx.bit_high, hβ, show 64 + m2 = ii.toNat by omega]
    have h642 : (64 : Int) ≤ ii := h64
    clear hR hs hq2 hβ ho2 hm hm2 elo hlo2
    cases ob
    ·have eV2 := eV rfl
     clear eV eT
     by_cases hds : d ≤ s
     ·have hR2 := Lib.hid (hst.1 hds)
      clear hst
      go_wp2
      go_round
      case rel => exact ⟨_, _, _, _, hR2.out, rfl, rfl, rfl, rfl⟩
      case measure => simp [intOf]; omega
     ·have hR2 := Lib.hid (hst.2 (by omega))
      clear hst
      go_wp2
      go_round
      case rel => exact ⟨_, _, _, _, hR2.out, rfl, rfl, rfl, rfl⟩
      case measure => simp [intOf]; omega
    ·have eT2 := eT rfl
     clear eV eT
     subst eT2
     by_cases hds : d ≤ s
     ·have hR2 := Lib.hid (hst.1 hds)
      clear hst
      go_wp2
      go_round
      case rel => exact ⟨_, _, _, _, hR2.out, rfl, rfl, rfl, rfl⟩
      case measure => simp [intOf]; omega
     ·have hR2 := Lib.hid (hst.2 (by omega))
      clear hst
      go_wp2
      go_round
      case rel => exact ⟨_, _, _, _, hR2.out, rfl, rfl, rfl, rfl⟩
      case measure => simp [intOf]; omega
   ·have eB : bits .and .u64 (lo / 2 ^ m) 1 = (β : Int) := by
     have hmm : ii.toNat % 64 = ii.toNat := Nat.mod_eq_of_lt (by omega)
     rw [elo, and1 _ hlo2, Fx.bit_low _ _ (by omega), hβ, hm, hmm]
    have h642 : ii < (64 : Int) := by omega
    clear hR hs hq2 hβ ho2 hm elo hlo2 h64
    cases ob
    ·have eV2 := eV rfl
     clear eV eT
     by_cases hds : d ≤ s
     ·have hR2 := Lib.hid (hst.1 hds)
      clear hst
      go_wp2
      go_round
      case rel => exact ⟨_, _, _, _, hR2.out, rfl, rfl, rfl, rfl⟩
      case measure => simp [intOf]; omega
     ·have hR2 := Lib.hid (hst.2 (by omega))
      clear hst
      go_wp2
      go_round
      case rel => exact ⟨_, _, _, _, hR2.out, rfl, rfl, rfl, rfl⟩
      case measure => simp [intOf]; omega
    ·have eT2 := eT rfl
     clear eV eT
     subst eT2
     by_cases hds : d ≤ s
     ·have hR2 := Lib.hid (hst.1 hds)
      clear hst
      go_wp2
      go_round
      case rel => exact ⟨_, _, _, _, hR2.out, rfl, rfl, rfl, rfl⟩
      case measure => simp [intOf]; omega
     ·have hR2 := Lib.hid (hst.2 (by omega))
      clear hst
      go_wp2
      go_round
      case rel => exact ⟨_, _, _, _, hR2.out, rfl, rfl, rfl, rfl⟩
      case measure => simp [intOf]; omega
  ·obtain ⟨hr, hoT, hoF⟩ := Fx.rm_end hR (by omega)
   have hge := Fx.rnd_ge N D
   have hii : ii < 0 := by omega
   cases ob
   ·obtain ⟨hqN, hq63⟩ := hoF rfl
    by_cases h2 : d ≤ 2 * ri
    ·have hup : Fx.rnd N D = N / D + 1 := Fx.rnd_up (by have := hdD.out; omega)
     have HQ : Hid ((Fx.mdq a b c : Int) = qi + 1) := Lib.hid (by rw [HQQ.out, hup, hqN]; omega)
     clear hr hqN hup hge hoT hoF hR
     go_wp2
     all_goals
      ((try simp only [Exit.inBlock, Exit.then]); refine bodyPost_ret (results_tmp2 rfl _ _ _) rfl ?_)
      first
      | exact ⟨_, _, Fx.md_big (by have := HQ.out; omega), rfl, Below.refl _ _⟩
      | exact ⟨_, _, Fx.md_neg HC0.out HQ.out.symm (by omega) ‹_›, rfl, Below.refl _ _⟩
      | exact ⟨_, _, Fx.md_pos HC0.out HQ.out.symm (by omega) ‹_›, rfl, Below.refl _ _⟩
    ·have hdn : Fx.rnd N D = N / D := Fx.rnd_down (by have := hdD.out; omega)
     have HQ : Hid ((Fx.mdq a b c : Int) = qi) := Lib.hid (by rw [HQQ.out, hdn, hqN])
     clear hr hqN hdn hge hoT hoF hR
     go_wp2
     all_goals
      ((try simp only [Exit.inBlock, Exit.then]); refine bodyPost_ret (results_tmp2 rfl _ _ _) rfl ?_)
      first
      | exact ⟨_, _, Fx.md_big (by have := HQ.out; omega), rfl, Below.refl _ _⟩
      | exact ⟨_, _, Fx.md_neg HC0.out HQ.out.symm (by omega) ‹_›, rfl, Below.refl _ _⟩
      | exact ⟨_, _, Fx.md_pos HC0.out HQ.out.symm (by omega) ‹_›, rfl, Below.refl _ _⟩
   ·have HQ : Hid (4611686018427387904 < Fx.mdq a b c) := Lib.hid (by rw [HQQ.out]; have := hoT rfl; omega)
    clear hr hge hoT hoF hR
    go_wp2
    all_goals
     ((try simp only [Exit.inBlock, Exit.then]); refine bodyPost_ret (results_tmp2 rfl _ _ _) rfl ?_)
     first
     | exact ⟨_, _, Fx.md_big (by have := HQ.out; omega), rfl, Below.refl _ _⟩
     | exact ⟨_, _, Fx.md_neg HC0.out HQ.out.symm (by omega) ‹_›, rfl, Below.refl _ _⟩
     | exact ⟨_, _, Fx.md_pos HC0.out HQ.out.symm (by omega) ‹_›, rfl, Below.refl _ _⟩
theorem refMulDiv_any (a b c : Int) (a1 : -9223372036854775808 ≤ a) (a2 : a ≤ 9223372036854775807) (b1 : -9223372036854775808 ≤ b) (b2 : b ≤ 9223372036854775807) (c1 : -9223372036854775808 ≤ c) (c2 : c ≤ 9223372036854775807) (w : World) :
 Calls Tryz.prog 144 #[.int .i64 a, .int .i64 b, .int .i64 c] w fun e w' => MdPost a b c w e w' := by
 by_cases hc : c = 0
 ·subst hc; exact rm_zero_any a b w
 have hx := Fx.mag_le a1 a2
 have hy := Fx.mag_le b1 b2
 have hd := Fx.mag_le c1 c2
 have hd0 := Fx.mag_pos hc
 have hN : Fx.mag a * Fx.mag b < 340282366920938463463374607431768211456 := Nat.lt_of_le_of_lt (Nat.mul_le_mul hx hy) (by decide)
 exact rm_core a b c (Fx.mag a) (Fx.mag b) (Fx.mag a * Fx.mag b) (Fx.mag c) (Lib.hid hN) hd0 hd _ _ _ (Lib.hid rfl) (Lib.hid rfl) (Lib.hid rfl) (Lib.hid rfl)
  ⟨fun W => fsize_any a a1 a2 W, fun W => fsize_any b b1 b2 W, fun W => fsize_any c c1 c2 W, fun W => times_any (Fx.mag a) (Fx.mag b) (by omega) (by omega) W⟩ (Lib.hid hc) w
theorem refMulDiv_val (a b c : Int) (a1 : -9223372036854775808 ≤ a) (a2 : a ≤ 9223372036854775807) (b1 : -9223372036854775808 ≤ b) (b2 : b ≤ 9223372036854775807) (c1 : -9223372036854775808 ≤ c) (c2 : c ≤ 9223372036854775807) (w : World) :
 Calls Tryz.prog 144 #[.int .i64 a, .int .i64 b, .int .i64 c] w fun e w' => e = .returned (.tuple #[.int .i64 (Fx.mdn a b c), .bool (Fx.mdok a b c)]) ∧ Below w.heap.size w w' :=
 (refMulDiv_any a b c a1 a2 b1 b2 c1 c2 w).mono fun e w' ⟨n, ok, h, he, hb⟩ => ⟨by rw [he, h.num, h.ok], hb⟩
end
section
open Go.RowKit
theorem refDiv_any (a : Bool) (m : Int) (b : Bool) (n : Int) (w : World) :
 Calls Tryz.prog 132 #[.agg #[.bool a, .int .i64 m], .agg #[.bool b, .int .i64 n]] w fun e w' => e = .returned (.agg #[.bool (Fx.div ⟨a, m⟩ ⟨b, n⟩).ok, .int .i64 (Fx.div ⟨a, m⟩ ⟨b, n⟩).n]) ∧ Below w.heap.size w w' := by
 cases h : Fx.num ⟨a, m⟩
 ·rw [Fx.div_no1 h]
  go_enter Tryz.func132, Tryz.ntmps132
  go_wp2_with (go_at_call 143; go_must (refine (two_any _ _ _ _ _).mono ?_; rintro e w' ⟨rfl, hb⟩; obtain ⟨hc, hf⟩ := bcell hb; (try have hz0 : w.heap.size < w'.heap.size := Bz hb); (try have hz1 : w.heap.size + 1 < w'.heap.size := Bz hb); (try have hz2 : w.heap.size + 1 + 1 < w'.heap.size := Bz hb); have hz := hb.size; (try simp at hz)))
  exact bodyPost_ret (v := .agg #[.bool false, .int .i64 0]) (by simp [results, Tryz.results132, go_sem, *]) rfl ⟨rfl, Bq⟩
 ·cases h2 : Fx.num ⟨b, n⟩
  ·rw [Fx.div_no2 h2]
   go_enter Tryz.func132, Tryz.ntmps132
   go_wp2_with (go_at_call 143; go_must (refine (two_any _ _ _ _ _).mono ?_; rintro e w' ⟨rfl, hb⟩; obtain ⟨hc, hf⟩ := bcell hb; (try have hz0 : w.heap.size < w'.heap.size := Bz hb); (try have hz1 : w.heap.size + 1 < w'.heap.size := Bz hb); (try have hz2 : w.heap.size + 1 + 1 < w'.heap.size := Bz hb); have hz := hb.size; (try simp at hz)))
   exact bodyPost_ret (v := .agg #[.bool false, .int .i64 0]) (by simp [results, Tryz.results132, go_sem, *]) rfl ⟨rfl, Bq⟩
  ·rw [Fx.div_yes h h2]
   obtain ⟨rfl, m1, m2⟩ := Fx.num_iff.1 h
   obtain ⟨rfl, n1, n2⟩ := Fx.num_iff.1 h2
   have HM : Hid (∀ W, Calls Tryz.prog 144 #[.int .i64 m, .int .i64 1000000, .int .i64 n] W fun e w' => e = .returned (.tuple #[.int .i64 (Fx.mdn m 1000000 n), .bool (Fx.mdok m 1000000 n)]) ∧ Below W.heap.size W w') :=
    Lib.hid fun W => refMulDiv_val m 1000000 n (by omega) (by omega) (by omega) (by omega) (by omega) (by omega) W
   cases ho : Fx.mdok m 1000000 n
   ·rw [Fx.mdv_no ho]
    go_enter Tryz.func132, Tryz.ntmps132
    go_wp2_with first | (go_at_call 143; go_must (refine (two_any _ _ _ _ _).mono ?_; rintro e w' ⟨rfl, hb⟩; obtain ⟨hc, hf⟩ := bcell hb; (try have hz0 : w.heap.size < w'.heap.size := Bz hb); (try have hz1 : w.heap.size + 1 < w'.heap.size := Bz hb); (try have hz2 : w.heap.size + 1 + 1 < w'.heap.size := Bz hb); have hz := hb.size; (try simp at hz))) | (go_at_call 144; go_must (refine (HM.out _).mono ?_; rintro e w' ⟨rfl, hb⟩; obtain ⟨hc, hf⟩ := bcell hb; (try have hz0 : w.heap.size < w'.heap.size := Bz hb); (try have hz1 : w.heap.size + 1 < w'.heap.size := Bz hb); (try have hz2 : w.heap.size + 1 + 1 < w'.heap.size := Bz hb); have hz := hb.size; (try simp at hz)))
    exact bodyPost_ret (v := .agg #[.bool false, .int .i64 0]) (by simp [results, Tryz.results132, go_sem, *]) rfl ⟨rfl, Bq⟩
   ·rw [Fx.mdv_yes ho]
    go_enter Tryz.func132, Tryz.ntmps132
    go_wp2_with first | (go_at_call 143; go_must (refine (two_any _ _ _ _ _).mono ?_; rintro e w' ⟨rfl, hb⟩; obtain ⟨hc, hf⟩ := bcell hb; (try have hz0 : w.heap.size < w'.heap.size := Bz hb); (try have hz1 : w.heap.size + 1 < w'.heap.size := Bz hb); (try have hz2 : w.heap.size + 1 + 1 < w'.heap.size := Bz hb); have hz := hb.size; (try simp at hz))) | (go_at_call 144; go_must (refine (HM.out _).mono ?_; rintro e w' ⟨rfl, hb⟩; obtain ⟨hc, hf⟩ := bcell hb; (try have hz0 : w.heap.size < w'.heap.size := Bz hb); (try have hz1 : w.heap.size + 1 < w'.heap.size := Bz hb); (try have hz2 : w.heap.size + 1 + 1 < w'.heap.size := Bz hb); have hz := hb.size; (try simp at hz))) | (go_at_call 111; go_must (refine (refOf_any _ _).mono ?_; rintro e w' ⟨rfl, hb⟩; obtain ⟨hc, hf⟩ := bcell hb; (try have hz0 : w.heap.size < w'.heap.size := Bz hb); (try have hz1 : w.heap.size + 1 < w'.heap.size := Bz hb); (try have hz2 : w.heap.size + 1 + 1 < w'.heap.size := Bz hb); have hz := hb.size; (try simp at hz)))
    exact bodyPost_ret (v := (.agg #[.bool (Fx.of (Fx.mdn m 1000000 n)).ok, .int .i64 (Fx.of (Fx.mdn m 1000000 n)).n])) (by simp [results, Tryz.results132, go_sem, *]) rfl ⟨rfl, Bq⟩
end
end Go.Proofs.YtljlanhpjpjgaaaGreatDoor
