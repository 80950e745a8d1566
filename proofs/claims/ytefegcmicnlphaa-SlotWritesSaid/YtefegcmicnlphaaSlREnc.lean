/-
  CONTRACT: chapter 5's Encode as the document has it.
-/
import Derived.Test.YtefegcmicnlphaaSlEnc
namespace Go.Proofs.Ytefegcmicnlphaa
open Go.RowKit Go.Sort
open Me

theorem OwnB.fresh (w : World) (l : List UInt8) (base : Nat) (hb : base ≤ w.heap.size) (hm : l.length ≤ 1048576) : OwnB base (w.alloc (.cells (by8 l).toArray 5)) (.slice (some ⟨w.heap.size, 0, none⟩) l.length l.length) l := by
  refine ⟨by rw [by8_len]; simp, .inr ⟨w.heap.size, l.length, _, rfl, hb, heap_alloc_new w _, Nat.le_refl _, by unfold maxLen; omega, by simp [by8_len], ?_⟩⟩
  rw [Nat.mul_one]
  exact List.take_of_length_le (by simp [by8_len])
theorem OwnB.lit {base : Nat} {w : World} {v : Value} {l : List UInt8} (h : OwnB base w v l) : ∃ A c, v = .slice A l.length c ∧ Rd w (fun i => v.ownBlock = some i) A (by8 l) := by
  obtain ⟨A, c, e, _, _, hr⟩ := Bs.own h
  refine ⟨A, c, e, ?_⟩
  subst e
  have h' : w.ownsRow base 5 1 (.slice A l.length c) l.length (by8 l) := h
  exact Rd.own h'
/-- A new row of four bytes. -/
theorem four_P (n : Int) (h1 : 0 ≤ n) (h2 : n ≤ 4294967295) (w : World) :
    Calls Try.prog 24 #[.int .i64 n] w fun e w' => ∃ v, e = .returned v ∧ OwnB w.heap.size w' v (Wh.four n) ∧ Below w.heap.size w w' := by
  refine (four_any n h1 h2 w).mono ?_
  rintro e w' ⟨rfl, rfl⟩
  exact ⟨_, rfl, OwnB.fresh w (Wh.four n) _ (Nat.le_refl _) (by show 4 ≤ 1048576; omega), (by repeat (first | exact Below.refl _ _ | assumption | refine Below.setCell ?_ (by first | (simp; done) | omega | (simp; omega) | (simp at *; omega)) _ | refine Below.alloc ?_ (by first | (simp; done) | omega | (simp; omega) | (simp at *; omega)) _ | refine Below.drew ?_ | (refine Below.trans ?_ (Below.mono (by assumption) (by first | (simp; done) | omega | (simp; omega) | (simp at *; omega)))) | (refine Below.trans ?_ (Below.mono (below_regrown _ _ _) (by first | (simp; done) | omega | (simp; omega) | (simp at *; omega))))))⟩

namespace Sl
def hi (n : Int) : Int := n % 18446744073709551616 / 4294967296
def lo (n : Int) : Int := n % 18446744073709551616 % 4294967296
theorem pw : (2 : Int) ^ (8 * 7) = 72057594037927936 ∧ (2 : Int) ^ (8 * 6) = 281474976710656 ∧ (2 : Int) ^ (8 * 5) = 1099511627776 ∧ (2 : Int) ^ (8 * 4) = 4294967296 ∧ (2 : Int) ^ (8 * 3) = 16777216 ∧ (2 : Int) ^ (8 * 2) = 65536 ∧ (2 : Int) ^ (8 * 1) = 256 ∧ (2 : Int) ^ (8 * 0) = 1 := by
  refine ⟨rfl, rfl, rfl, rfl, rfl, rfl, rfl, rfl⟩
theorem enc_four (a n : Int) : enc a n = Wh.four (lim a) ++ Wh.four (hi n) ++ Wh.four (lo n) := by
  obtain ⟨p7, p6, p5, p4, p3, p2, p1, p0⟩ := pw
  unfold enc beb beb beb beb beb beb beb beb beb bt Wh.four
  simp only [p7, p6, p5, p4, p3, p2, p1, p0, Int.ediv_one, List.cons_append, List.nil_append]
  have e7 : n / 72057594037927936 % 256 = hi n / 16777216 % 256 := by unfold hi; omega
  have e6 : n / 281474976710656 % 256 = hi n / 65536 % 256 := by unfold hi; omega
  have e5 : n / 1099511627776 % 256 = hi n / 256 % 256 := by unfold hi; omega
  have e4 : n / 4294967296 % 256 = hi n % 256 := by unfold hi; omega
  have e3 : n / 16777216 % 256 = lo n / 16777216 % 256 := by unfold lo; omega
  have e2 : n / 65536 % 256 = lo n / 65536 % 256 := by unfold lo; omega
  have e1 : n / 256 % 256 = lo n / 256 % 256 := by unfold lo; omega
  have e0 : n % 256 = lo n % 256 := by unfold lo; omega
  rw [e7, e6, e5, e4, e3, e2, e1, e0]
theorem hi_bd (n : Int) : 0 ≤ hi n ∧ hi n ≤ 4294967295 := by unfold hi; omega
theorem lo_bd (n : Int) : 0 ≤ lo n ∧ lo n ≤ 4294967295 := by unfold lo; omega
theorem lim_bd (a : Int) : 0 ≤ lim a ∧ lim a ≤ 4294967295 := by unfold lim; omega
end Sl

set_option maxHeartbeats 2000000 in
theorem rsencode_core (a n x : Int) (w : World) (hx : Sl.lim a = x) (hc : (a ≤ 0 ∧ x = 0) ∨ (0 < a ∧ a ≤ 4294967295 ∧ x = a) ∨ (4294967295 < a ∧ x = 4294967295)) :
    Calls Try.prog 15 #[.agg #[.int .i64 a, .int .i64 n]] w fun e w' => ∃ v, e = .returned v ∧ OwnB w.heap.size w' v (Sl.enc a n) ∧ Below w.heap.size w w' := by
  have HE : Hid (Sl.enc a n = Wh.four x ++ Wh.four (Sl.hi n) ++ Wh.four (Sl.lo n)) := Lib.hid (by rw [Sl.enc_four, hx])
  have xb := Sl.lim_bd a
  rw [hx] at xb
  have hb := Sl.hi_bd n
  have lb := Sl.lo_bd n
  have HX := Lib.hid (fun W => four_P x xb.1 xb.2 W)
  have HH := Lib.hid (fun W => four_P (Sl.hi n) hb.1 hb.2 W)
  have HL := Lib.hid (fun W => four_P (Sl.lo n) lb.1 lb.2 W)
  obtain ⟨u, hu, hu0, hu1⟩ : ∃ u : Int, IntKind.u64.wrap n = u ∧ 0 ≤ u ∧ u ≤ 18446744073709551615 := ⟨IntKind.u64.wrap n, rfl, by rw [IntKind.wrap_u64]; omega, by rw [IntKind.wrap_u64]; omega⟩
  have hu' : n % 18446744073709551616 = u := by rw [← hu, IntKind.wrap_u64]
  have hsh : Op.shift .shr .u64 u .u64 32 = pure (.int .u64 (Sl.hi n)) := by
    rw [shift_shr .u64 .u64 u 32 (by omega) (by show (32 : Int) ≤ 64; omega)]
    unfold Sl.hi
    rw [hu']
    rfl
  have han : bits .and .u64 u 4294967295 = Sl.lo n := by
    have := bits_mask .u64 64 (by decide) (fun n h0 h1 => by rw [IntKind.wrap_u64]; omega) 32 (by decide) u hu0 (by omega)
    unfold Sl.lo
    rw [hu']
    exact this
  have hwh : IntKind.i64.wrap (Sl.hi n) = Sl.hi n := IntWalk.i64_in _ (by omega)
  have hwl : IntKind.i64.wrap (Sl.lo n) = Sl.lo n := IntWalk.i64_in _ (by omega)
  have l1 : (Wh.four x).length ≤ 4 := Nat.le_refl _
  have l2 : (Wh.four (Sl.hi n)).length ≤ 4 := Nat.le_refl _
  have l3 : (Wh.four (Sl.lo n)).length ≤ 4 := Nat.le_refl _
  obtain ⟨j0, hj0, hy0, hy1, hy2⟩ := info_parts u8info
  have HJ := Lib.hid hj0
  have HY := Lib.hid (And.intro hy0 (And.intro hy1 hy2))
  clear hj0 hy0 hy1 hy2 hu' hx
  generalize Wh.four x = X at *
  generalize Wh.four (Sl.hi n) = Y at *
  generalize Wh.four (Sl.lo n) = Z at *
  generalize Sl.hi n = h at *
  generalize Sl.lo n = l at *
  rcases hc with ⟨hc, rfl⟩ | ⟨hc, hc2, rfl⟩ | ⟨hc, rfl⟩
  all_goals
    go_enter Try.func15, Try.ntmps15
    go_wp2_with first
      | (go_at_call 24; (with_reducible refine (HX.out _).mono ?_); rintro e w1 ⟨v1, rfl, ho1, hb1⟩; have HB1 : Hid (Below w.heap.size w w1) := Lib.hid (lowBox' (hb1.mono (by simp))); have hz1 := HB1.out.size; have HO1 := Lib.hid (OwnB.base ho1 (a := w.heap.size) (by simp)); obtain ⟨A1, c1, rfl, hr1⟩ := ho1.lit; have k0 := (hb1.cell (p := ⟨w.heap.size, 0, none⟩) (by simp)); have k1 := (hb1.cell (p := ⟨w.heap.size, 1, none⟩) (by simp)); simp [go_sem] at k0 k1; clear ho1 hb1 hr1)
      | (go_at_call 24; (with_reducible refine (HH.out w1).mono ?_); rintro e w2 ⟨v2, rfl, ho2, hb2⟩; have HB2 : Hid (Below w.heap.size w w2) := Lib.hid (HB1.out.trans (hb2.mono hz1)); have hz2 := HB2.out.size; have HO1' := Lib.hid (OwnB.below HO1.out hb2); obtain ⟨A2, c2, rfl, hr2⟩ := ho2.lit; have HR2 := Lib.hid hr2; clear ho2 hb2 hr2)
      | (at_builtin; refine wpList_app _ rfl (.tmp 13) (.tmp 17) 30 rfl w.heap.size 5 j0 (.int .u8 0) 1 1 Try.underlying30 HJ.out HY.out.1 HY.out.2.1 HY.out.2.2 rfl (by decide) (.slice A1 X.length c1) X.length (by8 X) rfl HO1'.out _ A2 Y.length c2 (by8 Y) rfl (by rw [by8_len]; omega) HR2.out (by8_one _) (by unfold maxLen; omega) (by omega) hz2 ?_; intro v3 w3 hown3 hg3 hat3 hnil3; have HB3 : Hid (Below w.heap.size w w3) := Lib.hid (HB2.out.grown hg3 (by omega) (fun g e => (own_lt HO1'.out g e).1)); have hz3 := HB3.out.size; obtain ⟨XY, HXY, hl3, HO3⟩ : ∃ XY, Hid (XY = X ++ Y) ∧ XY.length ≤ 8 ∧ Hid (OwnB w.heap.size w3 v3 XY) := ⟨_, Lib.hid rfl, by rw [List.length_append]; omega, Lib.hid (own_more (X := X) (Y := Y) rfl hown3)⟩; obtain ⟨A3, c3, rfl, hr3⟩ := HO3.out.lit; clear hown3 hg3 hat3 hnil3 hr3)
      | (go_at_call 24; (with_reducible refine (HL.out w3).mono ?_); rintro e w4 ⟨v4, rfl, ho4, hb4⟩; have HB4 : Hid (Below w.heap.size w w4) := Lib.hid (HB3.out.trans (hb4.mono hz3)); have hz4 := HB4.out.size; have HO3' := Lib.hid (OwnB.below HO3.out hb4); obtain ⟨A4, c4, rfl, hr4⟩ := ho4.lit; have HR4 := Lib.hid hr4; clear ho4 hb4 hr4)
      | (at_builtin; refine wpList_app _ rfl (.tmp 19) (.tmp 23) 30 rfl w.heap.size 5 j0 (.int .u8 0) 1 1 Try.underlying30 HJ.out HY.out.1 HY.out.2.1 HY.out.2.2 rfl (by decide) (.slice A3 XY.length c3) XY.length (by8 XY) rfl HO3'.out _ A4 Z.length c4 (by8 Z) rfl (by rw [by8_len]; omega) HR4.out (by8_one _) (by unfold maxLen; omega) (by omega) hz4 ?_; intro v5 w5 hown5 hg5 hat5 hnil5; have HB5 : Hid (Below w.heap.size w w5) := Lib.hid (HB4.out.grown hg5 (by omega) (fun g e => (own_lt HO3'.out g e).1)); have HO5 := Lib.hid (own_more (X := XY) (Y := Z) rfl hown5); obtain ⟨A5, c5, rfl, hr5⟩ := HO5.out.lit; clear hown5 hg5 hat5 hnil5 hr5)
    go_ret
    exact ⟨_, rfl, by have h5 := HO5.out; rw [List.length_append] at h5; rw [HE.out, ← HXY.out]; exact h5, HB5.out⟩
theorem rsencode_any (a n : Int) (w : World) :
    Calls Try.prog 15 #[.agg #[.int .i64 a, .int .i64 n]] w fun e w' => ∃ v, e = .returned v ∧ OwnB w.heap.size w' v (Sl.enc a n) ∧ Below w.heap.size w w' :=
  rsencode_core a n _ w rfl (by unfold Sl.lim; omega)
end Go.Proofs.Ytefegcmicnlphaa
