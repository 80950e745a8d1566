/-
  TeLawR: LAW: chapter 15: TreePrints.
-/
import Derived.Test.YtojmcndiooiehaaGreatDoorM3
import Derived.Test.YtojmcndiooiehaaGreatDoorM4
import Derived.Test.YtojmcndiooiehaaGreatDoorM5
import Derived.Test.YtojmcndiooiehaaGreatDoorM6

set_option linter.unusedSimpArgs false
set_option linter.unusedVariables false
namespace Go.Proofs.YtojmcndiooiehaaGreatDoor
open Go.RowKit Go.Sort
open Me

set_option maxRecDepth 100000 in
set_option maxHeartbeats 16000000 in
theorem lawPrints15 (x : Te.Nd) (v : Value) (y : Te.Nd) (u : Value) (W : World) (hax : Te.At W (fun _ => True) x v) (htx : Te.Tl x) (hay : Te.At W (fun _ => True) y u) (hty : Te.Tl y) :
    Calls Tryz.prog 4 #[Te.val x v, Te.val y u] W fun e W' => e = .returned (.bool true) ∧ Below W.heap.size W W' := by
  have H1 := Lib.hid fun (w : World) (hw : Below W.heap.size W w) => heavy_any (fun _ => True) (Te.wt x) x (Nat.le_refl _) htx w v 300 (by decide) (by decide) (hax.below hw)
  have H2 := Lib.hid fun (w : World) (hw : Below W.heap.size W w) => heavy_any (fun _ => True) (Te.wt y) y (Nat.le_refl _) hty w u 300 (by decide) (by decide) (hay.below hw)
  have H3 : Hid (Te.wt x ≤ 300 → ∀ w, Below W.heap.size W w → Calls Tryz.prog 12 #[Te.val x v] w fun e w' => e = .returned (.string ⟨(Te.printS x).toArray⟩) ∧ Below w.heap.size w w') := Lib.hid fun h w hw => tprint_any x (by omega) v w (hax.below hw)
  have H4 : Hid (Te.wt x ≤ 300 → ∀ w, Below W.heap.size W w → Calls Tryz.prog 13 #[Te.val x v] w fun e w' => e = .returned (.string ⟨(Te.printS x).toArray⟩) ∧ Below w.heap.size w w') := Lib.hid fun h w hw => rprint_any x (by omega) v w (hax.below hw)
  have H5 : Hid (Te.wt x ≤ 300 → ∀ w, Below W.heap.size W w → Calls Tryz.prog 14 #[Te.val x v] w fun e w' => e = .returned (.bool (Te.isOk x)) ∧ Below w.heap.size w w') := Lib.hid fun h w hw => tis_any x (by omega) v w (hax.below hw)
  have H6 : Hid (Te.wt x ≤ 300 → ∀ w, Below W.heap.size W w → Calls Tryz.prog 15 #[Te.val x v] w fun e w' => e = .returned (.bool (Te.isOk x)) ∧ Below w.heap.size w w') := Lib.hid fun h w hw => ris_any x (by omega) v w (hax.below hw)
  have H7 : Hid (Te.wt x ≤ 300 → ∀ w, Below W.heap.size W w → Calls Tryz.prog 16 #[Te.val x v] w fun e w' => e = .returned (.int .i64 ((Te.dep x : Nat) : Int)) ∧ Below w.heap.size w w') := Lib.hid fun h w hw => tdep_any _ (Te.wt x) x (Nat.le_refl _) (by omega) w v (hax.below hw)
  have H8 : Hid (Te.wt x ≤ 300 → ∀ w, Below W.heap.size W w → Calls Tryz.prog 17 #[Te.val x v] w fun e w' => e = .returned (.int .i64 ((Te.dep x : Nat) : Int)) ∧ Below w.heap.size w w') := Lib.hid fun h w hw => rdep_any _ (Te.wt x) x (Nat.le_refl _) (by omega) w v (hax.below hw)
  have H9 : Hid (Te.wt x ≤ 300 → Te.wt y ≤ 300 → ∀ w, Below W.heap.size W w → Calls Tryz.prog 18 #[Te.val x v, Te.val y u] w fun e w' => e = .returned (.bool (Te.same x y)) ∧ Below w.heap.size w w') := Lib.hid fun h h2 w hw => tsame_any _ _ (Te.wt x) x (Nat.le_refl _) (by omega) y w v u (by omega) (hax.below hw) (hay.below hw)
  have H10 : Hid (Te.wt x ≤ 300 → Te.wt y ≤ 300 → ∀ w, Below W.heap.size W w → Calls Tryz.prog 9 #[Te.val x v, Te.val y u] w fun e w' => e = .returned (.bool (Te.same x y)) ∧ Below w.heap.size w w') := Lib.hid fun h h2 w hw => rsame_any _ _ (Te.wt x) x (Nat.le_refl _) (by omega) y w v u (by omega) (hax.below hw) (hay.below hw)
  have H11 : Hid (Te.wt x ≤ 300 → ∀ w, Below W.heap.size W w → Calls Tryz.prog 18 #[Te.val x v, Te.val x v] w fun e w' => e = .returned (.bool true) ∧ Below w.heap.size w w') := Lib.hid fun h w hw => by
    have := tsame_any (fun _ => True) (fun _ => True) (Te.wt x) x (Nat.le_refl _) (by omega) x w v v (by omega) (hax.below hw) (hax.below hw)
    rw [Te.same_refl] at this
    exact this
  have HK := Lib.hid fun w => known15_any w
  generalize Te.printS x = T at *
  generalize Te.isOk x = q at *
  generalize Te.same x y = r at *
  generalize Te.dep x = D0 at *
  generalize Te.wt x = Wx at *
  generalize Te.wt y = Wy at *
  obtain ⟨D, hD⟩ : ∃ D : Int, D = ((D0 : Nat) : Int) := ⟨_, rfl⟩
  rw [← hD] at H7 H8
  clear hD
  obtain ⟨k, t, n, ks⟩ := x
  obtain ⟨A, c, xs, rfl, hz1, hz2⟩ := hax.form
  obtain ⟨k2, t2, n2, ks2⟩ := y
  obtain ⟨A2, c2, xs2, rfl, hz3, hz4⟩ := hay.form
  clear hz1 hz2 hz3 hz4 hax hay htx hty
  obtain ⟨m, hm⟩ : ∃ m, m = ks.length := ⟨_, rfl⟩
  obtain ⟨m2, hm2⟩ : ∃ m2, m2 = ks2.length := ⟨_, rfl⟩
  have HH1 : Hid (∀ w, Below W.heap.size W w → Calls Tryz.prog 11 #[(.agg #[.int .i64 k, .string ⟨t.toArray⟩, .int .i64 n, .slice A m c]), .int .i64 300] w fun e w' => ∃ r : Int, e = .returned (.int .i64 r) ∧ r ≤ 300 ∧ -281474976710656 ≤ r ∧ (0 ≤ r → r = 300 - (Wx : Int)) ∧ Below w.heap.size w w') := Lib.hid (by rw [hm]; exact H1.out)
  have HH2 : Hid (∀ w, Below W.heap.size W w → Calls Tryz.prog 11 #[(.agg #[.int .i64 k2, .string ⟨t2.toArray⟩, .int .i64 n2, .slice A2 m2 c2]), .int .i64 300] w fun e w' => ∃ r : Int, e = .returned (.int .i64 r) ∧ r ≤ 300 ∧ -281474976710656 ≤ r ∧ (0 ≤ r → r = 300 - (Wy : Int)) ∧ Below w.heap.size w w') := Lib.hid (by rw [hm2]; exact H2.out)
  have HPA0 : Hid (Wx ≤ 300 → ∀ w, Below W.heap.size W w → Calls Tryz.prog 12 #[(.agg #[.int .i64 k, .string ⟨t.toArray⟩, .int .i64 n, .slice A m c])] w fun e w' => e = .returned ((.string ⟨T.toArray⟩)) ∧ Below w.heap.size w w') := Lib.hid (by rw [hm]; exact H3.out)
  have HPB0 : Hid (Wx ≤ 300 → ∀ w, Below W.heap.size W w → Calls Tryz.prog 13 #[(.agg #[.int .i64 k, .string ⟨t.toArray⟩, .int .i64 n, .slice A m c])] w fun e w' => e = .returned ((.string ⟨T.toArray⟩)) ∧ Below w.heap.size w w') := Lib.hid (by rw [hm]; exact H4.out)
  have HIA0 : Hid (Wx ≤ 300 → ∀ w, Below W.heap.size W w → Calls Tryz.prog 14 #[(.agg #[.int .i64 k, .string ⟨t.toArray⟩, .int .i64 n, .slice A m c])] w fun e w' => e = .returned ((.bool q)) ∧ Below w.heap.size w w') := Lib.hid (by rw [hm]; exact H5.out)
  have HIB0 : Hid (Wx ≤ 300 → ∀ w, Below W.heap.size W w → Calls Tryz.prog 15 #[(.agg #[.int .i64 k, .string ⟨t.toArray⟩, .int .i64 n, .slice A m c])] w fun e w' => e = .returned ((.bool q)) ∧ Below w.heap.size w w') := Lib.hid (by rw [hm]; exact H6.out)
  have HDA0 : Hid (Wx ≤ 300 → ∀ w, Below W.heap.size W w → Calls Tryz.prog 16 #[(.agg #[.int .i64 k, .string ⟨t.toArray⟩, .int .i64 n, .slice A m c])] w fun e w' => e = .returned ((.int .i64 D)) ∧ Below w.heap.size w w') := Lib.hid (by rw [hm]; exact H7.out)
  have HDB0 : Hid (Wx ≤ 300 → ∀ w, Below W.heap.size W w → Calls Tryz.prog 17 #[(.agg #[.int .i64 k, .string ⟨t.toArray⟩, .int .i64 n, .slice A m c])] w fun e w' => e = .returned ((.int .i64 D)) ∧ Below w.heap.size w w') := Lib.hid (by rw [hm]; exact H8.out)
  have HSA0 : Hid (Wx ≤ 300 → Wy ≤ 300 → ∀ w, Below W.heap.size W w → Calls Tryz.prog 18 #[(.agg #[.int .i64 k, .string ⟨t.toArray⟩, .int .i64 n, .slice A m c]), (.agg #[.int .i64 k2, .string ⟨t2.toArray⟩, .int .i64 n2, .slice A2 m2 c2])] w fun e w' => e = .returned ((.bool r)) ∧ Below w.heap.size w w') := Lib.hid (by rw [hm, hm2]; exact H9.out)
  have HSB0 : Hid (Wx ≤ 300 → Wy ≤ 300 → ∀ w, Below W.heap.size W w → Calls Tryz.prog 9 #[(.agg #[.int .i64 k, .string ⟨t.toArray⟩, .int .i64 n, .slice A m c]), (.agg #[.int .i64 k2, .string ⟨t2.toArray⟩, .int .i64 n2, .slice A2 m2 c2])] w fun e w' => e = .returned ((.bool r)) ∧ Below w.heap.size w w') := Lib.hid (by rw [hm, hm2]; exact H10.out)
  have HSS0 : Hid (Wx ≤ 300 → ∀ w, Below W.heap.size W w → Calls Tryz.prog 18 #[(.agg #[.int .i64 k, .string ⟨t.toArray⟩, .int .i64 n, .slice A m c]), (.agg #[.int .i64 k, .string ⟨t.toArray⟩, .int .i64 n, .slice A m c])] w fun e w' => e = .returned (.bool true) ∧ Below w.heap.size w w') := Lib.hid (by rw [hm]; exact H11.out)
  clear H1 H2 H3 H4 H5 H6 H7 H8 H9 H10 H11
  show Calls Tryz.prog 4 #[.agg #[.int .i64 k, .string ⟨t.toArray⟩, .int .i64 n, .slice A ks.length c], .agg #[.int .i64 k2, .string ⟨t2.toArray⟩, .int .i64 n2, .slice A2 ks2.length c2]] W _
  rw [← hm, ← hm2]
  clear hm hm2
  obtain ⟨w0, hw0⟩ : ∃ w0, w0 = (W.alloc (.cells #[.int .i64 k, .string ⟨t.toArray⟩, .int .i64 n, .slice A m c] 24)).alloc (.cells #[.int .i64 k2, .string ⟨t2.toArray⟩, .int .i64 n2, .slice A2 m2 c2] 24) := ⟨_, rfl⟩
  have HB0 : Hid (Below W.heap.size W w0) := Lib.hid (by rw [hw0]; exact ((Below.refl W.heap.size W).alloc (Nat.le_refl _) _).alloc (by simp) _)
  have HRA : Hid (RowAt w0 W.heap.size 24 #[.int .i64 k, .string ⟨t.toArray⟩, .int .i64 n, .slice A m c]) := Lib.hid (by rw [hw0]; exact (RowAt.new W _ _).alloc _)
  have HRB : Hid (RowAt w0 (W.heap.size + 1) 24 #[.int .i64 k2, .string ⟨t2.toArray⟩, .int .i64 n2, .slice A2 m2 c2]) := Lib.hid (by rw [hw0]; have := RowAt.new (W.alloc (.cells #[.int .i64 k, .string ⟨t.toArray⟩, .int .i64 n, .slice A m c] 24)) #[.int .i64 k2, .string ⟨t2.toArray⟩, .int .i64 n2, .slice A2 m2 c2] 24; simpa using this)
  go_enter Tryz.func4, Tryz.ntmps4
  go_wp2_with fail
  rw [← hw0]
  clear hw0
  go_at_call 11
  refine (HH1.out _ HB0.out).mono ?_
  rintro e w1 ⟨r1, rfl, hr3, hrl, hre, hb1⟩
  have HB1 : Hid (Below W.heap.size W w1) := Lib.hid (HB0.out.trans (hb1.mono HB0.out.size))
  have HRA1 := Lib.hid (HRA.out.below hb1 HRA.out.lt)
  have HRB1 := Lib.hid (HRB.out.below hb1 HRB.out.lt)
  clear hb1
  by_cases hr0 : r1 < 0
  · go_wp2_with fail
    go_ret
    exact ⟨rfl, HB1.out⟩
  have hwx : Wx ≤ 300 := by have := hre (by omega); omega
  have z0 : w1.cell? ⟨W.heap.size + 1, 0, none⟩ = some (.int .i64 k2) := (HRB1.out.cell 0).trans rfl
  have z1 : w1.cell? ⟨W.heap.size + 1, 1, none⟩ = some (.string ⟨t2.toArray⟩) := (HRB1.out.cell 1).trans rfl
  have z2 : w1.cell? ⟨W.heap.size + 1, 2, none⟩ = some (.int .i64 n2) := (HRB1.out.cell 2).trans rfl
  have z3 : w1.cell? ⟨W.heap.size + 1, 3, none⟩ = some (.slice A2 m2 c2) := (HRB1.out.cell 3).trans rfl
  clear hre
  go_wp2_with fail
  go_at_call 11
  refine (HH2.out _ HB1.out).mono ?_
  rintro e w2 ⟨r2, rfl, hs3, hsl, hse, hb2⟩
  have HB2 : Hid (Below W.heap.size W w2) := Lib.hid (HB1.out.trans (hb2.mono HB1.out.size))
  have HRA2 := Lib.hid (HRA1.out.below hb2 HRA1.out.lt)
  have HRB2 := Lib.hid (HRB1.out.below hb2 HRB1.out.lt)
  clear hb2 z0 z1 z2 z3
  by_cases hs0 : r2 < 0
  · go_wp2_with fail
    go_ret
    exact ⟨rfl, HB2.out⟩
  have hwy : Wy ≤ 300 := by have := hse (by omega); omega
  have HALL : Hid (∀ w, Below w2.heap.size w2 w → w.cell? ⟨W.heap.size, 0, none⟩ = some (.int .i64 k) ∧ w.cell? ⟨W.heap.size, 1, none⟩ = some (.string ⟨t.toArray⟩) ∧ w.cell? ⟨W.heap.size, 2, none⟩ = some (.int .i64 n) ∧ w.cell? ⟨W.heap.size, 3, none⟩ = some (.slice A m c) ∧ w.cell? ⟨W.heap.size + 1, 0, none⟩ = some (.int .i64 k2) ∧ w.cell? ⟨W.heap.size + 1, 1, none⟩ = some (.string ⟨t2.toArray⟩) ∧ w.cell? ⟨W.heap.size + 1, 2, none⟩ = some (.int .i64 n2) ∧ w.cell? ⟨W.heap.size + 1, 3, none⟩ = some (.slice A2 m2 c2)) := Lib.hid fun w hw => by
    have ha := HRA2.out.below hw HRA2.out.lt
    have hb := HRB2.out.below hw HRB2.out.lt
    exact ⟨(ha.cell 0).trans rfl, (ha.cell 1).trans rfl, (ha.cell 2).trans rfl, (ha.cell 3).trans rfl, (hb.cell 0).trans rfl, (hb.cell 1).trans rfl, (hb.cell 2).trans rfl, (hb.cell 3).trans rfl⟩
  have HPA := Lib.hid fun (w : World) (hw : Below w2.heap.size w2 w) => HPA0.out hwx w (HB2.out.trans (hw.mono HB2.out.size))
  have HPB := Lib.hid fun (w : World) (hw : Below w2.heap.size w2 w) => HPB0.out hwx w (HB2.out.trans (hw.mono HB2.out.size))
  have HIA := Lib.hid fun (w : World) (hw : Below w2.heap.size w2 w) => HIA0.out hwx w (HB2.out.trans (hw.mono HB2.out.size))
  have HIB := Lib.hid fun (w : World) (hw : Below w2.heap.size w2 w) => HIB0.out hwx w (HB2.out.trans (hw.mono HB2.out.size))
  have HDA := Lib.hid fun (w : World) (hw : Below w2.heap.size w2 w) => HDA0.out hwx w (HB2.out.trans (hw.mono HB2.out.size))
  have HDB := Lib.hid fun (w : World) (hw : Below w2.heap.size w2 w) => HDB0.out hwx w (HB2.out.trans (hw.mono HB2.out.size))
  have HSA := Lib.hid fun (w : World) (hw : Below w2.heap.size w2 w) => HSA0.out hwx hwy w (HB2.out.trans (hw.mono HB2.out.size))
  have HSB := Lib.hid fun (w : World) (hw : Below w2.heap.size w2 w) => HSB0.out hwx hwy w (HB2.out.trans (hw.mono HB2.out.size))
  have HSS := Lib.hid fun (w : World) (hw : Below w2.heap.size w2 w) => HSS0.out hwx w (HB2.out.trans (hw.mono HB2.out.size))
  have HKN : Hid (∀ w, Below w2.heap.size w2 w → Calls Tryz.prog 10 #[] w fun e w' => e = .returned (.bool true) ∧ Below w.heap.size w w') := Lib.hid fun w _ => HK.out w
  clear hse hr3 hrl hs3 hsl
  clear HPA0 HPB0 HIA0 HIB0 HDA0 HDB0 HSA0 HSB0 HSS0 HH1 HH2 HK
  go_wp2_with fail
  refine Inv.region (fun W W' => Below W.heap.size W W') (fun i v W => match i with
    | 0 => v = (.agg #[.int .i64 k, .string ⟨t.toArray⟩, .int .i64 n, .slice A m c])
    | 1 => v = (.string ⟨T.toArray⟩)
    | 2 => v = (.agg #[.int .i64 k, .string ⟨t.toArray⟩, .int .i64 n, .slice A m c])
    | 3 => v = (.string ⟨T.toArray⟩)
    | 4 => v = .bool true
    | 5 => v = .bool true
    | 6 => v = (.agg #[.int .i64 k, .string ⟨t.toArray⟩, .int .i64 n, .slice A m c])
    | 7 => v = (.bool q)
    | 8 => v = (.agg #[.int .i64 k, .string ⟨t.toArray⟩, .int .i64 n, .slice A m c])
    | 9 => v = (.bool q)
    | 10 => v = .bool true
    | 11 => v = .bool true
    | 12 => v = .bool true
    | 13 => v = (.agg #[.int .i64 k, .string ⟨t.toArray⟩, .int .i64 n, .slice A m c])
    | 14 => v = (.int .i64 D)
    | 15 => v = (.agg #[.int .i64 k, .string ⟨t.toArray⟩, .int .i64 n, .slice A m c])
    | 16 => v = (.int .i64 D)
    | 17 => v = .bool true
    | 18 => v = .bool true
    | 19 => v = .bool true
    | 20 => v = (.agg #[.int .i64 k, .string ⟨t.toArray⟩, .int .i64 n, .slice A m c])
    | 21 => v = (.agg #[.int .i64 k2, .string ⟨t2.toArray⟩, .int .i64 n2, .slice A2 m2 c2])
    | 22 => v = (.bool r)
    | 23 => v = (.agg #[.int .i64 k, .string ⟨t.toArray⟩, .int .i64 n, .slice A m c])
    | 24 => v = (.agg #[.int .i64 k2, .string ⟨t2.toArray⟩, .int .i64 n2, .slice A2 m2 c2])
    | 25 => v = (.bool r)
    | 26 => v = .bool true
    | 27 => v = .bool true
    | 28 => v = .bool true
    | 29 => v = (.agg #[.int .i64 k, .string ⟨t.toArray⟩, .int .i64 n, .slice A m c])
    | 30 => v = (.agg #[.int .i64 k, .string ⟨t.toArray⟩, .int .i64 n, .slice A m c])
    | 31 => v = .bool true
    | 32 => v = .bool true
    | 33 => v = .bool true
    | 34 => v = .bool true
    | 35 => v = .bool true
    | 36 => v = .bool true
    | _ => True) (by kernel_rfl) (by kernel_rfl) (by kernel_rfl) (fun W => Below.refl _ _) (fun a b c h k => h.trans (k.mono h.size)) (fun i v W W' h he => ?stab) ?obls ?fin
  case stab =>
    match i, h with
    | 0, h => exact h
    | 1, h => exact h
    | 2, h => exact h
    | 3, h => exact h
    | 4, h => exact h
    | 5, h => exact h
    | 6, h => exact h
    | 7, h => exact h
    | 8, h => exact h
    | 9, h => exact h
    | 10, h => exact h
    | 11, h => exact h
    | 12, h => exact h
    | 13, h => exact h
    | 14, h => exact h
    | 15, h => exact h
    | 16, h => exact h
    | 17, h => exact h
    | 18, h => exact h
    | 19, h => exact h
    | 20, h => exact h
    | 21, h => exact h
    | 22, h => exact h
    | 23, h => exact h
    | 24, h => exact h
    | 25, h => exact h
    | 26, h => exact h
    | 27, h => exact h
    | 28, h => exact h
    | 29, h => exact h
    | 30, h => exact h
    | 31, h => exact h
    | 32, h => exact h
    | 33, h => exact h
    | 34, h => exact h
    | 35, h => exact h
    | 36, h => exact h
    | _ + 37, h => exact h
  case obls =>
    refine .cons ?_ (.cons ?_ (.cons ?_ (.cons ?_ (.cons ?_ (.cons ?_ (.cons ?_ (.cons ?_ (.cons ?_ (.cons ?_ (.cons ?_ (.cons ?_ (.cons ?_ (.cons ?_ (.cons ?_ (.cons ?_ (.cons ?_ (.cons ?_ (.cons ?_ (.cons ?_ (.cons ?_ (.cons ?_ (.cons ?_ (.cons ?_ (.cons ?_ (.cons ?_ (.cons ?_ (.cons ?_ (.cons ?_ (.cons ?_ (.cons ?_ (.cons ?_ (.cons ?_ (.cons ?_ (.cons ?_ (.cons ?_ (.cons ?_ .nil))))))))))))))))))))))))))))))))))))
    · intro ac wx hE hf hd
      have hB : Below w2.heap.size w2 wx := ⟨hE.os, hE.tape, hE.output, hE.size, hE.block⟩
      rw [if_pos (Inv.want0 rfl _)]
      have h2 : ac.eval (.tmp 2) = .pointer (some ⟨W.heap.size, 0, none⟩) := hf 2 (by kernel_rfl)
      clear hf hd
      obtain ⟨f0, f1, f2, f3, g0, g1, g2, g3⟩ := HALL.out wx hB
      refine Inv.val ((.agg #[.int .i64 k, .string ⟨t.toArray⟩, .int .i64 n, .slice A m c])) ?_ rfl rfl (Below.refl _ _)
      clear hE hB
      generalize ac.eval = ev at *
      simp [execOp, go_sem, *]
    · intro ac wx hE hf hd
      have hB : Below w2.heap.size w2 wx := ⟨hE.os, hE.tape, hE.output, hE.size, hE.block⟩
      rw [if_pos (Inv.want0 rfl _)]
      have h13 := hd 0 _ (by kernel_rfl) rfl
      change ac.eval (.tmp 13) = (.agg #[.int .i64 k, .string ⟨t.toArray⟩, .int .i64 n, .slice A m c]) at h13
      clear hf hd
      refine Inv.go (f := 12) (xs := #[(.agg #[.int .i64 k, .string ⟨t.toArray⟩, .int .i64 n, .slice A m c])]) ?_ rfl ?_
      · clear hE hB
        have hfn : ac.eval (.func 12) = .func (.func 12) #[] #[] := rfl
        generalize ac.eval = ev at *
        simp [execOp, go_sem, *]
      · refine (HPA.out wx hB).mono ?_
        rintro e w' ⟨rfl, hb⟩
        exact ⟨_, rfl, rfl, hb⟩
    · intro ac wx hE hf hd
      have hB : Below w2.heap.size w2 wx := ⟨hE.os, hE.tape, hE.output, hE.size, hE.block⟩
      rw [if_pos (Inv.want0 rfl _)]
      have h2 : ac.eval (.tmp 2) = .pointer (some ⟨W.heap.size, 0, none⟩) := hf 2 (by kernel_rfl)
      clear hf hd
      obtain ⟨f0, f1, f2, f3, g0, g1, g2, g3⟩ := HALL.out wx hB
      refine Inv.val ((.agg #[.int .i64 k, .string ⟨t.toArray⟩, .int .i64 n, .slice A m c])) ?_ rfl rfl (Below.refl _ _)
      clear hE hB
      generalize ac.eval = ev at *
      simp [execOp, go_sem, *]
    · intro ac wx hE hf hd
      have hB : Below w2.heap.size w2 wx := ⟨hE.os, hE.tape, hE.output, hE.size, hE.block⟩
      rw [if_pos (Inv.want0 rfl _)]
      have h15 := hd 2 _ (by kernel_rfl) rfl
      change ac.eval (.tmp 15) = (.agg #[.int .i64 k, .string ⟨t.toArray⟩, .int .i64 n, .slice A m c]) at h15
      clear hf hd
      refine Inv.go (f := 13) (xs := #[(.agg #[.int .i64 k, .string ⟨t.toArray⟩, .int .i64 n, .slice A m c])]) ?_ rfl ?_
      · clear hE hB
        have hfn : ac.eval (.func 13) = .func (.func 13) #[] #[] := rfl
        generalize ac.eval = ev at *
        simp [execOp, go_sem, *]
      · refine (HPB.out wx hB).mono ?_
        rintro e w' ⟨rfl, hb⟩
        exact ⟨_, rfl, rfl, hb⟩
    · intro ac wx hE hf hd
      have hB : Below w2.heap.size w2 wx := ⟨hE.os, hE.tape, hE.output, hE.size, hE.block⟩
      rw [if_pos (Inv.want0 rfl _)]
      have h14 := hd 1 _ (by kernel_rfl) rfl
      change ac.eval (.tmp 14) = (.string ⟨T.toArray⟩) at h14
      have h16 := hd 3 _ (by kernel_rfl) rfl
      change ac.eval (.tmp 16) = (.string ⟨T.toArray⟩) at h16
      clear hf hd
      obtain ⟨f0, f1, f2, f3, g0, g1, g2, g3⟩ := HALL.out wx hB
      refine Inv.val (.bool true) ?_ rfl rfl (Below.refl _ _)
      clear hE hB
      generalize ac.eval = ev at *
      simp [execOp, go_sem, *]
    · intro ac wx hE hf hd
      have hB : Below w2.heap.size w2 wx := ⟨hE.os, hE.tape, hE.output, hE.size, hE.block⟩
      rw [if_pos (Inv.want0 rfl _)]
      have h17 := hd 4 _ (by kernel_rfl) rfl
      change ac.eval (.tmp 17) = .bool true at h17
      clear hf hd
      obtain ⟨f0, f1, f2, f3, g0, g1, g2, g3⟩ := HALL.out wx hB
      refine Inv.val (.bool true) ?_ rfl rfl (Below.refl _ _)
      clear hE hB
      generalize ac.eval = ev at *
      simp [execOp, go_sem, *]
    · intro ac wx hE hf hd
      have hB : Below w2.heap.size w2 wx := ⟨hE.os, hE.tape, hE.output, hE.size, hE.block⟩
      have hg := hd 5 _ (by kernel_rfl) rfl
      change ac.eval (.tmp 18) = .bool true at hg
      rw [if_pos (Inv.want (j := 5) (b := true) (d := 18) rfl rfl rfl hg)]
      have h2 : ac.eval (.tmp 2) = .pointer (some ⟨W.heap.size, 0, none⟩) := hf 2 (by kernel_rfl)
      clear hf hd
      obtain ⟨f0, f1, f2, f3, g0, g1, g2, g3⟩ := HALL.out wx hB
      refine Inv.val ((.agg #[.int .i64 k, .string ⟨t.toArray⟩, .int .i64 n, .slice A m c])) ?_ rfl rfl (Below.refl _ _)
      clear hE hB
      generalize ac.eval = ev at *
      simp [execOp, go_sem, *]
    · intro ac wx hE hf hd
      have hB : Below w2.heap.size w2 wx := ⟨hE.os, hE.tape, hE.output, hE.size, hE.block⟩
      have hg := hd 5 _ (by kernel_rfl) rfl
      change ac.eval (.tmp 18) = .bool true at hg
      rw [if_pos (Inv.want (j := 5) (b := true) (d := 18) rfl rfl rfl hg)]
      have h19 := hd 6 _ (by kernel_rfl) rfl
      change ac.eval (.tmp 19) = (.agg #[.int .i64 k, .string ⟨t.toArray⟩, .int .i64 n, .slice A m c]) at h19
      clear hf hd
      refine Inv.go (f := 14) (xs := #[(.agg #[.int .i64 k, .string ⟨t.toArray⟩, .int .i64 n, .slice A m c])]) ?_ rfl ?_
      · clear hE hB
        have hfn : ac.eval (.func 14) = .func (.func 14) #[] #[] := rfl
        generalize ac.eval = ev at *
        simp [execOp, go_sem, *]
      · refine (HIA.out wx hB).mono ?_
        rintro e w' ⟨rfl, hb⟩
        exact ⟨_, rfl, rfl, hb⟩
    · intro ac wx hE hf hd
      have hB : Below w2.heap.size w2 wx := ⟨hE.os, hE.tape, hE.output, hE.size, hE.block⟩
      have hg := hd 5 _ (by kernel_rfl) rfl
      change ac.eval (.tmp 18) = .bool true at hg
      rw [if_pos (Inv.want (j := 5) (b := true) (d := 18) rfl rfl rfl hg)]
      have h2 : ac.eval (.tmp 2) = .pointer (some ⟨W.heap.size, 0, none⟩) := hf 2 (by kernel_rfl)
      clear hf hd
      obtain ⟨f0, f1, f2, f3, g0, g1, g2, g3⟩ := HALL.out wx hB
      refine Inv.val ((.agg #[.int .i64 k, .string ⟨t.toArray⟩, .int .i64 n, .slice A m c])) ?_ rfl rfl (Below.refl _ _)
      clear hE hB
      generalize ac.eval = ev at *
      simp [execOp, go_sem, *]
    · intro ac wx hE hf hd
      have hB : Below w2.heap.size w2 wx := ⟨hE.os, hE.tape, hE.output, hE.size, hE.block⟩
      have hg := hd 5 _ (by kernel_rfl) rfl
      change ac.eval (.tmp 18) = .bool true at hg
      rw [if_pos (Inv.want (j := 5) (b := true) (d := 18) rfl rfl rfl hg)]
      have h21 := hd 8 _ (by kernel_rfl) rfl
      change ac.eval (.tmp 21) = (.agg #[.int .i64 k, .string ⟨t.toArray⟩, .int .i64 n, .slice A m c]) at h21
      clear hf hd
      refine Inv.go (f := 15) (xs := #[(.agg #[.int .i64 k, .string ⟨t.toArray⟩, .int .i64 n, .slice A m c])]) ?_ rfl ?_
      · clear hE hB
        have hfn : ac.eval (.func 15) = .func (.func 15) #[] #[] := rfl
        generalize ac.eval = ev at *
        simp [execOp, go_sem, *]
      · refine (HIB.out wx hB).mono ?_
        rintro e w' ⟨rfl, hb⟩
        exact ⟨_, rfl, rfl, hb⟩
    · intro ac wx hE hf hd
      have hB : Below w2.heap.size w2 wx := ⟨hE.os, hE.tape, hE.output, hE.size, hE.block⟩
      have hg := hd 5 _ (by kernel_rfl) rfl
      change ac.eval (.tmp 18) = .bool true at hg
      rw [if_pos (Inv.want (j := 5) (b := true) (d := 18) rfl rfl rfl hg)]
      have h20 := hd 7 _ (by kernel_rfl) rfl
      change ac.eval (.tmp 20) = (.bool q) at h20
      have h22 := hd 9 _ (by kernel_rfl) rfl
      change ac.eval (.tmp 22) = (.bool q) at h22
      clear hf hd
      obtain ⟨f0, f1, f2, f3, g0, g1, g2, g3⟩ := HALL.out wx hB
      refine Inv.val (.bool true) ?_ rfl rfl (Below.refl _ _)
      clear hE hB
      generalize ac.eval = ev at *
      simp [execOp, go_sem, *]
    · intro ac wx hE hf hd
      have hB : Below w2.heap.size w2 wx := ⟨hE.os, hE.tape, hE.output, hE.size, hE.block⟩
      rw [if_pos (Inv.want0 rfl _)]
      have h18 := hd 5 _ (by kernel_rfl) rfl
      change ac.eval (.tmp 18) = .bool true at h18
      have h23 := hd 10 _ (by kernel_rfl) rfl
      change ac.eval (.tmp 23) = .bool true at h23
      clear hf hd
      obtain ⟨f0, f1, f2, f3, g0, g1, g2, g3⟩ := HALL.out wx hB
      refine Inv.val (.bool true) ?_ rfl rfl (Below.refl _ _)
      clear hE hB
      have hcst : ∀ v, ac.eval (.const v) = v := fun _ => rfl
      generalize ac.eval = ev at *
      simp [execOp, go_sem, *]
    · intro ac wx hE hf hd
      have hB : Below w2.heap.size w2 wx := ⟨hE.os, hE.tape, hE.output, hE.size, hE.block⟩
      rw [if_pos (Inv.want0 rfl _)]
      have h24 := hd 11 _ (by kernel_rfl) rfl
      change ac.eval (.tmp 24) = .bool true at h24
      clear hf hd
      obtain ⟨f0, f1, f2, f3, g0, g1, g2, g3⟩ := HALL.out wx hB
      refine Inv.val (.bool true) ?_ rfl rfl (Below.refl _ _)
      clear hE hB
      generalize ac.eval = ev at *
      simp [execOp, go_sem, *]
    · intro ac wx hE hf hd
      have hB : Below w2.heap.size w2 wx := ⟨hE.os, hE.tape, hE.output, hE.size, hE.block⟩
      have hg := hd 12 _ (by kernel_rfl) rfl
      change ac.eval (.tmp 25) = .bool true at hg
      rw [if_pos (Inv.want (j := 12) (b := true) (d := 25) rfl rfl rfl hg)]
      have h2 : ac.eval (.tmp 2) = .pointer (some ⟨W.heap.size, 0, none⟩) := hf 2 (by kernel_rfl)
      clear hf hd
      obtain ⟨f0, f1, f2, f3, g0, g1, g2, g3⟩ := HALL.out wx hB
      refine Inv.val ((.agg #[.int .i64 k, .string ⟨t.toArray⟩, .int .i64 n, .slice A m c])) ?_ rfl rfl (Below.refl _ _)
      clear hE hB
      generalize ac.eval = ev at *
      simp [execOp, go_sem, *]
    · intro ac wx hE hf hd
      have hB : Below w2.heap.size w2 wx := ⟨hE.os, hE.tape, hE.output, hE.size, hE.block⟩
      have hg := hd 12 _ (by kernel_rfl) rfl
      change ac.eval (.tmp 25) = .bool true at hg
      rw [if_pos (Inv.want (j := 12) (b := true) (d := 25) rfl rfl rfl hg)]
      have h26 := hd 13 _ (by kernel_rfl) rfl
      change ac.eval (.tmp 26) = (.agg #[.int .i64 k, .string ⟨t.toArray⟩, .int .i64 n, .slice A m c]) at h26
      clear hf hd
      refine Inv.go (f := 16) (xs := #[(.agg #[.int .i64 k, .string ⟨t.toArray⟩, .int .i64 n, .slice A m c])]) ?_ rfl ?_
      · clear hE hB
        have hfn : ac.eval (.func 16) = .func (.func 16) #[] #[] := rfl
        generalize ac.eval = ev at *
        simp [execOp, go_sem, *]
      · refine (HDA.out wx hB).mono ?_
        rintro e w' ⟨rfl, hb⟩
        exact ⟨_, rfl, rfl, hb⟩
    · intro ac wx hE hf hd
      have hB : Below w2.heap.size w2 wx := ⟨hE.os, hE.tape, hE.output, hE.size, hE.block⟩
      have hg := hd 12 _ (by kernel_rfl) rfl
      change ac.eval (.tmp 25) = .bool true at hg
      rw [if_pos (Inv.want (j := 12) (b := true) (d := 25) rfl rfl rfl hg)]
      have h2 : ac.eval (.tmp 2) = .pointer (some ⟨W.heap.size, 0, none⟩) := hf 2 (by kernel_rfl)
      clear hf hd
      obtain ⟨f0, f1, f2, f3, g0, g1, g2, g3⟩ := HALL.out wx hB
      refine Inv.val ((.agg #[.int .i64 k, .string ⟨t.toArray⟩, .int .i64 n, .slice A m c])) ?_ rfl rfl (Below.refl _ _)
      clear hE hB
      generalize ac.eval = ev at *
      simp [execOp, go_sem, *]
    · intro ac wx hE hf hd
      have hB : Below w2.heap.size w2 wx := ⟨hE.os, hE.tape, hE.output, hE.size, hE.block⟩
      have hg := hd 12 _ (by kernel_rfl) rfl
      change ac.eval (.tmp 25) = .bool true at hg
      rw [if_pos (Inv.want (j := 12) (b := true) (d := 25) rfl rfl rfl hg)]
      have h28 := hd 15 _ (by kernel_rfl) rfl
      change ac.eval (.tmp 28) = (.agg #[.int .i64 k, .string ⟨t.toArray⟩, .int .i64 n, .slice A m c]) at h28
      clear hf hd
      refine Inv.go (f := 17) (xs := #[(.agg #[.int .i64 k, .string ⟨t.toArray⟩, .int .i64 n, .slice A m c])]) ?_ rfl ?_
      · clear hE hB
        have hfn : ac.eval (.func 17) = .func (.func 17) #[] #[] := rfl
        generalize ac.eval = ev at *
        simp [execOp, go_sem, *]
      · refine (HDB.out wx hB).mono ?_
        rintro e w' ⟨rfl, hb⟩
        exact ⟨_, rfl, rfl, hb⟩
    · intro ac wx hE hf hd
      have hB : Below w2.heap.size w2 wx := ⟨hE.os, hE.tape, hE.output, hE.size, hE.block⟩
      have hg := hd 12 _ (by kernel_rfl) rfl
      change ac.eval (.tmp 25) = .bool true at hg
      rw [if_pos (Inv.want (j := 12) (b := true) (d := 25) rfl rfl rfl hg)]
      have h27 := hd 14 _ (by kernel_rfl) rfl
      change ac.eval (.tmp 27) = (.int .i64 D) at h27
      have h29 := hd 16 _ (by kernel_rfl) rfl
      change ac.eval (.tmp 29) = (.int .i64 D) at h29
      clear hf hd
      obtain ⟨f0, f1, f2, f3, g0, g1, g2, g3⟩ := HALL.out wx hB
      refine Inv.val (.bool true) ?_ rfl rfl (Below.refl _ _)
      clear hE hB
      generalize ac.eval = ev at *
      simp [execOp, go_sem, *]
    · intro ac wx hE hf hd
      have hB : Below w2.heap.size w2 wx := ⟨hE.os, hE.tape, hE.output, hE.size, hE.block⟩
      rw [if_pos (Inv.want0 rfl _)]
      have h25 := hd 12 _ (by kernel_rfl) rfl
      change ac.eval (.tmp 25) = .bool true at h25
      have h30 := hd 17 _ (by kernel_rfl) rfl
      change ac.eval (.tmp 30) = .bool true at h30
      clear hf hd
      obtain ⟨f0, f1, f2, f3, g0, g1, g2, g3⟩ := HALL.out wx hB
      refine Inv.val (.bool true) ?_ rfl rfl (Below.refl _ _)
      clear hE hB
      have hcst : ∀ v, ac.eval (.const v) = v := fun _ => rfl
      generalize ac.eval = ev at *
      simp [execOp, go_sem, *]
    · intro ac wx hE hf hd
      have hB : Below w2.heap.size w2 wx := ⟨hE.os, hE.tape, hE.output, hE.size, hE.block⟩
      rw [if_pos (Inv.want0 rfl _)]
      have h31 := hd 18 _ (by kernel_rfl) rfl
      change ac.eval (.tmp 31) = .bool true at h31
      clear hf hd
      obtain ⟨f0, f1, f2, f3, g0, g1, g2, g3⟩ := HALL.out wx hB
      refine Inv.val (.bool true) ?_ rfl rfl (Below.refl _ _)
      clear hE hB
      generalize ac.eval = ev at *
      simp [execOp, go_sem, *]
    · intro ac wx hE hf hd
      have hB : Below w2.heap.size w2 wx := ⟨hE.os, hE.tape, hE.output, hE.size, hE.block⟩
      have hg := hd 19 _ (by kernel_rfl) rfl
      change ac.eval (.tmp 32) = .bool true at hg
      rw [if_pos (Inv.want (j := 19) (b := true) (d := 32) rfl rfl rfl hg)]
      have h2 : ac.eval (.tmp 2) = .pointer (some ⟨W.heap.size, 0, none⟩) := hf 2 (by kernel_rfl)
      clear hf hd
      obtain ⟨f0, f1, f2, f3, g0, g1, g2, g3⟩ := HALL.out wx hB
      refine Inv.val ((.agg #[.int .i64 k, .string ⟨t.toArray⟩, .int .i64 n, .slice A m c])) ?_ rfl rfl (Below.refl _ _)
      clear hE hB
      generalize ac.eval = ev at *
      simp [execOp, go_sem, *]
    · intro ac wx hE hf hd
      have hB : Below w2.heap.size w2 wx := ⟨hE.os, hE.tape, hE.output, hE.size, hE.block⟩
      have hg := hd 19 _ (by kernel_rfl) rfl
      change ac.eval (.tmp 32) = .bool true at hg
      rw [if_pos (Inv.want (j := 19) (b := true) (d := 32) rfl rfl rfl hg)]
      have h3 : ac.eval (.tmp 3) = .pointer (some ⟨W.heap.size + 1, 0, none⟩) := hf 3 (by kernel_rfl)
      clear hf hd
      obtain ⟨f0, f1, f2, f3, g0, g1, g2, g3⟩ := HALL.out wx hB
      refine Inv.val ((.agg #[.int .i64 k2, .string ⟨t2.toArray⟩, .int .i64 n2, .slice A2 m2 c2])) ?_ rfl rfl (Below.refl _ _)
      clear hE hB
      generalize ac.eval = ev at *
      simp [execOp, go_sem, *]
    · intro ac wx hE hf hd
      have hB : Below w2.heap.size w2 wx := ⟨hE.os, hE.tape, hE.output, hE.size, hE.block⟩
      have hg := hd 19 _ (by kernel_rfl) rfl
      change ac.eval (.tmp 32) = .bool true at hg
      rw [if_pos (Inv.want (j := 19) (b := true) (d := 32) rfl rfl rfl hg)]
      have h33 := hd 20 _ (by kernel_rfl) rfl
      change ac.eval (.tmp 33) = (.agg #[.int .i64 k, .string ⟨t.toArray⟩, .int .i64 n, .slice A m c]) at h33
      have h34 := hd 21 _ (by kernel_rfl) rfl
      change ac.eval (.tmp 34) = (.agg #[.int .i64 k2, .string ⟨t2.toArray⟩, .int .i64 n2, .slice A2 m2 c2]) at h34
      clear hf hd
      refine Inv.go (f := 18) (xs := #[(.agg #[.int .i64 k, .string ⟨t.toArray⟩, .int .i64 n, .slice A m c]), (.agg #[.int .i64 k2, .string ⟨t2.toArray⟩, .int .i64 n2, .slice A2 m2 c2])]) ?_ rfl ?_
      · clear hE hB
        have hfn : ac.eval (.func 18) = .func (.func 18) #[] #[] := rfl
        generalize ac.eval = ev at *
        simp [execOp, go_sem, *]
      · refine (HSA.out wx hB).mono ?_
        rintro e w' ⟨rfl, hb⟩
        exact ⟨_, rfl, rfl, hb⟩
    · intro ac wx hE hf hd
      have hB : Below w2.heap.size w2 wx := ⟨hE.os, hE.tape, hE.output, hE.size, hE.block⟩
      have hg := hd 19 _ (by kernel_rfl) rfl
      change ac.eval (.tmp 32) = .bool true at hg
      rw [if_pos (Inv.want (j := 19) (b := true) (d := 32) rfl rfl rfl hg)]
      have h2 : ac.eval (.tmp 2) = .pointer (some ⟨W.heap.size, 0, none⟩) := hf 2 (by kernel_rfl)
      clear hf hd
      obtain ⟨f0, f1, f2, f3, g0, g1, g2, g3⟩ := HALL.out wx hB
      refine Inv.val ((.agg #[.int .i64 k, .string ⟨t.toArray⟩, .int .i64 n, .slice A m c])) ?_ rfl rfl (Below.refl _ _)
      clear hE hB
      generalize ac.eval = ev at *
      simp [execOp, go_sem, *]
    · intro ac wx hE hf hd
      have hB : Below w2.heap.size w2 wx := ⟨hE.os, hE.tape, hE.output, hE.size, hE.block⟩
      have hg := hd 19 _ (by kernel_rfl) rfl
      change ac.eval (.tmp 32) = .bool true at hg
      rw [if_pos (Inv.want (j := 19) (b := true) (d := 32) rfl rfl rfl hg)]
      have h3 : ac.eval (.tmp 3) = .pointer (some ⟨W.heap.size + 1, 0, none⟩) := hf 3 (by kernel_rfl)
      clear hf hd
      obtain ⟨f0, f1, f2, f3, g0, g1, g2, g3⟩ := HALL.out wx hB
      refine Inv.val ((.agg #[.int .i64 k2, .string ⟨t2.toArray⟩, .int .i64 n2, .slice A2 m2 c2])) ?_ rfl rfl (Below.refl _ _)
      clear hE hB
      generalize ac.eval = ev at *
      simp [execOp, go_sem, *]
    · intro ac wx hE hf hd
      have hB : Below w2.heap.size w2 wx := ⟨hE.os, hE.tape, hE.output, hE.size, hE.block⟩
      have hg := hd 19 _ (by kernel_rfl) rfl
      change ac.eval (.tmp 32) = .bool true at hg
      rw [if_pos (Inv.want (j := 19) (b := true) (d := 32) rfl rfl rfl hg)]
      have h36 := hd 23 _ (by kernel_rfl) rfl
      change ac.eval (.tmp 36) = (.agg #[.int .i64 k, .string ⟨t.toArray⟩, .int .i64 n, .slice A m c]) at h36
      have h37 := hd 24 _ (by kernel_rfl) rfl
      change ac.eval (.tmp 37) = (.agg #[.int .i64 k2, .string ⟨t2.toArray⟩, .int .i64 n2, .slice A2 m2 c2]) at h37
      clear hf hd
      refine Inv.go (f := 9) (xs := #[(.agg #[.int .i64 k, .string ⟨t.toArray⟩, .int .i64 n, .slice A m c]), (.agg #[.int .i64 k2, .string ⟨t2.toArray⟩, .int .i64 n2, .slice A2 m2 c2])]) ?_ rfl ?_
      · clear hE hB
        have hfn : ac.eval (.func 9) = .func (.func 9) #[] #[] := rfl
        generalize ac.eval = ev at *
        simp [execOp, go_sem, *]
      · refine (HSB.out wx hB).mono ?_
        rintro e w' ⟨rfl, hb⟩
        exact ⟨_, rfl, rfl, hb⟩
    · intro ac wx hE hf hd
      have hB : Below w2.heap.size w2 wx := ⟨hE.os, hE.tape, hE.output, hE.size, hE.block⟩
      have hg := hd 19 _ (by kernel_rfl) rfl
      change ac.eval (.tmp 32) = .bool true at hg
      rw [if_pos (Inv.want (j := 19) (b := true) (d := 32) rfl rfl rfl hg)]
      have h35 := hd 22 _ (by kernel_rfl) rfl
      change ac.eval (.tmp 35) = (.bool r) at h35
      have h38 := hd 25 _ (by kernel_rfl) rfl
      change ac.eval (.tmp 38) = (.bool r) at h38
      clear hf hd
      obtain ⟨f0, f1, f2, f3, g0, g1, g2, g3⟩ := HALL.out wx hB
      refine Inv.val (.bool true) ?_ rfl rfl (Below.refl _ _)
      clear hE hB
      generalize ac.eval = ev at *
      simp [execOp, go_sem, *]
    · intro ac wx hE hf hd
      have hB : Below w2.heap.size w2 wx := ⟨hE.os, hE.tape, hE.output, hE.size, hE.block⟩
      rw [if_pos (Inv.want0 rfl _)]
      have h32 := hd 19 _ (by kernel_rfl) rfl
      change ac.eval (.tmp 32) = .bool true at h32
      have h39 := hd 26 _ (by kernel_rfl) rfl
      change ac.eval (.tmp 39) = .bool true at h39
      clear hf hd
      obtain ⟨f0, f1, f2, f3, g0, g1, g2, g3⟩ := HALL.out wx hB
      refine Inv.val (.bool true) ?_ rfl rfl (Below.refl _ _)
      clear hE hB
      have hcst : ∀ v, ac.eval (.const v) = v := fun _ => rfl
      generalize ac.eval = ev at *
      simp [execOp, go_sem, *]
    · intro ac wx hE hf hd
      have hB : Below w2.heap.size w2 wx := ⟨hE.os, hE.tape, hE.output, hE.size, hE.block⟩
      rw [if_pos (Inv.want0 rfl _)]
      have h40 := hd 27 _ (by kernel_rfl) rfl
      change ac.eval (.tmp 40) = .bool true at h40
      clear hf hd
      obtain ⟨f0, f1, f2, f3, g0, g1, g2, g3⟩ := HALL.out wx hB
      refine Inv.val (.bool true) ?_ rfl rfl (Below.refl _ _)
      clear hE hB
      generalize ac.eval = ev at *
      simp [execOp, go_sem, *]
    · intro ac wx hE hf hd
      have hB : Below w2.heap.size w2 wx := ⟨hE.os, hE.tape, hE.output, hE.size, hE.block⟩
      have hg := hd 28 _ (by kernel_rfl) rfl
      change ac.eval (.tmp 41) = .bool true at hg
      rw [if_pos (Inv.want (j := 28) (b := true) (d := 41) rfl rfl rfl hg)]
      have h2 : ac.eval (.tmp 2) = .pointer (some ⟨W.heap.size, 0, none⟩) := hf 2 (by kernel_rfl)
      clear hf hd
      obtain ⟨f0, f1, f2, f3, g0, g1, g2, g3⟩ := HALL.out wx hB
      refine Inv.val ((.agg #[.int .i64 k, .string ⟨t.toArray⟩, .int .i64 n, .slice A m c])) ?_ rfl rfl (Below.refl _ _)
      clear hE hB
      generalize ac.eval = ev at *
      simp [execOp, go_sem, *]
    · intro ac wx hE hf hd
      have hB : Below w2.heap.size w2 wx := ⟨hE.os, hE.tape, hE.output, hE.size, hE.block⟩
      have hg := hd 28 _ (by kernel_rfl) rfl
      change ac.eval (.tmp 41) = .bool true at hg
      rw [if_pos (Inv.want (j := 28) (b := true) (d := 41) rfl rfl rfl hg)]
      have h2 : ac.eval (.tmp 2) = .pointer (some ⟨W.heap.size, 0, none⟩) := hf 2 (by kernel_rfl)
      clear hf hd
      obtain ⟨f0, f1, f2, f3, g0, g1, g2, g3⟩ := HALL.out wx hB
      refine Inv.val ((.agg #[.int .i64 k, .string ⟨t.toArray⟩, .int .i64 n, .slice A m c])) ?_ rfl rfl (Below.refl _ _)
      clear hE hB
      generalize ac.eval = ev at *
      simp [execOp, go_sem, *]
    · intro ac wx hE hf hd
      have hB : Below w2.heap.size w2 wx := ⟨hE.os, hE.tape, hE.output, hE.size, hE.block⟩
      have hg := hd 28 _ (by kernel_rfl) rfl
      change ac.eval (.tmp 41) = .bool true at hg
      rw [if_pos (Inv.want (j := 28) (b := true) (d := 41) rfl rfl rfl hg)]
      have h42 := hd 29 _ (by kernel_rfl) rfl
      change ac.eval (.tmp 42) = (.agg #[.int .i64 k, .string ⟨t.toArray⟩, .int .i64 n, .slice A m c]) at h42
      have h43 := hd 30 _ (by kernel_rfl) rfl
      change ac.eval (.tmp 43) = (.agg #[.int .i64 k, .string ⟨t.toArray⟩, .int .i64 n, .slice A m c]) at h43
      clear hf hd
      refine Inv.go (f := 18) (xs := #[(.agg #[.int .i64 k, .string ⟨t.toArray⟩, .int .i64 n, .slice A m c]), (.agg #[.int .i64 k, .string ⟨t.toArray⟩, .int .i64 n, .slice A m c])]) ?_ rfl ?_
      · clear hE hB
        have hfn : ac.eval (.func 18) = .func (.func 18) #[] #[] := rfl
        generalize ac.eval = ev at *
        simp [execOp, go_sem, *]
      · refine (HSS.out wx hB).mono ?_
        rintro e w' ⟨rfl, hb⟩
        exact ⟨_, rfl, rfl, hb⟩
    · intro ac wx hE hf hd
      have hB : Below w2.heap.size w2 wx := ⟨hE.os, hE.tape, hE.output, hE.size, hE.block⟩
      rw [if_pos (Inv.want0 rfl _)]
      have h41 := hd 28 _ (by kernel_rfl) rfl
      change ac.eval (.tmp 41) = .bool true at h41
      have h44 := hd 31 _ (by kernel_rfl) rfl
      change ac.eval (.tmp 44) = .bool true at h44
      clear hf hd
      obtain ⟨f0, f1, f2, f3, g0, g1, g2, g3⟩ := HALL.out wx hB
      refine Inv.val (.bool true) ?_ rfl rfl (Below.refl _ _)
      clear hE hB
      have hcst : ∀ v, ac.eval (.const v) = v := fun _ => rfl
      generalize ac.eval = ev at *
      simp [execOp, go_sem, *]
    · intro ac wx hE hf hd
      have hB : Below w2.heap.size w2 wx := ⟨hE.os, hE.tape, hE.output, hE.size, hE.block⟩
      rw [if_pos (Inv.want0 rfl _)]
      have h45 := hd 32 _ (by kernel_rfl) rfl
      change ac.eval (.tmp 45) = .bool true at h45
      clear hf hd
      obtain ⟨f0, f1, f2, f3, g0, g1, g2, g3⟩ := HALL.out wx hB
      refine Inv.val (.bool true) ?_ rfl rfl (Below.refl _ _)
      clear hE hB
      generalize ac.eval = ev at *
      simp [execOp, go_sem, *]
    · intro ac wx hE hf hd
      have hB : Below w2.heap.size w2 wx := ⟨hE.os, hE.tape, hE.output, hE.size, hE.block⟩
      have hg := hd 33 _ (by kernel_rfl) rfl
      change ac.eval (.tmp 46) = .bool true at hg
      rw [if_pos (Inv.want (j := 33) (b := true) (d := 46) rfl rfl rfl hg)]
      clear hf hd
      refine Inv.go (f := 10) (xs := #[]) ?_ rfl ?_
      · clear hE hB
        have hfn : ac.eval (.func 10) = .func (.func 10) #[] #[] := rfl
        generalize ac.eval = ev at *
        simp [execOp, go_sem, *]
      · refine (HKN.out wx hB).mono ?_
        rintro e w' ⟨rfl, hb⟩
        exact ⟨_, rfl, rfl, hb⟩
    · intro ac wx hE hf hd
      have hB : Below w2.heap.size w2 wx := ⟨hE.os, hE.tape, hE.output, hE.size, hE.block⟩
      rw [if_pos (Inv.want0 rfl _)]
      have h46 := hd 33 _ (by kernel_rfl) rfl
      change ac.eval (.tmp 46) = .bool true at h46
      have h47 := hd 34 _ (by kernel_rfl) rfl
      change ac.eval (.tmp 47) = .bool true at h47
      clear hf hd
      obtain ⟨f0, f1, f2, f3, g0, g1, g2, g3⟩ := HALL.out wx hB
      refine Inv.val (.bool true) ?_ rfl rfl (Below.refl _ _)
      clear hE hB
      have hcst : ∀ v, ac.eval (.const v) = v := fun _ => rfl
      generalize ac.eval = ev at *
      simp [execOp, go_sem, *]
    · intro ac wx hE hf hd
      have hB : Below w2.heap.size w2 wx := ⟨hE.os, hE.tape, hE.output, hE.size, hE.block⟩
      rw [if_pos (Inv.want0 rfl _)]
      have h48 := hd 35 _ (by kernel_rfl) rfl
      change ac.eval (.tmp 48) = .bool true at h48
      clear hf hd
      obtain ⟨f0, f1, f2, f3, g0, g1, g2, g3⟩ := HALL.out wx hB
      refine Inv.val (.bool true) ?_ rfl rfl (Below.refl _ _)
      clear hE hB
      generalize ac.eval = ev at *
      simp [execOp, go_sem, *]
  case fin =>
    intro ac wx hE ha hall
    have hB : Below w2.heap.size w2 wx := ⟨hE.os, hE.tape, hE.output, hE.size, hE.block⟩
    have h13 := hall 0 _ rfl
    change ac.eval (.tmp 13) = (.agg #[.int .i64 k, .string ⟨t.toArray⟩, .int .i64 n, .slice A m c]) at h13
    have h14 := hall 1 _ rfl
    change ac.eval (.tmp 14) = (.string ⟨T.toArray⟩) at h14
    have h15 := hall 2 _ rfl
    change ac.eval (.tmp 15) = (.agg #[.int .i64 k, .string ⟨t.toArray⟩, .int .i64 n, .slice A m c]) at h15
    have h16 := hall 3 _ rfl
    change ac.eval (.tmp 16) = (.string ⟨T.toArray⟩) at h16
    have h17 := hall 4 _ rfl
    change ac.eval (.tmp 17) = .bool true at h17
    have h18 := hall 5 _ rfl
    change ac.eval (.tmp 18) = .bool true at h18
    have h19 := hall 6 _ rfl
    change ac.eval (.tmp 19) = (.agg #[.int .i64 k, .string ⟨t.toArray⟩, .int .i64 n, .slice A m c]) at h19
    have h20 := hall 7 _ rfl
    change ac.eval (.tmp 20) = (.bool q) at h20
    have h21 := hall 8 _ rfl
    change ac.eval (.tmp 21) = (.agg #[.int .i64 k, .string ⟨t.toArray⟩, .int .i64 n, .slice A m c]) at h21
    have h22 := hall 9 _ rfl
    change ac.eval (.tmp 22) = (.bool q) at h22
    have h23 := hall 10 _ rfl
    change ac.eval (.tmp 23) = .bool true at h23
    have h24 := hall 11 _ rfl
    change ac.eval (.tmp 24) = .bool true at h24
    have h25 := hall 12 _ rfl
    change ac.eval (.tmp 25) = .bool true at h25
    have h26 := hall 13 _ rfl
    change ac.eval (.tmp 26) = (.agg #[.int .i64 k, .string ⟨t.toArray⟩, .int .i64 n, .slice A m c]) at h26
    have h27 := hall 14 _ rfl
    change ac.eval (.tmp 27) = (.int .i64 D) at h27
    have h28 := hall 15 _ rfl
    change ac.eval (.tmp 28) = (.agg #[.int .i64 k, .string ⟨t.toArray⟩, .int .i64 n, .slice A m c]) at h28
    have h29 := hall 16 _ rfl
    change ac.eval (.tmp 29) = (.int .i64 D) at h29
    have h30 := hall 17 _ rfl
    change ac.eval (.tmp 30) = .bool true at h30
    have h31 := hall 18 _ rfl
    change ac.eval (.tmp 31) = .bool true at h31
    have h32 := hall 19 _ rfl
    change ac.eval (.tmp 32) = .bool true at h32
    have h33 := hall 20 _ rfl
    change ac.eval (.tmp 33) = (.agg #[.int .i64 k, .string ⟨t.toArray⟩, .int .i64 n, .slice A m c]) at h33
    have h34 := hall 21 _ rfl
    change ac.eval (.tmp 34) = (.agg #[.int .i64 k2, .string ⟨t2.toArray⟩, .int .i64 n2, .slice A2 m2 c2]) at h34
    have h35 := hall 22 _ rfl
    change ac.eval (.tmp 35) = (.bool r) at h35
    have h36 := hall 23 _ rfl
    change ac.eval (.tmp 36) = (.agg #[.int .i64 k, .string ⟨t.toArray⟩, .int .i64 n, .slice A m c]) at h36
    have h37 := hall 24 _ rfl
    change ac.eval (.tmp 37) = (.agg #[.int .i64 k2, .string ⟨t2.toArray⟩, .int .i64 n2, .slice A2 m2 c2]) at h37
    have h38 := hall 25 _ rfl
    change ac.eval (.tmp 38) = (.bool r) at h38
    have h39 := hall 26 _ rfl
    change ac.eval (.tmp 39) = .bool true at h39
    have h40 := hall 27 _ rfl
    change ac.eval (.tmp 40) = .bool true at h40
    have h41 := hall 28 _ rfl
    change ac.eval (.tmp 41) = .bool true at h41
    have h42 := hall 29 _ rfl
    change ac.eval (.tmp 42) = (.agg #[.int .i64 k, .string ⟨t.toArray⟩, .int .i64 n, .slice A m c]) at h42
    have h43 := hall 30 _ rfl
    change ac.eval (.tmp 43) = (.agg #[.int .i64 k, .string ⟨t.toArray⟩, .int .i64 n, .slice A m c]) at h43
    have h44 := hall 31 _ rfl
    change ac.eval (.tmp 44) = .bool true at h44
    have h45 := hall 32 _ rfl
    change ac.eval (.tmp 45) = .bool true at h45
    have h46 := hall 33 _ rfl
    change ac.eval (.tmp 46) = .bool true at h46
    have h47 := hall 34 _ rfl
    change ac.eval (.tmp 47) = .bool true at h47
    have h48 := hall 35 _ rfl
    change ac.eval (.tmp 48) = .bool true at h48
    have h4 := hall 36 _ rfl
    change ac.eval (.tmp 4) = .bool true at h4
    simp only [List.foldl, Inv.slot, Act.put] at ha
    change ac.tmps.getD 13 undef = _ at h13
    change ac.tmps.getD 14 undef = _ at h14
    change ac.tmps.getD 15 undef = _ at h15
    change ac.tmps.getD 16 undef = _ at h16
    change ac.tmps.getD 17 undef = _ at h17
    change ac.tmps.getD 18 undef = _ at h18
    change ac.tmps.getD 19 undef = _ at h19
    change ac.tmps.getD 20 undef = _ at h20
    change ac.tmps.getD 21 undef = _ at h21
    change ac.tmps.getD 22 undef = _ at h22
    change ac.tmps.getD 23 undef = _ at h23
    change ac.tmps.getD 24 undef = _ at h24
    change ac.tmps.getD 25 undef = _ at h25
    change ac.tmps.getD 26 undef = _ at h26
    change ac.tmps.getD 27 undef = _ at h27
    change ac.tmps.getD 28 undef = _ at h28
    change ac.tmps.getD 29 undef = _ at h29
    change ac.tmps.getD 30 undef = _ at h30
    change ac.tmps.getD 31 undef = _ at h31
    change ac.tmps.getD 32 undef = _ at h32
    change ac.tmps.getD 33 undef = _ at h33
    change ac.tmps.getD 34 undef = _ at h34
    change ac.tmps.getD 35 undef = _ at h35
    change ac.tmps.getD 36 undef = _ at h36
    change ac.tmps.getD 37 undef = _ at h37
    change ac.tmps.getD 38 undef = _ at h38
    change ac.tmps.getD 39 undef = _ at h39
    change ac.tmps.getD 40 undef = _ at h40
    change ac.tmps.getD 41 undef = _ at h41
    change ac.tmps.getD 42 undef = _ at h42
    change ac.tmps.getD 43 undef = _ at h43
    change ac.tmps.getD 44 undef = _ at h44
    change ac.tmps.getD 45 undef = _ at h45
    change ac.tmps.getD 46 undef = _ at h46
    change ac.tmps.getD 47 undef = _ at h47
    change ac.tmps.getD 48 undef = _ at h48
    change ac.tmps.getD 4 undef = _ at h4
    simp only [h13, h14, h15, h16, h17, h18, h19, h20, h21, h22, h23, h24, h25, h26, h27, h28, h29, h30, h31, h32, h33, h34, h35, h36, h37, h38, h39, h40, h41, h42, h43, h44, h45, h46, h47, h48, h4, List.setIfInBounds_toArray, List.set_cons_zero, List.set_cons_succ] at ha
    clear h13 h14 h15 h16 h17 h18 h19 h20 h21 h22 h23 h24 h25 h26 h27 h28 h29 h30 h31 h32 h33 h34 h35 h36 h37 h38 h39 h40 h41 h42 h43 h44 h45 h46 h47 h48 h4 hall hE
    subst ha
    have HBX := Lib.hid hB
    clear hB
    go_wp2_with fail
    go_ret
    exact ⟨rfl, HB2.out.trans (HBX.out.mono HB2.out.size)⟩
end Go.Proofs.YtojmcndiooiehaaGreatDoor
