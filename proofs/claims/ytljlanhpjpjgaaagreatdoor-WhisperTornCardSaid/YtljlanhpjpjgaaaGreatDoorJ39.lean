/- WqTo -/
import Derived.Test.YtljlanhpjpjgaaaGreatDoorJ1
import Derived.Test.YtljlanhpjpjgaaaGreatDoorJ37
import Derived.Test.YtljlanhpjpjgaaaGreatDoorJ21
import Derived.Test.YtljlanhpjpjgaaaGreatDoorJ38
namespace Go.Proofs.YtljlanhpjpjgaaaGreatDoor
set_option maxRecDepth 100000
set_option maxHeartbeats 8000000
section
open Go.RowKit Go.Sort
open Fx (Vl)
open Me
open Wp
theorem together_any {w : World} {V : Nat → Prop} {c fs : Nat} {S : Vf.Sv} {n : List UInt8} {h : Hd} {B : List UInt8} {A : Option Addr} {cap : Nat} (ro : PO w V fs c S) (f : Fits S.now n h B) (hr : Row w A h.l cap) (ix jx : Nat) (hij : jx = ix + 1) (hi : jx < h.l.length) (t : Int) (ht0 : 0 ≤ t) (ht : t ≤ 4294967295) :
 Calls Tryz.prog 75 #[fileV h A cap fs n, .int .i64 (jx : Int), .int .i64 t] w fun e w' => e = .returned (.agg #[.bool (Ag.put h.ag h.xf (vals S.now n h ix t (many h ix))).ok, .int .i64 (Ag.put h.ag h.xf (vals S.now n h ix t (many h ix))).n]) ∧ Below w.heap.size w w' := by
 obtain ⟨⟨n1, n2⟩, n3, n4⟩ := Hd.nums f.val ix (by omega)
 obtain ⟨⟨j1, j2⟩, j3, j4⟩ := Hd.nums f.val jx hi
 obtain ⟨hM0, hM1⟩ := many_bd f.val ix (by omega)
 rw [← hij] at hM0
 have hdv := (step_dvd f.val (i := ix) (by omega)).2.1
 have hcb := cnt_bd f.val ix (by omega)
 have hgb := Sl.al_bd j1 ht0
 have hal := al_fine f.val (i := ix) (by omega) ht0
 rw [← hij] at hdv hal
 obtain ⟨C, hC⟩ : ∃ C : Nat, h.cnt ix = (C : Int) := ⟨(h.cnt ix).toNat, by omega⟩
 obtain ⟨P, hP⟩ : ∃ P : Nat, Sl.pl (h.step ix) (h.cnt ix) (Sl.al t (h.step jx)) = (P : Int) := ⟨(Sl.pl (h.step ix) (h.cnt ix) (Sl.al t (h.step jx))).toNat, by have := Sl.pl_bd n1 n3 hgb.1; omega⟩
 have HVE : Hid (vals S.now n h ix t (many h ix) = held (h.step ix) (Sl.al t (h.step jx)) (round B (h.offs (ix : Int)).toNat C P (many h ix)) (many h ix)) := Lib.hid (by
  have h1 := f.vals_eq (i := ix) (by omega) ht0 hC (P := P) (by rw [← hij]; exact hP)
  rw [← hij] at h1
  exact h1)
 have HVL : Hid ((vals S.now n h ix t (many h ix)).length = many h ix) := Lib.hid (vals_len _ _ _ _ _ _)
 have HVA : Hid (∀ W, Below w.heap.size w W → Calls Tryz.prog 88 #[ringV h ix A cap fs n, .int .i64 (Sl.al t (h.step jx)), .int .i64 (many h ix : Int)] W fun e w' => ∃ v, e = .returned v ∧ OwnV w.heap.size w' v (vals S.now n h ix t (many h ix)) ∧ Below W.heap.size W w') := Lib.hid fun W hb => by
  rw [HVE.out]
  refine (values_any (ro.below hb) f ix (by omega) _ hgb.1 (by omega) (many h ix) C P hC hP (by omega)).mono fun e w' ⟨v, h1, h2, h3⟩ => ⟨v, h1, ?_, h3⟩
  refine ⟨h2.1, ?_⟩
  rcases h2.2 with h | ⟨g, cap, cur, e, hb', rest⟩
  ·exact .inl h
  ·exact .inr ⟨g, cap, cur, e, Nat.le_trans hb.size hb', rest⟩
 have HPU : Hid (∀ W A' c', Sl W (.slice A' (many h ix) c') (vals S.now n h ix t (many h ix)) → Calls Tryz.prog 106 #[.int .i64 h.ag, .int .i64 h.xf, .slice A' (many h ix) c'] W fun e w' => e = .returned (.agg #[.bool (Ag.put h.ag h.xf (vals S.now n h ix t (many h ix))).ok, .int .i64 (Ag.put h.ag h.xf (vals S.now n h ix t (many h ix))).n]) ∧ Below W.heap.size W w') := Lib.hid fun W A' c' hs => put_v _ _ _ (by rw [HVL.out]; omega) _ W hs
 have HRI : Hid (∀ W, Below w.heap.size w W → Calls Tryz.prog 42 #[fileV h A cap fs n, .int .i64 (ix : Int)] W fun e w' => e = .returned (ringV h ix A cap fs n) ∧ Below W.heap.size W w') := Lib.hid fun W hb => ring_any (hr.below hb) f.val ix (by omega)
 have HRJ : Hid (∀ W, Below w.heap.size w W → Calls Tryz.prog 42 #[fileV h A cap fs n, .int .i64 (jx : Int)] W fun e w' => e = .returned (ringV h jx A cap fs n) ∧ Below W.heap.size W w') := Lib.hid fun W hb => ring_any (hr.below hb) f.val jx hi
 have HAL : Hid (∀ W, Calls Tryz.prog 87 #[.int .i64 t, .int .i64 (h.step jx)] W fun e w' => e = .returned (.int .i64 (Sl.al t (h.step jx))) ∧ W = w') := Lib.hid fun W => align_any t _ (by omega) W
 clear HVE hP hC hal hdv
 unfold fileV ringV at *
 generalize Ag.put h.ag h.xf (vals S.now n h ix t (many h ix)) = PV at *
 obtain ⟨po, pn⟩ := PV
 generalize vals S.now n h ix t (many h ix) = vs at *
 generalize many h ix = M at *
 generalize Sl.al t (h.step jx) = g at *
 generalize h.step ix = s at *
 generalize h.cnt ix = k at *
 generalize h.offs (ix : Int) = oi at *
 generalize h.step jx = sj at *
 generalize h.cnt jx = kj at *
 generalize h.offs (jx : Int) = oj at *
 have hjI : (jx : Int) - 1 = (ix : Int) := by omega
 have hwi : IntKind.i64.wrap (ix : Int) = (ix : Int) := IntWalk.i64_in _ (by have := (Hd.len f.val).2; omega)
 have hwM : IntKind.i64.wrap (M : Int) = (M : Int) := IntWalk.i64_in _ (by omega)
 have hs0 : ¬ s = 0 := by omega
 have hs1 : 0 < s := by omega
 have hsj0 : 0 ≤ sj := by omega
 have hM2 : sj.tdiv s = (M : Int) := by rw [Int.tdiv_eq_ediv_of_nonneg hsj0]; exact hM0
 clear hi f ro hr hij
 generalize h.l.length = hln at *
 generalize h.ag = ag at *
 generalize h.xf = xf at *
 generalize (⟨n.toArray⟩ : ByteArray) = nb at *
 obtain ⟨X, hXe⟩ : ∃ X, X = (w.alloc (.cells #[.int .i64 ag, .int .i64 xf, .slice A hln cap, .pointer (some ⟨fs, 0, none⟩), .string nb] 84)).alloc (.cells #[.bool false, .int .i64 0] 110) := ⟨_, rfl⟩
 have HX : Hid (Below w.heap.size w X) := Lib.hid (by rw [hXe]; exact ((Below.refl _ _).alloc (Nat.le_refl _) _).alloc (by simp) _)
 have HXS : Hid (X.heap.size = w.heap.size + 2) := Lib.hid (by rw [hXe]; simp)
 obtain ⟨p, hp⟩ : ∃ p, p = w.heap.size := ⟨_, rfl⟩
 obtain ⟨q, hq⟩ : ∃ q, q = w.heap.size + 1 := ⟨_, rfl⟩
 have HPQ : Hid (p = w.heap.size ∧ q = w.heap.size + 1) := Lib.hid ⟨hp, hq⟩
 have HRP : Hid (RowAt X p 84 #[.int .i64 ag, .int .i64 xf, .slice A hln cap, .pointer (some ⟨fs, 0, none⟩), .string nb]) := Lib.hid (by rw [hXe, hp]; exact (RowAt.new w _ _).alloc _)
 have HRQ : Hid (RowAt X q 110 #[.bool false, .int .i64 0]) := Lib.hid (by rw [hXe, hq]; exact RowAt.new' (by simp))
 have HF : Hid (∀ W, Below X.heap.size X W → W.cell? ⟨p, 0, none⟩ = some (.int .i64 ag) ∧ W.cell? ⟨p, 1, none⟩ = some (.int .i64 xf) ∧ W.cell? ⟨p, 2, none⟩ = some (.slice A hln cap) ∧ W.cell? ⟨p, 3, none⟩ = some (.pointer (some ⟨fs, 0, none⟩)) ∧ W.cell? ⟨p, 4, none⟩ = some (.string nb)) := Lib.hid fun W hb => by
  have k1 := HRP.out.below hb HRP.out.lt
  exact ⟨k1.cell 0, k1.cell 1, k1.cell 2, k1.cell 3, k1.cell 4⟩
 have HXE := Lib.hid hXe
 clear hXe hp hq
 go_enter Tryz.func75, Tryz.ntmps75
 go_wp2_with fail
 rw [← HXE.out, ← HPQ.out.2, ← HPQ.out.1]
 clear HXE
 refine Inv.region_apart 9 8 (fun W W' => Below W.heap.size W W') (fun i v W => match i with
  | 0 => v = .agg #[.int .i64 ag, .int .i64 xf, .slice A hln cap, .pointer (some ⟨fs, 0, none⟩), .string nb]
  | 1 => v = .int .i64 (jx : Int)
  | 2 => v = .int .i64 (ix : Int)
  | 3 => v = .agg #[.int .i64 s, .int .i64 k, .int .i64 ag, .int .i64 xf, .slice A hln cap, .pointer (some ⟨fs, 0, none⟩), .string nb, .int .i64 oi]
  | 4 => v = .agg #[.int .i64 ag, .int .i64 xf, .slice A hln cap, .pointer (some ⟨fs, 0, none⟩), .string nb]
  | 5 => v = .int .i64 (jx : Int)
  | 6 => v = .agg #[.int .i64 sj, .int .i64 kj, .int .i64 ag, .int .i64 xf, .slice A hln cap, .pointer (some ⟨fs, 0, none⟩), .string nb, .int .i64 oj]
  | 7 => ∃ r, v = .pointer (some ⟨r, 0, none⟩) ∧ X.heap.size ≤ r ∧ RowAt W r 100 #[.int .i64 0, .int .i64 0, .int .i64 0, .int .i64 0, .slice none 0 0, .pointer none, .string ⟨#[]⟩, .int .i64 0]
  | 8 => ∃ r, v = .pointer (some ⟨r, 0, none⟩) ∧ X.heap.size ≤ r ∧ RowAt W r 100 #[.int .i64 0, .int .i64 0, .int .i64 0, .int .i64 0, .slice none 0 0, .pointer none, .string ⟨#[]⟩, .int .i64 0]
  | _ => True) (by kernel_rfl) (by kernel_rfl) (by kernel_rfl) (by kernel_rfl) (fun W => Below.refl _ _) (fun a b c h k => h.trans (k.mono h.size)) (fun i v W W' h he => ?stab) (fun i v w => (i = 7 ∨ i = 8) → ∃ r, v = .pointer (some ⟨r, 0, none⟩) ∧ w.heap.size ≤ r) (fun i j v u => (i = 7 ∧ j = 8) ∨ (i = 8 ∧ j = 7) → v ≠ u) ?apart ?obls ?fin
 case stab =>
  match i, h with
  | 0, h => exact h
  | 1, h => exact h
  | 2, h => exact h
  | 3, h => exact h
  | 4, h => exact h
  | 5, h => exact h
  | 6, h => exact h
  | 7, h => exact (by obtain ⟨r, e, h1, h2⟩ := h; exact ⟨r, e, h1, h2.below (show Below _ _ _ from ⟨he.os, he.tape, he.output, he.size, he.block⟩) h2.lt⟩)
  | 8, h => exact (by obtain ⟨r, e, h1, h2⟩ := h; exact ⟨r, e, h1, h2.below (show Below _ _ _ from ⟨he.os, he.tape, he.output, he.size, he.block⟩) h2.lt⟩)
  | _ + 9, h => exact h
 case apart =>
  intro i j v u w hij hN hR
  have key : ∀ r r' : Nat, r ≠ r' → Value.pointer (some (⟨r, 0, none⟩ : Addr)) ≠ .pointer (some ⟨r', 0, none⟩) := fun r r' h e => by
   injection e with e
   injection e with e
   injection e with e
   exact h e
  by_cases h1 : i = 7 ∧ j = 8
  ·obtain ⟨rfl, rfl⟩ := h1
   obtain ⟨r, rfl, hr⟩ := hN (.inl rfl)
   obtain ⟨r', rfl, _, hrow⟩ := hR
   have hlt := RowAt.lt hrow
   exact ⟨fun _ => key _ _ (by omega), fun _ => key _ _ (by omega)⟩
  ·by_cases h2 : i = 8 ∧ j = 7
   ·obtain ⟨rfl, rfl⟩ := h2
    obtain ⟨r, rfl, hr⟩ := hN (.inr rfl)
    obtain ⟨r', rfl, _, hrow⟩ := hR
    have hlt := RowAt.lt hrow
    exact ⟨fun _ => key _ _ (by omega), fun _ => key _ _ (by omega)⟩
   ·exact ⟨fun h => by omega, fun h => by omega⟩
 case obls =>
  refine .cons (Inv.OblN.of ?_ fun _ _ h => by omega) (.cons (Inv.OblN.of ?_ fun _ _ h => by omega) (.cons (Inv.OblN.of ?_ fun _ _ h => by omega) (.cons (Inv.OblN.of ?_ fun _ _ h => by omega) (.cons (Inv.OblN.of ?_ fun _ _ h => by omega) (.cons (Inv.OblN.of ?_ fun _ _ h => by omega) (.cons (Inv.OblN.of ?_ fun _ _ h => by omega) (.cons ?_ (.cons ?_ .nil))))))))
  ·intro ac wx hE hf hd
   have hB : Below X.heap.size X wx := ⟨hE.1,hE.2,hE.3,hE.4,hE.5⟩
   rw [if_pos (Inv.want0 rfl _)]
   have h3 : ac.eval (.tmp 3) = .pointer (some ⟨p, 0, none⟩) := hf 3 (by kernel_rfl)
   clear hf hd
   obtain ⟨a0, a1, a2, a3, a4⟩ := HF.out wx hB
   refine Inv.val (.agg #[.int .i64 ag, .int .i64 xf, .slice A hln cap, .pointer (some ⟨fs, 0, none⟩), .string nb]) ?_ rfl rfl (Below.refl _ _)
   clear hE hB HF HRI HRJ HX
   generalize ac.eval = ev at *
   simp [execOp, go_sem, *]
  ·intro ac wx hE hf hd
   have hB : Below X.heap.size X wx := ⟨hE.1,hE.2,hE.3,hE.4,hE.5⟩
   rw [if_pos (Inv.want0 rfl _)]
   have h1 : ac.eval (.tmp 1) = .int .i64 (jx : Int) := hf 1 (by kernel_rfl)
   clear hf hd
   refine Inv.val (.int .i64 (jx : Int)) ?_ rfl rfl (Below.refl _ _)
   clear hE hB
   generalize ac.eval = ev at *
   simp [execOp, go_sem, *]
  ·intro ac wx hE hf hd
   have hB : Below X.heap.size X wx := ⟨hE.1,hE.2,hE.3,hE.4,hE.5⟩
   rw [if_pos (Inv.want0 rfl _)]
   have h11 := hd 1 _ (by kernel_rfl) rfl
   change ac.eval (.tmp 11) = .int .i64 (jx : Int) at h11
   clear hf hd
   refine Inv.val (.int .i64 (ix : Int)) ?_ rfl rfl (Below.refl _ _)
   clear hE hB HF HRI HRJ HX
   have hcst : ∀ v, ac.eval (.const v) = v := fun _ => rfl
   generalize ac.eval = ev at *
   simp [execOp, go_sem, *]
  ·intro ac wx hE hf hd
   have hB : Below X.heap.size X wx := ⟨hE.1,hE.2,hE.3,hE.4,hE.5⟩
   rw [if_pos (Inv.want0 rfl _)]
   have h10 := hd 0 _ (by kernel_rfl) rfl
   change ac.eval (.tmp 10) = .agg #[.int .i64 ag, .int .i64 xf, .slice A hln cap, .pointer (some ⟨fs, 0, none⟩), .string nb] at h10
   have h12 := hd 2 _ (by kernel_rfl) rfl
   change ac.eval (.tmp 12) = .int .i64 (ix : Int) at h12
   clear hf hd
   refine Inv.go (f := 42) (xs := #[.agg #[.int .i64 ag, .int .i64 xf, .slice A hln cap, .pointer (some ⟨fs, 0, none⟩), .string nb], .int .i64 (ix : Int)]) ?_ rfl ?_
   ·clear hE hB HF HRI HRJ HX
    have hfn : ac.eval (.func 42) = .func (.func 42) #[] #[] := rfl
    generalize ac.eval = ev at *
    simp [execOp, go_sem, *]
   ·exact (HRI.out wx (HX.out.trans (hB.mono HX.out.size))).mono fun e w' ⟨he, hb⟩ => ⟨_, he, rfl, hb⟩
  ·intro ac wx hE hf hd
   have hB : Below X.heap.size X wx := ⟨hE.1,hE.2,hE.3,hE.4,hE.5⟩
   rw [if_pos (Inv.want0 rfl _)]
   have h3 : ac.eval (.tmp 3) = .pointer (some ⟨p, 0, none⟩) := hf 3 (by kernel_rfl)
   clear hf hd
   obtain ⟨a0, a1, a2, a3, a4⟩ := HF.out wx hB
   refine Inv.val (.agg #[.int .i64 ag, .int .i64 xf, .slice A hln cap, .pointer (some ⟨fs, 0, none⟩), .string nb]) ?_ rfl rfl (Below.refl _ _)
   clear hE hB HF HRI HRJ HX
   generalize ac.eval = ev at *
   simp [execOp, go_sem, *]
  ·intro ac wx hE hf hd
   have hB : Below X.heap.size X wx := ⟨hE.1,hE.2,hE.3,hE.4,hE.5⟩
   rw [if_pos (Inv.want0 rfl _)]
   have h1 : ac.eval (.tmp 1) = .int .i64 (jx : Int) := hf 1 (by kernel_rfl)
   clear hf hd
   refine Inv.val (.int .i64 (jx : Int)) ?_ rfl rfl (Below.refl _ _)
   clear hE hB
   generalize ac.eval = ev at *
   simp [execOp, go_sem, *]
  ·intro ac wx hE hf hd
   have hB : Below X.heap.size X wx := ⟨hE.1,hE.2,hE.3,hE.4,hE.5⟩
   rw [if_pos (Inv.want0 rfl _)]
   have h14 := hd 4 _ (by kernel_rfl) rfl
   change ac.eval (.tmp 14) = .agg #[.int .i64 ag, .int .i64 xf, .slice A hln cap, .pointer (some ⟨fs, 0, none⟩), .string nb] at h14
   have h15 := hd 5 _ (by kernel_rfl) rfl
   change ac.eval (.tmp 15) = .int .i64 (jx : Int) at h15
   clear hf hd
   refine Inv.go (f := 42) (xs := #[.agg #[.int .i64 ag, .int .i64 xf, .slice A hln cap, .pointer (some ⟨fs, 0, none⟩), .string nb], .int .i64 (jx : Int)]) ?_ rfl ?_
   ·clear hE hB HF HRI HRJ HX
    have hfn : ac.eval (.func 42) = .func (.func 42) #[] #[] := rfl
    generalize ac.eval = ev at *
    simp [execOp, go_sem, *]
   ·exact (HRJ.out wx (HX.out.trans (hB.mono HX.out.size))).mono fun e w' ⟨he, hb⟩ => ⟨_, he, rfl, hb⟩
  ·intro ac wx hE hf hd
   have hB : Below X.heap.size X wx := ⟨hE.1,hE.2,hE.3,hE.4,hE.5⟩
   rw [if_pos (Inv.want0 rfl _)]
   clear hf hd
   refine Inv.val (.pointer (some ⟨wx.heap.size, 0, none⟩)) (w' := wx.alloc (.cells #[.int .i64 0, .int .i64 0, .int .i64 0, .int .i64 0, .slice none 0 0, .pointer none, .string ⟨#[]⟩, .int .i64 0] 100)) ?_ rfl ⟨⟨_, rfl, hB.size, RowAt.new _ _ _⟩, fun _ => ⟨_, rfl, Nat.le_refl _⟩⟩ ((Below.refl _ _).alloc (Nat.le_refl _) _)
   clear hE hB HF HRI HRJ HX
   generalize ac.eval = ev at *
   simp [execOp, go_sem, *]
  ·intro ac wx hE hf hd
   have hB : Below X.heap.size X wx := ⟨hE.1,hE.2,hE.3,hE.4,hE.5⟩
   rw [if_pos (Inv.want0 rfl _)]
   clear hf hd
   refine Inv.val (.pointer (some ⟨wx.heap.size, 0, none⟩)) (w' := wx.alloc (.cells #[.int .i64 0, .int .i64 0, .int .i64 0, .int .i64 0, .slice none 0 0, .pointer none, .string ⟨#[]⟩, .int .i64 0] 100)) ?_ rfl ⟨⟨_, rfl, hB.size, RowAt.new _ _ _⟩, fun _ => ⟨_, rfl, Nat.le_refl _⟩⟩ ((Below.refl _ _).alloc (Nat.le_refl _) _)
   clear hE hB HF HRI HRJ HX
   generalize ac.eval = ev at *
   simp [execOp, go_sem, *]
 case fin =>
  intro ac wx hE ha hall hap
  have hne78 : ac.eval (.tmp 7) ≠ ac.eval (.tmp 8) := hap 7 8 _ _ (by decide) (by decide) (by decide) rfl rfl (.inl ⟨rfl, rfl⟩)
  clear hap
  have hB : Below X.heap.size X wx := ⟨hE.1,hE.2,hE.3,hE.4,hE.5⟩
  have h10 := hall 0 _ (by decide) rfl
  change ac.eval (.tmp 10) = .agg #[.int .i64 ag, .int .i64 xf, .slice A hln cap, .pointer (some ⟨fs, 0, none⟩), .string nb] at h10
  have h11 := hall 1 _ (by decide) rfl
  change ac.eval (.tmp 11) = .int .i64 (jx : Int) at h11
  have h12 := hall 2 _ (by decide) rfl
  change ac.eval (.tmp 12) = .int .i64 (ix : Int) at h12
  have h13 := hall 3 _ (by decide) rfl
  change (fun v W => v = .agg #[.int .i64 s, .int .i64 k, .int .i64 ag, .int .i64 xf, .slice A hln cap, .pointer (some ⟨fs, 0, none⟩), .string nb, .int .i64 oi]) (ac.eval (.tmp 13)) wx at h13
  try dsimp only at h13
  generalize hv13 : ac.eval (.tmp 13) = v13 at *
  have h14 := hall 4 _ (by decide) rfl
  change ac.eval (.tmp 14) = .agg #[.int .i64 ag, .int .i64 xf, .slice A hln cap, .pointer (some ⟨fs, 0, none⟩), .string nb] at h14
  have h15 := hall 5 _ (by decide) rfl
  change ac.eval (.tmp 15) = .int .i64 (jx : Int) at h15
  have h16 := hall 6 _ (by decide) rfl
  change (fun v W => v = .agg #[.int .i64 sj, .int .i64 kj, .int .i64 ag, .int .i64 xf, .slice A hln cap, .pointer (some ⟨fs, 0, none⟩), .string nb, .int .i64 oj]) (ac.eval (.tmp 16)) wx at h16
  try dsimp only at h16
  generalize hv16 : ac.eval (.tmp 16) = v16 at *
  have h7 := hall 7 _ (by decide) rfl
  change (fun v W => ∃ r, v = .pointer (some ⟨r, 0, none⟩) ∧ X.heap.size ≤ r ∧ RowAt W r 100 #[.int .i64 0, .int .i64 0, .int .i64 0, .int .i64 0, .slice none 0 0, .pointer none, .string ⟨#[]⟩, .int .i64 0]) (ac.eval (.tmp 7)) wx at h7
  try dsimp only at h7
  generalize hv7 : ac.eval (.tmp 7) = v7 at *
  have h8 := hall 8 _ (by decide) rfl
  change (fun v W => ∃ r, v = .pointer (some ⟨r, 0, none⟩) ∧ X.heap.size ≤ r ∧ RowAt W r 100 #[.int .i64 0, .int .i64 0, .int .i64 0, .int .i64 0, .slice none 0 0, .pointer none, .string ⟨#[]⟩, .int .i64 0]) (ac.eval (.tmp 8)) wx at h8
  try dsimp only at h8
  generalize hv8 : ac.eval (.tmp 8) = v8 at *
  simp only [List.take_succ_cons, List.take_zero, List.foldl, Inv.slot, Act.put] at ha
  change ac.tmps.getD 10 undef = _ at h10
  change ac.tmps.getD 11 undef = _ at h11
  change ac.tmps.getD 12 undef = _ at h12
  change ac.tmps.getD 13 undef = _ at hv13
  change ac.tmps.getD 14 undef = _ at h14
  change ac.tmps.getD 15 undef = _ at h15
  change ac.tmps.getD 16 undef = _ at hv16
  change ac.tmps.getD 7 undef = _ at hv7
  change ac.tmps.getD 8 undef = _ at hv8
  simp only [h10, h11, h12, hv13, h14, h15, hv16, hv7, hv8, List.setIfInBounds_toArray, List.set_cons_zero, List.set_cons_succ] at ha
  clear h10 h11 h12 hv13 h14 h15 hv16 hv7 hv8 hall hE
  subst ha
  simp only [List.drop_succ_cons, List.drop_zero]
  subst h13 h16
  obtain ⟨r1, rfl, hr1, hrow1⟩ := h7
  obtain ⟨r2, rfl, hr2, hrow2⟩ := h8
  have hne : r1 ≠ r2 := fun e => hne78 (by rw [e])
  have HR1 := Lib.hid hrow1
  have HR2 := Lib.hid hrow2
  have HBX := Lib.hid hB
  have y0 := hrow1.cell 0
  have y1 := hrow1.cell 1
  have y2 := hrow1.cell 2
  have y3 := hrow1.cell 3
  have y4 := hrow1.cell 4
  have y5 := hrow1.cell 5
  have y6 := hrow1.cell 6
  have y7 := hrow1.cell 7
  have x0 := hrow2.cell 0
  have x1 := hrow2.cell 1
  have x2 := hrow2.cell 2
  have x3 := hrow2.cell 3
  have x4 := hrow2.cell 4
  have x5 := hrow2.cell 5
  have x6 := hrow2.cell 6
  have x7 := hrow2.cell 7
  have fz1 := fun i => hrow1.frozen i
  have fz2 := fun i => hrow2.frozen i
  have hl1 := hrow1.lt
  have hl2 := hrow2.lt
  simp only [List.getElem?_toArray, List.getElem?_cons_succ, List.getElem?_cons_zero] at y0 y1 y2 y3 y4 y5 y6 y7 x0 x1 x2 x3 x4 x5 x6 x7
  have hy1 : RowAt ((((((((((((((((wx.setCell ⟨r1, 0, none⟩ (.int .i64 s)).setCell ⟨r1, 1, none⟩ (.int .i64 k)).setCell ⟨r1, 2, none⟩ (.int .i64 ag)).setCell ⟨r1, 3, none⟩ (.int .i64 xf)).setCell ⟨r1, 4, none⟩ (.slice A hln cap)).setCell ⟨r1, 5, none⟩ (.pointer (some ⟨fs, 0, none⟩))).setCell ⟨r1, 6, none⟩ (.string nb)).setCell ⟨r1, 7, none⟩ (.int .i64 oi)).setCell ⟨r2, 0, none⟩ (.int .i64 sj)).setCell ⟨r2, 1, none⟩ (.int .i64 kj)).setCell ⟨r2, 2, none⟩ (.int .i64 ag)).setCell ⟨r2, 3, none⟩ (.int .i64 xf)).setCell ⟨r2, 4, none⟩ (.slice A hln cap)).setCell ⟨r2, 5, none⟩ (.pointer (some ⟨fs, 0, none⟩))).setCell ⟨r2, 6, none⟩ (.string nb)).setCell ⟨r2, 7, none⟩ (.int .i64 oj)) r1 100 #[.int .i64 s, .int .i64 k, .int .i64 ag, .int .i64 xf, .slice A hln cap, .pointer (some ⟨fs, 0, none⟩), .string nb, .int .i64 oi] := (((((((((row_set8 (b0 := .int .i64 s) (b1 := .int .i64 k) (b2 := .int .i64 ag) (b3 := .int .i64 xf) (b4 := .slice A hln cap) (b5 := .pointer (some ⟨fs, 0, none⟩)) (b6 := .string nb) (b7 := .int .i64 oi) hrow1).far hne _).far hne _).far hne _).far hne _).far hne _).far hne _).far hne _).far hne _)
  have hy2 : RowAt ((((((((((((((((wx.setCell ⟨r1, 0, none⟩ (.int .i64 s)).setCell ⟨r1, 1, none⟩ (.int .i64 k)).setCell ⟨r1, 2, none⟩ (.int .i64 ag)).setCell ⟨r1, 3, none⟩ (.int .i64 xf)).setCell ⟨r1, 4, none⟩ (.slice A hln cap)).setCell ⟨r1, 5, none⟩ (.pointer (some ⟨fs, 0, none⟩))).setCell ⟨r1, 6, none⟩ (.string nb)).setCell ⟨r1, 7, none⟩ (.int .i64 oi)).setCell ⟨r2, 0, none⟩ (.int .i64 sj)).setCell ⟨r2, 1, none⟩ (.int .i64 kj)).setCell ⟨r2, 2, none⟩ (.int .i64 ag)).setCell ⟨r2, 3, none⟩ (.int .i64 xf)).setCell ⟨r2, 4, none⟩ (.slice A hln cap)).setCell ⟨r2, 5, none⟩ (.pointer (some ⟨fs, 0, none⟩))).setCell ⟨r2, 6, none⟩ (.string nb)).setCell ⟨r2, 7, none⟩ (.int .i64 oj)) r2 100 #[.int .i64 sj, .int .i64 kj, .int .i64 ag, .int .i64 xf, .slice A hln cap, .pointer (some ⟨fs, 0, none⟩), .string nb, .int .i64 oj] := row_set8 ((((((((hrow2.far hne.symm _).far hne.symm _).far hne.symm _).far hne.symm _).far hne.symm _).far hne.symm _).far hne.symm _).far hne.symm _)
  have hyB : Below X.heap.size X ((((((((((((((((wx.setCell ⟨r1, 0, none⟩ (.int .i64 s)).setCell ⟨r1, 1, none⟩ (.int .i64 k)).setCell ⟨r1, 2, none⟩ (.int .i64 ag)).setCell ⟨r1, 3, none⟩ (.int .i64 xf)).setCell ⟨r1, 4, none⟩ (.slice A hln cap)).setCell ⟨r1, 5, none⟩ (.pointer (some ⟨fs, 0, none⟩))).setCell ⟨r1, 6, none⟩ (.string nb)).setCell ⟨r1, 7, none⟩ (.int .i64 oi)).setCell ⟨r2, 0, none⟩ (.int .i64 sj)).setCell ⟨r2, 1, none⟩ (.int .i64 kj)).setCell ⟨r2, 2, none⟩ (.int .i64 ag)).setCell ⟨r2, 3, none⟩ (.int .i64 xf)).setCell ⟨r2, 4, none⟩ (.slice A hln cap)).setCell ⟨r2, 5, none⟩ (.pointer (some ⟨fs, 0, none⟩))).setCell ⟨r2, 6, none⟩ (.string nb)).setCell ⟨r2, 7, none⟩ (.int .i64 oj)) := below_set8 (below_set8 hB hr1) hr2
  clear HRI HRJ hne78 hrow1 hrow2 hB
  go_wp2_with fail
  clear y0 y1 y2 y3 y4 y5 y6 y7 x0 x1 x2 x3 x4 x5 x6 x7 fz1 fz2 hl1 hl2 HR1 HR2 HBX
  generalize ((((((((((((((((wx.setCell ⟨r1, 0, none⟩ (.int .i64 s)).setCell ⟨r1, 1, none⟩ (.int .i64 k)).setCell ⟨r1, 2, none⟩ (.int .i64 ag)).setCell ⟨r1, 3, none⟩ (.int .i64 xf)).setCell ⟨r1, 4, none⟩ (.slice A hln cap)).setCell ⟨r1, 5, none⟩ (.pointer (some ⟨fs, 0, none⟩))).setCell ⟨r1, 6, none⟩ (.string nb)).setCell ⟨r1, 7, none⟩ (.int .i64 oi)).setCell ⟨r2, 0, none⟩ (.int .i64 sj)).setCell ⟨r2, 1, none⟩ (.int .i64 kj)).setCell ⟨r2, 2, none⟩ (.int .i64 ag)).setCell ⟨r2, 3, none⟩ (.int .i64 xf)).setCell ⟨r2, 4, none⟩ (.slice A hln cap)).setCell ⟨r2, 5, none⟩ (.pointer (some ⟨fs, 0, none⟩))).setCell ⟨r2, 6, none⟩ (.string nb)).setCell ⟨r2, 7, none⟩ (.int .i64 oj)) = Y at *
  have HY : Hid (Below w.heap.size w Y) := Lib.hid (HX.out.trans (hyB.mono HX.out.size))
  have HFY : Hid (∀ W, Below Y.heap.size Y W → (W.cell? ⟨p, 0, none⟩ = some (.int .i64 ag) ∧ W.cell? ⟨p, 1, none⟩ = some (.int .i64 xf)) ∧ W.cell? ⟨r1, 0, none⟩ = some (.int .i64 s) ∧ W.cell? ⟨r1, 1, none⟩ = some (.int .i64 k) ∧ W.cell? ⟨r1, 2, none⟩ = some (.int .i64 ag) ∧ W.cell? ⟨r1, 3, none⟩ = some (.int .i64 xf) ∧ W.cell? ⟨r1, 4, none⟩ = some (.slice A hln cap) ∧ W.cell? ⟨r1, 5, none⟩ = some (.pointer (some ⟨fs, 0, none⟩)) ∧ W.cell? ⟨r1, 6, none⟩ = some (.string nb) ∧ W.cell? ⟨r1, 7, none⟩ = some (.int .i64 oi) ∧ W.cell? ⟨r2, 0, none⟩ = some (.int .i64 sj)) := Lib.hid fun W hb => by
   have k1 := hy1.below hb hy1.lt
   have k2 := hy2.below hb hy2.lt
   have k3 := HF.out W (hyB.trans (hb.mono hyB.size))
   exact ⟨⟨k3.1, k3.2.1⟩, k1.cell 0, k1.cell 1, k1.cell 2, k1.cell 3, k1.cell 4, k1.cell 5, k1.cell 6, k1.cell 7, k2.cell 0⟩
  have HQY : Hid (RowAt Y q 110 #[.bool false, .int .i64 0]) := Lib.hid (HRQ.out.below hyB HRQ.out.lt)
  have z0 : Y.cell? ⟨r2, 0, none⟩ = some (.int .i64 sj) := hy2.cell 0
  have hl2 := hy2.lt
  clear hy1 hy2 hyB
  go_wp2_with (go_at_call 87; ((with_reducible refine (HAL.out _).mono ?_); rintro e w' ⟨rfl, rfl⟩))
  clear z0 hl2
  refine Inv.region_tail 17 8 (fun W W' => Below W.heap.size W W') (fun i v W => match i with
   | 0 => v = .pointer (some ⟨p, 0, none⟩)
   | 1 => v = .pointer (some ⟨p, 0, none⟩)
   | 2 => v = .int .i64 ag
   | 3 => v = .pointer (some ⟨p, 0, none⟩)
   | 4 => v = .pointer (some ⟨p, 1, none⟩)
   | 5 => v = .int .i64 xf
   | 6 => v = .agg #[.int .i64 s, .int .i64 k, .int .i64 ag, .int .i64 xf, .slice A hln cap, .pointer (some ⟨fs, 0, none⟩), .string nb, .int .i64 oi]
   | 7 => v = .int .i64 g
   | 8 => v = .pointer (some ⟨r2, 0, none⟩)
   | 9 => v = .pointer (some ⟨r2, 0, none⟩)
   | 10 => v = .int .i64 sj
   | 11 => v = .pointer (some ⟨r1, 0, none⟩)
   | 12 => v = .pointer (some ⟨r1, 0, none⟩)
   | 13 => v = .int .i64 s
   | 14 => v = .int .i64 (M : Int)
   | 15 => OwnV w.heap.size W v vs
   | 16 => v = (.agg #[.bool po, .int .i64 pn])
   | _ => True) (by kernel_rfl) (by kernel_rfl) (by kernel_rfl) (by kernel_rfl) (fun W => Below.refl _ _) (fun a b c h k => h.trans (k.mono h.size)) (fun i v W W' h he => ?stab) ?obls ?fin
  case stab =>
   match i, h with
   | 0, h => exact h
   | 1, h => exact h
   | 2, h => exact h
   | 3, h => exact h
   | 4, h => exact h
   | 5, h => exact h
   | 6, h => exact h
   | 7, h => exact h
   | 8, h => exact h
   | 9, h => exact h
   | 10, h => exact h
   | 11, h => exact h
   | 12, h => exact h
   | 13, h => exact h
   | 14, h => exact h
   | 15, h => exact OwnV.below h (by simpa using ⟨he.os, he.tape, he.output, he.size, he.block⟩)
   | 16, h => exact h
   | _ + 17, h => exact h
  case obls =>
   refine .cons ?_ (.cons ?_ (.cons ?_ (.cons ?_ (.cons ?_ (.cons ?_ (.cons ?_ (.cons ?_ (.cons ?_ (.cons ?_ (.cons ?_ (.cons ?_ (.cons ?_ (.cons ?_ (.cons ?_ (.cons ?_ (.cons ?_ .nil))))))))))))))))
   ·intro ac wx hE hf hd
    have hB : Below Y.heap.size Y wx := ⟨hE.1,hE.2,hE.3,hE.4,hE.5⟩
    rw [if_pos (Inv.want0 rfl _)]
    have h3 : ac.eval (.tmp 3) = .pointer (some ⟨p, 0, none⟩) := hf 3 (by kernel_rfl)
    clear hf hd
    refine Inv.val (.pointer (some ⟨p, 0, none⟩)) ?_ rfl rfl (Below.refl _ _)
    clear hE hB HF HX HVA HPU HY HFY
    generalize ac.eval = ev at *
    simp [execOp, go_sem, *]
   ·intro ac wx hE hf hd
    have hB : Below Y.heap.size Y wx := ⟨hE.1,hE.2,hE.3,hE.4,hE.5⟩
    rw [if_pos (Inv.want0 rfl _)]
    have h22 := hd 0 _ (by kernel_rfl) rfl
    change ac.eval (.tmp 22) = .pointer (some ⟨p, 0, none⟩) at h22
    clear hf hd
    refine Inv.val (.pointer (some ⟨p, 0, none⟩)) ?_ rfl rfl (Below.refl _ _)
    clear hE hB HF HX HVA HPU HY HFY
    generalize ac.eval = ev at *
    simp [execOp, go_sem, *]
   ·intro ac wx hE hf hd
    have hB : Below Y.heap.size Y wx := ⟨hE.1,hE.2,hE.3,hE.4,hE.5⟩
    rw [if_pos (Inv.want0 rfl _)]
    have h23 := hd 1 _ (by kernel_rfl) rfl
    change ac.eval (.tmp 23) = .pointer (some ⟨p, 0, none⟩) at h23
    clear hf hd
    obtain ⟨⟨a0, a1⟩, b0, b1, b2, b3, b4, b5, b6, b7, c0⟩ := HFY.out wx hB
    refine Inv.val (.int .i64 ag) ?_ rfl rfl (Below.refl _ _)
    clear hE hB HF HX HVA HPU HY HFY
    generalize ac.eval = ev at *
    simp [execOp, go_sem, *]
   ·intro ac wx hE hf hd
    have hB : Below Y.heap.size Y wx := ⟨hE.1,hE.2,hE.3,hE.4,hE.5⟩
    rw [if_pos (Inv.want0 rfl _)]
    have h3 : ac.eval (.tmp 3) = .pointer (some ⟨p, 0, none⟩) := hf 3 (by kernel_rfl)
    clear hf hd
    refine Inv.val (.pointer (some ⟨p, 0, none⟩)) ?_ rfl rfl (Below.refl _ _)
    clear hE hB HF HX HVA HPU HY HFY
    generalize ac.eval = ev at *
    simp [execOp, go_sem, *]
   ·intro ac wx hE hf hd
    have hB : Below Y.heap.size Y wx := ⟨hE.1,hE.2,hE.3,hE.4,hE.5⟩
    rw [if_pos (Inv.want0 rfl _)]
    have h25 := hd 3 _ (by kernel_rfl) rfl
    change ac.eval (.tmp 25) = .pointer (some ⟨p, 0, none⟩) at h25
    clear hf hd
    refine Inv.val (.pointer (some ⟨p, 1, none⟩)) ?_ rfl rfl (Below.refl _ _)
    clear hE hB HF HX HVA HPU HY HFY
    generalize ac.eval = ev at *
    simp [execOp, go_sem, *]
   ·intro ac wx hE hf hd
    have hB : Below Y.heap.size Y wx := ⟨hE.1,hE.2,hE.3,hE.4,hE.5⟩
    rw [if_pos (Inv.want0 rfl _)]
    have h26 := hd 4 _ (by kernel_rfl) rfl
    change ac.eval (.tmp 26) = .pointer (some ⟨p, 1, none⟩) at h26
    clear hf hd
    obtain ⟨⟨a0, a1⟩, b0, b1, b2, b3, b4, b5, b6, b7, c0⟩ := HFY.out wx hB
    refine Inv.val (.int .i64 xf) ?_ rfl rfl (Below.refl _ _)
    clear hE hB HF HX HVA HPU HY HFY
    generalize ac.eval = ev at *
    simp [execOp, go_sem, *]
   ·intro ac wx hE hf hd
    have hB : Below Y.heap.size Y wx := ⟨hE.1,hE.2,hE.3,hE.4,hE.5⟩
    rw [if_pos (Inv.want0 rfl _)]
    have h7 : ac.eval (.tmp 7) = .pointer (some ⟨r1, 0, none⟩) := hf 7 (by kernel_rfl)
    clear hf hd
    obtain ⟨⟨a0, a1⟩, b0, b1, b2, b3, b4, b5, b6, b7, c0⟩ := HFY.out wx hB
    refine Inv.val (.agg #[.int .i64 s, .int .i64 k, .int .i64 ag, .int .i64 xf, .slice A hln cap, .pointer (some ⟨fs, 0, none⟩), .string nb, .int .i64 oi]) ?_ rfl rfl (Below.refl _ _)
    clear hE hB HF HX HVA HPU HY HFY
    generalize ac.eval = ev at *
    simp [execOp, go_sem, *]
   ·intro ac wx hE hf hd
    have hB : Below Y.heap.size Y wx := ⟨hE.1,hE.2,hE.3,hE.4,hE.5⟩
    rw [if_pos (Inv.want0 rfl _)]
    have h9 : ac.eval (.tmp 9) = .int .i64 g := hf 9 (by kernel_rfl)
    clear hf hd
    refine Inv.val (.int .i64 g) ?_ rfl rfl (Below.refl _ _)
    clear hE hB
    generalize ac.eval = ev at *
    simp [execOp, go_sem, *]
   ·intro ac wx hE hf hd
    have hB : Below Y.heap.size Y wx := ⟨hE.1,hE.2,hE.3,hE.4,hE.5⟩
    rw [if_pos (Inv.want0 rfl _)]
    have h8 : ac.eval (.tmp 8) = .pointer (some ⟨r2, 0, none⟩) := hf 8 (by kernel_rfl)
    clear hf hd
    refine Inv.val (.pointer (some ⟨r2, 0, none⟩)) ?_ rfl rfl (Below.refl _ _)
    clear hE hB HF HX HVA HPU HY HFY
    generalize ac.eval = ev at *
    simp [execOp, go_sem, *]
   ·intro ac wx hE hf hd
    have hB : Below Y.heap.size Y wx := ⟨hE.1,hE.2,hE.3,hE.4,hE.5⟩
    rw [if_pos (Inv.want0 rfl _)]
    have h30 := hd 8 _ (by kernel_rfl) rfl
    change ac.eval (.tmp 30) = .pointer (some ⟨r2, 0, none⟩) at h30
    clear hf hd
    refine Inv.val (.pointer (some ⟨r2, 0, none⟩)) ?_ rfl rfl (Below.refl _ _)
    clear hE hB HF HX HVA HPU HY HFY
    generalize ac.eval = ev at *
    simp [execOp, go_sem, *]
   ·intro ac wx hE hf hd
    have hB : Below Y.heap.size Y wx := ⟨hE.1,hE.2,hE.3,hE.4,hE.5⟩
    rw [if_pos (Inv.want0 rfl _)]
    have h31 := hd 9 _ (by kernel_rfl) rfl
    change ac.eval (.tmp 31) = .pointer (some ⟨r2, 0, none⟩) at h31
    clear hf hd
    obtain ⟨⟨a0, a1⟩, b0, b1, b2, b3, b4, b5, b6, b7, c0⟩ := HFY.out wx hB
    refine Inv.val (.int .i64 sj) ?_ rfl rfl (Below.refl _ _)
    clear hE hB HF HX HVA HPU HY HFY
    generalize ac.eval = ev at *
    simp [execOp, go_sem, *]
   ·intro ac wx hE hf hd
    have hB : Below Y.heap.size Y wx := ⟨hE.1,hE.2,hE.3,hE.4,hE.5⟩
    rw [if_pos (Inv.want0 rfl _)]
    have h7 : ac.eval (.tmp 7) = .pointer (some ⟨r1, 0, none⟩) := hf 7 (by kernel_rfl)
    clear hf hd
    refine Inv.val (.pointer (some ⟨r1, 0, none⟩)) ?_ rfl rfl (Below.refl _ _)
    clear hE hB HF HX HVA HPU HY HFY
    generalize ac.eval = ev at *
    simp [execOp, go_sem, *]
   ·intro ac wx hE hf hd
    have hB : Below Y.heap.size Y wx := ⟨hE.1,hE.2,hE.3,hE.4,hE.5⟩
    rw [if_pos (Inv.want0 rfl _)]
    have h33 := hd 11 _ (by kernel_rfl) rfl
    change ac.eval (.tmp 33) = .pointer (some ⟨r1, 0, none⟩) at h33
    clear hf hd
    refine Inv.val (.pointer (some ⟨r1, 0, none⟩)) ?_ rfl rfl (Below.refl _ _)
    clear hE hB HF HX HVA HPU HY HFY
    generalize ac.eval = ev at *
    simp [execOp, go_sem, *]
   ·intro ac wx hE hf hd
    have hB : Below Y.heap.size Y wx := ⟨hE.1,hE.2,hE.3,hE.4,hE.5⟩
    rw [if_pos (Inv.want0 rfl _)]
    have h34 := hd 12 _ (by kernel_rfl) rfl
    change ac.eval (.tmp 34) = .pointer (some ⟨r1, 0, none⟩) at h34
    clear hf hd
    obtain ⟨⟨a0, a1⟩, b0, b1, b2, b3, b4, b5, b6, b7, c0⟩ := HFY.out wx hB
    refine Inv.val (.int .i64 s) ?_ rfl rfl (Below.refl _ _)
    clear hE hB HF HX HVA HPU HY HFY
    generalize ac.eval = ev at *
    simp [execOp, go_sem, *]
   ·intro ac wx hE hf hd
    have hB : Below Y.heap.size Y wx := ⟨hE.1,hE.2,hE.3,hE.4,hE.5⟩
    rw [if_pos (Inv.want0 rfl _)]
    have h32 := hd 10 _ (by kernel_rfl) rfl
    change ac.eval (.tmp 32) = .int .i64 sj at h32
    have h35 := hd 13 _ (by kernel_rfl) rfl
    change ac.eval (.tmp 35) = .int .i64 s at h35
    clear hf hd
    refine Inv.val (.int .i64 (M : Int)) ?_ rfl rfl (Below.refl _ _)
    clear hE hB HF HX HVA HPU HY HFY
    generalize ac.eval = ev at *
    simp [execOp, go_sem, *]
   ·intro ac wx hE hf hd
    have hB : Below Y.heap.size Y wx := ⟨hE.1,hE.2,hE.3,hE.4,hE.5⟩
    rw [if_pos (Inv.want0 rfl _)]
    have h28 := hd 6 _ (by kernel_rfl) rfl
    change ac.eval (.tmp 28) = .agg #[.int .i64 s, .int .i64 k, .int .i64 ag, .int .i64 xf, .slice A hln cap, .pointer (some ⟨fs, 0, none⟩), .string nb, .int .i64 oi] at h28
    have h29 := hd 7 _ (by kernel_rfl) rfl
    change ac.eval (.tmp 29) = .int .i64 g at h29
    have h36 := hd 14 _ (by kernel_rfl) rfl
    change ac.eval (.tmp 36) = .int .i64 (M : Int) at h36
    clear hf hd
    refine Inv.go (f := 88) (xs := #[.agg #[.int .i64 s, .int .i64 k, .int .i64 ag, .int .i64 xf, .slice A hln cap, .pointer (some ⟨fs, 0, none⟩), .string nb, .int .i64 oi], .int .i64 g, .int .i64 (M : Int)]) ?_ rfl ?_
    ·clear hE hB HF HX HVA HPU HY HFY
     have hfn : ac.eval (.func 88) = .func (.func 88) #[] #[] := rfl
     generalize ac.eval = ev at *
     simp [execOp, go_sem, *]
    ·exact (HVA.out wx (HY.out.trans (hB.mono HY.out.size))).mono fun e w' ⟨u, he, ho, hb⟩ => ⟨u, he, ho, hb⟩
   ·intro ac wx hE hf hd
    have hB : Below Y.heap.size Y wx := ⟨hE.1,hE.2,hE.3,hE.4,hE.5⟩
    rw [if_pos (Inv.want0 rfl _)]
    have h24 := hd 2 _ (by kernel_rfl) rfl
    change ac.eval (.tmp 24) = .int .i64 ag at h24
    have h27 := hd 5 _ (by kernel_rfl) rfl
    change ac.eval (.tmp 27) = .int .i64 xf at h27
    have h37 := hd 15 _ (by kernel_rfl) rfl
    change (fun v W => OwnV w.heap.size W v vs) (ac.eval (.tmp 37)) wx at h37
    try dsimp only at h37
    clear hf hd
    have hsl := h37
    obtain ⟨u37, hu37⟩ : ∃ u, u = ac.eval (.tmp 37) := ⟨_, rfl⟩
    rw [← hu37] at h37
    obtain ⟨A37, c37, hq37⟩ := h37.slice
    rw [HVL.out] at hq37
    have h37' : ac.eval (.tmp 37) = .slice A37 M c37 := by rw [← hu37]; exact hq37
    have hsl : Sl wx (.slice A37 M c37) vs := by rw [← hq37]; exact h37.sl
    refine Inv.go (f := 106) (xs := #[.int .i64 ag, .int .i64 xf, .slice A37 M c37]) ?_ rfl ?_
    ·clear hE hB HF HX HVA HPU HY HFY h37 hu37 hq37 hsl
     have hfn : ac.eval (.func 106) = .func (.func 106) #[] #[] := rfl
     generalize ac.eval = ev at *
     simp [execOp, go_sem, *]
    ·exact (HPU.out wx A37 c37 hsl).mono fun e w' ⟨he, hb⟩ => ⟨_, he, rfl, hb⟩
  case fin =>
   intro ac wx hE ha hall
   have hB : Below Y.heap.size Y wx := ⟨hE.1,hE.2,hE.3,hE.4,hE.5⟩
   have h22 := hall 0 _ (by decide) rfl
   change ac.eval (.tmp 22) = .pointer (some ⟨p, 0, none⟩) at h22
   have h23 := hall 1 _ (by decide) rfl
   change ac.eval (.tmp 23) = .pointer (some ⟨p, 0, none⟩) at h23
   have h24 := hall 2 _ (by decide) rfl
   change ac.eval (.tmp 24) = .int .i64 ag at h24
   have h25 := hall 3 _ (by decide) rfl
   change ac.eval (.tmp 25) = .pointer (some ⟨p, 0, none⟩) at h25
   have h26 := hall 4 _ (by decide) rfl
   change ac.eval (.tmp 26) = .pointer (some ⟨p, 1, none⟩) at h26
   have h27 := hall 5 _ (by decide) rfl
   change ac.eval (.tmp 27) = .int .i64 xf at h27
   have h28 := hall 6 _ (by decide) rfl
   change ac.eval (.tmp 28) = .agg #[.int .i64 s, .int .i64 k, .int .i64 ag, .int .i64 xf, .slice A hln cap, .pointer (some ⟨fs, 0, none⟩), .string nb, .int .i64 oi] at h28
   have h29 := hall 7 _ (by decide) rfl
   change ac.eval (.tmp 29) = .int .i64 g at h29
   have h30 := hall 8 _ (by decide) rfl
   change ac.eval (.tmp 30) = .pointer (some ⟨r2, 0, none⟩) at h30
   have h31 := hall 9 _ (by decide) rfl
   change ac.eval (.tmp 31) = .pointer (some ⟨r2, 0, none⟩) at h31
   have h32 := hall 10 _ (by decide) rfl
   change ac.eval (.tmp 32) = .int .i64 sj at h32
   have h33 := hall 11 _ (by decide) rfl
   change ac.eval (.tmp 33) = .pointer (some ⟨r1, 0, none⟩) at h33
   have h34 := hall 12 _ (by decide) rfl
   change ac.eval (.tmp 34) = .pointer (some ⟨r1, 0, none⟩) at h34
   have h35 := hall 13 _ (by decide) rfl
   change ac.eval (.tmp 35) = .int .i64 s at h35
   have h36 := hall 14 _ (by decide) rfl
   change ac.eval (.tmp 36) = .int .i64 (M : Int) at h36
   have h37 := hall 15 _ (by decide) rfl
   change (fun v W => OwnV w.heap.size W v vs) (ac.eval (.tmp 37)) wx at h37
   try dsimp only at h37
   generalize hv37 : ac.eval (.tmp 37) = v37 at *
   have h38 := hall 16 _ (by decide) rfl
   change (fun v W => v = (.agg #[.bool po, .int .i64 pn])) (ac.eval (.tmp 38)) wx at h38
   try dsimp only at h38
   generalize hv38 : ac.eval (.tmp 38) = v38 at *
   simp only [List.take_succ_cons, List.take_zero, List.foldl, Inv.slot, Act.put] at ha
   change ac.tmps.getD 22 undef = _ at h22
   change ac.tmps.getD 23 undef = _ at h23
   change ac.tmps.getD 24 undef = _ at h24
   change ac.tmps.getD 25 undef = _ at h25
   change ac.tmps.getD 26 undef = _ at h26
   change ac.tmps.getD 27 undef = _ at h27
   change ac.tmps.getD 28 undef = _ at h28
   change ac.tmps.getD 29 undef = _ at h29
   change ac.tmps.getD 30 undef = _ at h30
   change ac.tmps.getD 31 undef = _ at h31
   change ac.tmps.getD 32 undef = _ at h32
   change ac.tmps.getD 33 undef = _ at h33
   change ac.tmps.getD 34 undef = _ at h34
   change ac.tmps.getD 35 undef = _ at h35
   change ac.tmps.getD 36 undef = _ at h36
   change ac.tmps.getD 37 undef = _ at hv37
   change ac.tmps.getD 38 undef = _ at hv38
   simp only [h22, h23, h24, h25, h26, h27, h28, h29, h30, h31, h32, h33, h34, h35, h36, hv37, hv38, List.setIfInBounds_toArray, List.set_cons_zero, List.set_cons_succ] at ha
   clear h22 h23 h24 h25 h26 h27 h28 h29 h30 h31 h32 h33 h34 h35 h36 hv37 hv38 hall hE
   subst ha
   simp only [List.drop_succ_cons, List.drop_zero]
   have HQW := HQY.out.below hB HQY.out.lt
   have HBW : Hid (Below w.heap.size w wx) := Lib.hid (HY.out.trans (hB.mono HY.out.size))
   have u0 := HQW.cell 0
   have u1 := HQW.cell 1
   have u2 := HQW.frozen 0
   have u3 := HQW.frozen 1
   have u4 := HQW.lt
   have HQL : Hid (w.heap.size ≤ q) := Lib.hid (by have := HPQ.out; omega)
   simp only [List.getElem?_toArray, List.getElem?_cons_succ, List.getElem?_cons_zero] at u0 u1
   clear HQW hB HF HX HVA HPU HY HFY HAL
   go_wp2_with fail
   refine bodyPost_ret (v := .agg #[.bool po, .int .i64 pn]) (by simp [results, Tryz.results75, go_sem, *]) rfl ⟨rfl, ?_⟩
   exact (HBW.out.setCell HQL.out _).setCell HQL.out _
end
end Go.Proofs.YtljlanhpjpjgaaaGreatDoor
