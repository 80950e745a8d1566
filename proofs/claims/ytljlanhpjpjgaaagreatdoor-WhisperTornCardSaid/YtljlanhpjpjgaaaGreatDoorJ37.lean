/- WqVa -/
import Derived.Test.YtljlanhpjpjgaaaGreatDoorJ1
import Derived.Test.YtljlanhpjpjgaaaGreatDoorJ36
import Derived.Test.YtljlanhpjpjgaaaGreatDoorJ14
import Derived.Test.YtljlanhpjpjgaaaGreatDoorJ25
namespace Go.Proofs.YtljlanhpjpjgaaaGreatDoor
set_option maxRecDepth 100000
set_option maxHeartbeats 8000000
section
open Go.RowKit Go.Sort
open Fx (Vl)
open Me
open Wp
theorem cells_rep (m : Nat) (v : Vl) : ∀ i, i < m * 2 → (cellsOf (List.replicate m v))[i]? = some (if i % 2 = 0 then .bool v.ok else .int .i64 v.n) := by
 induction m with
 | zero => intro i hi; omega
 | succ m ih =>
   intro i hi
   have e : cellsOf (List.replicate (m + 1) v) = .bool v.ok :: .int .i64 v.n :: cellsOf (List.replicate m v) := by
    rw [List.replicate_succ]; rfl
   rw [e]
   match i, hi with
   | 0, _ => rfl
   | 1, _ => rfl
   | i + 2, hi =>
     rw [List.getElem?_cons_succ, List.getElem?_cons_succ, ih i (by omega)]
     congr 2
     simp
theorem made_vals (m : Nat) : madeCells #[.bool false, .int .i64 0] (m * 2) = (cellsOf (List.replicate m Fx.none)).toArray := by
 apply Array.ext
 ·rw [size_madeCells]; simp [cellsOf_length]
 ·intro i h1 h2
  have hi : i < m * 2 := by rw [size_madeCells] at h1; exact h1
  have h := cells_rep m Fx.none i hi
  rw [List.getElem?_eq_getElem (by rw [cellsOf_length, List.length_replicate]; exact hi)] at h
  have e2 : (cellsOf (List.replicate m Fx.none)).toArray[i] = (if i % 2 = 0 then Value.bool Fx.none.ok else .int .i64 Fx.none.n) := by rw [List.getElem_toArray]; exact Option.some.inj h
  rw [e2]
  simp only [madeCells, Array.getElem_map, Array.getElem_range]
  by_cases e : i % 2 = 0
  ·rw [if_pos e]; simp [e]; rfl
  ·rw [if_neg e]
   have : i % 2 = 1 := by omega
   simp [this]; rfl
theorem cellsOf_set : ∀ (l : List Vl) (i : Nat) (v : Vl), i < l.length → ((cellsOf l).set (i * 2) (.bool v.ok)).set (i * 2 + 1) (.int .i64 v.n) = cellsOf (l.set i v)
 | [], _, _, h => by simp at h
 | x :: l, 0, v, _ => rfl
 | x :: l, i + 1, v, h => by
   have e : ∀ (y : Vl) (r : List Vl), cellsOf (y :: r) = .bool y.ok :: .int .i64 y.n :: cellsOf r := fun _ _ => rfl
   rw [List.set_cons_succ, e, e, ← cellsOf_set l i v (by simpa using h), show (i + 1) * 2 = i * 2 + 1 + 1 by omega]
   rfl
def ValsAt (w : World) (r : Nat) (l : List Vl) : Prop := RowAt w r 110 (cellsOf l).toArray
theorem ValsAt.put {w : World} {r : Nat} {l : List Vl} (h : ValsAt w r l) (i : Nat) (v : Vl) (hi : i < l.length) : ValsAt ((w.setCell ⟨r, i * 2, none⟩ (.bool v.ok)).setCell ⟨r, i * 2 + 1, none⟩ (.int .i64 v.n)) r (l.set i v) := by
 have h1 := (RowAt.set_ h (i * 2) (.bool v.ok)).set_ (i * 2 + 1) (.int .i64 v.n)
 unfold ValsAt
 rw [← cellsOf_set l i v hi]
 simpa using h1
theorem ValsAt.own {w : World} {r base : Nat} {l : List Vl} (h : ValsAt w r l) (hb : base ≤ r) (hm : l.length ≤ maxLen) : OwnV base w (.slice (some ⟨r, 0, none⟩) l.length l.length) l :=
 ⟨cellsOf_length l, .inr ⟨r, l.length, _, rfl, hb, h, Nat.le_refl _, hm, by simp [cellsOf_length], by rw [List.take_of_length_le (by simp [cellsOf_length])]⟩⟩
theorem ValsAt.cells {w : World} {r : Nat} {l : List Vl} (h : ValsAt w r l) (i : Nat) (hi : i < l.length) : (∃ a, w.cell? ⟨r, i * 2, none⟩ = some a) ∧ (∃ a, w.cell? ⟨r, i * 2 + 1, none⟩ = some a) ∧ w.frozen? ⟨r, i * 2, none⟩ = false ∧ w.frozen? ⟨r, i * 2 + 1, none⟩ = false ∧ r < w.heap.size := by
 have hl := cellsOf_length l
 refine ⟨⟨_, (RowAt.cell h (i * 2)).trans (Array.getElem?_eq_getElem (by simp; omega))⟩, ⟨_, (RowAt.cell h (i * 2 + 1)).trans (Array.getElem?_eq_getElem (by simp; omega))⟩, RowAt.frozen h _, RowAt.frozen h _, RowAt.lt h⟩
theorem own_at {t : TypeId} {base : Nat} {w : World} {A : Option Addr} {n c : Nat} {l : List (Int × Int)} (h : OwnP t base w (.slice A n c) l) (h0 : 0 < l.length) : ∃ g, A = some ⟨g, 0, none⟩ ∧ base ≤ g ∧ g < w.heap.size ∧ ∀ j, j < l.length → w.cell? ⟨g, j * 2, none⟩ = some (.int .i64 (l.getD j (0, 0)).1) ∧ w.cell? ⟨g, j * 2 + 1, none⟩ = some (.int .i64 (l.getD j (0, 0)).2) := by
 rcases h.2 with ⟨e, h1⟩ | ⟨g, cap, cur, e, hb, hg, hle, hm, hs, hx⟩
 ·omega
 ·injection e with e1 e2 e3
  refine ⟨g, e1, hb, (Array.getElem?_eq_some_iff.1 hg).1, fun j hj => ?_⟩
  have hcell : ∀ i, i < l.length * 2 → w.cell? ⟨g, i, none⟩ = (Wh.cellsA l)[i]? := fun i hi => by
   rw [cell_of_row w g i cur t (0, 0) hg, ← hx, List.getElem?_take_of_lt hi]
   simp
  have hA : ∀ (l : List (Int × Int)) (j : Nat), j < l.length → (Wh.cellsA l)[j * 2]? = some (.int .i64 (l.getD j (0, 0)).1) ∧ (Wh.cellsA l)[j * 2 + 1]? = some (.int .i64 (l.getD j (0, 0)).2) := by
   intro l
   induction l with
   | nil => intro j hj; simp at hj
   | cons x l ih =>
     intro j hj
     have ec : Wh.cellsA (x :: l) = .int .i64 x.1 :: .int .i64 x.2 :: Wh.cellsA l := rfl
     match j, hj with
     | 0, _ => exact ⟨rfl, rfl⟩
     | j + 1, hj =>
       obtain ⟨i1, i2⟩ := ih j (by simpa using hj)
       rw [ec, show (j + 1) * 2 = j * 2 + 1 + 1 by omega]
       exact ⟨i1, i2⟩
  obtain ⟨i1, i2⟩ := hA l j hj
  exact ⟨(hcell _ (by omega)).trans i1, (hcell _ (by omega)).trans i2⟩
namespace Wp
def told (s st : Int) (ps : List (Int × Int)) (n k : Nat) : List Vl := (List.range n).map fun j => if j < k then holds s st ps j else Fx.none
theorem told_len (s st : Int) (ps : List (Int × Int)) (n k : Nat) : (told s st ps n k).length = n := by unfold told; simp
theorem told_zero (s st : Int) (ps : List (Int × Int)) (n : Nat) : told s st ps n 0 = List.replicate n Fx.none := by
 unfold told
 apply List.ext_getElem
 ·simp
 ·intro i h1 h2; simp
theorem told_all (s st : Int) (ps : List (Int × Int)) (n : Nat) : told s st ps n n = held s st ps n := by
 unfold told held
 apply List.map_congr_left
 intro j hj
 rw [if_pos (List.mem_range.1 hj)]
theorem told_succ (s st : Int) (ps : List (Int × Int)) (n k : Nat) : told s st ps n (k + 1) = (told s st ps n k).set k (holds s st ps k) := by
 unfold told
 apply List.ext_getElem
 ·simp
 ·intro i h1 h2
  rw [List.getElem_set]
  simp only [List.getElem_map, List.getElem_range]
  by_cases e : k = i
  ·subst e; simp
  ·rw [if_neg e]
   by_cases h : i < k
   ·rw [if_pos h, if_pos (by omega)]
   ·rw [if_neg h, if_neg (by omega)]
theorem told_same {s st : Int} {ps : List (Int × Int)} {n k : Nat} (h : holds s st ps k = Fx.none) : told s st ps n (k + 1) = told s st ps n k := by
 unfold told
 apply List.map_congr_left
 intro j _
 by_cases e : j = k
 ·subst e; rw [if_pos (by omega), if_neg (by omega), h]
 ·by_cases h : j < k
  ·rw [if_pos h, if_pos (by omega)]
  ·rw [if_neg h, if_neg (by omega)]
end Wp
theorem values_any {w : World} {V : Nat → Prop} {c fs : Nat} {S : Vf.Sv} {n : List UInt8} {h : Hd} {B : List UInt8} {A : Option Addr} {cap : Nat} (ro : PO w V fs c S) (f : Fits S.now n h B) (ix : Nat) (hi : ix < h.l.length) (st : Int) (hst0 : 0 ≤ st) (hst1 : st ≤ 4611686018427387904) (m C P : Nat) (hC : h.cnt ix = (C : Int)) (hP : Sl.pl (h.step ix) (h.cnt ix) st = (P : Int)) (hm : m ≤ C) :
 Calls Tryz.prog 88 #[ringV h ix A cap fs n, .int .i64 st, .int .i64 (m : Int)] w fun e w' => ∃ v, e = .returned v ∧ OwnV w.heap.size w' v (held (h.step ix) st (round B (h.offs (ix : Int)).toNat C P m) m) ∧ Below w.heap.size w w' := by
 have hcb := cnt_bd f.val ix hi
 obtain ⟨⟨n1, n2⟩, n3, n4⟩ := Hd.nums f.val ix hi
 have hPC : P < C := by have := Sl.pl_bd n1 n3 hst0; omega
 have HPT : Hid (∀ W, Below w.heap.size w W → w.heap.size + 2 ≤ W.heap.size → Calls Tryz.prog 43 #[ringV h ix A cap fs n, .int .i64 (P : Int), .int .i64 (m : Int)] W fun e w' => ∃ v, e = .returned v ∧ OwnP 27 (w.heap.size + 2) w' v (round B (h.offs (ix : Int)).toNat C P m) ∧ Below W.heap.size W w') := Lib.hid fun W hb hs => (points_any (ro.below hb) f ix hi P m C hC hPC hm).mono fun e w' ⟨v, he, ho, hbb⟩ => ⟨v, he, own_weak ho hs, hbb⟩
 have HPL : Hid (∀ W, Calls Tryz.prog 104 #[.agg #[.int .i64 (h.step ix), .int .i64 (h.cnt ix)], .int .i64 st] W fun e w' => e = .returned (.int .i64 (P : Int)) ∧ Below W.heap.size W w') := Lib.hid fun W => by
  have h := place_any (h.step ix) (h.cnt ix) st (by omega) W
  rw [hP] at h
  exact h
 obtain ⟨i0, hi0, hz0, hz1, hz2⟩ := info_parts infoVal
 have hmk : ∀ W : World, (Instr.makeSlice 104 (.int .i64 (m : Int)) (.int .i64 (m : Int))).run Tryz.prog W = .ok (.slice (some ⟨W.heap.size, 0, none⟩) m m) (W.alloc (.cells (cellsOf (List.replicate m Fx.none)).toArray 110)) := fun W => by
  have h := run_make (P := Tryz.prog) W 104 110 i0 (.agg #[.bool false, .int .i64 0]) Tryz.underlying104 hi0 hz0 .i64 .i64 (m : Int) (m : Int) (by omega) (by omega) (by rw [hz2]; omega) (by omega)
  have e : (Value.agg #[.bool false, .int .i64 0]).cells = #[.bool false, .int .i64 0] := by simp [Value.cells]
  rw [hz1, Int.toNat_natCast, e, made_vals] at h
  exact h
 have hmb : m ≤ 87381 := by omega
 have HPLN : Hid ((round B (h.offs (ix : Int)).toNat C P m).length = m) := Lib.hid (round_len _ _ _ _ _)
 clear hi0 hz0 hz1 hz2 ro f hP hC hPC
 unfold ringV at *
 have hsb : 1 ≤ h.step ix ∧ h.step ix ≤ 16777216 := ⟨n1, n2⟩
 clear n1 n2 n3 n4 hcb hi
 generalize round B (h.offs (ix : Int)).toNat C P m = ps at *
 generalize h.step ix = s at *
 generalize h.cnt ix = k at *
 generalize h.offs (ix : Int) = of_ at *
 generalize h.l.length = hln at *
 generalize h.ag = ag at *
 generalize h.xf = xf at *
 generalize (⟨n.toArray⟩ : ByteArray) = nb at *
 obtain ⟨X, hXe⟩ : ∃ X, X = (w.alloc (.cells #[.int .i64 s, .int .i64 k, .int .i64 ag, .int .i64 xf, .slice A hln cap, .pointer (some ⟨fs, 0, none⟩), .string nb, .int .i64 of_] 100)).alloc (.cells (cellsOf (List.replicate m Fx.none)).toArray 110) := ⟨_, rfl⟩
 have HX : Hid (Below w.heap.size w X) := Lib.hid (by rw [hXe]; exact ((Below.refl _ _).alloc (Nat.le_refl _) _).alloc (by simp) _)
 have HXS : Hid (w.heap.size + 2 ≤ X.heap.size) := Lib.hid (by rw [hXe]; simp)
 obtain ⟨p, hp⟩ : ∃ p, p = w.heap.size := ⟨_, rfl⟩
 obtain ⟨r, hr⟩ : ∃ r, r = w.heap.size + 1 := ⟨_, rfl⟩
 have HPR : Hid (p = w.heap.size ∧ r = w.heap.size + 1) := Lib.hid ⟨hp, hr⟩
 have HV0 : Hid (ValsAt X r (told s st ps m 0)) := Lib.hid (by rw [told_zero, hXe, hr]; exact RowAt.new' (by simp))
 have HRW : Hid (RowAt X p 100 #[.int .i64 s, .int .i64 k, .int .i64 ag, .int .i64 xf, .slice A hln cap, .pointer (some ⟨fs, 0, none⟩), .string nb, .int .i64 of_]) := Lib.hid (by rw [hXe, hp]; exact (RowAt.new w _ _).alloc _)
 have HF : Hid (∀ W, Below X.heap.size X W → W.cell? ⟨p, 0, none⟩ = some (.int .i64 s) ∧ W.cell? ⟨p, 1, none⟩ = some (.int .i64 k) ∧ W.cell? ⟨p, 2, none⟩ = some (.int .i64 ag) ∧ W.cell? ⟨p, 3, none⟩ = some (.int .i64 xf) ∧ W.cell? ⟨p, 4, none⟩ = some (.slice A hln cap) ∧ W.cell? ⟨p, 5, none⟩ = some (.pointer (some ⟨fs, 0, none⟩)) ∧ W.cell? ⟨p, 6, none⟩ = some (.string nb) ∧ W.cell? ⟨p, 7, none⟩ = some (.int .i64 of_)) := Lib.hid fun W hb => by
  have k1 := HRW.out.below hb HRW.out.lt
  exact ⟨k1.cell 0, k1.cell 1, k1.cell 2, k1.cell 3, k1.cell 4, k1.cell 5, k1.cell 6, k1.cell 7⟩
 have HXE := Lib.hid hXe
 clear hXe hp hr
 go_enter Tryz.func88, Tryz.ntmps88
 go_wp2_with fail
 rw [← HXE.out, ← HPR.out.2, ← HPR.out.1]
 clear HXE hmk
 refine Inv.region (fun W W' => Below W.heap.size W W') (fun i v W => match i with
  | 0 => v = .agg #[.int .i64 s, .int .i64 k, .int .i64 ag, .int .i64 xf, .slice A hln cap, .pointer (some ⟨fs, 0, none⟩), .string nb, .int .i64 of_]
  | 1 => v = .pointer (some ⟨p, 0, none⟩)
  | 2 => v = .agg #[.int .i64 s, .int .i64 k]
  | 3 => v = .int .i64 st
  | 4 => v = .int .i64 (P : Int)
  | 5 => v = .int .i64 (m : Int)
  | 6 => OwnP 27 (w.heap.size + 2) W v ps
  | 7 => v = .int .i64 (m : Int)
  | 8 => v = (.int .i64 0)
  | _ => True) (by kernel_rfl) (by kernel_rfl) (by kernel_rfl) (fun W => Below.refl _ _) (fun a b c h k => h.trans (k.mono h.size)) (fun i v W W' h he => ?stab) ?obls ?fin
 case stab =>
  match i, h with
  | 0, h => exact h
  | 1, h => exact h
  | 2, h => exact h
  | 3, h => exact h
  | 4, h => exact h
  | 5, h => exact h
  | 6, h => exact OwnP.below h (by simpa using ⟨he.os, he.tape, he.output, he.size, he.block⟩)
  | 7, h => exact h
  | 8, h => exact h
  | _ + 9, h => exact h
 case obls =>
  refine .cons ?_ (.cons ?_ (.cons ?_ (.cons ?_ (.cons ?_ (.cons ?_ (.cons ?_ (.cons ?_ (.cons ?_ .nil))))))))
  ·intro ac wx hE hf hd
   have hB : Below X.heap.size X wx := ⟨hE.1,hE.2,hE.3,hE.4,hE.5⟩
   rw [if_pos (Inv.want0 rfl _)]
   have h3 : ac.eval (.tmp 3) = .pointer (some ⟨p, 0, none⟩) := hf 3 (by kernel_rfl)
   clear hf hd
   obtain ⟨a0, a1, a2, a3, a4, a5, a6, a7⟩ := HF.out wx hB
   refine Inv.val (.agg #[.int .i64 s, .int .i64 k, .int .i64 ag, .int .i64 xf, .slice A hln cap, .pointer (some ⟨fs, 0, none⟩), .string nb, .int .i64 of_]) ?_ rfl rfl (Below.refl _ _)
   clear hE hB HF HPL HPT
   generalize ac.eval = ev at *
   simp [execOp, go_sem, *]
  ·intro ac wx hE hf hd
   have hB : Below X.heap.size X wx := ⟨hE.1,hE.2,hE.3,hE.4,hE.5⟩
   rw [if_pos (Inv.want0 rfl _)]
   have h3 : ac.eval (.tmp 3) = .pointer (some ⟨p, 0, none⟩) := hf 3 (by kernel_rfl)
   clear hf hd
   refine Inv.val (.pointer (some ⟨p, 0, none⟩)) ?_ rfl rfl (Below.refl _ _)
   clear hE hB HF HPL HPT
   generalize ac.eval = ev at *
   simp [execOp, go_sem, *]
  ·intro ac wx hE hf hd
   have hB : Below X.heap.size X wx := ⟨hE.1,hE.2,hE.3,hE.4,hE.5⟩
   rw [if_pos (Inv.want0 rfl _)]
   have h13 := hd 1 _ (by kernel_rfl) rfl
   change ac.eval (.tmp 13) = .pointer (some ⟨p, 0, none⟩) at h13
   clear hf hd
   obtain ⟨a0, a1, a2, a3, a4, a5, a6, a7⟩ := HF.out wx hB
   refine Inv.val (.agg #[.int .i64 s, .int .i64 k]) ?_ rfl rfl (Below.refl _ _)
   clear hE hB HF HPL HPT
   generalize ac.eval = ev at *
   simp [execOp, go_sem, *]
  ·intro ac wx hE hf hd
   have hB : Below X.heap.size X wx := ⟨hE.1,hE.2,hE.3,hE.4,hE.5⟩
   rw [if_pos (Inv.want0 rfl _)]
   have h1 : ac.eval (.tmp 1) = .int .i64 st := hf 1 (by kernel_rfl)
   clear hf hd
   refine Inv.val (.int .i64 st) ?_ rfl rfl (Below.refl _ _)
   clear hE hB
   generalize ac.eval = ev at *
   simp [execOp, go_sem, *]
  ·intro ac wx hE hf hd
   have hB : Below X.heap.size X wx := ⟨hE.1,hE.2,hE.3,hE.4,hE.5⟩
   rw [if_pos (Inv.want0 rfl _)]
   have h14 := hd 2 _ (by kernel_rfl) rfl
   change ac.eval (.tmp 14) = .agg #[.int .i64 s, .int .i64 k] at h14
   have h15 := hd 3 _ (by kernel_rfl) rfl
   change ac.eval (.tmp 15) = .int .i64 st at h15
   clear hf hd
   refine Inv.go (f := 104) (xs := #[.agg #[.int .i64 s, .int .i64 k], .int .i64 st]) ?_ rfl ?_
   ·clear hE hB HF HPL HPT
    have hfn : ac.eval (.func 104) = .func (.func 104) #[] #[] := rfl
    generalize ac.eval = ev at *
    simp [execOp, go_sem, *]
   ·exact (HPL.out wx).mono fun e w' ⟨he, hb⟩ => ⟨_, he, rfl, hb⟩
  ·intro ac wx hE hf hd
   have hB : Below X.heap.size X wx := ⟨hE.1,hE.2,hE.3,hE.4,hE.5⟩
   rw [if_pos (Inv.want0 rfl _)]
   have h2 : ac.eval (.tmp 2) = .int .i64 (m : Int) := hf 2 (by kernel_rfl)
   clear hf hd
   refine Inv.val (.int .i64 (m : Int)) ?_ rfl rfl (Below.refl _ _)
   clear hE hB
   generalize ac.eval = ev at *
   simp [execOp, go_sem, *]
  ·intro ac wx hE hf hd
   have hB : Below X.heap.size X wx := ⟨hE.1,hE.2,hE.3,hE.4,hE.5⟩
   rw [if_pos (Inv.want0 rfl _)]
   have h12 := hd 0 _ (by kernel_rfl) rfl
   change ac.eval (.tmp 12) = .agg #[.int .i64 s, .int .i64 k, .int .i64 ag, .int .i64 xf, .slice A hln cap, .pointer (some ⟨fs, 0, none⟩), .string nb, .int .i64 of_] at h12
   have h16 := hd 4 _ (by kernel_rfl) rfl
   change (fun v W => v = .int .i64 (P : Int)) (ac.eval (.tmp 16)) wx at h16
   try dsimp only at h16
   have h17 := hd 5 _ (by kernel_rfl) rfl
   change ac.eval (.tmp 17) = .int .i64 (m : Int) at h17
   clear hf hd
   refine Inv.go (f := 43) (xs := #[.agg #[.int .i64 s, .int .i64 k, .int .i64 ag, .int .i64 xf, .slice A hln cap, .pointer (some ⟨fs, 0, none⟩), .string nb, .int .i64 of_], .int .i64 (P : Int), .int .i64 (m : Int)]) ?_ rfl ?_
   ·clear hE hB HF HPL HPT
    have hfn : ac.eval (.func 43) = .func (.func 43) #[] #[] := rfl
    generalize ac.eval = ev at *
    simp [execOp, go_sem, *]
   ·exact (HPT.out wx (HX.out.trans (hB.mono HX.out.size)) (Nat.le_trans HXS.out hB.size)).mono fun e w' ⟨u, he, ho, hb⟩ => ⟨u, he, ho, hb⟩
  ·intro ac wx hE hf hd
   have hB : Below X.heap.size X wx := ⟨hE.1,hE.2,hE.3,hE.4,hE.5⟩
   rw [if_pos (Inv.want0 rfl _)]
   have h18 := hd 6 _ (by kernel_rfl) rfl
   change (fun v W => OwnP 27 (w.heap.size + 2) W v ps) (ac.eval (.tmp 18)) wx at h18
   try dsimp only at h18
   clear hf hd
   obtain ⟨u18, hu18⟩ : ∃ u, u = ac.eval (.tmp 18) := ⟨_, rfl⟩
   rw [← hu18] at h18
   obtain ⟨A18, c18, hq18⟩ := h18.slice
   rw [HPLN.out] at hq18
   have h18' : ac.eval (.tmp 18) = .slice A18 m c18 := by rw [← hu18]; exact hq18
   refine Inv.val (.int .i64 (m : Int)) ?_ rfl rfl (Below.refl _ _)
   clear hE hB HF HPL HPT h18 hu18 hq18
   generalize ac.eval = ev at *
   simp [go_sem, *]
  ·intro ac wx hE hf hd
   have hB : Below X.heap.size X wx := ⟨hE.1,hE.2,hE.3,hE.4,hE.5⟩
   rw [if_pos (Inv.want0 rfl _)]
   clear hf hd
   refine Inv.val ((.int .i64 0)) ?_ rfl rfl (Below.refl _ _)
   clear hE hB
   have hcst : ∀ v, ac.eval (.const v) = v := fun _ => rfl
   generalize ac.eval = ev at *
   simp [execOp, go_sem, *]
 case fin =>
  intro ac wx hE ha hall
  have hB : Below X.heap.size X wx := ⟨hE.1,hE.2,hE.3,hE.4,hE.5⟩
  have h12 := hall 0 _ rfl
  change ac.eval (.tmp 12) = .agg #[.int .i64 s, .int .i64 k, .int .i64 ag, .int .i64 xf, .slice A hln cap, .pointer (some ⟨fs, 0, none⟩), .string nb, .int .i64 of_] at h12
  have h13 := hall 1 _ rfl
  change ac.eval (.tmp 13) = .pointer (some ⟨p, 0, none⟩) at h13
  have h14 := hall 2 _ rfl
  change ac.eval (.tmp 14) = .agg #[.int .i64 s, .int .i64 k] at h14
  have h15 := hall 3 _ rfl
  change ac.eval (.tmp 15) = .int .i64 st at h15
  have h16 := hall 4 _ rfl
  change (fun v W => v = .int .i64 (P : Int)) (ac.eval (.tmp 16)) wx at h16
  try dsimp only at h16
  generalize hv16 : ac.eval (.tmp 16) = v16 at *
  have h17 := hall 5 _ rfl
  change ac.eval (.tmp 17) = .int .i64 (m : Int) at h17
  have h18 := hall 6 _ rfl
  change (fun v W => OwnP 27 (w.heap.size + 2) W v ps) (ac.eval (.tmp 18)) wx at h18
  try dsimp only at h18
  generalize hv18 : ac.eval (.tmp 18) = v18 at *
  have h19 := hall 7 _ rfl
  change ac.eval (.tmp 19) = .int .i64 (m : Int) at h19
  have h20 := hall 8 _ rfl
  change ac.eval (.tmp 20) = (.int .i64 0) at h20
  simp only [List.foldl, Inv.slot, Act.put] at ha
  change ac.tmps.getD 12 undef = _ at h12
  change ac.tmps.getD 13 undef = _ at h13
  change ac.tmps.getD 14 undef = _ at h14
  change ac.tmps.getD 15 undef = _ at h15
  change ac.tmps.getD 16 undef = _ at hv16
  change ac.tmps.getD 17 undef = _ at h17
  change ac.tmps.getD 18 undef = _ at hv18
  change ac.tmps.getD 19 undef = _ at h19
  change ac.tmps.getD 20 undef = _ at h20
  simp only [h12, h13, h14, h15, hv16, h17, hv18, h19, h20, List.setIfInBounds_toArray, List.set_cons_zero, List.set_cons_succ] at ha
  clear h12 h13 h14 h15 hv16 h17 hv18 h19 h20 hall hE
  subst ha
  subst h16
  obtain ⟨A18, c18, rfl⟩ := h18.slice
  have HPS := Lib.hid h18
  have HBX := Lib.hid hB
  have HXW : Hid (Below w.heap.size w wx) := Lib.hid (HX.out.trans (hB.mono HX.out.size))
  have hxs : w.heap.size + 2 ≤ wx.heap.size := Nat.le_trans HXS.out hB.size
  have hrlt : r < X.heap.size := by have := HPR.out.2; have := HXS.out; omega
  have HVX : Hid (ValsAt wx r (told s st ps m 0)) := Lib.hid (HV0.out.below hB hrlt)
  have HRX := Lib.hid (HRW.out.below hB HRW.out.lt)
  rw [HPLN.out]
  clear h18 hB HF HPL HPT HV0 HRW hrlt
  have HN : Hid (p ≠ r ∧ w.heap.size ≤ r ∧ r < wx.heap.size ∧ p < wx.heap.size) := Lib.hid (by have := HPR.out; omega)
  go_wp2_with fail
  go_loopw [8, 9, 20] (fun _ _ u wr => ∃ kk : Nat, kk ≤ m ∧ u = .int .i64 kk ∧ Hid (ValsAt wr r (told s st ps m kk)) ∧ Hid (Below w.heap.size w wr) ∧ Hid (wx.heap.size ≤ wr.heap.size ∧ ∀ b, b ≠ r → b < wx.heap.size → wr.heap[b]? = wx.heap[b]?)) (fun _ _ u _ => m - (intOf u).toNat)
  case atStart => exact ⟨0, Nat.zero_le _, rfl, HVX, HXW, Lib.hid ⟨Nat.le_refl _, fun _ _ _ => rfl⟩⟩
  case round =>
   obtain ⟨kk, hkk, rfl, HVk, HBk, HKk⟩ := hrel
   by_cases hlt : kk < m
   ·have hkI : (kk : Int) < (m : Int) := by omega
    have hk0 : (0 : Int) ≤ (kk : Int) := by omega
    have hplen : kk < ps.length := by rw [HPLN.out]; exact hlt
    obtain ⟨g, rfl, hg1, hg2, hgc⟩ := own_at HPS.out (by rw [HPLN.out]; omega)
    obtain ⟨c1, c2⟩ := hgc kk hplen
    have hgr : g ≠ r := by have := HPR.out; omega
    have d1 : wr.cell? ⟨g, kk * 2, none⟩ = some (.int .i64 (ps.getD kk (0, 0)).1) := (World.cell?_of_block (HKk.out.2 g hgr hg2)).trans c1
    have d2 : wr.cell? ⟨g, kk * 2 + 1, none⟩ = some (.int .i64 (ps.getD kk (0, 0)).2) := (World.cell?_of_block (HKk.out.2 g hgr hg2)).trans c2
    have hgw : g < wr.heap.size := Nat.lt_of_lt_of_le hg2 HKk.out.1
    have hpr : RowAt wr p 100 #[.int .i64 s, .int .i64 k, .int .i64 ag, .int .i64 xf, .slice A hln cap, .pointer (some ⟨fs, 0, none⟩), .string nb, .int .i64 of_] := (HKk.out.2 p HN.out.1 HN.out.2.2.2).trans HRX.out
    have e0 : wr.cell? ⟨p, 0, none⟩ = some (.int .i64 s) := hpr.cell 0
    have hpl := hpr.lt
    have HH : Hid (∀ b : Bool, b = decide ((ps.getD kk (0, 0)).1 > 0 ∧ (ps.getD kk (0, 0)).1 = st + (kk : Int) * s) → holds s st ps kk = if b = true then Fx.of (ps.getD kk (0, 0)).2 else Fx.none) := Lib.hid fun b hb => by
     unfold holds
     dsimp only
     by_cases e : (ps.getD kk (0, 0)).1 > 0 ∧ (ps.getD kk (0, 0)).1 = st + (kk : Int) * s
     ·rw [if_pos e, if_pos (by rw [hb]; simpa using e)]
     ·rw [if_neg e, if_neg (by rw [hb]; simpa using e)]
    have HTS := Lib.hid (told_succ s st ps m kk)
    have HTM := Lib.hid (told_same (s := s) (st := st) (ps := ps) (n := m) (k := kk))
    have HTL := Lib.hid (told_len s st ps m kk)
    generalize holds s st ps kk = hv at *
    generalize ps.getD kk (0, 0) = pt at *
    obtain ⟨pa, pn⟩ := pt
    dsimp only at d1 d2 HH
    clear hpr c1 c2 hgc
    have h1 : (kk : Int) * s ≤ 87381 * 16777216 := Int.mul_le_mul (by omega) (by omega) (by omega) (by omega)
    have h2 : 0 ≤ (kk : Int) * s := Int.mul_nonneg (by omega) (by omega)
    obtain ⟨mm, hmm⟩ : ∃ mm, (kk : Int) * s = mm := ⟨_, rfl⟩
    rw [hmm] at h1 h2 HH
    obtain ⟨tt, htt⟩ : ∃ tt, st + mm = tt := ⟨_, rfl⟩
    rw [htt] at HH
    have hwm : IntKind.i64.wrap mm = mm := IntWalk.i64_in _ (by omega)
    have hwt : IntKind.i64.wrap tt = tt := IntWalk.i64_in _ (by omega)
    have HOF : Hid (∀ W, Calls Tryz.prog 72 #[.int .i64 pn] W fun e w' => e = .returned (.agg #[.bool (Fx.of pn).ok, .int .i64 (Fx.of pn).n]) ∧ Below W.heap.size W w') := Lib.hid fun W => of_any pn W
    by_cases hp0 : pa > 0
    ·by_cases hpt : pa = tt
     ·have HHV : Hid (hv = Fx.of pn) := Lib.hid (by rw [HH.out true (by rw [eq_comm]; exact decide_eq_true ⟨hp0, hpt⟩), if_pos rfl])
      have hptb : (pa == tt) = true := by simpa using hpt
      clear HH hpt
      generalize Fx.of pn = ov at *
      obtain ⟨oo, on⟩ := ov
      go_wp2_with (go_at_call 72; (with_reducible refine (HOF.out _).mono ?_); rintro e w5 ⟨rfl, hb5⟩; have hB5 : Below wr.heap.size wr w5 := below_via hb5 Bq; have hs5 := hB5.size; have hv5 : ValsAt w5 r (told s st ps m kk) := RowAt.below HVk.out hB5 (Nat.lt_of_lt_of_le HN.out.2.2.1 HKk.out.1); obtain ⟨⟨x0, y0⟩, ⟨x1, y1⟩, y2, y3, y4⟩ := hv5.cells kk (by rw [HTL.out]; exact hlt); have HB5 := Lib.hid hB5; have HV5 := Lib.hid hv5; clear hb5 hB5 hv5)
      go_roundw
      case rel => exact ⟨kk + 1, by omega, by go_num, Lib.hid (by rw [HTS.out, HHV.out]; exact HV5.out.put kk ⟨oo, on⟩ (by rw [HTL.out]; exact hlt)), Lib.hid (((HBk.out.trans (HB5.out.mono HBk.out.size)).setCell HN.out.2.1 _).setCell HN.out.2.1 _), Lib.hid ⟨by have := HKk.out.1; simp [World.setCell]; omega, fun b hb1 hb2 => (Below.heap_setCell _ _ _ _ hb1).trans ((Below.heap_setCell _ _ _ _ hb1).trans ((HB5.out.block b (Nat.lt_of_lt_of_le hb2 HKk.out.1)).trans (HKk.out.2 b hb1 hb2)))⟩⟩
      case measure => simp [intOf]; omega
     ·have HHV : Hid (hv = Fx.none) := Lib.hid (by rw [HH.out false (by simp [hpt]), if_neg (by simp)])
      have hptb : (pa == tt) = false := by simpa using hpt
      clear HH hpt
      go_wp2_with fail
      go_roundw
      case rel => exact ⟨kk + 1, by omega, by go_num, Lib.hid (by rw [HTM.out HHV.out]; exact RowAt.alloc HVk.out _), Lib.hid (HBk.out.alloc HBk.out.size _), Lib.hid ⟨by have := HKk.out.1; simp; omega, fun b hb1 hb2 => (Below.heap_alloc _ _ _ (Nat.lt_of_lt_of_le hb2 HKk.out.1)).trans (HKk.out.2 b hb1 hb2)⟩⟩
      case measure => simp [intOf]; omega
    ·have HHV : Hid (hv = Fx.none) := Lib.hid (by rw [HH.out false (by simp [hp0]), if_neg (by simp)])
     have hp1 : ¬ (0 : Int) < pa := by omega
     clear HH hp0
     go_wp2_with fail
     go_roundw
     case rel => exact ⟨kk + 1, by omega, by go_num, Lib.hid (by rw [HTM.out HHV.out]; exact RowAt.alloc HVk.out _), Lib.hid (HBk.out.alloc HBk.out.size _), Lib.hid ⟨by have := HKk.out.1; simp; omega, fun b hb1 hb2 => (Below.heap_alloc _ _ _ (Nat.lt_of_lt_of_le hb2 HKk.out.1)).trans (HKk.out.2 b hb1 hb2)⟩⟩
     case measure => simp [intOf]; omega
   ·have hkm : kk = m := by omega
    have hkI : ¬ (kk : Int) < (m : Int) := by omega
    have HE : Hid (OwnV w.heap.size wr (.slice (some ⟨r, 0, none⟩) m m) (held s st ps m)) := Lib.hid (by
     have h := HVk.out
     rw [hkm, told_all] at h
     have h2 := ValsAt.own (base := w.heap.size) h HN.out.2.1 (by rw [held_len]; unfold maxLen; omega)
     rw [held_len] at h2
     exact h2)
    go_wp2_with fail
    go_ret
    exact ⟨_, rfl, HE.out, HBk.out⟩
end
end Go.Proofs.YtljlanhpjpjgaaaGreatDoor
