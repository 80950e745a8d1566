/- WhBack WrSlot WtPlc WtTorn -/
import Derived.Test.YtljlanhpjpjgaaaGreatDoorJ1
import Derived.Test.YtljlanhpjpjgaaaGreatDoorJ8
import Derived.Test.YtljlanhpjpjgaaaGreatDoorJ22
import Derived.Test.YtljlanhpjpjgaaaGreatDoorJ26
namespace Go.Proofs.YtljlanhpjpjgaaaGreatDoor
set_option maxRecDepth 100000
set_option maxHeartbeats 8000000
section
open Wh (At)
namespace Wh
theorem byt_right (X Y : List UInt8) (i : Nat) (n : Nat) (hn : X.length = n) : byt (X ++ Y) (n + i) = byt Y i := by
 unfold byt
 rw [List.getD_eq_getElem?_getD, List.getD_eq_getElem?_getD, List.getElem?_append_right (by omega), hn, Nat.add_sub_cancel_left]
theorem nm_right (X Y : List UInt8) (i n : Nat) (hn : X.length = n) : nm (X ++ Y) (n + i) = nm Y i := by
 unfold nm
 rw [byt_right X Y i n hn, show n + i + 1 = n + (i + 1) by omega, byt_right X Y (i + 1) n hn, show n + i + 2 = n + (i + 2) by omega, byt_right X Y (i + 2) n hn, show n + i + 3 = n + (i + 3) by omega, byt_right X Y (i + 3) n hn]
theorem nm_four (n : Int) (Y : List UInt8) (h1 : 0 ≤ n) (h2 : n ≤ 4294967295) : nm (four n ++ Y) 0 = n := by
 unfold nm
 have e0 : (byt (four n ++ Y) 0 : Int) = (n / 16777216) % 256 := u8of _
 have e1 : (byt (four n ++ Y) (0 + 1) : Int) = (n / 65536) % 256 := u8of _
 have e2 : (byt (four n ++ Y) (0 + 2) : Int) = (n / 256) % 256 := u8of _
 have e3 : (byt (four n ++ Y) (0 + 3) : Int) = n % 256 := u8of _
 rw [e0, e1, e2, e3]
 omega
theorem nm_fours : ∀ (ns : List Int) (M : List UInt8) (i : Nat) (n : Int), ns[i]? = some n → (∀ m ∈ ns, 0 ≤ m ∧ m ≤ 4294967295) → nm (fours ns ++ M) (4 * i) = n
 | [], _, _, _, h, _ => by simp at h
 | m :: ns, M, 0, n, h, hb => by
   have e : m = n := by simpa using h
   subst e
   have := hb m (by simp)
   have e2 : fours (m :: ns) ++ M = four m ++ (fours ns ++ M) := by unfold fours; simp
   rw [e2]
   exact nm_four m _ this.1 this.2
 | m :: ns, M, i + 1, n, h, hb => by
   have e2 : fours (m :: ns) ++ M = four m ++ (fours ns ++ M) := by unfold fours; simp
   rw [e2, show 4 * (i + 1) = 4 + 4 * i by omega, nm_right (four m) _ (4 * i) 4 rfl]
   exact nm_fours ns M i n (by simpa using h) fun x hx => hb x (by simp [hx])
theorem ints_head (ag xf : Int) (l : List (Int × Int)) (k i : Nat) (hi : i < 4) : (ints ag xf l k)[i]? = [ag, lsp l, xf, (l.length : Int)][i]? := by
 induction k with
 | zero => rfl
 | succ k ih =>
   unfold ints
   rw [List.getElem?_append_left (by rw [ints_len]; omega)]
   exact ih
theorem ints_tail (ag xf : Int) (l : List (Int × Int)) (k i j : Nat) (hi : i < k) (hj : j < 3) : (ints ag xf l k)[4 + 3 * i + j]? = [ends l i, (At l i).1, (At l i).2][j]? := by
 induction k with
 | zero => omega
 | succ k ih =>
   unfold ints
   by_cases e : i = k
   ·subst e
    rw [List.getElem?_append_right (by rw [ints_len]; omega), ints_len, show 4 + 3 * i + j - (4 + 3 * i) = j by omega]
   ·rw [List.getElem?_append_left (by rw [ints_len]; omega)]
    exact ih (by omega)
theorem ints_ok {ag xf : Int} {l : List (Int × Int)} (hv : val ag xf l = true) : ∀ n ∈ ints ag xf l l.length, 0 ≤ n ∧ n ≤ 4294967295 := by
 obtain ⟨⟨g1, g2⟩, x1, x2, ha⟩ := val_t hv
 obtain ⟨a1, a2, a3, a4, a5⟩ := av_t ha
 have hl := lsp_bd a1 a3
 have key : ∀ k, k ≤ l.length → ∀ n ∈ ints ag xf l k, 0 ≤ n ∧ n ≤ 4294967295 := by
  intro k
  induction k with
  | zero =>
    intro _ n hn
    simp [ints] at hn
    rcases hn with rfl | rfl | rfl | rfl <;> omega
  | succ k ih =>
    intro hk n hn
    unfold ints at hn
    rw [List.mem_append] at hn
    rcases hn with hn | hn
    ·exact ih (by omega) n hn
    ·have h1 := alls_num (k := k) (by omega) a3
     have h2 := ends_bd a2 (alls_cnt a3) k (by omega)
     simp at hn
     rcases hn with rfl | rfl | rfl <;> omega
 exact key l.length (Nat.le_refl _)
theorem At_eq (l : List (Int × Int)) (i : Nat) (h : i < l.length) : l[i]? = some (At l i) := by
 unfold At
 rw [List.getD_eq_getElem?_getD, List.getElem?_eq_getElem h]
 rfl
theorem back {ag xf : Int} {l : List (Int × Int)} (hv : val ag xf l = true) (M : List UInt8) : dok (enc ag xf l ++ M) = true ∧ dag (enc ag xf l ++ M) = ag ∧ dxf (enc ag xf l ++ M) = xf ∧ dl (enc ag xf l ++ M) = l := by
 obtain ⟨⟨g1, g2⟩, x1, x2, ha⟩ := val_t hv
 obtain ⟨a1, a2, a3, a4, a5⟩ := av_t ha
 have he : enc ag xf l = fours (ints ag xf l l.length) := by unfold enc; rw [if_pos hv]
 have hlen : (enc ag xf l).length = 16 + 12 * l.length := by rw [he, fours_len, ints_len]; omega
 have hb := ints_ok hv
 have n0 : nm (enc ag xf l ++ M) 0 = ag := by rw [he]; exact nm_fours _ M 0 ag (ints_head ag xf l _ 0 (by omega)) hb
 have n8 : nm (enc ag xf l ++ M) 8 = xf := by rw [he]; exact nm_fours _ M 2 xf (ints_head ag xf l _ 2 (by omega)) hb
 have n12 : nm (enc ag xf l ++ M) 12 = (l.length : Int) := by rw [he]; exact nm_fours _ M 3 _ (ints_head ag xf l _ 3 (by omega)) hb
 have hc : cand (enc ag xf l ++ M) = l := by
  unfold cand
  rw [n12, Int.toNat_natCast]
  apply List.ext_getElem?
  intro i
  by_cases hi : i < l.length
  ·rw [At_eq (archs _ _) i (by rw [archs_len]; exact hi), At_eq l i hi, archs_at _ _ i hi]
   have s1 : nm (enc ag xf l ++ M) (16 + 12 * i + 4) = (At l i).1 := by
    rw [he, show 16 + 12 * i + 4 = 4 * (4 + 3 * i + 1) by omega]
    exact nm_fours _ M _ _ (ints_tail ag xf l _ i 1 hi (by omega)) hb
   have s2 : nm (enc ag xf l ++ M) (16 + 12 * i + 8) = (At l i).2 := by
    rw [he, show 16 + 12 * i + 8 = 4 * (4 + 3 * i + 2) by omega]
    exact nm_fours _ M _ _ (ints_tail ag xf l _ i 2 hi (by omega)) hb
   rw [s1, s2]
  ·rw [List.getElem?_eq_none (by rw [archs_len]; omega), List.getElem?_eq_none (by omega)]
 have hr : rok (enc ag xf l ++ M) = true := by
  unfold rok
  simp only [Bool.and_eq_true, decide_eq_true_eq]
  rw [n12, List.length_append, hlen]
  exact ⟨⟨by omega, by omega⟩, by omega⟩
 have hel : encL (enc ag xf l ++ M) = enc ag xf l := by unfold encL; rw [n0, n8, hc]
 have hd : dok (enc ag xf l ++ M) = true := by
  rw [dok_p hr (by rw [n0, n8, hc]; exact hv), hel]
  exact decide_eq_true ⟨by rw [List.length_append]; omega, List.take_left⟩
 obtain ⟨e1, e2, e3, _⟩ := dok_t hd
 exact ⟨hd, e1.trans n0, e2.trans n8, e3.trans hc⟩
end Wh
end
section
open Go.RowKit
open Fx (Vl)
open Vf (Has upd)
namespace Wp
theorem put_enc (B : List UInt8) (o : Nat) (t u : Int) : put B o t u = upd B o (Sl.enc t u) := rfl
theorem cut3 {B : List UInt8} {o k : Nat} (h : o + k ≤ B.length) : ∃ X Y Z : List UInt8, B = X ++ (Y ++ Z) ∧ X.length = o ∧ Y.length = k := by
 refine ⟨B.take o, (B.drop o).take k, (B.drop o).drop k, ?_, ?_, ?_⟩
 ·rw [List.take_append_drop, List.take_append_drop]
 ·rw [List.length_take]; omega
 ·rw [List.length_take, List.length_drop]; omega
theorem slot_else {B : List UInt8} {o o' : Nat} {t u : Int} (ho : o + 12 ≤ B.length) (h : o' + 12 ≤ o ∨ o + 12 ≤ o') : slot (put B o t u) o' = slot B o' := by
 obtain ⟨X, Y, Z, rfl, rfl, hY⟩ := cut3 ho
 have hE := Sl.enc_len t u
 rw [put_enc, upd_mid (by omega)]
 unfold slot
 congr 1
 rcases h with h | h
 ·rw [List.drop_append_of_le_length (by omega), List.drop_append_of_le_length (by omega), List.take_append_of_le_length (by rw [List.length_drop]; omega), List.take_append_of_le_length (by rw [List.length_drop]; omega)]
 ·have e1 : (X ++ (Sl.enc t u ++ Z)).drop o' = Z.drop (o' - (X.length + 12)) := by
   rw [← List.append_assoc, List.drop_append (l₁ := X ++ Sl.enc t u), List.drop_of_length_le (by rw [List.length_append]; omega), List.length_append, hE, List.nil_append]
  have e2 : (X ++ (Y ++ Z)).drop o' = Z.drop (o' - (X.length + 12)) := by
   rw [← List.append_assoc, List.drop_append (l₁ := X ++ Y), List.drop_of_length_le (by rw [List.length_append]; omega), List.length_append, hY, List.nil_append]
  rw [e1, e2]
structure Stands (l : List Vf.Fl) (n : List UInt8) (h : Hd) (B : List UInt8) : Prop where
 fits : Fits l n h B
 head : ∃ M, B = Wh.enc h.ag h.xf h.l ++ M
theorem enc_len7 {h : Hd} (hv : h.val = true) : (Wh.enc h.ag h.xf h.l).length = 16 + 12 * h.l.length := by
 unfold Wh.enc; rw [if_pos (show Wh.val h.ag h.xf h.l = true from hv), Wh.fours_len, Wh.ints_len]; omega
theorem Stands.info {l : List Vf.Fl} {n : List UInt8} {h : Hd} {B : List UInt8} (f : Stands l n h B) : info l n = (h, 0) := by
 obtain ⟨M, rfl⟩ := f.head
 obtain ⟨k1, k2, k3, k4⟩ := Wh.back (show Wh.val h.ag h.xf h.l = true from f.fits.val) M
 have hs := f.fits.has.size_eq
 have hr := f.fits.has.read_eq (t := 0) (m := ((Wh.enc h.ag h.xf h.l ++ M).length : Int)) (by omega) (by omega) (by omega)
 rw [show ((0 : Int)).toNat = 0 from rfl, List.drop_zero, Int.toNat_natCast, List.take_length] at hr
 have hh : hdOf (Wh.enc h.ag h.xf h.l ++ M) = h := by unfold hdOf; rw [k2, k3, k4]
 have he := (Wh.dok_t k1).2.2.2
 unfold Wp.info
 rw [hs]
 dsimp only
 rw [if_neg (by omega), hr]
 dsimp only
 rw [hh, he, if_neg (by have := f.fits.size; omega)]
theorem at_lo {h : Hd} (hv : h.val = true) {i : Nat} (hi : i < h.l.length) {t : Int} (ht : 0 ≤ t) : 16 + 12 * (h.l.length : Int) ≤ at_ h i t ∧ h.offs (i : Int) ≤ at_ h i t ∧ at_ h i t + 12 ≤ h.offs (i : Int) + 12 * h.cnt i := by
 obtain ⟨⟨n1, n2⟩, n3, n4⟩ := Hd.nums hv i hi
 have h1 := ring_in hv hi
 have h2 := Sl.pl_bd n1 n3 ht
 unfold at_
 omega
theorem Stands.write {S : Vf.Sv} {n : List UInt8} {h : Hd} {B : List UInt8} (f : Stands S.now n h B) {i : Nat} (hi : i < h.l.length) (t u : Int) (ht : 0 ≤ t) : Stands (write S n h i t u).now n h (put B (at_ h i t).toNat (Sl.al t (h.step i)) u) := by
 refine ⟨f.fits.write hi t u ht, ?_⟩
 obtain ⟨M, rfl⟩ := f.head
 have hE := enc_len7 f.fits.val
 obtain ⟨q1, q2, q3⟩ := at_lo f.fits.val hi ht
 have q4 := (ring_in f.fits.val hi).2
 have q5 := f.fits.size
 have hl : (at_ h i t).toNat + 12 ≤ (Wh.enc h.ag h.xf h.l ++ M).length := by omega
 obtain ⟨k, hk⟩ : ∃ k, (at_ h i t).toNat = (Wh.enc h.ag h.xf h.l).length + k := ⟨(at_ h i t).toNat - (Wh.enc h.ag h.xf h.l).length, by omega⟩
 refine ⟨upd M k (Sl.enc (Sl.al t (h.step i)) u), ?_⟩
 rw [put_enc, hk]
 unfold upd
 rw [List.take_append, List.take_of_length_le (by omega), List.drop_append, List.drop_of_length_le (by omega), List.nil_append, List.append_assoc, List.append_assoc, List.append_assoc]
 congr 2
 ·rw [Nat.add_sub_cancel_left]
 ·rw [Nat.add_assoc, Nat.add_sub_cancel_left]
theorem offs_less {h : Hd} (hv : h.val = true) {i j : Nat} (hij : i < j) (hj : j < h.l.length) : h.offs (i : Int) + 12 * h.cnt i ≤ h.offs (j : Int) := by
 obtain ⟨_, _, _, ha⟩ := Wh.val_t hv
 obtain ⟨a1, a2, a3, a4, a5⟩ := Wh.av_t ha
 have hc : ∀ k, k < j → 1 ≤ (Wh.At h.l k).2 := fun k hk => ((Wh.alls_num (by omega) a3).2).1
 rw [offs_eq hv (by omega : i < h.l.length), offs_eq hv hj]
 unfold Wh.ends
 have h1 := sm_mono (l := h.l) (i := i) j hc hij
 show _ + 12 * (Wh.At h.l i).2 ≤ _
 omega
theorem create_stands {S : Vf.Sv} {n : List UInt8} {h : Hd} (hv : h.val = true) (h0 : (create S n h).2 = 0) (hh : ∀ b, (Vf.create S n b).2 = 0 → Has (Vf.create S n b).1.now n b) : ∃ B, Stands (create S n h).1.now n h B := by
 obtain ⟨_, _, _, ha⟩ := Wh.val_t hv
 unfold Wp.create at h0 ⊢
 rw [if_neg (by rw [hv]; simp)] at h0 ⊢
 dsimp only at h0 ⊢
 split at h0
 ·rename_i hz
  rw [if_pos hz]
  refine ⟨_, ⟨hh _ hz, hv, ?_⟩, ⟨_, rfl⟩⟩
  have h1 := enc_len7 hv
  have h2 : ((Wh.enc h.ag h.xf h.l).length : Int) ≤ h.size := by
   have hr := ring_in hv (i := 0) (by have := Hd.len hv; omega)
   obtain ⟨⟨n1, n2⟩, n3, n4⟩ := Hd.nums hv 0 (by have := Hd.len hv; omega)
   omega
  rw [List.length_append, List.length_replicate]
  omega
 ·rename_i hz
  exact absurd h0 hz
end Wp
end
section
open Go.RowKit
open Fx (Vl)
open Vf (Has upd)
namespace Wp
def Stood (s c now t : Int) (k : Nat) : Prop := 0 < t ∧ t ≤ now ∧ Sl.al t s = t ∧ Sl.pl s c t = (k : Int)
theorem once {s c now t t' : Int} {k : Nat} (hs : 1 ≤ s) (hc : 1 ≤ c) (h : Stood s c now t k) (h0 : 0 < t') (hle : t' ≤ t) (ha : Sl.al t' s = t') (hp : Sl.pl s c t' = (k : Int)) : t' = t ∨ s * c ≤ now - t' := by
 obtain ⟨t0, tn, ta, tp⟩ := h
 rw [Sl.al_mul hs (by omega)] at ta ha
 rw [Sl.pl_eq hs hc (by omega)] at tp hp
 generalize t / s = q at *
 generalize t' / s = q' at *
 by_cases e : q' = q
 ·left; rw [← ta, ← ha, e]
 right
 have hlt : q' < q := by
  rcases Int.lt_or_le q' q with h | h
  ·exact h
  ·exfalso
   have := Int.mul_le_mul_of_nonneg_left h (by omega : 0 ≤ s)
   apply e
   have : s * q' = s * q := by omega
   exact Int.eq_of_mul_eq_mul_left (by omega) this
 have hd : c ∣ q - q' := by
  rw [Int.dvd_iff_emod_eq_zero]
  exact Int.emod_eq_emod_iff_emod_sub_eq_zero.1 (tp.trans hp.symm)
 have hle2 : c ≤ q - q' := Int.le_of_dvd (by omega) hd
 have := Int.mul_le_mul_of_nonneg_left hle2 (by omega : 0 ≤ s)
 rw [Int.mul_sub] at this
 omega
def Placed (h : Hd) (now : Int) (B : List UInt8) : Prop := ∀ i, i < h.l.length → ∀ k : Nat, (k : Int) < h.cnt i → (slot B ((h.offs (i : Int)).toNat + 12 * k)).1 = 0 ∨ Stood (h.step i) (h.cnt i) now (slot B ((h.offs (i : Int)).toNat + 12 * k)).1 k
theorem nth_apart {h : Hd} (hv : h.val = true) {i j : Nat} (hi : i < h.l.length) (hj : j < h.l.length) {k m : Nat} (hk : (k : Int) < h.cnt i) (hm : (m : Int) < h.cnt j) (hne : i ≠ j ∨ k ≠ m) :
 (h.offs (i : Int)).toNat + 12 * k + 12 ≤ (h.offs (j : Int)).toNat + 12 * m ∨ (h.offs (j : Int)).toNat + 12 * m + 12 ≤ (h.offs (i : Int)).toNat + 12 * k := by
 have p1 := ring_in hv hi
 have q1 := ring_in hv hj
 rcases Nat.lt_trichotomy i j with e | e | e
 ·have := offs_less hv e hj
  omega
 ·subst e; omega
 ·have := offs_less hv e hi
  omega
theorem at_nth {h : Hd} (hv : h.val = true) {i : Nat} (hi : i < h.l.length) {t : Int} (ht : 0 ≤ t) : (at_ h i t).toNat = (h.offs (i : Int)).toNat + 12 * (Sl.pl (h.step i) (h.cnt i) t).toNat ∧ ((Sl.pl (h.step i) (h.cnt i) t).toNat : Int) = Sl.pl (h.step i) (h.cnt i) t ∧ Sl.pl (h.step i) (h.cnt i) t < h.cnt i := by
 obtain ⟨⟨n1, n2⟩, n3, n4⟩ := Hd.nums hv i hi
 have h1 := ring_in hv hi
 have h2 := Sl.pl_bd n1 n3 ht
 unfold at_
 omega
theorem slot_put1 {B : List UInt8} {o : Nat} {t u : Int} (ho : o + 12 ≤ B.length) (t0 : 0 ≤ t) (t1 : t ≤ 4294967295) : (slot (put B o t u) o).1 = t := by
 obtain ⟨X, Y, Z, rfl, rfl, hY⟩ := cut3 ho
 have hE := Sl.enc_len t u
 rw [put_enc, upd_mid (by omega)]
 unfold slot
 rw [List.drop_left, List.take_append_of_le_length (by omega), List.take_of_length_le (by omega)]
 unfold pt Sl.dat
 rw [if_pos hE, Sl.back_at]
 unfold Sl.lim
 omega
theorem Placed.put {l : List Vf.Fl} {n : List UInt8} {h : Hd} {B : List UInt8} {now : Int} (f : Fits l n h B) (p : Placed h now B) {i : Nat} (hi : i < h.l.length) (t u : Int) (ht : 0 ≤ t) (h1 : t ≤ now) (h2 : now ≤ 4294967295) (ha : Sl.al t (h.step i) ≠ 0) : Placed h now (put B (at_ h i t).toNat (Sl.al t (h.step i)) u) := by
 intro j hj k hk
 obtain ⟨⟨n1, n2⟩, n3, n4⟩ := Hd.nums f.val i hi
 obtain ⟨e1, e2, e3⟩ := at_nth f.val hi ht
 have hr := ring_in f.val hi
 have hs := f.size
 have hal := Sl.al_bd n1 ht
 rw [e1]
 by_cases e : i = j ∧ (Sl.pl (h.step i) (h.cnt i) t).toNat = k
 ·obtain ⟨rfl, rfl⟩ := e
  right
  rw [slot_put1 (by omega) (by omega) (by omega)]
  refine ⟨by omega, by omega, ?_, by rw [pl_al n1 ht]; omega⟩
  have q : Sl.al (Sl.al t (h.step i)) (h.step i) = Sl.al t (h.step i) := by
   rw [Sl.al_mul n1 hal.1, Sl.al_div n1 ht, ← Sl.al_mul n1 ht]
  exact q
 ·rw [slot_else (by omega) ?_]
  ·exact p j hj k hk
  ·have := nth_apart f.val hi hj (by rw [e2]; exact e3) hk ((Decidable.em (i = j)).elim (fun q => .inr fun z => e ⟨q, z⟩) .inl)
   omega
theorem climb_placed {n : List UInt8} {h : Hd} {t now : Int} (ht : 0 ≤ t) (h1 : t ≤ now) (h2 : now ≤ 4294967295) : ∀ (m : Nat) (S : Vf.Sv) (k : Nat) (B : List UInt8), Stands S.now n h B → Placed h now B → k + m < h.l.length →
 ∃ B', Stands (climb n h t m S k).now n h B' ∧ Placed h now B'
 | 0, S, k, B, f, p, hk => ⟨B, f, p⟩
 | m + 1, S, k, B, f, p, hk => by
   have hs : ∃ B', Stands (passes S n h k t).1.now n h B' ∧ Placed h now B' := by
    unfold Wp.passes
    dsimp only
    split
    ·exact ⟨B, f, p⟩
    ·rename_i hc
     have ha : Sl.al t (h.step (k + 1)) ≠ 0 := fun e => hc (.inr e)
     exact ⟨_, f.write (i := k + 1) (by omega) t _ ht, p.put f.fits (by omega) t _ ht h1 h2 ha⟩
   unfold climb
   split
   ·obtain ⟨B1, f1, p1⟩ := hs
    exact climb_placed ht h1 h2 m _ (k + 1) B1 f1 p1 (by omega)
   ·exact ⟨B, f, p⟩
theorem lays_placed {n : List UInt8} {h : Hd} {S : Vf.Sv} {B : List UInt8} {now : Int} (f : Stands S.now n h B) (q : Placed h now B) (h2 : now ≤ 4294967295) (p : Int × Int) :
 ∃ B', Stands (lays S n h now p).1.now n h B' ∧ Placed h now B' := by
 have hl := Hd.len f.fits.val
 unfold Wp.lays
 split
 ·exact ⟨B, f, q⟩
 rename_i hc
 have hp1 : 1 ≤ p.1 := by omega
 have hp2 : p.1 ≤ now := by omega
 split
 ·exact ⟨B, f, q⟩
 rename_i i hi
 have hix := first_lt _ _ hi
 split
 ·exact ⟨B, f, q⟩
 rename_i ha
 exact climb_placed (by omega) hp2 h2 (h.l.length - 1 - i) _ i _ (f.write (i := i) (by omega) p.1 p.2 (by omega)) (q.put f.fits (by omega) p.1 p.2 (by omega) hp2 h2 ha) (by omega)
theorem layAll_placed {n : List UInt8} {h : Hd} {now : Int} (h2 : now ≤ 4294967295) : ∀ (l : List (Int × Int)) (S : Vf.Sv) (c : Int) (B : List UInt8), Stands S.now n h B → Placed h now B → ∃ B', Stands (layAll n h now l S c).1.now n h B' ∧ Placed h now B'
 | [], S, c, B, f, p => ⟨B, f, p⟩
 | x :: l, S, c, B, f, p => by
   obtain ⟨B1, f1, p1⟩ := lays_placed f p h2 x
   exact layAll_placed h2 l _ _ B1 f1 p1
theorem update_placed {n : List UInt8} {h : Hd} {S : Vf.Sv} {B : List UInt8} {now : Int} (f : Stands S.now n h B) (p : Placed h now B) (h1 : 1 ≤ now) (h2 : now ≤ 4294967295) (l : List (Int × Int)) :
 ∃ B', Stands (update S n now l).1.now n h B' ∧ Placed h now B' ∧ (update S n now l).1.was = (update S n now l).1.now ∧ (update S n now l).1.l = [] := by
 have hi := f.info
 rw [update_yes (S := S) (n := n) (now := now) (l := l) (by rw [hi]) h1 h2, hi]
 obtain ⟨B1, f1, p1⟩ := layAll_placed h2 l S 0 B f p
 exact ⟨B1, f1, p1, rfl, rfl⟩
theorem create_placed {S : Vf.Sv} {n : List UInt8} {h : Hd} {now : Int} (hv : h.val = true) (h0 : (create S n h).2 = 0) (hh : ∀ b, (Vf.create S n b).2 = 0 → Has (Vf.create S n b).1.now n b) : ∃ B, Stands (create S n h).1.now n h B ∧ Placed h now B := by
 obtain ⟨_, _, _, ha⟩ := Wh.val_t hv
 unfold Wp.create at h0 ⊢
 rw [if_neg (by rw [hv]; simp)] at h0 ⊢
 dsimp only at h0 ⊢
 split at h0
 ·rename_i hz
  rw [if_pos hz]
  have h1 := enc_len7 hv
  have h2 : ((Wh.enc h.ag h.xf h.l).length : Int) ≤ h.size := by
   have hr := ring_in hv (i := 0) (by have := Hd.len hv; omega)
   obtain ⟨⟨n1, n2⟩, n3, n4⟩ := Hd.nums hv 0 (by have := Hd.len hv; omega)
   omega
  refine ⟨_, ⟨⟨hh _ hz, hv, ?_⟩, ⟨_, rfl⟩⟩, fun i hi k hk => .inl ?_⟩
  ·rw [List.length_append, List.length_replicate]
   omega
  ·have hr := ring_in hv hi
   have hb : (h.offs (i : Int)).toNat + 12 * k = (Wh.enc h.ag h.xf h.l).length + ((h.offs (i : Int)).toNat + 12 * k - (Wh.enc h.ag h.xf h.l).length) := by omega
   unfold slot
   rw [hb, List.drop_append, List.drop_of_length_le (by omega), List.nil_append, Nat.add_sub_cancel_left, List.drop_replicate, List.take_replicate]
   rw [show min 12 ((h.size - ((Wh.enc h.ag h.xf h.l).length : Int)).toNat - ((h.offs (i : Int)).toNat + 12 * k - (Wh.enc h.ag h.xf h.l).length)) = 12 by omega]
   rfl
 ·rename_i hz
  exact absurd h0 hz
end Wp
end
section
open Go.RowKit
open Fx (Vl)
open Vf (Has upd)
namespace Vf
theorem Has.does {l : List Fl} {n B : List UInt8} (h : Has l n B) (o : Nat) (p : List UInt8) : Has (does l ⟨2, n, o, p⟩) n (upd B o p) := by
 obtain ⟨k, nm, h1, h2⟩ := h.at_
 refine ⟨h.is, k, nm, ?_, ?_⟩
 ·unfold Vf.does
  rw [if_neg (by simp), List.append_nil]
  show ixFrom n 0 (goes ⟨2, n, o, p⟩ _ 0 l) = _
  rw [goes_two_ix]
  exact h1
 ·unfold Vf.does
  rw [if_neg (by simp), List.append_nil, h1]
  obtain ⟨hk1, hk2⟩ := List.getElem?_eq_some_iff.1 h2
  rw [goes_two_get n p o l 0 k k (by omega) hk1, hk2]
structure OnWay (S : Sv) (n B : List UInt8) (Ok : List UInt8 → Prop) : Prop where
 has : Has S.now n B
 now : S.now = rep S.was S.l
 left : ∀ a b : Int, ∃ B', Has (crash S a b) n B' ∧ Ok B'
theorem OnWay.start {S : Sv} {n B : List UInt8} {Ok : List UInt8 → Prop} (h : Has S.now n B) (hw : S.was = S.now) (hl : S.l = []) (hB : Ok B) : OnWay S n B Ok := by
 refine ⟨h, by rw [hl, hw]; rfl, fun a b => ⟨B, ?_, hB⟩⟩
 rw [crash_all (by rw [hl]; exact Nat.zero_le _), hl, hw]
 exact h
theorem crash_snoc {S : Sv} (hn : S.now = rep S.was S.l) (a : Ac) (ha : a.kind = 2) (x y : Int) :
 crash (S.act a) x y = if x.toNat < S.l.length then crash S x y else if x.toNat = S.l.length then does S.now (cut a y) else does S.now a := by
 have hlen : (S.l ++ [a]).length = S.l.length + 1 := by simp
 split
 ·rename_i h
  have e1 : (S.l ++ [a])[x.toNat]? = S.l[x.toNat]? := List.getElem?_append_left h
  have e2 : (S.l ++ [a]).take x.toNat = S.l.take x.toNat := List.take_append_of_le_length (by omega)
  unfold crash Sv.act
  dsimp only
  rw [e1, e2, List.getElem?_eq_getElem h]
 ·rename_i h
  split
  ·rename_i h2
   have e1 : (S.l ++ [a])[x.toNat]? = some a := by rw [h2]; simp
   have e2 : (S.l ++ [a]).take x.toNat = S.l := by rw [h2]; simp
   unfold crash Sv.act
   dsimp only
   rw [e1, e2]
   dsimp only
   rw [if_pos ha, ← hn]
  ·rename_i h2
   rw [crash_all (show (S.act a).l.length ≤ x.toNat from by unfold Sv.act; dsimp only; omega)]
   unfold Sv.act
   dsimp only
   rw [rep_append, ← hn]
theorem OnWay.write {S : Sv} {n B : List UInt8} {Ok : List UInt8 → Prop} (h : OnWay S n B Ok) {t : Int} {p : List UInt8} (ht : 0 ≤ t) (hb : t + (p.length : Int) ≤ (B.length : Int)) (hok : ∀ d, d ≤ p.length → Ok (upd B t.toNat (p.take d))) :
 OnWay (Vf.write S n t p).1 n (upd B t.toNat p) Ok := by
 obtain ⟨h1, h2⟩ := h.has.write_eq ht hb
 refine ⟨h1, ?_, fun a b => ?_⟩
 ·rw [h2]
  show does S.now _ = rep S.was (S.l ++ [_])
  rw [rep_append, ← h.now]
 ·rw [h2]
  show ∃ B', Has (crash (S.act _) a b) n B' ∧ Ok B'
  rw [crash_snoc h.now _ rfl]
  split
  ·exact h.left a b
  ·split
   ·refine ⟨_, h.has.does _ _, hok (torn ⟨2, n, t.toNat, p⟩ b) ?_⟩
    show (max 0 (min b (p.length : Int))).toNat ≤ p.length
    omega
   ·have := hok p.length (Nat.le_refl _)
    rw [List.take_length] at this
    exact ⟨_, h.has.does _ _, this⟩
end Vf
namespace Wp
def Gone (o n x : List UInt8) : Prop := pt x = pt o ∨ pt x = pt n ∨ (pt x).1 ≤ 0 ∨ (pt x).1 < (pt o).1 ∨ (pt x).1 < (pt n).1
theorem gone_a {o n : List UInt8} (ho : o.length = 12) (d : Nat) (hd : d ≤ 4) : Gone o n (upd o 0 (([0, 0, 0, 0] : List UInt8).take d)) := by
 obtain ⟨c0, c1, c2, c3, c4, c5, c6, c7, c8, c9, c10, c11, rfl⟩ := Sl.twelve ho
 have b0 := Sl.u8_bd c0
 have b1 := Sl.u8_bd c1
 have b2 := Sl.u8_bd c2
 have b3 := Sl.u8_bd c3
 have key : ∀ a0 a1 a2 a3 : UInt8, ((a0.toNat : Int) * 16777216 + a1.toNat * 65536 + a2.toNat * 256 + a3.toNat) ≤ ((c0.toNat : Int) * 16777216 + c1.toNat * 65536 + c2.toNat * 256 + c3.toNat) → Gone [c0, c1, c2, c3, c4, c5, c6, c7, c8, c9, c10, c11] n [a0, a1, a2, a3, c4, c5, c6, c7, c8, c9, c10, c11] := fun a0 a1 a2 a3 hle => by
  have e1 : (pt [a0, a1, a2, a3, c4, c5, c6, c7, c8, c9, c10, c11]).1 = ((a0.toNat : Int) * 16777216 + a1.toNat * 65536 + a2.toNat * 256 + a3.toNat) := rfl
  have e2 : (pt [c0, c1, c2, c3, c4, c5, c6, c7, c8, c9, c10, c11]).1 = ((c0.toNat : Int) * 16777216 + c1.toNat * 65536 + c2.toNat * 256 + c3.toNat) := rfl
  have e3 : (pt [a0, a1, a2, a3, c4, c5, c6, c7, c8, c9, c10, c11]).2 = (pt [c0, c1, c2, c3, c4, c5, c6, c7, c8, c9, c10, c11]).2 := rfl
  rcases Int.lt_or_eq_of_le hle with h | h
  ·exact .inr (.inr (.inr (.inl (by rw [e1, e2]; exact h))))
  ·exact .inl (Prod.ext (by rw [e1, e2]; exact h) e3)
 have hz : (((0 : UInt8).toNat : Nat) : Int) = 0 := rfl
 match d, hd with
 | 0, _ => exact key c0 c1 c2 c3 (Int.le_refl _)
 | 1, _ => exact key 0 c1 c2 c3 (by rw [hz]; omega)
 | 2, _ => exact key 0 0 c2 c3 (by rw [hz]; omega)
 | 3, _ => exact key 0 0 0 c3 (by rw [hz]; omega)
 | 4, _ => exact key 0 0 0 0 (by rw [hz]; omega)
theorem gone_b {o n F : List UInt8} (ho : o.length = 12) (hF : F.length = 12) (d : Nat) (hd : d ≤ 8) : Gone o n (upd (upd o 0 [0, 0, 0, 0]) 4 ((F.drop 4).take d)) := by
 obtain ⟨c0, c1, c2, c3, c4, c5, c6, c7, c8, c9, c10, c11, rfl⟩ := Sl.twelve ho
 obtain ⟨f0, f1, f2, f3, f4, f5, f6, f7, f8, f9, f10, f11, rfl⟩ := Sl.twelve hF
 refine .inr (.inr (.inl ?_))
 have key : ∀ a4 a5 a6 a7 a8 a9 a10 a11 : UInt8, (pt [0, 0, 0, 0, a4, a5, a6, a7, a8, a9, a10, a11]).1 ≤ 0 := fun a4 a5 a6 a7 a8 a9 a10 a11 => by
  have e1 : (pt [0, 0, 0, 0, a4, a5, a6, a7, a8, a9, a10, a11]).1 = (((0 : UInt8).toNat : Int) * 16777216 + (0 : UInt8).toNat * 65536 + (0 : UInt8).toNat * 256 + (0 : UInt8).toNat) := rfl
  rw [e1]
  decide
 match d, hd with
 | 0, _ => exact key _ _ _ _ _ _ _ _
 | 1, _ => exact key _ _ _ _ _ _ _ _
 | 2, _ => exact key _ _ _ _ _ _ _ _
 | 3, _ => exact key _ _ _ _ _ _ _ _
 | 4, _ => exact key _ _ _ _ _ _ _ _
 | 5, _ => exact key _ _ _ _ _ _ _ _
 | 6, _ => exact key _ _ _ _ _ _ _ _
 | 7, _ => exact key _ _ _ _ _ _ _ _
 | 8, _ => exact key _ _ _ _ _ _ _ _
theorem gone_c {o n F : List UInt8} (ho : o.length = 12) (hF : F.length = 12) (hn : pt F = pt n) (d : Nat) (hd : d ≤ 4) : Gone o n (upd (upd (upd o 0 [0, 0, 0, 0]) 4 (F.drop 4)) 0 ((F.take 4).take d)) := by
 obtain ⟨c0, c1, c2, c3, c4, c5, c6, c7, c8, c9, c10, c11, rfl⟩ := Sl.twelve ho
 obtain ⟨f0, f1, f2, f3, f4, f5, f6, f7, f8, f9, f10, f11, rfl⟩ := Sl.twelve hF
 have b0 := Sl.u8_bd f0
 have b1 := Sl.u8_bd f1
 have b2 := Sl.u8_bd f2
 have b3 := Sl.u8_bd f3
 have key : ∀ a0 a1 a2 a3 : UInt8, ((a0.toNat : Int) * 16777216 + a1.toNat * 65536 + a2.toNat * 256 + a3.toNat) ≤ ((f0.toNat : Int) * 16777216 + f1.toNat * 65536 + f2.toNat * 256 + f3.toNat) → Gone [c0, c1, c2, c3, c4, c5, c6, c7, c8, c9, c10, c11] n [a0, a1, a2, a3, f4, f5, f6, f7, f8, f9, f10, f11] := fun a0 a1 a2 a3 hle => by
  have e1 : (pt [a0, a1, a2, a3, f4, f5, f6, f7, f8, f9, f10, f11]).1 = ((a0.toNat : Int) * 16777216 + a1.toNat * 65536 + a2.toNat * 256 + a3.toNat) := rfl
  have e2 : (pt [f0, f1, f2, f3, f4, f5, f6, f7, f8, f9, f10, f11]).1 = ((f0.toNat : Int) * 16777216 + f1.toNat * 65536 + f2.toNat * 256 + f3.toNat) := rfl
  have e3 : (pt [a0, a1, a2, a3, f4, f5, f6, f7, f8, f9, f10, f11]).2 = (pt [f0, f1, f2, f3, f4, f5, f6, f7, f8, f9, f10, f11]).2 := rfl
  rcases Int.lt_or_eq_of_le hle with h | h
  ·exact .inr (.inr (.inr (.inr (by rw [← hn, e1, e2]; exact h))))
  ·exact .inr (.inl (by rw [← hn]; exact Prod.ext (by rw [e1, e2]; exact h) e3))
 have hz : (((0 : UInt8).toNat : Nat) : Int) = 0 := rfl
 match d, hd with
 | 0, _ => exact key 0 0 0 0 (by rw [hz]; omega)
 | 1, _ => exact key f0 0 0 0 (by rw [hz]; omega)
 | 2, _ => exact key f0 f1 0 0 (by rw [hz]; omega)
 | 3, _ => exact key f0 f1 f2 0 (by rw [hz]; omega)
 | 4, _ => exact key f0 f1 f2 f3 (Int.le_refl _)
end Wp
end
end Go.Proofs.YtljlanhpjpjgaaaGreatDoor
