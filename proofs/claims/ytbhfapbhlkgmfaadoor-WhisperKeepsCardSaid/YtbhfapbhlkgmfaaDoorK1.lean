/-
  WhBack: PLAIN MATHEMATICS: what is read of an encoding, with anything behind it, is what it was made of.
  WrSlot: THE PLAIN STATE of chapter 7, seen by slots: what a write changes, what it leaves; a file that stands under its header. No program is named here.
  WsSm: CONTRACTS: chapter 7's law: a header that is looked at; a new file of it.
  WqFo: CONTRACTS: chapter 7, the program's Fetch: refused; and as a whole.
-/
import Derived.Test.YtbhfapbhlkgmfaaDoorJ4
import Derived.Test.YtbhfapbhlkgmfaaDoorJ13
import Derived.Test.YtbhfapbhlkgmfaaDoorJ14
import Derived.Test.YtbhfapbhlkgmfaaDoorJ12
import Derived.Test.YtbhfapbhlkgmfaaDoorJ24
import Derived.Test.YtbhfapbhlkgmfaaDoorJ8
import Derived.Test.YtbhfapbhlkgmfaaDoorJ23

namespace Go.Proofs.YtbhfapbhlkgmfaaDoor
open Wh (At)
namespace Wh

theorem byt_right (X Y : List UInt8) (i : Nat) (n : Nat) (hn : X.length = n) : byt (X ++ Y) (n + i) = byt Y i := by
  unfold byt
  rw [List.getD_eq_getElem?_getD, List.getD_eq_getElem?_getD, List.getElem?_append_right (by omega), hn, Nat.add_sub_cancel_left]
theorem nm_right (X Y : List UInt8) (i n : Nat) (hn : X.length = n) : nm (X ++ Y) (n + i) = nm Y i := by
  unfold nm
  rw [byt_right X Y i n hn, show n + i + 1 = n + (i + 1) by omega, byt_right X Y (i + 1) n hn, show n + i + 2 = n + (i + 2) by omega, byt_right X Y (i + 2) n hn, show n + i + 3 = n + (i + 3) by omega, byt_right X Y (i + 3) n hn]
theorem u8nat (x : Int) : ((UInt8.ofNat (x % 256).toNat).toNat : Int) = x % 256 := u8of x
theorem nm_four (n : Int) (Y : List UInt8) (h1 : 0 ≤ n) (h2 : n ≤ 4294967295) : nm (four n ++ Y) 0 = n := by
  unfold nm
  have e0 : (byt (four n ++ Y) 0 : Int) = (n / 16777216) % 256 := u8of _
  have e1 : (byt (four n ++ Y) (0 + 1) : Int) = (n / 65536) % 256 := u8of _
  have e2 : (byt (four n ++ Y) (0 + 2) : Int) = (n / 256) % 256 := u8of _
  have e3 : (byt (four n ++ Y) (0 + 3) : Int) = n % 256 := u8of _
  rw [e0, e1, e2, e3]
  omega
theorem nm_fours : ∀ (ns : List Int) (M : List UInt8) (i : Nat) (n : Int), ns[i]? = some n → (∀ m ∈ ns, 0 ≤ m ∧ m ≤ 4294967295) → nm (fours ns ++ M) (4 * i) = n
  | [], _, _, _, h, _ => by simp at h
  | m :: ns, M, 0, n, h, hb => by
    have e : m = n := by simpa using h
    subst e
    have := hb m (by simp)
    have e2 : fours (m :: ns) ++ M = four m ++ (fours ns ++ M) := by unfold fours; simp
    rw [e2]
    exact nm_four m _ this.1 this.2
  | m :: ns, M, i + 1, n, h, hb => by
    have e2 : fours (m :: ns) ++ M = four m ++ (fours ns ++ M) := by unfold fours; simp
    rw [e2, show 4 * (i + 1) = 4 + 4 * i by omega, nm_right (four m) _ (4 * i) 4 rfl]
    exact nm_fours ns M i n (by simpa using h) fun x hx => hb x (by simp [hx])
theorem ints_head (ag xf : Int) (l : List (Int × Int)) (k i : Nat) (hi : i < 4) : (ints ag xf l k)[i]? = [ag, lsp l, xf, (l.length : Int)][i]? := by
  induction k with
  | zero => rfl
  | succ k ih =>
    unfold ints
    rw [List.getElem?_append_left (by rw [ints_len]; omega)]
    exact ih
theorem ints_tail (ag xf : Int) (l : List (Int × Int)) (k i j : Nat) (hi : i < k) (hj : j < 3) : (ints ag xf l k)[4 + 3 * i + j]? = [ends l i, (At l i).1, (At l i).2][j]? := by
  induction k with
  | zero => omega
  | succ k ih =>
    unfold ints
    by_cases e : i = k
    · subst e
      rw [List.getElem?_append_right (by rw [ints_len]; omega), ints_len, show 4 + 3 * i + j - (4 + 3 * i) = j by omega]
    · rw [List.getElem?_append_left (by rw [ints_len]; omega)]
      exact ih (by omega)

theorem ints_ok {ag xf : Int} {l : List (Int × Int)} (hv : val ag xf l = true) : ∀ n ∈ ints ag xf l l.length, 0 ≤ n ∧ n ≤ 4294967295 := by
  obtain ⟨⟨g1, g2⟩, x1, x2, ha⟩ := val_t hv
  obtain ⟨a1, a2, a3, a4, a5⟩ := av_t ha
  have hl := lsp_bd a1 a3
  have key : ∀ k, k ≤ l.length → ∀ n ∈ ints ag xf l k, 0 ≤ n ∧ n ≤ 4294967295 := by
    intro k
    induction k with
    | zero =>
      intro _ n hn
      simp [ints] at hn
      rcases hn with rfl | rfl | rfl | rfl <;> omega
    | succ k ih =>
      intro hk n hn
      unfold ints at hn
      rw [List.mem_append] at hn
      rcases hn with hn | hn
      · exact ih (by omega) n hn
      · have h1 := alls_num (k := k) (by omega) a3
        have h2 := ends_bd a2 (alls_cnt a3) k (by omega)
        simp at hn
        rcases hn with rfl | rfl | rfl <;> omega
  exact key l.length (Nat.le_refl _)
theorem At_eq (l : List (Int × Int)) (i : Nat) (h : i < l.length) : l[i]? = some (At l i) := by
  unfold At
  rw [List.getD_eq_getElem?_getD, List.getElem?_eq_getElem h]
  rfl
/-- There and back. -/
theorem back {ag xf : Int} {l : List (Int × Int)} (hv : val ag xf l = true) (M : List UInt8) : dok (enc ag xf l ++ M) = true ∧ dag (enc ag xf l ++ M) = ag ∧ dxf (enc ag xf l ++ M) = xf ∧ dl (enc ag xf l ++ M) = l := by
  obtain ⟨⟨g1, g2⟩, x1, x2, ha⟩ := val_t hv
  obtain ⟨a1, a2, a3, a4, a5⟩ := av_t ha
  have he : enc ag xf l = fours (ints ag xf l l.length) := by unfold enc; rw [if_pos hv]
  have hlen : (enc ag xf l).length = 16 + 12 * l.length := by rw [he, fours_len, ints_len]; omega
  have hb := ints_ok hv
  have n0 : nm (enc ag xf l ++ M) 0 = ag := by rw [he]; exact nm_fours _ M 0 ag (ints_head ag xf l _ 0 (by omega)) hb
  have n8 : nm (enc ag xf l ++ M) 8 = xf := by rw [he]; exact nm_fours _ M 2 xf (ints_head ag xf l _ 2 (by omega)) hb
  have n12 : nm (enc ag xf l ++ M) 12 = (l.length : Int) := by rw [he]; exact nm_fours _ M 3 _ (ints_head ag xf l _ 3 (by omega)) hb
  have hc : cand (enc ag xf l ++ M) = l := by
    unfold cand
    rw [n12, Int.toNat_natCast]
    apply List.ext_getElem?
    intro i
    by_cases hi : i < l.length
    · rw [At_eq (archs _ _) i (by rw [archs_len]; exact hi), At_eq l i hi, archs_at _ _ i hi]
      have s1 : nm (enc ag xf l ++ M) (16 + 12 * i + 4) = (At l i).1 := by
        rw [he, show 16 + 12 * i + 4 = 4 * (4 + 3 * i + 1) by omega]
        exact nm_fours _ M _ _ (ints_tail ag xf l _ i 1 hi (by omega)) hb
      have s2 : nm (enc ag xf l ++ M) (16 + 12 * i + 8) = (At l i).2 := by
        rw [he, show 16 + 12 * i + 8 = 4 * (4 + 3 * i + 2) by omega]
        exact nm_fours _ M _ _ (ints_tail ag xf l _ i 2 hi (by omega)) hb
      rw [s1, s2]
    · rw [List.getElem?_eq_none (by rw [archs_len]; omega), List.getElem?_eq_none (by omega)]
  have hr : rok (enc ag xf l ++ M) = true := by
    unfold rok
    simp only [Bool.and_eq_true, decide_eq_true_eq]
    rw [n12, List.length_append, hlen]
    exact ⟨⟨by omega, by omega⟩, by omega⟩
  have hel : encL (enc ag xf l ++ M) = enc ag xf l := by unfold encL; rw [n0, n8, hc]
  have hd : dok (enc ag xf l ++ M) = true := by
    rw [dok_p hr (by rw [n0, n8, hc]; exact hv), hel]
    exact decide_eq_true ⟨by rw [List.length_append]; omega, List.take_left⟩
  obtain ⟨e1, e2, e3, _⟩ := dok_t hd
  exact ⟨hd, e1.trans n0, e2.trans n8, e3.trans hc⟩
end Wh
end Go.Proofs.YtbhfapbhlkgmfaaDoor

namespace Go.Proofs.YtbhfapbhlkgmfaaDoor
open Go.RowKit
open Fx (Vl)
open Vf (Has upd)
namespace Wp

theorem put_enc (B : List UInt8) (o : Nat) (t u : Int) : put B o t u = upd B o (Sl.enc t u) := rfl
theorem cut3 {B : List UInt8} {o k : Nat} (h : o + k ≤ B.length) : ∃ X Y Z : List UInt8, B = X ++ (Y ++ Z) ∧ X.length = o ∧ Y.length = k := by
  refine ⟨B.take o, (B.drop o).take k, (B.drop o).drop k, ?_, ?_, ?_⟩
  · rw [List.take_append_drop, List.take_append_drop]
  · rw [List.length_take]; omega
  · rw [List.length_take, List.length_drop]; omega
theorem slot_put {B : List UInt8} {o : Nat} {t u : Int} (ho : o + 12 ≤ B.length) (t0 : 0 ≤ t) (t1 : t ≤ 4294967295) (u1 : -9223372036854775808 ≤ u) (u2 : u ≤ 9223372036854775807) : slot (put B o t u) o = (t, u) := by
  obtain ⟨X, Y, Z, rfl, rfl, hY⟩ := cut3 ho
  have hE := Sl.enc_len t u
  rw [put_enc, upd_mid (by omega)]
  unfold slot
  rw [List.drop_left, List.take_append_of_le_length (by omega), List.take_of_length_le (by omega)]
  unfold pt Sl.dat Sl.dnn
  rw [if_pos hE, if_pos hE, Sl.back_at, Sl.back_n t u u1 u2]
  unfold Sl.lim
  rw [show min (max t 0) 4294967295 = t by omega]
theorem slot_else {B : List UInt8} {o o' : Nat} {t u : Int} (ho : o + 12 ≤ B.length) (h : o' + 12 ≤ o ∨ o + 12 ≤ o') : slot (put B o t u) o' = slot B o' := by
  obtain ⟨X, Y, Z, rfl, rfl, hY⟩ := cut3 ho
  have hE := Sl.enc_len t u
  rw [put_enc, upd_mid (by omega)]
  unfold slot
  congr 1
  rcases h with h | h
  · rw [List.drop_append_of_le_length (by omega), List.drop_append_of_le_length (by omega), List.take_append_of_le_length (by rw [List.length_drop]; omega), List.take_append_of_le_length (by rw [List.length_drop]; omega)]
  · have e1 : (X ++ (Sl.enc t u ++ Z)).drop o' = Z.drop (o' - (X.length + 12)) := by
      rw [← List.append_assoc, List.drop_append (l₁ := X ++ Sl.enc t u), List.drop_of_length_le (by rw [List.length_append]; omega), List.length_append, hE, List.nil_append]
    have e2 : (X ++ (Y ++ Z)).drop o' = Z.drop (o' - (X.length + 12)) := by
      rw [← List.append_assoc, List.drop_append (l₁ := X ++ Y), List.drop_of_length_le (by rw [List.length_append]; omega), List.length_append, hY, List.nil_append]
    rw [e1, e2]

/-- A file that stands under its header. -/
structure Stands (l : List Vf.Fl) (n : List UInt8) (h : Hd) (B : List UInt8) : Prop where
  fits : Fits l n h B
  head : ∃ M, B = Wh.enc h.ag h.xf h.l ++ M
theorem enc_len7 {h : Hd} (hv : h.val = true) : (Wh.enc h.ag h.xf h.l).length = 16 + 12 * h.l.length := by
  unfold Wh.enc; rw [if_pos (show Wh.val h.ag h.xf h.l = true from hv), Wh.fours_len, Wh.ints_len]; omega
theorem Stands.info {l : List Vf.Fl} {n : List UInt8} {h : Hd} {B : List UInt8} (f : Stands l n h B) : info l n = (h, 0) := by
  obtain ⟨M, rfl⟩ := f.head
  obtain ⟨k1, k2, k3, k4⟩ := Wh.back (show Wh.val h.ag h.xf h.l = true from f.fits.val) M
  have hs := f.fits.has.size_eq
  have hr := f.fits.has.read_eq (t := 0) (m := ((Wh.enc h.ag h.xf h.l ++ M).length : Int)) (by omega) (by omega) (by omega)
  rw [show ((0 : Int)).toNat = 0 from rfl, List.drop_zero, Int.toNat_natCast, List.take_length] at hr
  have hh : hdOf (Wh.enc h.ag h.xf h.l ++ M) = h := by unfold hdOf; rw [k2, k3, k4]
  have he := (Wh.dok_t k1).2.2.2
  unfold Wp.info
  rw [hs]
  dsimp only
  rw [if_neg (by omega), hr]
  dsimp only
  rw [hh, he, if_neg (by have := f.fits.size; omega)]
theorem at_lo {h : Hd} (hv : h.val = true) {i : Nat} (hi : i < h.l.length) {t : Int} (ht : 0 ≤ t) : 16 + 12 * (h.l.length : Int) ≤ at_ h i t ∧ h.offs (i : Int) ≤ at_ h i t ∧ at_ h i t + 12 ≤ h.offs (i : Int) + 12 * h.cnt i := by
  obtain ⟨⟨n1, n2⟩, n3, n4⟩ := Hd.nums hv i hi
  have h1 := ring_in hv hi
  have h2 := Sl.pl_bd n1 n3 ht
  unfold at_
  omega
theorem Stands.write {S : Vf.Sv} {n : List UInt8} {h : Hd} {B : List UInt8} (f : Stands S.now n h B) {i : Nat} (hi : i < h.l.length) (t u : Int) (ht : 0 ≤ t) : Stands (write S n h i t u).now n h (put B (at_ h i t).toNat (Sl.al t (h.step i)) u) := by
  refine ⟨f.fits.write hi t u ht, ?_⟩
  obtain ⟨M, rfl⟩ := f.head
  have hE := enc_len7 f.fits.val
  obtain ⟨q1, q2, q3⟩ := at_lo f.fits.val hi ht
  have q4 := (ring_in f.fits.val hi).2
  have q5 := f.fits.size
  have hl : (at_ h i t).toNat + 12 ≤ (Wh.enc h.ag h.xf h.l ++ M).length := by omega
  obtain ⟨k, hk⟩ : ∃ k, (at_ h i t).toNat = (Wh.enc h.ag h.xf h.l).length + k := ⟨(at_ h i t).toNat - (Wh.enc h.ag h.xf h.l).length, by omega⟩
  refine ⟨upd M k (Sl.enc (Sl.al t (h.step i)) u), ?_⟩
  rw [put_enc, hk]
  unfold upd
  rw [List.take_append, List.take_of_length_le (by omega), List.drop_append, List.drop_of_length_le (by omega), List.nil_append, List.append_assoc, List.append_assoc, List.append_assoc]
  congr 2
  · rw [Nat.add_sub_cancel_left]
  · rw [Nat.add_assoc, Nat.add_sub_cancel_left]

/-- The rings lie one behind the other. -/
theorem offs_less {h : Hd} (hv : h.val = true) {i j : Nat} (hij : i < j) (hj : j < h.l.length) : h.offs (i : Int) + 12 * h.cnt i ≤ h.offs (j : Int) := by
  obtain ⟨_, _, _, ha⟩ := Wh.val_t hv
  obtain ⟨a1, a2, a3, a4, a5⟩ := Wh.av_t ha
  have hc : ∀ k, k < j → 1 ≤ (Wh.At h.l k).2 := fun k hk => ((Wh.alls_num (by omega) a3).2).1
  rw [offs_eq hv (by omega : i < h.l.length), offs_eq hv hj]
  unfold Wh.ends
  have h1 := sm_mono (l := h.l) (i := i) j hc hij
  show _ + 12 * (Wh.At h.l i).2 ≤ _
  omega
/-- Two slots: the same, or apart. -/
theorem at_apart {h : Hd} (hv : h.val = true) {i j : Nat} (hi : i < h.l.length) (hj : j < h.l.length) {t u : Int} (ht : 0 ≤ t) (hu : 0 ≤ u) (hne : i ≠ j ∨ Sl.pl (h.step i) (h.cnt i) t ≠ Sl.pl (h.step j) (h.cnt j) u) :
    (at_ h i t).toNat + 12 ≤ (at_ h j u).toNat ∨ (at_ h j u).toNat + 12 ≤ (at_ h i t).toNat := by
  obtain ⟨p1, p2, p3⟩ := at_lo hv hi ht
  obtain ⟨q1, q2, q3⟩ := at_lo hv hj hu
  rcases Nat.lt_trichotomy i j with e | e | e
  · have := offs_less hv e hj
    omega
  · subst e
    have hne' : Sl.pl (h.step i) (h.cnt i) t ≠ Sl.pl (h.step i) (h.cnt i) u := by
      rcases hne with h | h
      · exact absurd rfl h
      · exact h
    unfold at_ at p1 q1 ⊢
    omega
  · have := offs_less hv e hi
    omega

/-- A slot that a climb does not reach. -/
theorem climb_keep {n : List UInt8} {h : Hd} {t : Int} (ht : 0 ≤ t) (o : Nat) (ho : ∀ i, 1 ≤ i → i < h.l.length → o + 12 ≤ (at_ h i t).toNat ∨ (at_ h i t).toNat + 12 ≤ o) : ∀ (m : Nat) (S : Vf.Sv) (k : Nat) (B : List UInt8), Stands S.now n h B → k + m < h.l.length →
    ∃ B', Stands (climb n h t m S k).now n h B' ∧ slot B' o = slot B o
  | 0, S, k, B, f, hk => ⟨B, f, rfl⟩
  | m + 1, S, k, B, f, hk => by
    have hs : ∃ B', Stands (passes S n h k t).1.now n h B' ∧ slot B' o = slot B o := by
      unfold Wp.passes
      dsimp only
      split
      · exact ⟨B, f, rfl⟩
      · refine ⟨_, f.write (i := k + 1) (by omega) t _ ht, slot_else ?_ (ho (k + 1) (by omega) (by omega))⟩
        have := f.fits.slot_in (i := k + 1) (by omega) t ht
        omega
    unfold climb
    split
    · obtain ⟨B1, f1, e1⟩ := hs
      obtain ⟨B2, f2, e2⟩ := climb_keep ht o ho m _ (k + 1) B1 f1 (by omega)
      exact ⟨B2, f2, e2.trans e1⟩
    · exact ⟨B, f, rfl⟩
/-- A point that is laid elsewhere. -/
theorem lays_keep {n : List UInt8} {h : Hd} {S : Vf.Sv} {B : List UInt8} (f : Stands S.now n h B) (now : Int) (p : Int × Int) (t0 : Int) (h0 : 0 ≤ t0) (hne : 1 ≤ p.1 → p.1 ≤ now → Sl.pl (h.step 0) (h.cnt 0) p.1 ≠ Sl.pl (h.step 0) (h.cnt 0) t0) :
    ∃ B', Stands (lays S n h now p).1.now n h B' ∧ slot B' (at_ h 0 t0).toNat = slot B (at_ h 0 t0).toNat := by
  have hl := Hd.len f.fits.val
  unfold Wp.lays
  split
  · exact ⟨B, f, rfl⟩
  rename_i hc
  have hp1 : 1 ≤ p.1 := by omega
  have hp2 : p.1 ≤ now := by omega
  split
  · exact ⟨B, f, rfl⟩
  rename_i i hi
  have hix := first_lt _ _ hi
  split
  · exact ⟨B, f, rfl⟩
  have hap : ∀ j, j < h.l.length → (at_ h 0 t0).toNat + 12 ≤ (at_ h j p.1).toNat ∨ (at_ h j p.1).toNat + 12 ≤ (at_ h 0 t0).toNat := fun j hj => by
    refine at_apart f.fits.val (by omega) hj h0 (by omega) ?_
    by_cases e : j = 0
    · subst e; exact .inr (hne hp1 hp2).symm
    · exact .inl (by omega)
  have hb := f.fits.slot_in (i := i) (by omega) p.1 (by omega)
  obtain ⟨B2, f2, e2⟩ := climb_keep (n := n) (h := h) (t := p.1) (by omega) (at_ h 0 t0).toNat (fun j _ hj => hap j hj) (h.l.length - 1 - i) _ i _ (f.write (i := i) (by omega) p.1 p.2 (by omega)) (by omega)
  refine ⟨B2, f2, e2.trans (slot_else (by omega) ?_)⟩
  exact hap i (by omega)
/-- A point that the finest archive covers. -/
theorem lays_fine {n : List UInt8} {h : Hd} {S : Vf.Sv} {B : List UInt8} (f : Stands S.now n h B) (now : Int) (p : Int × Int) (h1 : 1 ≤ p.1) (h2 : p.1 ≤ now) (hn : now ≤ 4294967295) (hr : Fx.inR p.2 = true) (hc : now - p.1 < h.step 0 * h.cnt 0) (ha : Sl.al p.1 (h.step 0) ≠ 0) :
    (lays S n h now p).2 = true ∧ ∃ B', Stands (lays S n h now p).1.now n h B' ∧ slot B' (at_ h 0 p.1).toNat = (Sl.al p.1 (h.step 0), p.2) := by
  have hl := Hd.len f.fits.val
  obtain ⟨⟨n1, n2⟩, n3, n4⟩ := Hd.nums f.fits.val 0 (by omega)
  have hfi : first h (now - p.1) h.l.length 0 = some 0 := by
    obtain ⟨m, hm⟩ : ∃ m, h.l.length = m + 1 := ⟨h.l.length - 1, by omega⟩
    rw [hm]
    exact first_yes hc
  have hal := Sl.al_bd n1 (by omega : 0 ≤ p.1)
  have hb := f.fits.slot_in (i := 0) (by omega) p.1 (by omega)
  have hu : -4611686018427387904 ≤ p.2 ∧ p.2 ≤ 4611686018427387904 := by unfold Fx.inR at hr; simpa using hr
  unfold Wp.lays
  rw [if_neg (by rw [hr]; simp; omega), hfi]
  dsimp only
  rw [if_neg ha]
  refine ⟨rfl, ?_⟩
  obtain ⟨B2, f2, e2⟩ := climb_keep (n := n) (h := h) (t := p.1) (by omega) (at_ h 0 p.1).toNat (fun j h1 hj => at_apart f.fits.val (by omega) hj (by omega) (by omega) (.inl (by omega))) (h.l.length - 1 - 0) _ 0 _ (f.write (i := 0) (by omega) p.1 p.2 (by omega)) (by omega)
  exact ⟨B2, f2, e2.trans (slot_put (by omega) (by omega) (by omega) (by omega) (by omega))⟩
/-- One point's update. -/
theorem update_one {n : List UInt8} {h : Hd} {S : Vf.Sv} {B : List UInt8} (f : Stands S.now n h B) (now : Int) (p : Int × Int) (h1 : 1 ≤ now) (h2 : now ≤ 4294967295) :
    (update S n now [p]).1.now = (lays S n h now p).1.now ∧ (update S n now [p]).2 = ((if (lays S n h now p).2 = true then 1 else 0), 0) := by
  have hi := f.info
  have := update_yes (S := S) (n := n) (now := now) (l := [p]) (by rw [hi]) h1 h2
  rw [this, hi]
  refine ⟨rfl, ?_⟩
  show (((if (lays S n h now p).2 = true then (0 : Int) + 1 else 0)), (0 : Int)) = _
  split <;> rfl
/-- What is fetched of one slot's time. -/
theorem fetch_slot {n : List UInt8} {h : Hd} {l : List Vf.Fl} {B : List UInt8} (f : Stands l n h B) (now t N t0 : Int) (ht0 : 1 ≤ t0) (ht : Sl.al t0 (h.step 0) = t) (htn : t ≠ 0) (hs : slot B (at_ h 0 t0).toNat = (t, N)) (hr : Fx.inR N = true)
    (h1 : t ≤ now) (h2 : now ≤ 4294967295) (hc : now - (t - 1) ≤ h.step 0 * h.cnt 0) :
    fetch l n now (t - 1) t = (some ⟨t, h.step 0, [⟨true, N⟩]⟩, 0) := by
  have hl := Hd.len f.fits.val
  have hv := f.fits.val
  obtain ⟨⟨n1, n2⟩, n3, n4⟩ := Hd.nums hv 0 (by omega)
  have hal := Sl.al_bd n1 (by omega : 0 ≤ t0)
  have hi := f.info
  have hspan : h.step 0 * h.cnt 0 ≤ h.span := by
    rw [Hd.span_eq hv]
    obtain ⟨_, _, _, ha⟩ := Wh.val_t hv
    have key : ∀ j, j < h.l.length → h.step 0 * h.cnt 0 ≤ h.step j * h.cnt j := fun j => by
      induction j with
      | zero => intro _; exact Int.le_refl _
      | succ j ih => intro hj; have := ih (by omega); have := (step_dvd hv (i := j) (by omega)).2.2; omega
    exact key _ (by omega)
  have hq : t / h.step 0 * h.step 0 = t := by
    have h3 := Sl.al_div n1 (by omega : 0 ≤ t0)
    have h4 := Sl.al_mul n1 (by omega : 0 ≤ t0)
    rw [ht] at h3 h4
    rw [h3, Int.mul_comm, ← h4]
  have halt : Sl.al t (h.step 0) = t := by rw [Sl.al_mul n1 (by omega), Int.mul_comm]; exact hq
  have halp : Sl.al (t - 1) (h.step 0) = t - h.step 0 := by
    have h5 : (t - 1) / h.step 0 = t / h.step 0 - 1 := by
      have e : t - 1 = (h.step 0 - 1) + (t / h.step 0 - 1) * h.step 0 := by rw [Int.sub_mul, hq]; omega
      rw [e, Int.add_mul_ediv_right _ _ (by omega : h.step 0 ≠ 0), Int.ediv_eq_zero_of_lt (by omega) (by omega)]
      omega
    rw [Sl.al_mul n1 (by omega), h5, Int.mul_comm, Int.sub_mul, hq]
    omega
  have hcl : clip h now (t - 1) = t - 1 := by unfold clip; omega
  have hmin : min t now = t := by omega
  have hfi : first h (now - (t - 1) - 1) h.l.length 0 = some 0 := by
    obtain ⟨m, hm⟩ : ∃ m, h.l.length = m + 1 := ⟨h.l.length - 1, by omega⟩
    rw [hm]
    exact first_yes (by omega)
  have hval : value l n h 0 t = ⟨true, N⟩ := by
    have hpl : at_ h 0 t = at_ h 0 t0 := by unfold at_; rw [← ht, pl_al n1 (by omega)]
    rw [f.fits.value_eq (by omega) t (by omega), halt, hpl, hs]
    dsimp only
    rw [if_neg (by omega)]
    unfold Fx.of
    rw [hr]
    rfl
  unfold fetch
  dsimp only
  rw [hi]
  dsimp only
  rw [if_neg (by omega), if_neg (by unfold time; simp; omega), if_neg (by omega), hcl, hmin, hfi]
  dsimp only
  rw [halp, halt, show t - h.step 0 + h.step 0 = t by omega, if_neg (by omega), show t + h.step 0 - t = h.step 0 by omega, Int.ediv_self (by omega)]
  show (some (⟨t, h.step 0, [value l n h 0 (t + ((0 : Nat) : Int) * h.step 0)]⟩ : Se), (0 : Int)) = _
  rw [show t + ((0 : Nat) : Int) * h.step 0 = t by simp, hval]
/-- A file that is new stands. -/
theorem create_stands {S : Vf.Sv} {n : List UInt8} {h : Hd} (hv : h.val = true) (h0 : (create S n h).2 = 0) (hh : ∀ b, (Vf.create S n b).2 = 0 → Has (Vf.create S n b).1.now n b) : ∃ B, Stands (create S n h).1.now n h B := by
  obtain ⟨_, _, _, ha⟩ := Wh.val_t hv
  unfold Wp.create at h0 ⊢
  rw [if_neg (by rw [hv]; simp)] at h0 ⊢
  dsimp only at h0 ⊢
  split at h0
  · rename_i hz
    rw [if_pos hz]
    refine ⟨_, ⟨hh _ hz, hv, ?_⟩, ⟨_, rfl⟩⟩
    have h1 := enc_len7 hv
    have h2 : ((Wh.enc h.ag h.xf h.l).length : Int) ≤ h.size := by
      have hr := ring_in hv (i := 0) (by have := Hd.len hv; omega)
      obtain ⟨⟨n1, n2⟩, n3, n4⟩ := Hd.nums hv 0 (by have := Hd.len hv; omega)
      omega
    rw [List.length_append, List.length_replicate]
    omega
  · rename_i hz
    exact absurd h0 hz
end Wp
end Go.Proofs.YtbhfapbhlkgmfaaDoor

namespace Go.Proofs.YtbhfapbhlkgmfaaDoor
open Go.RowKit Go.Sort
open Fx (Vl)
open Me
open Wp

set_option maxRecDepth 100000 in
set_option maxHeartbeats 1600000 in
theorem small_any (ag xf : Int) (l : List (Int × Int)) (A : Option Addr) (cap : Nat) (w : World) (h : Row w A l cap) :
    Calls Tryd.prog 6 #[.agg #[.int .i64 ag, .int .i64 xf, .slice A l.length cap]] w fun e w' => e = .returned (.bool (Wh.val ag xf l && decide (Wh.size ag xf l ≤ 3000))) ∧ Below w.heap.size w w' := by
  have HM : Hid (∀ W, Below w.heap.size w W → Calls Tryd.prog 18 #[.agg #[.int .i64 ag, .int .i64 xf, .slice A l.length cap]] W fun e w' => e = .returned (.bool (Wh.val ag xf l)) ∧ Below W.heap.size W w') := Lib.hid fun W hb => may_any ag xf l A cap W (h.below hb)
  have HS : Hid (∀ W, Below w.heap.size w W → Calls Tryd.prog 19 #[.agg #[.int .i64 ag, .int .i64 xf, .slice A l.length cap]] W fun e w' => e = .returned (.int .i64 (Wh.size ag xf l)) ∧ Below W.heap.size W w') := Lib.hid fun W hb => rsize_any ag xf l A cap W (h.below hb)
  have hX : Below w.heap.size w (w.alloc (.cells #[.int .i64 ag, .int .i64 xf, .slice A l.length cap] 24)) := (Below.refl _ _).alloc (Nat.le_refl _) _
  have hrx : RowAt (w.alloc (.cells #[.int .i64 ag, .int .i64 xf, .slice A l.length cap] 24)) w.heap.size 24 #[.int .i64 ag, .int .i64 xf, .slice A l.length cap] := RowAt.new w _ _
  have HRX := Lib.hid hrx
  generalize Wh.size ag xf l = sz at *
  generalize Wh.val ag xf l = b at *
  clear h hrx
  generalize l.length = n at *
  cases b
  · clear HS
    go_enter Tryd.func6, Tryd.ntmps6
    go_wp2_with (go_at_call 18; (with_reducible refine (HM.out _ hX).mono ?_); rintro e w1 ⟨rfl, hb1⟩; have HB1 := Lib.hid (hX.trans (hb1.mono hX.size)); clear hb1)
    go_ret
    exact ⟨by simp, HB1.out⟩
  · go_enter Tryd.func6, Tryd.ntmps6
    go_wp2_with first
      | (go_at_call 18; (with_reducible refine (HM.out _ hX).mono ?_); rintro e w1 ⟨rfl, hb1⟩; have HB1 := Lib.hid (hX.trans (hb1.mono hX.size)); obtain ⟨y0, y1, y2⟩ : w1.cell? ⟨w.heap.size, 0, none⟩ = some (.int .i64 ag) ∧ w1.cell? ⟨w.heap.size, 1, none⟩ = some (.int .i64 xf) ∧ w1.cell? ⟨w.heap.size, 2, none⟩ = some (.slice A n cap) := (by have h1 := HRX.out.below hb1 HRX.out.lt; exact ⟨h1.cell 0, h1.cell 1, h1.cell 2⟩); clear hb1)
      | (go_at_call 19; (with_reducible refine (HS.out _ HB1.out).mono ?_); rintro e w2 ⟨rfl, hb2⟩; have HB2 := Lib.hid (HB1.out.trans (hb2.mono HB1.out.size)); clear hb2)
    go_ret
    exact ⟨by simp, HB2.out⟩

/-- The file that a small header gets. -/
theorem create_new7 {h : Hd} (hv : h.val = true) (hs : h.size ≤ 3000) : (create Kt.s0 [97] h).2 = 0 ∧ ∃ B, Stands (create Kt.s0 [97] h).1.now [97] h B := by
  have key : ∀ b : List UInt8, (b.length : Int) ≤ 65536 → Vf.create Kt.s0 [97] b = (Kt.s0.act ⟨1, [97], 0, b⟩, 0) := fun b hb => by
    unfold Vf.create
    simp [Kt.s0, Vf.ix, Vf.ixFrom, Vf.used, Vf.is, hb]
  have hh : ∀ b : List UInt8, (Vf.create Kt.s0 [97] b).2 = 0 → Vf.Has (Vf.create Kt.s0 [97] b).1.now [97] b := fun b h0 => by
    by_cases hb : (b.length : Int) ≤ 65536
    · rw [key b hb]
      exact ⟨by decide, 0, [97], by rfl, by rfl⟩
    · exfalso
      revert h0
      unfold Vf.create
      simp [Kt.s0, Vf.ix, Vf.ixFrom, Vf.used, Vf.is]
      rw [if_pos (by omega)]
      simp
  have h1 := enc_len7 hv
  have h2 : ((Wh.enc h.ag h.xf h.l).length : Int) ≤ h.size := by
    have hr := ring_in hv (i := 0) (by have := Hd.len hv; omega)
    obtain ⟨⟨n1, n2⟩, n3, n4⟩ := Hd.nums hv 0 (by have := Hd.len hv; omega)
    omega
  have h0 : (create Kt.s0 [97] h).2 = 0 := by
    unfold Wp.create
    rw [if_neg (by rw [hv]; simp)]
    dsimp only
    rw [key _ (by rw [List.length_append, List.length_replicate]; omega)]
    rfl
  exact ⟨h0, create_stands hv h0 hh⟩
end Go.Proofs.YtbhfapbhlkgmfaaDoor

namespace Go.Proofs.YtbhfapbhlkgmfaaDoor
open Go.RowKit Go.Sort
open Fx (Vl)
open Me
open Wp

set_option maxRecDepth 100000 in
set_option maxHeartbeats 2000000 in
theorem fetch_late7 {w : World} {V : Nat → Prop} {c fs : Nat} {S : Vf.Sv} (ro : PO w V fs c S) (n : List UInt8) (now from_ until_ : Int) (h0 : (info S.now n).2 = 0) (hn : now < 1 ∨ 4294967295 < now) :
    Calls Tryd.prog 13 #[.pointer (some ⟨fs, 0, none⟩), .string ⟨n.toArray⟩, .int .i64 now, .int .i64 from_, .int .i64 until_] w (Fetched w n (fetch S.now n now from_ until_)) := by
  have HIN : Hid (∀ W, Below w.heap.size w W → Calls Tryd.prog 24 #[.pointer (some ⟨fs, 0, none⟩), .string ⟨n.toArray⟩] W (Opened W fs n (info S.now n))) := Lib.hid fun W hb => open_any (ro.below hb) n
  have HNW : Hid (∀ W, Calls Tryd.prog 25 #[.int .i64 now] W fun e w' => e = .returned (.bool false) ∧ W = w') := Lib.hid fun W => by
    have h := isnow_any now W
    rw [decide_eq_false (by omega)] at h
    exact h
  have HC := serCell w
  have HQ := Lib.hid (fetch_now (a := from_) (b := until_) h0 hn)
  have HZ := Lib.hid h0
  clear ro h0 hn
  generalize fetch S.now n now from_ until_ = Q at *
  generalize info S.now n = R at *
  obtain ⟨⟨ag, xf, hl⟩, er⟩ := R
  obtain rfl : er = 0 := HZ.out
  clear HZ
  obtain ⟨nb, hnb⟩ : ∃ nb : ByteArray, nb = ⟨n.toArray⟩ := ⟨_, rfl⟩
  have HNB := Lib.hid hnb
  rw [← hnb] at HIN ⊢
  clear hnb
  go_enter Tryd.func13, Tryd.ntmps13
  go_wp2_with first
    | (go_at_call 24; (with_reducible refine (HIN.out _ ((Below.refl _ _).alloc (Nat.le_refl _) _)).mono ?_); rintro e w1 ⟨A1, c1, p1, s1, rfl, hps, hrow, hfr, hb1⟩; obtain ⟨rfl, e2⟩ := hps rfl; have e3 : nb = s1 := HNB.out.trans e2.symm; clear e2; subst e3; have hbb : Below (w.heap.size + 1) (w.alloc (.cells #[.string ⟨#[]⟩, .int .i64 0, .int .i64 0, .slice none 0 0, .int .i64 0] 43)) w1 := hb1.mono (by simp); obtain ⟨⟨r0, r1, r2, r3, r4⟩, ⟨f0, f1, f2, f3, f4⟩, hs4⟩ := HC.out _ (hbb.alloc (by have := hbb.size; simpa using this) (.cells #[.int .i64 ag, .int .i64 xf, .slice A1 hl.length c1, .pointer (some ⟨fs, 0, none⟩), .string nb] 70)); have HB1 := Lib.hid hbb; have HROW := Lib.hid hrow; have hs1 := ser_below hbb; clear hb1 hrow hfr hps hbb)
    | (go_at_call 25; ((with_reducible refine (HNW.out _).mono ?_); rintro e w' ⟨rfl, rfl⟩))
  refine bodyPost_ret (v := .tuple #[.agg #[.string ⟨#[]⟩, .int .i64 0, .int .i64 0, .slice none 0 0, .int .i64 0], .int .i64 1]) (by simp [results, Tryd.results13, go_sem, *]) rfl (Fetched.no HQ.out ?_)
  exact below_set5 ((lowBox' HB1.out).alloc (by omega) _) (Nat.le_refl _)

set_option maxRecDepth 100000 in
set_option maxHeartbeats 4000000 in
theorem fetch_out7 {w : World} {V : Nat → Prop} {c fs : Nat} {S : Vf.Sv} (ro : PO w V fs c S) (n : List UInt8) (now from_ until_ : Int) (h0 : (info S.now n).2 = 0) (hn1 : 1 ≤ now) (hn2 : now ≤ 4294967295) (ht : until_ < from_ ∨ now < from_ ∨ until_ < 0 ∨ until_ < now - (info S.now n).1.span) :
    Calls Tryd.prog 13 #[.pointer (some ⟨fs, 0, none⟩), .string ⟨n.toArray⟩, .int .i64 now, .int .i64 from_, .int .i64 until_] w (Fetched w n (fetch S.now n now from_ until_)) := by
  have HIN : Hid (∀ W, Below w.heap.size w W → Calls Tryd.prog 24 #[.pointer (some ⟨fs, 0, none⟩), .string ⟨n.toArray⟩] W (Opened W fs n (info S.now n))) := Lib.hid fun W hb => open_any (ro.below hb) n
  have HNW : Hid (∀ W, Calls Tryd.prog 25 #[.int .i64 now] W fun e w' => e = .returned (.bool true) ∧ W = w') := Lib.hid fun W => by
    have h := isnow_any now W
    rw [decide_eq_true ⟨hn1, hn2⟩] at h
    exact h
  have HC := serCell w
  have HQ := Lib.hid (fetch_time h0 hn1 hn2 ht)
  obtain ⟨B0, hF⟩ := info_file h0
  have hsb := Hd.span_bd hF.val
  have HZ := Lib.hid h0
  have HSP : Hid (∀ A c W, Row W A (info S.now n).1.l c → Calls Tryd.prog 27 #[.agg #[.int .i64 (info S.now n).1.ag, .int .i64 (info S.now n).1.xf, .slice A (info S.now n).1.l.length c]] W fun e w' => e = .returned (.int .i64 (info S.now n).1.span) ∧ Below W.heap.size W w') := Lib.hid fun A c W h => spn_any _ _ _ A c W h
  clear ro h0 hF
  generalize fetch S.now n now from_ until_ = Q at *
  generalize info S.now n = R at *
  obtain ⟨⟨ag, xf, hl⟩, er⟩ := R
  obtain rfl : er = 0 := HZ.out
  clear HZ
  try dsimp only at HSP
  generalize (Hd.span (⟨ag, xf, hl⟩ : Hd)) = sp at *
  obtain ⟨lo, hlo⟩ : ∃ lo, now - sp = lo := ⟨_, rfl⟩
  have hwl : IntKind.i64.wrap lo = lo := IntWalk.i64_in _ (by omega)
  try dsimp only at ht
  rw [hlo] at ht
  obtain ⟨nb, hnb⟩ : ∃ nb : ByteArray, nb = ⟨n.toArray⟩ := ⟨_, rfl⟩
  have HNB := Lib.hid hnb
  rw [← hnb] at HIN ⊢
  clear hnb hsb
  by_cases t1 : until_ < from_
  · have HT := ht
    clear ht HT
    go_enter Tryd.func13, Tryd.ntmps13
    go_wp2_with first
      | (go_at_call 24; (with_reducible refine (HIN.out _ ((Below.refl _ _).alloc (Nat.le_refl _) _)).mono ?_); rintro e w1 ⟨A1, c1, p1, s1, rfl, hps, hrow, hfr, hb1⟩; obtain ⟨rfl, e2⟩ := hps rfl; have e3 : nb = s1 := HNB.out.trans e2.symm; clear e2; subst e3; have hbb : Below (w.heap.size + 1) (w.alloc (.cells #[.string ⟨#[]⟩, .int .i64 0, .int .i64 0, .slice none 0 0, .int .i64 0] 43)) w1 := hb1.mono (by simp); obtain ⟨⟨r0, r1, r2, r3, r4⟩, ⟨f0, f1, f2, f3, f4⟩, hs4⟩ := HC.out _ (hbb.alloc (by have := hbb.size; simpa using this) (.cells #[.int .i64 ag, .int .i64 xf, .slice A1 hl.length c1, .pointer (some ⟨fs, 0, none⟩), .string nb] 70)); have HB1 := Lib.hid hbb; have HROW := Lib.hid hrow; have hs1 := ser_below hbb; clear hb1 hrow hfr hps hbb)
      | (go_at_call 25; ((with_reducible refine (HNW.out _).mono ?_); rintro e w' ⟨rfl, rfl⟩))
      | (go_at_call 27; (with_reducible refine (HSP.out A1 c1 _ (HROW.out.below ((Below.refl _ _).alloc (Nat.le_refl _) _))).mono ?_); rintro e w2 ⟨rfl, hb2⟩; have hbb : Below (w.heap.size + 1) (w.alloc (.cells #[.string ⟨#[]⟩, .int .i64 0, .int .i64 0, .slice none 0 0, .int .i64 0] 43)) w2 := (HB1.out.alloc hs1 _).trans (hb2.mono (by simp; omega)); clear r0 r1 r2 r3 r4 f0 f1 f2 f3 f4 hs4; obtain ⟨⟨r0, r1, r2, r3, r4⟩, ⟨f0, f1, f2, f3, f4⟩, hs4⟩ := HC.out _ hbb; have HB2 := Lib.hid hbb; clear hbb hb2)
    refine bodyPost_ret (v := .tuple #[.agg #[.string ⟨#[]⟩, .int .i64 0, .int .i64 0, .slice none 0 0, .int .i64 0], .int .i64 7]) (by simp [results, Tryd.results13, go_sem, *]) rfl (Fetched.no HQ.out ?_)
    exact below_set5 (lowBox' HB2.out) (Nat.le_refl _)
  by_cases t2 : now < from_
  · have HT := ht
    clear ht HT
    go_enter Tryd.func13, Tryd.ntmps13
    go_wp2_with first
      | (go_at_call 24; (with_reducible refine (HIN.out _ ((Below.refl _ _).alloc (Nat.le_refl _) _)).mono ?_); rintro e w1 ⟨A1, c1, p1, s1, rfl, hps, hrow, hfr, hb1⟩; obtain ⟨rfl, e2⟩ := hps rfl; have e3 : nb = s1 := HNB.out.trans e2.symm; clear e2; subst e3; have hbb : Below (w.heap.size + 1) (w.alloc (.cells #[.string ⟨#[]⟩, .int .i64 0, .int .i64 0, .slice none 0 0, .int .i64 0] 43)) w1 := hb1.mono (by simp); obtain ⟨⟨r0, r1, r2, r3, r4⟩, ⟨f0, f1, f2, f3, f4⟩, hs4⟩ := HC.out _ (hbb.alloc (by have := hbb.size; simpa using this) (.cells #[.int .i64 ag, .int .i64 xf, .slice A1 hl.length c1, .pointer (some ⟨fs, 0, none⟩), .string nb] 70)); have HB1 := Lib.hid hbb; have HROW := Lib.hid hrow; have hs1 := ser_below hbb; clear hb1 hrow hfr hps hbb)
      | (go_at_call 25; ((with_reducible refine (HNW.out _).mono ?_); rintro e w' ⟨rfl, rfl⟩))
      | (go_at_call 27; (with_reducible refine (HSP.out A1 c1 _ (HROW.out.below ((Below.refl _ _).alloc (Nat.le_refl _) _))).mono ?_); rintro e w2 ⟨rfl, hb2⟩; have hbb : Below (w.heap.size + 1) (w.alloc (.cells #[.string ⟨#[]⟩, .int .i64 0, .int .i64 0, .slice none 0 0, .int .i64 0] 43)) w2 := (HB1.out.alloc hs1 _).trans (hb2.mono (by simp; omega)); clear r0 r1 r2 r3 r4 f0 f1 f2 f3 f4 hs4; obtain ⟨⟨r0, r1, r2, r3, r4⟩, ⟨f0, f1, f2, f3, f4⟩, hs4⟩ := HC.out _ hbb; have HB2 := Lib.hid hbb; clear hbb hb2)
    refine bodyPost_ret (v := .tuple #[.agg #[.string ⟨#[]⟩, .int .i64 0, .int .i64 0, .slice none 0 0, .int .i64 0], .int .i64 7]) (by simp [results, Tryd.results13, go_sem, *]) rfl (Fetched.no HQ.out ?_)
    exact below_set5 (lowBox' HB2.out) (Nat.le_refl _)
  by_cases t3 : until_ < 0
  · have HT := ht
    clear ht HT
    go_enter Tryd.func13, Tryd.ntmps13
    go_wp2_with first
      | (go_at_call 24; (with_reducible refine (HIN.out _ ((Below.refl _ _).alloc (Nat.le_refl _) _)).mono ?_); rintro e w1 ⟨A1, c1, p1, s1, rfl, hps, hrow, hfr, hb1⟩; obtain ⟨rfl, e2⟩ := hps rfl; have e3 : nb = s1 := HNB.out.trans e2.symm; clear e2; subst e3; have hbb : Below (w.heap.size + 1) (w.alloc (.cells #[.string ⟨#[]⟩, .int .i64 0, .int .i64 0, .slice none 0 0, .int .i64 0] 43)) w1 := hb1.mono (by simp); obtain ⟨⟨r0, r1, r2, r3, r4⟩, ⟨f0, f1, f2, f3, f4⟩, hs4⟩ := HC.out _ (hbb.alloc (by have := hbb.size; simpa using this) (.cells #[.int .i64 ag, .int .i64 xf, .slice A1 hl.length c1, .pointer (some ⟨fs, 0, none⟩), .string nb] 70)); have HB1 := Lib.hid hbb; have HROW := Lib.hid hrow; have hs1 := ser_below hbb; clear hb1 hrow hfr hps hbb)
      | (go_at_call 25; ((with_reducible refine (HNW.out _).mono ?_); rintro e w' ⟨rfl, rfl⟩))
      | (go_at_call 27; (with_reducible refine (HSP.out A1 c1 _ (HROW.out.below ((Below.refl _ _).alloc (Nat.le_refl _) _))).mono ?_); rintro e w2 ⟨rfl, hb2⟩; have hbb : Below (w.heap.size + 1) (w.alloc (.cells #[.string ⟨#[]⟩, .int .i64 0, .int .i64 0, .slice none 0 0, .int .i64 0] 43)) w2 := (HB1.out.alloc hs1 _).trans (hb2.mono (by simp; omega)); clear r0 r1 r2 r3 r4 f0 f1 f2 f3 f4 hs4; obtain ⟨⟨r0, r1, r2, r3, r4⟩, ⟨f0, f1, f2, f3, f4⟩, hs4⟩ := HC.out _ hbb; have HB2 := Lib.hid hbb; clear hbb hb2)
    refine bodyPost_ret (v := .tuple #[.agg #[.string ⟨#[]⟩, .int .i64 0, .int .i64 0, .slice none 0 0, .int .i64 0], .int .i64 7]) (by simp [results, Tryd.results13, go_sem, *]) rfl (Fetched.no HQ.out ?_)
    exact below_set5 (lowBox' HB2.out) (Nat.le_refl _)
  · have t4 : until_ < lo := by omega
    clear ht
    go_enter Tryd.func13, Tryd.ntmps13
    go_wp2_with first
      | (go_at_call 24; (with_reducible refine (HIN.out _ ((Below.refl _ _).alloc (Nat.le_refl _) _)).mono ?_); rintro e w1 ⟨A1, c1, p1, s1, rfl, hps, hrow, hfr, hb1⟩; obtain ⟨rfl, e2⟩ := hps rfl; have e3 : nb = s1 := HNB.out.trans e2.symm; clear e2; subst e3; have hbb : Below (w.heap.size + 1) (w.alloc (.cells #[.string ⟨#[]⟩, .int .i64 0, .int .i64 0, .slice none 0 0, .int .i64 0] 43)) w1 := hb1.mono (by simp); obtain ⟨⟨r0, r1, r2, r3, r4⟩, ⟨f0, f1, f2, f3, f4⟩, hs4⟩ := HC.out _ (hbb.alloc (by have := hbb.size; simpa using this) (.cells #[.int .i64 ag, .int .i64 xf, .slice A1 hl.length c1, .pointer (some ⟨fs, 0, none⟩), .string nb] 70)); have HB1 := Lib.hid hbb; have HROW := Lib.hid hrow; have hs1 := ser_below hbb; clear hb1 hrow hfr hps hbb)
      | (go_at_call 25; ((with_reducible refine (HNW.out _).mono ?_); rintro e w' ⟨rfl, rfl⟩))
      | (go_at_call 27; (with_reducible refine (HSP.out A1 c1 _ (HROW.out.below ((Below.refl _ _).alloc (Nat.le_refl _) _))).mono ?_); rintro e w2 ⟨rfl, hb2⟩; have hbb : Below (w.heap.size + 1) (w.alloc (.cells #[.string ⟨#[]⟩, .int .i64 0, .int .i64 0, .slice none 0 0, .int .i64 0] 43)) w2 := (HB1.out.alloc hs1 _).trans (hb2.mono (by simp; omega)); clear r0 r1 r2 r3 r4 f0 f1 f2 f3 f4 hs4; obtain ⟨⟨r0, r1, r2, r3, r4⟩, ⟨f0, f1, f2, f3, f4⟩, hs4⟩ := HC.out _ hbb; have HB2 := Lib.hid hbb; clear hbb hb2)
    refine bodyPost_ret (v := .tuple #[.agg #[.string ⟨#[]⟩, .int .i64 0, .int .i64 0, .slice none 0 0, .int .i64 0], .int .i64 7]) (by simp [results, Tryd.results13, go_sem, *]) rfl (Fetched.no HQ.out ?_)
    exact below_set5 (lowBox' HB2.out) (Nat.le_refl _)

theorem fetch_any7 {w : World} {V : Nat → Prop} {c fs : Nat} {S : Vf.Sv} (ro : PO w V fs c S) (n : List UInt8) (hnl : n.length ≤ 1048576) (now from_ until_ : Int) :
    Calls Tryd.prog 13 #[.pointer (some ⟨fs, 0, none⟩), .string ⟨n.toArray⟩, .int .i64 now, .int .i64 from_, .int .i64 until_] w (Fetched w n (fetch S.now n now from_ until_)) := by
  by_cases h0 : (info S.now n).2 = 0
  · by_cases hn : now < 1 ∨ 4294967295 < now
    · exact fetch_late7 ro n now from_ until_ h0 hn
    · by_cases ht : until_ < from_ ∨ now < from_ ∨ until_ < 0 ∨ until_ < now - (info S.now n).1.span
      · exact fetch_out7 ro n now from_ until_ h0 (by omega) (by omega) ht
      · exact fetch_in7 ro n hnl now from_ until_ h0 (by omega) (by omega) ht
  · rw [fetch_err h0]
    exact fetch_fail (g := fs) (R := info S.now n) h0 (Lib.hid fun W hb => open_any (ro.below hb) n)
end Go.Proofs.YtbhfapbhlkgmfaaDoor
