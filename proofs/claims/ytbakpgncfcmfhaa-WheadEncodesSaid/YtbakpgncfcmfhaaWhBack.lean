/-
  PLAIN MATHEMATICS: what is read of an encoding, with anything behind it, is what it was made of.
-/
import Derived.Test.YtbakpgncfcmfhaaWhDec
namespace Go.Proofs.Ytbakpgncfcmfhaa
open Wh (At)
namespace Wh

theorem byt_right (X Y : List UInt8) (i : Nat) (n : Nat) (hn : X.length = n) : byt (X ++ Y) (n + i) = byt Y i := by
  unfold byt
  rw [List.getD_eq_getElem?_getD, List.getD_eq_getElem?_getD, List.getElem?_append_right (by omega), hn, Nat.add_sub_cancel_left]
theorem nm_right (X Y : List UInt8) (i n : Nat) (hn : X.length = n) : nm (X ++ Y) (n + i) = nm Y i := by
  unfold nm
  rw [byt_right X Y i n hn, show n + i + 1 = n + (i + 1) by omega, byt_right X Y (i + 1) n hn, show n + i + 2 = n + (i + 2) by omega, byt_right X Y (i + 2) n hn, show n + i + 3 = n + (i + 3) by omega, byt_right X Y (i + 3) n hn]
theorem u8nat (x : Int) : ((UInt8.ofNat (x % 256).toNat).toNat : Int) = x % 256 := u8of x
theorem nm_four (n : Int) (Y : List UInt8) (h1 : 0 ≤ n) (h2 : n ≤ 4294967295) : nm (four n ++ Y) 0 = n := by
  unfold nm
  have e0 : (byt (four n ++ Y) 0 : Int) = (n / 16777216) % 256 := u8of _
  have e1 : (byt (four n ++ Y) (0 + 1) : Int) = (n / 65536) % 256 := u8of _
  have e2 : (byt (four n ++ Y) (0 + 2) : Int) = (n / 256) % 256 := u8of _
  have e3 : (byt (four n ++ Y) (0 + 3) : Int) = n % 256 := u8of _
  rw [e0, e1, e2, e3]
  omega
theorem nm_fours : ∀ (ns : List Int) (M : List UInt8) (i : Nat) (n : Int), ns[i]? = some n → (∀ m ∈ ns, 0 ≤ m ∧ m ≤ 4294967295) → nm (fours ns ++ M) (4 * i) = n
  | [], _, _, _, h, _ => by simp at h
  | m :: ns, M, 0, n, h, hb => by
    have e : m = n := by simpa using h
    subst e
    have := hb m (by simp)
    have e2 : fours (m :: ns) ++ M = four m ++ (fours ns ++ M) := by unfold fours; simp
    rw [e2]
    exact nm_four m _ this.1 this.2
  | m :: ns, M, i + 1, n, h, hb => by
    have e2 : fours (m :: ns) ++ M = four m ++ (fours ns ++ M) := by unfold fours; simp
    rw [e2, show 4 * (i + 1) = 4 + 4 * i by omega, nm_right (four m) _ (4 * i) 4 rfl]
    exact nm_fours ns M i n (by simpa using h) fun x hx => hb x (by simp [hx])
theorem ints_head (ag xf : Int) (l : List (Int × Int)) (k i : Nat) (hi : i < 4) : (ints ag xf l k)[i]? = [ag, lsp l, xf, (l.length : Int)][i]? := by
  induction k with
  | zero => rfl
  | succ k ih =>
    unfold ints
    rw [List.getElem?_append_left (by rw [ints_len]; omega)]
    exact ih
theorem ints_tail (ag xf : Int) (l : List (Int × Int)) (k i j : Nat) (hi : i < k) (hj : j < 3) : (ints ag xf l k)[4 + 3 * i + j]? = [ends l i, (At l i).1, (At l i).2][j]? := by
  induction k with
  | zero => omega
  | succ k ih =>
    unfold ints
    by_cases e : i = k
    · subst e
      rw [List.getElem?_append_right (by rw [ints_len]; omega), ints_len, show 4 + 3 * i + j - (4 + 3 * i) = j by omega]
    · rw [List.getElem?_append_left (by rw [ints_len]; omega)]
      exact ih (by omega)

theorem ints_ok {ag xf : Int} {l : List (Int × Int)} (hv : val ag xf l = true) : ∀ n ∈ ints ag xf l l.length, 0 ≤ n ∧ n ≤ 4294967295 := by
  obtain ⟨⟨g1, g2⟩, x1, x2, ha⟩ := val_t hv
  obtain ⟨a1, a2, a3, a4, a5⟩ := av_t ha
  have hl := lsp_bd a1 a3
  have key : ∀ k, k ≤ l.length → ∀ n ∈ ints ag xf l k, 0 ≤ n ∧ n ≤ 4294967295 := by
    intro k
    induction k with
    | zero =>
      intro _ n hn
      simp [ints] at hn
      rcases hn with rfl | rfl | rfl | rfl <;> omega
    | succ k ih =>
      intro hk n hn
      unfold ints at hn
      rw [List.mem_append] at hn
      rcases hn with hn | hn
      · exact ih (by omega) n hn
      · have h1 := alls_num (k := k) (by omega) a3
        have h2 := ends_bd a2 (alls_cnt a3) k (by omega)
        simp at hn
        rcases hn with rfl | rfl | rfl <;> omega
  exact key l.length (Nat.le_refl _)
theorem At_eq (l : List (Int × Int)) (i : Nat) (h : i < l.length) : l[i]? = some (At l i) := by
  unfold At
  rw [List.getD_eq_getElem?_getD, List.getElem?_eq_getElem h]
  rfl
/-- There and back. -/
theorem back {ag xf : Int} {l : List (Int × Int)} (hv : val ag xf l = true) (M : List UInt8) : dok (enc ag xf l ++ M) = true ∧ dag (enc ag xf l ++ M) = ag ∧ dxf (enc ag xf l ++ M) = xf ∧ dl (enc ag xf l ++ M) = l := by
  obtain ⟨⟨g1, g2⟩, x1, x2, ha⟩ := val_t hv
  obtain ⟨a1, a2, a3, a4, a5⟩ := av_t ha
  have he : enc ag xf l = fours (ints ag xf l l.length) := by unfold enc; rw [if_pos hv]
  have hlen : (enc ag xf l).length = 16 + 12 * l.length := by rw [he, fours_len, ints_len]; omega
  have hb := ints_ok hv
  have n0 : nm (enc ag xf l ++ M) 0 = ag := by rw [he]; exact nm_fours _ M 0 ag (ints_head ag xf l _ 0 (by omega)) hb
  have n8 : nm (enc ag xf l ++ M) 8 = xf := by rw [he]; exact nm_fours _ M 2 xf (ints_head ag xf l _ 2 (by omega)) hb
  have n12 : nm (enc ag xf l ++ M) 12 = (l.length : Int) := by rw [he]; exact nm_fours _ M 3 _ (ints_head ag xf l _ 3 (by omega)) hb
  have hc : cand (enc ag xf l ++ M) = l := by
    unfold cand
    rw [n12, Int.toNat_natCast]
    apply List.ext_getElem?
    intro i
    by_cases hi : i < l.length
    · rw [At_eq (archs _ _) i (by rw [archs_len]; exact hi), At_eq l i hi, archs_at _ _ i hi]
      have s1 : nm (enc ag xf l ++ M) (16 + 12 * i + 4) = (At l i).1 := by
        rw [he, show 16 + 12 * i + 4 = 4 * (4 + 3 * i + 1) by omega]
        exact nm_fours _ M _ _ (ints_tail ag xf l _ i 1 hi (by omega)) hb
      have s2 : nm (enc ag xf l ++ M) (16 + 12 * i + 8) = (At l i).2 := by
        rw [he, show 16 + 12 * i + 8 = 4 * (4 + 3 * i + 2) by omega]
        exact nm_fours _ M _ _ (ints_tail ag xf l _ i 2 hi (by omega)) hb
      rw [s1, s2]
    · rw [List.getElem?_eq_none (by rw [archs_len]; omega), List.getElem?_eq_none (by omega)]
  have hr : rok (enc ag xf l ++ M) = true := by
    unfold rok
    simp only [Bool.and_eq_true, decide_eq_true_eq]
    rw [n12, List.length_append, hlen]
    exact ⟨⟨by omega, by omega⟩, by omega⟩
  have hel : encL (enc ag xf l ++ M) = enc ag xf l := by unfold encL; rw [n0, n8, hc]
  have hd : dok (enc ag xf l ++ M) = true := by
    rw [dok_p hr (by rw [n0, n8, hc]; exact hv), hel]
    exact decide_eq_true ⟨by rw [List.length_append]; omega, List.take_left⟩
  obtain ⟨e1, e2, e3, _⟩ := dok_t hd
  exact ⟨hd, e1.trans n0, e2.trans n8, e3.trans hc⟩
end Wh
end Go.Proofs.Ytbakpgncfcmfhaa
