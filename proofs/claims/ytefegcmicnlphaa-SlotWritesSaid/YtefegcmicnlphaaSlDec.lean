/-
  CONTRACTS: chapter 5's Decode, on both sides.
-/
import Derived.Test.YtefegcmicnlphaaSlREnc
import Derived.Laws.Bits64
import Derived.Deep.RegionWith
namespace Go.Proofs.Ytefegcmicnlphaa
open Go.RowKit Go.Sort
open Me

namespace Sl
def wr64 (z : Int) : Int := (z + 9223372036854775808) % 18446744073709551616 - 9223372036854775808
def acc (l : List UInt8) : Int := l.foldl (fun n x => wr64 (n * 256) + (x.toNat : Int)) 0
def be (l : List UInt8) : Int := l.foldl (fun n x => n * 256 + (x.toNat : Int)) 0
theorem acc_snoc (l : List UInt8) (c : UInt8) : acc (l ++ [c]) = wr64 (acc l * 256) + (c.toNat : Int) := by unfold acc; rw [List.foldl_append]; rfl
theorem be_snoc (l : List UInt8) (c : UInt8) : be (l ++ [c]) = be l * 256 + (c.toNat : Int) := by unfold be; rw [List.foldl_append]; rfl
theorem wr_low (z : Int) : wr64 (z * 256) % 256 = 0 ∧ -9223372036854775808 ≤ wr64 (z * 256) ∧ wr64 (z * 256) ≤ 9223372036854775552 := by unfold wr64; omega
theorem acc_take (l : List UInt8) (k : Nat) (h : k < l.length) : acc (l.take (k + 1)) = wr64 (acc (l.take k) * 256) + (Wh.byt l k : Int) := by
  rw [List.take_succ_eq_append_getElem h, acc_snoc]
  have : Wh.byt l k = l[k].toNat := by unfold Wh.byt; rw [List.getD_eq_getElem?_getD, List.getElem?_eq_getElem h]; rfl
  rw [this]
theorem or_low (x y : Int) (hx : x % 256 = 0) (h1 : -9223372036854775808 ≤ x) (h2 : x ≤ 9223372036854775552) (y1 : 0 ≤ y) (y2 : y < 256) : bits .or .i64 x y = x + y := by
  have e : bits .or .i64 x y = IntKind.i64.wrap (((BitVec.ofInt 64 x ||| BitVec.ofInt 64 y).toNat : Nat) : Int) := rfl
  rw [e, BitVec.toNat_or, BitVec.toNat_ofInt, BitVec.toNat_ofInt]
  have p : ((2 ^ 64 : Nat) : Int) = 18446744073709551616 := rfl
  rw [p]
  have hy : (y % 18446744073709551616).toNat < 2 ^ 8 := by show _ < 256; omega
  have hq : (x % 18446744073709551616).toNat = 2 ^ 8 * ((x % 18446744073709551616).toNat / 2 ^ 8) := by show _ = 256 * (_ / 256); omega
  rw [hq, ← Nat.two_pow_add_eq_or_of_lt hy, ← hq, IntKind.wrap_i64]
  omega
end Sl

set_option maxHeartbeats 1000000 in
theorem snumber_any (l : List UInt8) (b off cap : Nat) (w : World) (h : By w b off l) (hl : l.length ≤ 100) :
    Calls Try.prog 22 #[.slice (some ⟨b, off, none⟩) l.length cap] w fun e w' => e = .returned (.int .i64 (Sl.acc l)) ∧ w = w' := by
  have HB := Lib.hid h
  have HT := Lib.hid (Sl.acc_take l)
  have hlt := h.lt
  have h0 : Hid (Sl.acc (l.take 0) = 0) := Lib.hid rfl
  have hlI : (l.length : Int) ≤ 100 := by omega
  clear h
  go_enter Try.func22, Try.ntmps22
  go_wp2_with fail
  go_loopw [3, 8] (fun n i wr => ∃ k : Nat, k ≤ l.length ∧ i = .int .i64 k ∧ n = .int .i64 (Sl.acc (l.take k)) ∧ wr = w) (fun _ i _ => l.length - (intOf i).toNat)
  case atStart => exact ⟨0, Nat.zero_le _, rfl, by rw [h0.out], rfl⟩
  case round =>
    obtain ⟨k, hk, rfl, rfl, rfl⟩ := hrel
    by_cases hkl : k < l.length
    · have hcell := HB.out.at_ k hkl
      have hbl := Wh.by_lt l k
      obtain ⟨a1, a2, a3⟩ := Sl.wr_low (Sl.acc (l.take k))
      have hT := HT.out k hkl
      have hor := Sl.or_low (Sl.wr64 (Sl.acc (l.take k) * 256)) (Wh.byt l k) a1 a2 a3 (by omega) (by omega)
      rw [← hT] at hor
      have hw : IntKind.i64.wrap (Sl.acc (l.take k) * 256) = Sl.wr64 (Sl.acc (l.take k) * 256) := by rw [IntKind.wrap_i64]; rfl
      clear hT a1 a2 a3
      generalize hq : Sl.acc (l.take (k + 1)) = q at *
      have HQ := Lib.hid hq
      clear hq
      generalize Sl.wr64 (Sl.acc (l.take k) * 256) = s at *
      generalize Sl.acc (l.take k) = a at *
      generalize Wh.byt l k = c at *
      go_wp2_with fail
      go_roundw
      case rel => exact ⟨k + 1, by omega, by go_num, by rw [HQ.out], trivial⟩
      case measure => simp [intOf]; omega
    · obtain rfl : k = l.length := by omega
      rw [List.take_length]
      go_wp2_with fail
      go_ret
      exact ⟨rfl, rfl⟩

namespace Sl
theorem wr_small (z : Int) (h1 : 0 ≤ z) (h2 : z < 9223372036854775808) : wr64 z = z := by unfold wr64; omega
def dn (l : List UInt8) : Int := wr64 (Wh.nm l 4 * 4294967296 + Wh.nm l 8)
theorem twelve {l : List UInt8} (h : l.length = 12) : ∃ c0 c1 c2 c3 c4 c5 c6 c7 c8 c9 c10 c11, l = [c0, c1, c2, c3, c4, c5, c6, c7, c8, c9, c10, c11] := by
  match l, h with
  | [c0, c1, c2, c3, c4, c5, c6, c7, c8, c9, c10, c11], _ => exact ⟨c0, c1, c2, c3, c4, c5, c6, c7, c8, c9, c10, c11, rfl⟩
theorem four_step (x1 x2 x3 x4 c0 c1 c2 c3 : Int) (h0 : 0 ≤ c0 ∧ c0 < 256) (h1 : 0 ≤ c1 ∧ c1 < 256) (h2 : 0 ≤ c2 ∧ c2 < 256)
    (a1 : x1 = wr64 (0 * 256) + c0) (a2 : x2 = wr64 (x1 * 256) + c1) (a3 : x3 = wr64 (x2 * 256) + c2) (a4 : x4 = wr64 (x3 * 256) + c3) : x4 = ((c0 * 256 + c1) * 256 + c2) * 256 + c3 := by
  rw [wr_small (0 * 256) (by omega) (by omega)] at a1
  rw [wr_small (x1 * 256) (by omega) (by omega)] at a2
  rw [wr_small (x2 * 256) (by omega) (by omega)] at a3
  rw [wr_small (x3 * 256) (by omega) (by omega)] at a4
  omega
theorem eight_step (x4 x5 x6 x7 x8 c4 c5 c6 c7 : Int) (h : 0 ≤ x4 ∧ x4 < 4294967296) (h0 : 0 ≤ c4 ∧ c4 < 256) (h1 : 0 ≤ c5 ∧ c5 < 256) (h3 : 0 ≤ c7 ∧ c7 < 256)
    (a5 : x5 = wr64 (x4 * 256) + c4) (a6 : x6 = wr64 (x5 * 256) + c5) (a7 : x7 = wr64 (x6 * 256) + c6) (a8 : x8 = wr64 (x7 * 256) + c7) : x8 = wr64 (x4 * 4294967296 + (((c4 * 256 + c5) * 256 + c6) * 256 + c7)) := by
  rw [wr_small (x4 * 256) (by omega) (by omega)] at a5
  rw [wr_small (x5 * 256) (by omega) (by omega)] at a6
  rw [wr_small (x6 * 256) (by omega) (by omega)] at a7
  have hz : x4 * 4294967296 + (((c4 * 256 + c5) * 256 + c6) * 256 + c7) = x7 * 256 + c7 := by omega
  rw [hz, a8]
  clear hz a5 a6 a7 a8
  unfold wr64
  omega
theorem u8_bd (c : UInt8) : 0 ≤ (c.toNat : Int) ∧ (c.toNat : Int) < 256 := by have := c.toNat_lt; omega
theorem acc4 (c0 c1 c2 c3 : UInt8) : acc [c0, c1, c2, c3] = (((c0.toNat : Int) * 256 + c1.toNat) * 256 + c2.toNat) * 256 + c3.toNat :=
  four_step _ _ _ _ _ _ _ _ (u8_bd c0) (u8_bd c1) (u8_bd c2) (acc_snoc [] c0) (acc_snoc [c0] c1) (acc_snoc [c0, c1] c2) (acc_snoc [c0, c1, c2] c3)
theorem acc8 (c0 c1 c2 c3 c4 c5 c6 c7 : UInt8) : acc [c0, c1, c2, c3, c4, c5, c6, c7] = wr64 (((((c0.toNat : Int) * 256 + c1.toNat) * 256 + c2.toNat) * 256 + c3.toNat) * 4294967296 + ((((c4.toNat : Int) * 256 + c5.toNat) * 256 + c6.toNat) * 256 + c7.toNat)) := by
  rw [← acc4 c0 c1 c2 c3]
  refine eight_step _ _ _ _ _ _ _ _ _ ?_ (u8_bd c4) (u8_bd c5) (u8_bd c7) (acc_snoc [c0, c1, c2, c3] c4) (acc_snoc [c0, c1, c2, c3, c4] c5) (acc_snoc [c0, c1, c2, c3, c4, c5] c6) (acc_snoc [c0, c1, c2, c3, c4, c5, c6] c7)
  rw [acc4]
  have := u8_bd c0
  have := u8_bd c1
  have := u8_bd c2
  have := u8_bd c3
  omega
theorem acc_at {l : List UInt8} (h : l.length = 12) : acc (l.take 4) = Wh.nm l 0 := by
  obtain ⟨c0, c1, c2, c3, c4, c5, c6, c7, c8, c9, c10, c11, rfl⟩ := twelve h
  refine (acc4 c0 c1 c2 c3).trans ?_
  show _ = (c0.toNat : Int) * 16777216 + c1.toNat * 65536 + c2.toNat * 256 + c3.toNat
  omega
theorem acc_n {l : List UInt8} (h : l.length = 12) : acc (l.drop 4) = dn l := by
  obtain ⟨c0, c1, c2, c3, c4, c5, c6, c7, c8, c9, c10, c11, rfl⟩ := twelve h
  refine (acc8 c4 c5 c6 c7 c8 c9 c10 c11).trans ?_
  have n1 : Wh.nm [c0, c1, c2, c3, c4, c5, c6, c7, c8, c9, c10, c11] 4 = (c4.toNat : Int) * 16777216 + c5.toNat * 65536 + c6.toNat * 256 + c7.toNat := rfl
  have n2 : Wh.nm [c0, c1, c2, c3, c4, c5, c6, c7, c8, c9, c10, c11] 8 = (c8.toNat : Int) * 16777216 + c9.toNat * 65536 + c10.toNat * 256 + c11.toNat := rfl
  unfold dn
  rw [n1, n2]
  have e1 : (((c4.toNat : Int) * 256 + c5.toNat) * 256 + c6.toNat) * 256 + c7.toNat = (c4.toNat : Int) * 16777216 + c5.toNat * 65536 + c6.toNat * 256 + c7.toNat := by omega
  have e2 : (((c8.toNat : Int) * 256 + c9.toNat) * 256 + c10.toNat) * 256 + c11.toNat = (c8.toNat : Int) * 16777216 + c9.toNat * 65536 + c10.toNat * 256 + c11.toNat := by omega
  rw [e1, e2]
theorem dn_bd (l : List UInt8) : -9223372036854775808 ≤ dn l ∧ dn l ≤ 9223372036854775807 := by unfold dn wr64; omega
/-- There and back. -/
theorem bt_nat (n : Int) (k : Nat) : ((bt n k).toNat : Int) = n / (2 : Int) ^ (8 * k) % 256 := by unfold bt; exact Wh.u8of _
theorem back_at (a n : Int) : Wh.nm (enc a n) 0 = lim a := by
  have b := lim_bd a
  show (((bt (lim a) 3).toNat : Int)) * 16777216 + (bt (lim a) 2).toNat * 65536 + (bt (lim a) 1).toNat * 256 + (bt (lim a) 0).toNat = lim a
  obtain ⟨p7, p6, p5, p4, p3, p2, p1, p0⟩ := pw
  rw [bt_nat, bt_nat, bt_nat, bt_nat, p3, p2, p1, p0, Int.ediv_one]
  omega
theorem back_n (a n : Int) (h1 : -9223372036854775808 ≤ n) (h2 : n ≤ 9223372036854775807) : dn (enc a n) = n := by
  have e : dn (enc a n) = wr64 ((((bt n 7).toNat : Int) * 16777216 + (bt n 6).toNat * 65536 + (bt n 5).toNat * 256 + (bt n 4).toNat) * 4294967296 + (((bt n 3).toNat : Int) * 16777216 + (bt n 2).toNat * 65536 + (bt n 1).toNat * 256 + (bt n 0).toNat)) := rfl
  obtain ⟨p7, p6, p5, p4, p3, p2, p1, p0⟩ := pw
  rw [e, bt_nat, bt_nat, bt_nat, bt_nat, bt_nat, bt_nat, bt_nat, bt_nat, p7, p6, p5, p4, p3, p2, p1, p0, Int.ediv_one]
  have hz : (n / 72057594037927936 % 256 * 16777216 + n / 281474976710656 % 256 * 65536 + n / 1099511627776 % 256 * 256 + n / 4294967296 % 256) * 4294967296 + (n / 16777216 % 256 * 16777216 + n / 65536 % 256 * 65536 + n / 256 % 256 * 256 + n % 256) = n % 18446744073709551616 := by omega
  rw [hz]
  unfold wr64
  omega
end Sl
theorem By.of {w : World} {G : Nat → Prop} {A : Option Addr} {l : List UInt8} (h : Rd w G A (by8 l)) (hl : 0 < l.length) : ∃ b off, A = some ⟨b, off, none⟩ ∧ By w b off l := by
  obtain ⟨b, off, e, h1, _, h3⟩ := Rd.lit h 0 (by rw [by8_len]; exact hl)
  refine ⟨b, off, e, h1, fun j hj => ?_⟩
  have : Wh.byt l j = l[j].toNat := by unfold Wh.byt; rw [List.getD_eq_getElem?_getD, List.getElem?_eq_getElem hj]; rfl
  rw [this]
  exact h3 j _ (by8_get l j hj)
theorem By.take {w : World} {b off : Nat} {l : List UInt8} (h : By w b off l) (n : Nat) (_ : n ≤ l.length) : By w b off (l.take n) :=
  ⟨h.lt, fun j hj => by
    rw [List.length_take] at hj
    have : Wh.byt (l.take n) j = Wh.byt l j := by unfold Wh.byt; rw [List.getD_eq_getElem?_getD, List.getD_eq_getElem?_getD, List.getElem?_take, if_pos (by omega)]
    rw [this]; exact h.at_ j (by omega)⟩
theorem By.drop {w : World} {b off : Nat} {l : List UInt8} (h : By w b off l) (n : Nat) : By w b (off + n) (l.drop n) :=
  ⟨h.lt, fun j hj => by
    rw [List.length_drop] at hj
    have : Wh.byt (l.drop n) j = Wh.byt l (n + j) := by unfold Wh.byt; rw [List.getD_eq_getElem?_getD, List.getD_eq_getElem?_getD, List.getElem?_drop]
    rw [this, Nat.add_assoc]; exact h.at_ (n + j) (by omega)⟩
end Go.Proofs.Ytefegcmicnlphaa
