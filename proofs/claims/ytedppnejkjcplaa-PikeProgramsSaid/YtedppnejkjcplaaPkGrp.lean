/-
  CONTRACTS: chapter 12: Group, on both sides.
-/
import Derived.Test.YtedppnejkjcplaaPkMem
import Derived.Test.YtedppnejkjcplaaShelf
import Derived.RegionTactic
import Derived.Deep.RegionLaw
namespace Go.Proofs.Ytedppnejkjcplaa
open Go.RowKit Go.Sort
open Me
open Pk

namespace Pk
/-- What a group has. -/
def grp (t : List UInt8) (pl : List Int) (k : Int) : List UInt8 :=
  if k < 0 ∨ (pl.length : Int) ≤ 2 * k + 1 then [] else
    if pl.getD (2 * k.toNat) 0 < 0 ∨ pl.getD (2 * k.toNat + 1) 0 < pl.getD (2 * k.toNat) 0 ∨ (t.length : Int) < pl.getD (2 * k.toNat + 1) 0 then [] else
      (t.drop (pl.getD (2 * k.toNat) 0).toNat).take ((pl.getD (2 * k.toNat + 1) 0).toNat - (pl.getD (2 * k.toNat) 0).toNat)
theorem extr (t : List UInt8) (a b : Nat) : (⟨t.toArray⟩ : ByteArray).extract a b = ⟨((t.drop a).take (b - a)).toArray⟩ := by
  apply ByteArray.ext
  rw [ByteArray.data_extract]
  simp [List.take_drop]
  try omega
end Pk

theorem pkClone_any (n : List UInt8) (w : World) (hn : n.length ≤ 1048576) :
    Calls Try.prog 34 #[.string ⟨n.toArray⟩] w fun e w' => e = .returned (.string ⟨n.toArray⟩) ∧ Below w.heap.size w w' := by
  have HC := Lib.hid (Try.stringslite_Clone ⟨n.toArray⟩ w (by show n.toArray.size ≤ _; simp; omega))
  go_enter Try.func34, Try.ntmps34
  go_wp2_with (go_at_call 51; ((with_reducible refine (HC.out).mono ?_); rintro e w' ⟨rfl, hb⟩))
  go_ret
  exact ⟨rfl, hb⟩

set_option maxRecDepth 100000 in
set_option maxHeartbeats 4000000 in
theorem refGroup_any {W : World} {G : Nat → Prop} {A : Option Addr} {cp : Nat} {t : List UInt8} {pl : List Int} {k : Int} (hr : Rd W G A (iv pl)) (ht : t.length ≤ 1048576) (hp : pl.length ≤ 1048576) (hk : -9223372036854775808 ≤ k ∧ k ≤ 9223372036854775807) :
    Calls Try.prog 20 #[.string ⟨t.toArray⟩, .slice A pl.length cp, .int .i64 k] W fun e W' => e = .returned (.string ⟨(Pk.grp t pl k).toArray⟩) ∧ Below W.heap.size W W' := by
  obtain ⟨R, hR⟩ : ∃ R, Pk.grp t pl k = R := ⟨_, rfl⟩
  rw [hR]
  unfold Pk.grp at hR
  by_cases h0 : k < 0
  · rw [if_pos (.inl h0)] at hR
    subst hR
    go_enter Try.func20, Try.ntmps20
    go_wp2_with fail
    go_ret
    exact ⟨rfl, Below.refl _ _⟩
  by_cases h1 : 1073741824 < k
  · rw [if_pos (.inr (by omega))] at hR
    subst hR
    go_enter Try.func20, Try.ntmps20
    go_wp2_with fail
    go_ret
    exact ⟨rfl, Below.refl _ _⟩
  have hw1 : IntKind.i64.wrap (2 * k) = 2 * k := by rw [IntKind.wrap_i64]; omega
  have hw2 : IntKind.i64.wrap (2 * k + 1) = 2 * k + 1 := by rw [IntKind.wrap_i64]; omega
  by_cases h2 : (pl.length : Int) ≤ 2 * k + 1
  · rw [if_pos (.inr h2)] at hR
    subst hR
    go_enter Try.func20, Try.ntmps20
    go_wp2_with fail
    go_ret
    exact ⟨rfl, Below.refl _ _⟩
  rw [if_neg (by omega)] at hR
  obtain ⟨p, rfl⟩ : ∃ p : Nat, k = (p : Int) := ⟨k.toNat, by omega⟩
  rw [Int.toNat_natCast] at hR
  have hp1 : 2 * p + 1 < pl.length := by omega
  have hp1I : 2 * (p : Int) + 1 < (pl.length : Int) := by omega
  have hp0I : 2 * (p : Int) < (pl.length : Int) := by omega
  have hpI : (0 : Int) ≤ 2 * (p : Int) := by omega
  have hpI2 : (0 : Int) ≤ 2 * (p : Int) + 1 := by omega
  obtain ⟨b, o, rfl, hb, _, hq⟩ := hr.lit (2 * p) (by rw [iv_len]; omega)
  obtain ⟨x, hx⟩ : ∃ x, pl.getD (2 * p) 0 = x := ⟨_, rfl⟩
  obtain ⟨y, hy⟩ : ∃ y, pl.getD (2 * p + 1) 0 = y := ⟨_, rfl⟩
  have r1 : W.cell? ⟨b, o + (2 * (p : Int)).toNat, none⟩ = some (.int .i64 x) := by
    rw [show (2 * (p : Int)).toNat = 2 * p by omega]
    refine hq (2 * p) _ ?_
    rw [iv_get pl (2 * p) (by omega), ← hx, List.getD_eq_getElem?_getD, List.getElem?_eq_getElem (by omega : 2 * p < pl.length)]
    rfl
  have r2 : W.cell? ⟨b, o + (2 * (p : Int) + 1).toNat, none⟩ = some (.int .i64 y) := by
    rw [show (2 * (p : Int) + 1).toNat = 2 * p + 1 by omega]
    refine hq (2 * p + 1) _ ?_
    rw [iv_get pl (2 * p + 1) hp1, ← hy, List.getD_eq_getElem?_getD, List.getElem?_eq_getElem hp1]
    rfl
  rw [hx, hy] at hR
  clear hq hx hy hr
  by_cases h3 : x < 0
  · rw [if_pos (.inl h3)] at hR
    subst hR
    go_enter Try.func20, Try.ntmps20
    go_wp2_with fail
    go_quiet (fail)
    go_wp2_with fail
    go_ret
    exact ⟨rfl, rfl, rfl, rfl, Nat.le_refl _, fun _ _ => rfl⟩
  by_cases h4 : y < x
  · rw [if_pos (.inr (.inl h4))] at hR
    subst hR
    go_enter Try.func20, Try.ntmps20
    go_wp2_with fail
    go_quiet (fail)
    go_wp2_with fail
    go_ret
    exact ⟨rfl, rfl, rfl, rfl, Nat.le_refl _, fun _ _ => rfl⟩
  by_cases h5 : (t.length : Int) < y
  · rw [if_pos (.inr (.inr h5))] at hR
    subst hR
    go_enter Try.func20, Try.ntmps20
    go_wp2_with fail
    go_quiet (fail)
    go_wp2_with fail
    go_ret
    exact ⟨rfl, rfl, rfl, rfl, Nat.le_refl _, fun _ _ => rfl⟩
  rw [if_neg (by omega)] at hR
  obtain ⟨u, rfl⟩ : ∃ u : Nat, x = (u : Int) := ⟨x.toNat, by omega⟩
  obtain ⟨v, rfl⟩ : ∃ v : Nat, y = (v : Int) := ⟨y.toNat, by omega⟩
  rw [Int.toNat_natCast, Int.toNat_natCast] at hR
  have huv : u ≤ v := by omega
  have hvt : v ≤ t.length := by omega
  have huI : (0 : Int) ≤ (u : Int) := by omega
  have huvI : (u : Int) ≤ (v : Int) := by omega
  have hvtI : (v : Int) ≤ (t.length : Int) := by omega
  have hex : (⟨t.toArray⟩ : ByteArray).extract u v = ⟨R.toArray⟩ := by rw [Pk.extr, hR]
  clear hR
  go_enter Try.func20, Try.ntmps20
  go_wp2_with fail
  go_quiet (fail)
  go_wp2_with fail
  go_ret
  exact ⟨rfl, rfl, rfl, rfl, Nat.le_refl _, fun _ _ => rfl⟩

set_option maxRecDepth 100000 in
set_option maxHeartbeats 4000000 in
theorem group_any {W : World} {G : Nat → Prop} {A : Option Addr} {cp : Nat} {t : List UInt8} {pl : List Int} {k : Int} (hr : Rd W G A (iv pl)) (ht : t.length ≤ 1048576) (hp : pl.length ≤ 1048576) (hk : -9223372036854775808 ≤ k ∧ k ≤ 9223372036854775807) :
    Calls Try.prog 19 #[.string ⟨t.toArray⟩, .slice A pl.length cp, .int .i64 k] W fun e W' => e = .returned (.string ⟨(Pk.grp t pl k).toArray⟩) ∧ Below W.heap.size W W' := by
  obtain ⟨R, hR⟩ : ∃ R, Pk.grp t pl k = R := ⟨_, rfl⟩
  rw [hR]
  unfold Pk.grp at hR
  by_cases h0 : k < 0
  · rw [if_pos (.inl h0)] at hR
    subst hR
    go_enter Try.func19, Try.ntmps19
    go_wp2_with fail
    go_ret
    exact ⟨rfl, Below.refl _ _⟩
  obtain ⟨hf, hff⟩ : ∃ hf : Nat, hf = pl.length / 2 := ⟨_, rfl⟩
  have hdv : (pl.length : Int) / 2 = (hf : Int) := by omega
  have hf1 : 2 * hf ≤ pl.length := by omega
  have hf2 : pl.length < 2 * hf + 2 := by omega
  clear hff
  by_cases h2 : (pl.length : Int) ≤ 2 * k + 1
  · have h2d : (hf : Int) ≤ k := by omega
    rw [if_pos (.inr h2)] at hR
    subst hR
    go_enter Try.func19, Try.ntmps19
    go_wp2_with fail
    go_ret
    exact ⟨rfl, Below.refl _ _⟩
  rw [if_neg (by omega)] at hR
  have h2d : k < (hf : Int) := by omega
  have hw1 : IntKind.i64.wrap (2 * k) = 2 * k := by rw [IntKind.wrap_i64]; omega
  have hw2 : IntKind.i64.wrap (2 * k + 1) = 2 * k + 1 := by rw [IntKind.wrap_i64]; omega
  obtain ⟨p, rfl⟩ : ∃ p : Nat, k = (p : Int) := ⟨k.toNat, by omega⟩
  rw [Int.toNat_natCast] at hR
  have hp1 : 2 * p + 1 < pl.length := by omega
  have hp1I : 2 * (p : Int) + 1 < (pl.length : Int) := by omega
  have hp0I : 2 * (p : Int) < (pl.length : Int) := by omega
  have hpI : (0 : Int) ≤ 2 * (p : Int) := by omega
  have hpI2 : (0 : Int) ≤ 2 * (p : Int) + 1 := by omega
  obtain ⟨b, o, rfl, hb, _, hq⟩ := hr.lit (2 * p) (by rw [iv_len]; omega)
  obtain ⟨x, hx⟩ : ∃ x, pl.getD (2 * p) 0 = x := ⟨_, rfl⟩
  obtain ⟨y, hy⟩ : ∃ y, pl.getD (2 * p + 1) 0 = y := ⟨_, rfl⟩
  have r1 : W.cell? ⟨b, o + (2 * (p : Int)).toNat, none⟩ = some (.int .i64 x) := by
    rw [show (2 * (p : Int)).toNat = 2 * p by omega]
    refine hq (2 * p) _ ?_
    rw [iv_get pl (2 * p) (by omega), ← hx, List.getD_eq_getElem?_getD, List.getElem?_eq_getElem (by omega : 2 * p < pl.length)]
    rfl
  have r2 : W.cell? ⟨b, o + (2 * (p : Int) + 1).toNat, none⟩ = some (.int .i64 y) := by
    rw [show (2 * (p : Int) + 1).toNat = 2 * p + 1 by omega]
    refine hq (2 * p + 1) _ ?_
    rw [iv_get pl (2 * p + 1) hp1, ← hy, List.getD_eq_getElem?_getD, List.getElem?_eq_getElem hp1]
    rfl
  rw [hx, hy] at hR
  clear hq hx hy hr
  by_cases h3 : x < 0
  · rw [if_pos (.inl h3)] at hR
    subst hR
    go_enter Try.func19, Try.ntmps19
    go_wp2_with fail
    go_quiet (fail)
    go_wp2_with fail
    go_ret
    exact ⟨rfl, rfl, rfl, rfl, Nat.le_refl _, fun _ _ => rfl⟩
  by_cases h4 : y < x
  · rw [if_pos (.inr (.inl h4))] at hR
    subst hR
    go_enter Try.func19, Try.ntmps19
    go_wp2_with fail
    go_quiet (fail)
    go_wp2_with fail
    go_ret
    exact ⟨rfl, rfl, rfl, rfl, Nat.le_refl _, fun _ _ => rfl⟩
  by_cases h5 : (t.length : Int) < y
  · rw [if_pos (.inr (.inr h5))] at hR
    subst hR
    go_enter Try.func19, Try.ntmps19
    go_wp2_with fail
    go_quiet (fail)
    go_wp2_with fail
    go_ret
    exact ⟨rfl, rfl, rfl, rfl, Nat.le_refl _, fun _ _ => rfl⟩
  rw [if_neg (by omega)] at hR
  obtain ⟨u, rfl⟩ : ∃ u : Nat, x = (u : Int) := ⟨x.toNat, by omega⟩
  obtain ⟨v, rfl⟩ : ∃ v : Nat, y = (v : Int) := ⟨y.toNat, by omega⟩
  rw [Int.toNat_natCast, Int.toNat_natCast] at hR
  have huv : u ≤ v := by omega
  have hvt : v ≤ t.length := by omega
  have huI : (0 : Int) ≤ (u : Int) := by omega
  have huvI : (u : Int) ≤ (v : Int) := by omega
  have hvtI : (v : Int) ≤ (t.length : Int) := by omega
  have hex : (⟨t.toArray⟩ : ByteArray).extract u v = ⟨R.toArray⟩ := by rw [Pk.extr, hR]
  have hRl : R.length ≤ 1048576 := by rw [← hR, List.length_take, List.length_drop]; omega
  have HC := Lib.hid (fun W => pkClone_any R W hRl)
  clear hR
  go_enter Try.func19, Try.ntmps19
  go_wp2_with fail
  go_quiet (fail)
  go_wp2_with (go_at_call 34; go_must (refine (HC.out _).mono ?_; rintro e w1 ⟨rfl, hb1⟩; have HB1 := Lib.hid hb1; clear hb1))
  go_ret
  exact ⟨rfl, Below.trans (b := W.drewN _) ⟨rfl, rfl, rfl, Nat.le_refl _, fun _ _ => rfl⟩ HB1.out⟩
end Go.Proofs.Ytedppnejkjcplaa
