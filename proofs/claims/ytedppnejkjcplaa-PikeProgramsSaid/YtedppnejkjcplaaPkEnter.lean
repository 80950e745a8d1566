/-
  CONTRACTS: chapter 12: the search's small methods: enter.
-/
import Derived.Test.YtedppnejkjcplaaPkMem
namespace Go.Proofs.Ytedppnejkjcplaa
open Go.RowKit
open Me
open Pk

namespace Pk
theorem fetch_cases (L : List Rx.In) (h : Int) : (fetch L h = none ∧ (h < 0 ∨ (L.length : Int) ≤ h)) ∨ ∃ x, fetch L h = some x ∧ 0 ≤ h ∧ h < (L.length : Int) := by
  unfold fetch
  by_cases h0 : 0 ≤ h
  · rw [if_pos h0]
    by_cases h1 : h.toNat < L.length
    · exact .inr ⟨_, List.getElem?_eq_getElem h1, h0, by omega⟩
    · exact .inl ⟨List.getElem?_eq_none (by omega), .inr (by omega)⟩
  · rw [if_neg h0]
    exact .inl ⟨rfl, .inl (by omega)⟩
end Pk

set_option maxRecDepth 100000 in
set_option maxHeartbeats 2000000 in
theorem enter_no {W : World} {sb : Nat} {c : Pk.Cs} (hS : Pk.Se W sb c) (h : Int) (k : Nat) (hk : k ≤ c.t.length) (hno : fetch c.L h = none ∨ exe c.dn k h.toNat = true) :
    Calls Try.prog 67 #[.pointer (some ⟨sb, 0, none⟩), .int .i64 h, .int .i64 (k : Int)] W fun e W' => e = .returned (.bool false) ∧ W' = W := by
  have c0 : W.cell? ⟨sb, 0, none⟩ = some (.slice c.pa c.L.length c.pc) := (hS.cell 0).trans rfl
  have c2 : W.cell? ⟨sb, 2, none⟩ = some c.dv := (hS.cell 2).trans rfl
  have hbt := hS.bt
  have hkw : IntKind.i64.wrap ((k : Int) + 1) = (k : Int) + 1 := by rw [IntKind.wrap_i64]; omega
  rcases fetch_cases c.L h with ⟨e0, hr⟩ | ⟨x, e0, h0, h1⟩
  · by_cases hneg : h < 0
    · go_enter Try.func67, Try.ntmps67
      go_wp2_with fail
      go_ret
      exact ⟨rfl, rfl⟩
    · have hge : (c.L.length : Int) ≤ h := by omega
      go_enter Try.func67, Try.ntmps67
      go_wp2_with fail
      go_ret
      exact ⟨rfl, rfl⟩
  · have hneg : ¬ h < 0 := by omega
    have hge : ¬ (c.L.length : Int) ≤ h := by omega
    have hd : h.toNat < c.dn.length := by rw [hS.dlen]; omega
    obtain ⟨g, cap, hdv, _, hgl⟩ := own_some hS.odn (by omega)
    rw [hdv] at c2
    have hdI : h < (c.dn.length : Int) := by omega
    have hex : exe c.dn k h.toNat = true := by
      rcases hno with hno | hno
      · rw [e0] at hno; cases hno
      · exact hno
    have hval : c.dn[h.toNat] = (k : Int) + 1 := by
      unfold exe at hex
      simp [hd] at hex
      exact hex
    have hcell : W.cell? ⟨g, h.toNat, none⟩ = some (.int .i64 ((k : Int) + 1)) := by
      have ho := hS.odn
      rw [hdv] at ho
      rw [World.ownsRow.cellAt ho _ (by omega), iv_get _ _ hd, hval]
    clear hval hex hno e0
    go_enter Try.func67, Try.ntmps67
    go_wp2_with fail
    go_ret
    exact ⟨rfl, rfl⟩

set_option maxRecDepth 100000 in
set_option maxHeartbeats 2000000 in
theorem enter_yes {W : World} {sb : Nat} {c : Pk.Cs} (hS : Pk.Se W sb c) (h : Int) (k : Nat) (hk : k ≤ c.t.length) {x : Rx.In} (hx : fetch c.L h = some x) (hno : exe c.dn k h.toNat = false) :
    Calls Try.prog 67 #[.pointer (some ⟨sb, 0, none⟩), .int .i64 h, .int .i64 (k : Int)] W fun e W' => e = .returned (.bool true) ∧ Pk.Se W' sb { c with dn := c.dn.set h.toNat ((k : Int) + 1) } ∧ Below c.b0 W W' := by
  have c0 : W.cell? ⟨sb, 0, none⟩ = some (.slice c.pa c.L.length c.pc) := (hS.cell 0).trans rfl
  have c2 : W.cell? ⟨sb, 2, none⟩ = some c.dv := (hS.cell 2).trans rfl
  have hbt := hS.bt
  have hkw : IntKind.i64.wrap ((k : Int) + 1) = (k : Int) + 1 := by rw [IntKind.wrap_i64]; omega
  have hf := fetch_some hx
  have hneg : ¬ h < 0 := by omega
  have hge : ¬ (c.L.length : Int) ≤ h := by omega
  have hd : h.toNat < c.dn.length := by rw [hS.dlen]; omega
  have hdI : h < (c.dn.length : Int) := by omega
  obtain ⟨g, cap, hdv, hgs, hgl⟩ := own_some hS.odn (by omega)
  have HP := Lib.hid (hS.mark hdv h.toNat ((k : Int) + 1))
  have HB : Hid (Below c.b0 W (W.setCell ⟨g, h.toNat, none⟩ (.int .i64 ((k : Int) + 1)))) := Lib.hid ((Below.refl c.b0 W).setCell (by show c.b0 ≤ g; omega) _)
  rw [hdv] at c2
  obtain ⟨n, hn⟩ : ∃ n, c.dn[h.toNat] = n := ⟨_, rfl⟩
  have hne : (n == (k : Int) + 1) = false := by
    unfold exe at hno
    simp [hd, hn] at hno
    simpa using hno
  have hne2 : ¬ n = (k : Int) + 1 := by simpa using hne
  have ho := hS.odn
  rw [hdv] at ho
  have hcell : W.cell? ⟨g, h.toNat, none⟩ = some (.int .i64 n) := by
    rw [World.ownsRow.cellAt ho _ (by omega), iv_get _ _ hd, hn]
  have hfr : W.frozen? ⟨g, h.toNat, none⟩ = false := World.ownsRow.frozenAt ho _
  clear ho hn hno hdv
  go_enter Try.func67, Try.ntmps67
  go_wp2_with fail
  go_ret
  exact ⟨rfl, HP.out, HB.out⟩
end Go.Proofs.Ytedppnejkjcplaa
