/- WhPure WhBase WhFol WhVal -/
import Derived.Test.YtljlanhpjpjgaaaGreatDoorJ1
import Derived.Lib.Hide
import Derived.Test.YtljlanhpjpjgaaaGreatDoorJ4
import Derived.Test.YtljlanhpjpjgaaaGreatDoorRows
import Derived.WalkKit
import Derived.WalkSpells
import Derived.WalkLawsBesides
import Derived.Deep.QuietTactic
import Derived.BigQuiet
import Derived.Lib.QuietBelow
import Derived.IntWalk
namespace Go.Proofs.YtljlanhpjpjgaaaGreatDoor
set_option maxRecDepth 100000
set_option maxHeartbeats 8000000
section
namespace Wh
def At (l : List (Int × Int)) (i : Nat) : Int × Int := l.getD i (0, 0)
def num (n : Int) : Bool := decide (1 ≤ n) && decide (n ≤ 16777216)
def fol (a b : Int × Int) : Bool := decide (a.1 < b.1) && decide (b.1 % a.1 = 0) && decide (a.1 * a.2 < b.1 * b.2) && decide (b.1 / a.1 ≤ a.2)
def stp (l : List (Int × Int)) (i : Nat) : Bool := num (At l i).1 && num (At l i).2 && (decide (i = 0) || fol (At l (i - 1)) (At l i))
def alls (l : List (Int × Int)) : Nat → Bool
 | 0 => true
 | k + 1 => alls l k && stp l k
def sm (l : List (Int × Int)) : Nat → Int
 | 0 => 0
 | k + 1 => sm l k + 12 * (At l k).2
def ends (l : List (Int × Int)) (k : Nat) : Int := 16 + 12 * (l.length : Int) + sm l k
def lsp (l : List (Int × Int)) : Int := (At l (l.length - 1)).1 * (At l (l.length - 1)).2
def kind (ag : Int) : Bool := decide (1 ≤ ag) && decide (ag ≤ 5)
def av (l : List (Int × Int)) : Bool := decide (1 ≤ l.length) && decide (l.length ≤ 8) && alls l l.length && decide (ends l l.length ≤ 1048576) && decide (lsp l ≤ 4294967295)
def val (ag xf : Int) (l : List (Int × Int)) : Bool := kind ag && decide (0 ≤ xf) && decide (xf ≤ 1000000) && av l
theorem num_t {n : Int} (h1 : 1 ≤ n) (h2 : n ≤ 16777216) : num n = true := by unfold num; simp [h1, h2]
theorem num_bd {n : Int} (h : num n = true) : 1 ≤ n ∧ n ≤ 16777216 := by unfold num at h; simpa using h
theorem kind_f {n : Int} (h : n < 1 ∨ 5 < n) : kind n = false := by
 unfold kind
 simp
 omega
theorem kind_bd {n : Int} (h : kind n = true) : 1 ≤ n ∧ n ≤ 5 := by unfold kind at h; simpa using h
theorem alls_less {l : List (Int × Int)} {k n : Nat} (hkn : k ≤ n) (h : alls l n = true) : alls l k = true := by
 induction n with
 | zero => obtain rfl : k = 0 := by omega
           exact h
 | succ n ih =>
   by_cases e : k = n + 1
   ·subst e; exact h
   ·exact ih (by omega) (by unfold alls at h; simp at h; exact h.1)
theorem alls_stp {l : List (Int × Int)} {k n : Nat} (hkn : k < n) (h : alls l n = true) : stp l k = true := by
 have := alls_less (Nat.succ_le_of_lt hkn) h
 unfold alls at this
 simp at this
 exact this.2
theorem alls_f {l : List (Int × Int)} {k n : Nat} (hkn : k < n) (h : stp l k = false) : alls l n = false := by
 cases e : alls l n with
 | false => rfl
 | true => rw [alls_stp hkn e] at h; cases h
theorem alls_num {l : List (Int × Int)} {k n : Nat} (hkn : k < n) (h : alls l n = true) : (1 ≤ (At l k).1 ∧ (At l k).1 ≤ 16777216) ∧ (1 ≤ (At l k).2 ∧ (At l k).2 ≤ 16777216) := by
 have := alls_stp hkn h
 unfold stp at this
 simp only [Bool.and_eq_true] at this
 exact ⟨num_bd this.1.1, num_bd this.1.2⟩
theorem sm_bd {l : List (Int × Int)} {n : Nat} (h : ∀ i, i < n → 1 ≤ (At l i).2 ∧ (At l i).2 ≤ 16777216) : ∀ k, k ≤ n → 12 * (k : Int) ≤ sm l k ∧ sm l k ≤ 201326592 * (k : Int)
 | 0, _ => by simp [sm]
 | k + 1, hk => by
   have := sm_bd h k (by omega)
   have := h k (by omega)
   unfold sm
   omega
theorem sm_le {l : List (Int × Int)} {n : Nat} (h : ∀ i, i < n → 1 ≤ (At l i).2 ∧ (At l i).2 ≤ 16777216) {k : Nat} : ∀ m, k ≤ m → m ≤ n → sm l k + 12 * ((m : Int) - (k : Int)) ≤ sm l m
 | 0, hk, _ => by obtain rfl : k = 0 := by omega
                  simp
 | m + 1, hk, hm => by
   by_cases e : k = m + 1
   ·subst e; simp
   ·have := sm_le (k := k) h m (by omega) (by omega)
    have := h m (by omega)
    rw [sm]
    omega
theorem ends_bd {l : List (Int × Int)} (h8 : l.length ≤ 8) (h : ∀ i, i < l.length → 1 ≤ (At l i).2 ∧ (At l i).2 ≤ 16777216) (k : Nat) (hk : k ≤ l.length) : 16 ≤ ends l k ∧ ends l k ≤ 2000000000 := by
 have := sm_bd h k hk
 unfold ends
 omega
theorem ends_succ (l : List (Int × Int)) (k : Nat) : ends l (k + 1) = ends l k + 12 * (At l k).2 := by unfold ends; rw [sm]; omega
theorem ends_zero (l : List (Int × Int)) : ends l 0 = 16 + 12 * (l.length : Int) := by unfold ends; rw [sm]; omega
def run (l : List (Int × Int)) (k : Nat) : Int := 16 + 12 * (k : Int) + sm l k
theorem run_succ (l : List (Int × Int)) (k : Nat) : run l (k + 1) = run l k + 12 + 12 * (At l k).2 := by unfold run; rw [sm]; omega
theorem run_zero (l : List (Int × Int)) : run l 0 = 16 := by unfold run; rw [sm]; omega
theorem run_bd {l : List (Int × Int)} (h8 : l.length ≤ 8) (h : ∀ i, i < l.length → 1 ≤ (At l i).2 ∧ (At l i).2 ≤ 16777216) (k : Nat) (hk : k ≤ l.length) : 16 ≤ run l k ∧ run l k ≤ 2000000000 := by
 have := sm_bd h k hk
 unfold run
 omega
theorem run_le {l : List (Int × Int)} (h : ∀ i, i < l.length → 1 ≤ (At l i).2 ∧ (At l i).2 ≤ 16777216) (k : Nat) (hk : k ≤ l.length) : run l k ≤ ends l l.length := by
 have := sm_le h l.length hk (Nat.le_refl _)
 unfold run ends
 omega
theorem alls_cnt {l : List (Int × Int)} {n : Nat} (h : alls l n = true) : ∀ i, i < n → 1 ≤ (At l i).2 ∧ (At l i).2 ≤ 16777216 := fun _ hi => (alls_num hi h).2
theorem av_long {l : List (Int × Int)} (h : 8 < l.length) : av l = false := by
 have : decide (l.length ≤ 8) = false := decide_eq_false (by omega)
 unfold av
 simp [this]
theorem av_nil {l : List (Int × Int)} (h : l.length = 0) : av l = false := by
 have : decide (1 ≤ l.length) = false := decide_eq_false (by omega)
 unfold av
 simp [this]
theorem av_stp {l : List (Int × Int)} {k : Nat} (hk : k < l.length) (h : stp l k = false) : av l = false := by
 unfold av
 simp [alls_f hk h]
theorem av_big {l : List (Int × Int)} (h : 1048576 < ends l l.length) : av l = false := by
 have : decide (ends l l.length ≤ 1048576) = false := decide_eq_false (by omega)
 unfold av
 simp [this]
theorem av_end {l : List (Int × Int)} (h1 : 1 ≤ l.length) (h8 : l.length ≤ 8) (ha : alls l l.length = true) (he : ends l l.length ≤ 1048576) : av l = decide (lsp l ≤ 4294967295) := by
 unfold av
 simp [h1, h8, ha, he]
theorem av_t {l : List (Int × Int)} (h : av l = true) : 1 ≤ l.length ∧ l.length ≤ 8 ∧ alls l l.length = true ∧ ends l l.length ≤ 1048576 ∧ lsp l ≤ 4294967295 := by
 unfold av at h
 simp only [Bool.and_eq_true, decide_eq_true_eq] at h
 exact ⟨h.1.1.1.1, h.1.1.1.2, h.1.1.2, h.1.2, h.2⟩
theorem val_t {ag xf : Int} {l : List (Int × Int)} (h : val ag xf l = true) : (1 ≤ ag ∧ ag ≤ 5) ∧ 0 ≤ xf ∧ xf ≤ 1000000 ∧ av l = true := by
 unfold val at h
 simp only [Bool.and_eq_true, decide_eq_true_eq] at h
 exact ⟨kind_bd h.1.1.1, h.1.1.2, h.1.2, h.2⟩
theorem val_head {ag xf : Int} {l : List (Int × Int)} (h : ag < 1 ∨ 5 < ag ∨ xf < 0 ∨ 1000000 < xf ∨ av l = false) : val ag xf l = false := by
 unfold val
 rcases h with h | h | h | h | h
 ·simp [kind_f (.inl h)]
 ·simp [kind_f (.inr h)]
 ·have : decide (0 ≤ xf) = false := decide_eq_false (by omega)
  simp [this]
 ·have : decide (xf ≤ 1000000) = false := decide_eq_false (by omega)
  simp [this]
 ·simp [h]
theorem kind_t {ag : Int} (h1 : 1 ≤ ag) (h2 : ag ≤ 5) : kind ag = true := by unfold kind; simp [h1, h2]
theorem val_av {ag xf : Int} {l : List (Int × Int)} (h1 : 1 ≤ ag) (h2 : ag ≤ 5) (h3 : 0 ≤ xf) (h4 : xf ≤ 1000000) : val ag xf l = av l := by
 unfold val
 simp [kind_t h1 h2, h3, h4]
theorem lsp_bd {l : List (Int × Int)} (h1 : 1 ≤ l.length) (ha : alls l l.length = true) : 1 ≤ lsp l ∧ lsp l ≤ 281474976710656 := by
 have := alls_num (k := l.length - 1) (by omega) ha
 unfold lsp
 constructor
 ·calc (1 : Int) = 1 * 1 := rfl
   _ ≤ _ := Int.mul_le_mul this.1.1 this.2.1 (by omega) (by omega)
 ·calc _ ≤ (16777216 : Int) * 16777216 := Int.mul_le_mul this.1.2 this.2.2 (by omega) (by omega)
   _ = _ := rfl
theorem mul_bd {a b : Int} (h1 : 1 ≤ a) (h2 : a ≤ 16777216) (h3 : 1 ≤ b) (h4 : b ≤ 16777216) : 1 ≤ a * b ∧ a * b ≤ 281474976710656 := by
 constructor
 ·calc (1 : Int) = 1 * 1 := rfl
   _ ≤ _ := Int.mul_le_mul h1 h3 (by omega) (by omega)
 ·calc a * b ≤ (16777216 : Int) * 16777216 := Int.mul_le_mul h2 h4 (by omega) (by omega)
   _ = _ := rfl
theorem stp_f1 {l : List (Int × Int)} {k : Nat} (h : num (At l k).1 = false) : stp l k = false := by unfold stp; simp [h]
theorem stp_f2 {l : List (Int × Int)} {k : Nat} (h : num (At l k).2 = false) : stp l k = false := by unfold stp; simp [h]
theorem stp_f3 {l : List (Int × Int)} {k : Nat} (h0 : 0 < k) (h : fol (At l (k - 1)) (At l k) = false) : stp l k = false := by
 have : decide (k = 0) = false := decide_eq_false (by omega)
 unfold stp
 simp [h, this]
theorem stp_t {l : List (Int × Int)} {k : Nat} (h1 : num (At l k).1 = true) (h2 : num (At l k).2 = true) (h : k = 0 ∨ fol (At l (k - 1)) (At l k) = true) : stp l k = true := by
 unfold stp
 rw [h1, h2]
 rcases h with h | h
 ·simp [h]
 ·simp [h]
theorem alls_succ {l : List (Int × Int)} {k : Nat} (h : alls l k = true) (h2 : stp l k = true) : alls l (k + 1) = true := by unfold alls; simp [h, h2]
theorem fol_1 {a b : Int × Int} (h : b.1 ≤ a.1) : fol a b = false := by
 have : decide (a.1 < b.1) = false := decide_eq_false (by omega)
 unfold fol; simp [this]
theorem fol_2 {a b : Int × Int} (h : b.1 % a.1 ≠ 0) : fol a b = false := by
 have : decide (b.1 % a.1 = 0) = false := by simp [h]
 unfold fol; simp [this]
theorem fol_3 {a b : Int × Int} (h : b.1 * b.2 ≤ a.1 * a.2) : fol a b = false := by
 have : decide (a.1 * a.2 < b.1 * b.2) = false := decide_eq_false (by omega)
 unfold fol; simp [this]
theorem fol_4 {a b : Int × Int} (h1 : a.1 < b.1) (h2 : b.1 % a.1 = 0) (h3 : a.1 * a.2 < b.1 * b.2) : fol a b = decide (b.1 / a.1 ≤ a.2) := by unfold fol; simp [h1, h2, h3]
end Wh
end
section
open Go.RowKit
open Wh (At)
structure Ars (w : World) (b off : Nat) (l : List (Int × Int)) : Prop where
 lt : b < w.heap.size
 st : ∀ i, i < l.length → w.cell? ⟨b, off + i * 2, none⟩ = some (.int .i64 (At l i).1)
 ct : ∀ i, i < l.length → w.cell? ⟨b, off + i * 2 + 1, none⟩ = some (.int .i64 (At l i).2)
theorem Ars.below {w w' : World} {b off : Nat} {l : List (Int × Int)} (h : Ars w b off l) (hb : Below w.heap.size w w') : Ars w' b off l :=
 ⟨Nat.lt_of_lt_of_le h.lt hb.size, fun i hi => (hb.cell (p := ⟨b, off + i * 2, none⟩) h.lt).trans (h.st i hi), fun i hi => (hb.cell (p := ⟨b, off + i * 2 + 1, none⟩) h.lt).trans (h.ct i hi)⟩
theorem Ars.alloc {w : World} {b off : Nat} {l : List (Int × Int)} (h : Ars w b off l) (o : Obj) : Ars (w.alloc o) b off l := h.below ((Below.refl _ _).alloc (Nat.le_refl _) _)
theorem isNum_any (n : Int) (w : World) :
 Calls Tryz.prog 115 #[.int .i64 n] w fun e w' => e = .returned (.bool (Wh.num n)) ∧ w = w' := by
 by_cases h1 : 1 ≤ n
 ·by_cases h2 : n ≤ 16777216
  ·have H := Lib.hid (Wh.num_t h1 h2)
   go_enter Tryz.func115, Tryz.ntmps115
   go_wp2
   go_ret
   exact ⟨by rw [H.out]; rfl, rfl⟩
  ·have H := Lib.hid (show Wh.num n = false by unfold Wh.num; simp [h2])
   go_enter Tryz.func115, Tryz.ntmps115
   go_wp2
   go_ret
   exact ⟨by rw [H.out]; rfl, rfl⟩
 ·have H := Lib.hid (show Wh.num n = false by unfold Wh.num; simp [h1])
  go_enter Tryz.func115, Tryz.ntmps115
  go_wp2
  go_ret
  exact ⟨by rw [H.out]; rfl, rfl⟩
theorem isKind_any (n : Int) (w : World) :
 Calls Tryz.prog 94 #[.int .i64 n] w fun e w' => e = .returned (.bool (Wh.kind n)) ∧ w = w' := by
 by_cases h1 : n < 1 ∨ 5 < n
 ·have H := Lib.hid (Wh.kind_f h1)
  have d1 : (n == 1) = false := by simp; omega
  have d2 : (n == 2) = false := by simp; omega
  have d3 : (n == 3) = false := by simp; omega
  have d4 : (n == 4) = false := by simp; omega
  have d5 : (n == 5) = false := by simp; omega
  clear h1
  go_enter Tryz.func94, Tryz.ntmps94
  go_wp2
  go_ret
  exact ⟨by rw [H.out]; rfl, rfl⟩
 ·have H := Lib.hid (Wh.kind_t (ag := n) (by omega) (by omega))
  have hc : n = 1 ∨ n = 2 ∨ n = 3 ∨ n = 4 ∨ n = 5 := by omega
  clear h1
  rcases hc with rfl | rfl | rfl | rfl | rfl
  all_goals
   go_enter Tryz.func94, Tryz.ntmps94
   go_wp2
   go_ret
   exact ⟨by rw [H.out]; rfl, rfl⟩
theorem headBytes_any (n : Int) (h1 : 0 ≤ n) (h2 : n ≤ 1000000000000) (w : World) :
 Calls Tryz.prog 58 #[.int .i64 n] w fun e w' => e = .returned (.int .i64 (16 + n * 12)) ∧ w = w' := by
 go_enter Tryz.func58, Tryz.ntmps58
 go_wp2
 go_ret
 exact ⟨rfl, rfl⟩
theorem span_any (s c : Int) (h : IntKind.i64.wrap (s * c) = s * c) (w : World) :
 Calls Tryz.prog 96 #[.agg #[.int .i64 s, .int .i64 c]] w fun e w' => e = .returned (.int .i64 (s * c)) ∧ Below w.heap.size w w' := by
 generalize hq : s * c = q at h
 have HQ := Lib.hid hq
 clear hq
 have hw : IntKind.i64.wrap (s * c) = q := by rw [HQ.out]; exact h
 clear h
 go_enter Tryz.func96, Tryz.ntmps96
 go_wp2
 go_ret
 exact ⟨rfl, Bq⟩
theorem lastSpan_any (l : List (Int × Int)) (b off cap : Nat) (w : World) (hA : Ars w b off l) (h1 : 1 ≤ l.length) (h8 : l.length ≤ 8) (hw : IntKind.i64.wrap (Wh.lsp l) = Wh.lsp l) :
 Calls Tryz.prog 60 #[.slice (some ⟨b, off, none⟩) l.length cap] w fun e w' => e = .returned (.int .i64 (Wh.lsp l)) ∧ Below w.heap.size w w' := by
 have HS := Lib.hid (span_any (At l (l.length - 1)).1 (At l (l.length - 1)).2 hw)
 have HE : Hid (Wh.lsp l = (At l (l.length - 1)).1 * (At l (l.length - 1)).2) := Lib.hid rfl
 obtain ⟨k, hk⟩ : ∃ k, l.length = k + 1 := ⟨l.length - 1, by omega⟩
 have c0 := hA.st k (by omega)
 have c1 := hA.ct k (by omega)
 have hlt := hA.lt
 rw [hk] at HS HE h8 ⊢
 simp only [Nat.add_sub_cancel] at HS HE
 clear hw hA h1 hk
 generalize (At l k) = a at *
 obtain ⟨s, c⟩ := a
 have hkn : (((k + 1 : Nat) : Int) - 1) = (k : Int) := by omega
 go_enter Tryz.func60, Tryz.ntmps60
 go_wp2_with (go_at_call 96; go_must (refine (HS.out _).mono ?_; rintro e w' ⟨rfl, hb⟩; obtain ⟨hc, hf⟩ := bcell hb; (try have hz0 : w.heap.size < w'.heap.size := Bz hb); (try have hz1 : w.heap.size + 1 < w'.heap.size := Bz hb); (try have hz2 : w.heap.size + 1 + 1 < w'.heap.size := Bz hb); have hz := hb.size; (try simp at hz)))
 go_ret
 exact ⟨by rw [HE.out]; rfl, Bq⟩
end
section
open Go.RowKit Go.Sort
open Wh (At)
theorem follows_any (s c t d : Int) (h1 : 1 ≤ s) (h2 : s ≤ 16777216) (h3 : 1 ≤ c) (h4 : c ≤ 16777216) (h5 : 1 ≤ t) (h6 : t ≤ 16777216) (h7 : 1 ≤ d) (h8 : d ≤ 16777216) (w : World) :
 Calls Tryz.prog 116 #[.agg #[.int .i64 s, .int .i64 c], .agg #[.int .i64 t, .int .i64 d]] w fun e w' => e = .returned (.bool (Wh.fol (s, c) (t, d))) ∧ Below w.heap.size w w' := by
 obtain ⟨kc, kf⟩ := kgrown ((w.alloc (.cells #[.int .i64 s, .int .i64 c] 56)).alloc (.cells #[.int .i64 t, .int .i64 d] 56))
 have bs := Wh.mul_bd h1 h2 h3 h4
 have bt := Wh.mul_bd h5 h6 h7 h8
 have HS1 := Lib.hid (span_any s c (IntWalk.i64_in _ (by omega)))
 have HS2 := Lib.hid (span_any t d (IntWalk.i64_in _ (by omega)))
 have hm : t.tmod s = t % s := Int.tmod_eq_emod_of_nonneg (by omega)
 have hd : t.tdiv s = t / s := Int.tdiv_eq_ediv_of_nonneg (by omega)
 have hz : (s == 0) = false := by simp; omega
 have hdb : 0 ≤ t / s ∧ t / s ≤ t := ⟨Int.ediv_nonneg (by omega) (by omega), Int.ediv_le_self _ (by omega)⟩
 have hdw : IntKind.i64.wrap (t / s) = t / s := IntWalk.i64_in _ (by omega)
 by_cases g1 : t ≤ s
 ·have H := Lib.hid (Wh.fol_1 (a := (s, c)) (b := (t, d)) g1)
  have e1 : decide (s < t) = false := decide_eq_false (by omega)
  go_enter Tryz.func116, Tryz.ntmps116
  go_wp2_with fail
  refine wp_region_quiet_below (by kernel_rfl) (by kernel_rfl) ?_
  repeat (go_big_quiet_step (first
   | (go_at_call 96; exact Calls.regrown_of (HS2.out _))
   | (go_at_call 96; exact Calls.regrown_of (HS1.out _))))
  refine wpQuiet_nil ?_
  intro _ hw'
  obtain ⟨⟨dq, osq⟩, hw''⟩ := hw'
  subst hw''
  go_wp2
  go_ret
  exact ⟨by rw [H.out]; rfl, Bq⟩
 ·have e1 : decide (s < t) = true := decide_eq_true (by omega)
  by_cases g2 : t % s = 0
  ·have e2 : (t % s == 0) = true := by simp [g2]
   by_cases g3 : t * d ≤ s * c
   ·have H := Lib.hid (Wh.fol_3 (a := (s, c)) (b := (t, d)) g3)
    have e3 : decide (s * c < t * d) = false := decide_eq_false (by omega)
    clear g2
    go_enter Tryz.func116, Tryz.ntmps116
    go_wp2_with fail
    refine wp_region_quiet_below (by kernel_rfl) (by kernel_rfl) ?_
    repeat (go_big_quiet_step (first
     | (go_at_call 96; exact Calls.regrown_of (HS2.out _))
     | (go_at_call 96; exact Calls.regrown_of (HS1.out _))))
    refine wpQuiet_nil ?_
    intro _ hw'
    obtain ⟨⟨dq, osq⟩, hw''⟩ := hw'
    subst hw''
    go_wp2
    go_ret
    exact ⟨by rw [H.out]; rfl, Bq⟩
   ·have H := Lib.hid (Wh.fol_4 (a := (s, c)) (b := (t, d)) (by show s < t; omega) g2 (by show s * c < t * d; omega))
    have e3 : decide (s * c < t * d) = true := decide_eq_true (by omega)
    clear g2
    go_enter Tryz.func116, Tryz.ntmps116
    go_wp2_with fail
    refine wp_region_quiet_below (by kernel_rfl) (by kernel_rfl) ?_
    repeat (go_big_quiet_step (first
     | (go_at_call 96; exact Calls.regrown_of (HS2.out _))
     | (go_at_call 96; exact Calls.regrown_of (HS1.out _))))
    refine wpQuiet_nil ?_
    intro _ hw'
    obtain ⟨⟨dq, osq⟩, hw''⟩ := hw'
    subst hw''
    go_wp2
    go_ret
    exact ⟨by rw [H.out]; rfl, Bq⟩
  ·have H := Lib.hid (Wh.fol_2 (a := (s, c)) (b := (t, d)) g2)
   have e2 : (t % s == 0) = false := by simp [g2]
   clear g2
   go_enter Tryz.func116, Tryz.ntmps116
   go_wp2_with fail
   refine wp_region_quiet_below (by kernel_rfl) (by kernel_rfl) ?_
   repeat (go_big_quiet_step (first
    | (go_at_call 96; exact Calls.regrown_of (HS2.out _))
    | (go_at_call 96; exact Calls.regrown_of (HS1.out _))))
   refine wpQuiet_nil ?_
   intro _ hw'
   obtain ⟨⟨dq, osq⟩, hw''⟩ := hw'
   subst hw''
   go_wp2
   go_ret
   exact ⟨by rw [H.out]; rfl, Bq⟩
end
section
open Go.RowKit Go.Sort
open Wh (At)
theorem end_any (l : List (Int × Int)) (b off cap k : Nat) (w : World) (hA : Ars w b off l) (hcap : l.length ≤ cap) (hk : k ≤ l.length) (h8 : l.length ≤ 8) (hcn : ∀ i, i < l.length → 1 ≤ (At l i).2 ∧ (At l i).2 ≤ 16777216) :
 Calls Tryz.prog 67 #[.slice (some ⟨b, off, none⟩) l.length cap, .int .i64 k] w fun e w' => e = .returned (.int .i64 (Wh.ends l k)) ∧ Below w.heap.size w w' := by
 have HB : Hid (∀ i, i ≤ l.length → 16 ≤ Wh.ends l i ∧ Wh.ends l i ≤ 2000000000) := Lib.hid fun i hi => Wh.ends_bd h8 hcn i hi
 have HN := Lib.hid hcn
 have HL := Lib.hid (headBytes_any (l.length : Int) (by omega) (by omega))
 have HZ := Lib.hid (Wh.ends_zero l)
 have HS := Lib.hid (Wh.ends_succ l)
 have HA := Lib.hid hA
 clear hcn hA
 go_enter Tryz.func67, Tryz.ntmps67
 go_wp2_with (go_at_call 58; go_must (refine (HL.out _).mono ?_; rintro e w' ⟨rfl, rfl⟩))
 go_loopw [5, 15] (fun q i wr => ∃ j : Nat, j ≤ k ∧ i = .int .i64 j ∧ q = .int .i64 (Wh.ends l j) ∧ Below w.heap.size w wr) (fun _ i _ => k - (intOf i).toNat)
 case atStart => exact ⟨0, Nat.zero_le _, rfl, by rw [HZ.out, Int.mul_comm], Below.refl _ _⟩
 case round =>
  obtain ⟨j, hj, rfl, rfl, hR⟩ := hrel
  by_cases hlt : j < k
  ·have hAr := HA.out.below hR
   have hbl := hAr.lt
   have c0 := hAr.st j (by omega)
   have c1 := hAr.ct j (by omega)
   have b1 := HN.out j (by omega)
   have b2 := HB.out j (by omega)
   have HE := Lib.hid (HS.out j)
   have HR := Lib.hid hR
   clear hR hAr HB HS HZ HN HL
   generalize Wh.ends l j = q at *
   generalize At l j = a at *
   obtain ⟨s, c⟩ := a
   go_wp2
   go_roundw
   case rel =>
    refine ⟨j + 1, by omega, by go_num, ?_, HR.out.alloc HR.out.size _⟩
    exact congrArg (Value.int .i64) (by have := HE.out; dsimp only at this; omega)
   case measure => simp [intOf]; omega
  ·obtain rfl : j = k := by omega
   go_wp2
   go_ret
   exact ⟨rfl, hR⟩
theorem areValid_nil (A : Option Addr) (cap : Nat) (w : World) :
 Calls Tryz.prog 95 #[.slice A 0 cap] w fun e w' => e = .returned (.bool false) ∧ Below w.heap.size w w' := by
 go_enter Tryz.func95, Tryz.ntmps95
 go_wp2
 go_ret
 exact ⟨rfl, Below.refl _ _⟩
theorem areValid_long (A : Option Addr) (n cap : Nat) (hn : 8 < n) (w : World) :
 Calls Tryz.prog 95 #[.slice A n cap] w fun e w' => e = .returned (.bool false) ∧ Below w.heap.size w w' := by
 go_enter Tryz.func95, Tryz.ntmps95
 go_wp2
 go_ret
 exact ⟨rfl, Below.refl _ _⟩
theorem areValid_some (l : List (Int × Int)) (b off cap : Nat) (w : World) (hA : Ars w b off l) (hcap : l.length ≤ cap) (h1 : 1 ≤ l.length) (h8 : l.length ≤ 8) :
 Calls Tryz.prog 95 #[.slice (some ⟨b, off, none⟩) l.length cap] w fun e w' => e = .returned (.bool (Wh.av l)) ∧ Below w.heap.size w w' := by
 have HF : Hid (∀ k, k < l.length → Wh.stp l k = false → Wh.av l = false) := Lib.hid fun k hk h => Wh.av_stp hk h
 have HA := Lib.hid hA
 have H1 : Hid (∀ k, Wh.num (At l k).1 = false → Wh.stp l k = false) := Lib.hid fun k => Wh.stp_f1
 have H2 : Hid (∀ k, Wh.num (At l k).2 = false → Wh.stp l k = false) := Lib.hid fun k => Wh.stp_f2
 have H3 : Hid (∀ k, 0 < k → Wh.fol (At l (k - 1)) (At l k) = false → Wh.stp l k = false) := Lib.hid fun k => Wh.stp_f3
 have HT : Hid (∀ k, Wh.alls l k = true → Wh.num (At l k).1 = true → Wh.num (At l k).2 = true → (k = 0 ∨ Wh.fol (At l (k - 1)) (At l k) = true) → Wh.alls l (k + 1) = true) := Lib.hid fun k h h1 h2 h3 => Wh.alls_succ h (Wh.stp_t h1 h2 h3)
 have HB : Hid (∀ k m, k < m → Wh.alls l m = true → (1 ≤ (At l k).1 ∧ (At l k).1 ≤ 16777216) ∧ (1 ≤ (At l k).2 ∧ (At l k).2 ≤ 16777216)) := Lib.hid fun k m => Wh.alls_num
 clear hA
 go_enter Tryz.func95, Tryz.ntmps95
 go_wp2
 go_loopw [15] (fun i wr => ∃ j : Nat, j ≤ l.length ∧ i = .int .i64 j ∧ Hid (Wh.alls l j = true) ∧ Below w.heap.size w wr) (fun i _ => l.length - (intOf i).toNat)
 case atStart => exact ⟨0, Nat.zero_le _, rfl, Lib.hid rfl, Below.refl _ _⟩
 case round =>
  obtain ⟨j, hj, rfl, hal, hR⟩ := hrel
  by_cases hlt : j < l.length
  ·have hAr := HA.out.below hR
   have hbl := hAr.lt
   have c0 := hAr.st j hlt
   have c1 := hAr.ct j hlt
   have HR := Lib.hid hR
   have HJ := Lib.hid (HF.out j hlt)
   have HJ1 := Lib.hid (H1.out j)
   have HJ2 := Lib.hid (H2.out j)
   have HJ3 := Lib.hid (H3.out j)
   have HJT := Lib.hid (HT.out j hal.out)
   cases n1 : Wh.num (At l j).1
   ·have HQ := Lib.hid (HJ.out (HJ1.out n1))
    clear hR hAr HF HA H1 H2 H3 HT HB HJ HJ1 HJ2 HJ3 HJT
    generalize At l j = a at *
    obtain ⟨s, c⟩ := a
    go_wp2_with (go_at_call 115; go_must (refine (isNum_any _ _).mono ?_; rintro e w' ⟨rfl, rfl⟩))
    go_ret
    exact ⟨by rw [HQ.out]; rfl, HR.out.alloc HR.out.size _⟩
   ·cases n2 : Wh.num (At l j).2
    ·have HQ := Lib.hid (HJ.out (HJ2.out n2))
     clear hR hAr HF HA H1 H2 H3 HT HB HJ HJ1 HJ2 HJ3 HJT
     generalize At l j = a at *
     obtain ⟨s, c⟩ := a
     go_wp2_with (go_at_call 115; go_must (refine (isNum_any _ _).mono ?_; rintro e w' ⟨rfl, rfl⟩))
     go_ret
     exact ⟨by rw [HQ.out]; rfl, HR.out.alloc HR.out.size _⟩
    ·have HJT := Lib.hid (HJT.out n1 n2)
     cases j with
     | zero =>
       have HQ := Lib.hid (HJT.out (.inl rfl))
       simp only [Nat.zero_mul, Nat.add_zero] at c0 c1
       clear hR hAr HF HA H1 H2 H3 HT HB HJ HJ1 HJ2 HJ3 HJT
       generalize At l 0 = a at *
       obtain ⟨s, c⟩ := a
       go_wp2_with (go_at_call 115; go_must (refine (isNum_any _ _).mono ?_; rintro e w' ⟨rfl, rfl⟩))
       refine wp_region_quiet_below (by kernel_rfl) (by kernel_rfl) ?_
       repeat (go_big_quiet_step (fail))
       refine wpQuiet_nil ?_
       intro _ hw'
       obtain ⟨⟨dq, osq⟩, hw''⟩ := hw'
       subst hw''
       go_wp2
       go_roundw
       case rel => exact ⟨1, by omega, by go_num, HQ, (HR.out.alloc HR.out.size _).trans ((below_regrown _ _ _).mono (by have := HR.out.size; simp; omega))⟩
       case measure => simp [intOf]; omega
     | succ m =>
       have d0 := hAr.st m (by omega)
       have d1 := hAr.ct m (by omega)
       obtain ⟨⟨p1, p2⟩, p3, p4⟩ := HB.out m (m + 1) (by omega) hal.out
       obtain ⟨q1, q2⟩ := Wh.num_bd n1
       obtain ⟨q3, q4⟩ := Wh.num_bd n2
       have HK3 : Hid (Wh.fol (At l m) (At l (m + 1)) = false → Wh.av l = false) := Lib.hid fun h => HJ.out (HJ3.out (by omega) h)
       have HKT : Hid (Wh.fol (At l m) (At l (m + 1)) = true → Wh.alls l (m + 1 + 1) = true) := Lib.hid fun h => HJT.out (.inr h)
       have hg : decide ((0 : Int) < (m : Int) + 1) = true := decide_eq_true (by omega)
       have HFO := Lib.hid (follows_any (At l m).1 (At l m).2 (At l (m + 1)).1 (At l (m + 1)).2 p1 p2 p3 p4 q1 q2 q3 q4)
       have hml : m + 1 ≤ l.length := by omega
       clear hR hAr HF HA H1 H2 H3 HT HB HJ HJ1 HJ2 hal HJ3 HJT
       generalize At l (m + 1) = a at *
       generalize At l m = a0 at *
       obtain ⟨s, c⟩ := a
       obtain ⟨s0, cc⟩ := a0
       cases hfo : Wh.fol (s0, cc) (s, c)
       ·have HQ := Lib.hid (HK3.out hfo)
        clear HK3 HKT
        go_wp2_with (go_at_call 115; go_must (refine (isNum_any _ _).mono ?_; rintro e w' ⟨rfl, rfl⟩))
        obtain ⟨kc, kf⟩ := kgrown (wr.alloc (.cells #[.int .i64 s, .int .i64 c] 56))
        refine wp_region_quiet_below (by kernel_rfl) (by kernel_rfl) ?_
        repeat (go_big_quiet_step ((go_at_call 116; exact Calls.regrown_of (HFO.out _))))
        refine wpQuiet_nil ?_
        intro _ hw'
        obtain ⟨⟨dq, osq⟩, hw''⟩ := hw'
        subst hw''
        go_wp2
        go_ret
        exact ⟨by rw [HQ.out]; rfl, (HR.out.alloc HR.out.size _).trans ((below_regrown _ _ _).mono (by have := HR.out.size; simp; omega))⟩
       ·have HQ := Lib.hid (HKT.out hfo)
        clear HK3 HKT
        go_wp2_with (go_at_call 115; go_must (refine (isNum_any _ _).mono ?_; rintro e w' ⟨rfl, rfl⟩))
        obtain ⟨kc, kf⟩ := kgrown (wr.alloc (.cells #[.int .i64 s, .int .i64 c] 56))
        refine wp_region_quiet_below (by kernel_rfl) (by kernel_rfl) ?_
        repeat (go_big_quiet_step ((go_at_call 116; exact Calls.regrown_of (HFO.out _))))
        refine wpQuiet_nil ?_
        intro _ hw'
        obtain ⟨⟨dq, osq⟩, hw''⟩ := hw'
        subst hw''
        go_wp2
        go_roundw
        case rel => exact ⟨m + 1 + 1, by omega, by go_num, HQ, (HR.out.alloc HR.out.size _).trans ((below_regrown _ _ _).mono (by have := HR.out.size; simp; omega))⟩
        case measure => simp [intOf]; omega
  ·obtain rfl : j = l.length := by omega
   have hAr := HA.out.below hR
   have HE := Lib.hid (fun W hb => end_any l b off cap l.length W (Ars.below hAr (w' := W) hb) hcap (Nat.le_refl _) h8 (Wh.alls_cnt hal.out))
   have bE := (Wh.ends_bd h8 (Wh.alls_cnt hal.out) l.length (Nat.le_refl _))
   have bL := Wh.lsp_bd h1 hal.out
   have HL := Lib.hid (fun W hb => lastSpan_any l b off cap W (Ars.below hAr (w' := W) hb) h1 h8 (IntWalk.i64_in _ (by omega)))
   have HX : Hid (1048576 < Wh.ends l l.length → Wh.av l = false) := Lib.hid Wh.av_big
   have HY : Hid (Wh.ends l l.length ≤ 1048576 → Wh.av l = decide (Wh.lsp l ≤ 4294967295)) := Lib.hid (Wh.av_end h1 h8 hal.out)
   clear HF HA H1 H2 H3 HT HB hal hAr
   generalize Wh.ends l l.length = en at *
   generalize Wh.lsp l = ls at *
   by_cases g1 : en ≤ 1048576
   ·have HQ := Lib.hid (HY.out g1)
    go_wp2_with first | (go_at_call 67; (((with_reducible refine (HE.out _ (Below.refl _ _)).mono ?_)); rintro e w1 ⟨rfl, hb1⟩; obtain ⟨hc1, hf1⟩ := bcell hb1; (try have hq1wr : wr.heap.size < w1.heap.size := Bz hb1); have hs1 := hb1.size; (try simp at hs1))) | (go_at_call 60; (((with_reducible refine (HL.out _ hb1).mono ?_)); rintro e w2 ⟨rfl, hb2⟩; obtain ⟨hc2, hf2⟩ := bcell hb2; (try have hq2wr : wr.heap.size < w2.heap.size := Bz hb2); have hs2 := hb2.size; (try simp at hs2)))
    go_ret
    exact ⟨by rw [HQ.out]; rfl, hR.trans ((hb1.trans (hb2.mono hb1.size)).mono hR.size)⟩
   ·have HQ := Lib.hid (HX.out (by omega))
    go_wp2_with first | (go_at_call 67; go_must (refine (HE.out _ (Below.refl _ _)).mono ?_; rintro e w' ⟨rfl, hb⟩; obtain ⟨hc, hf⟩ := bcell hb; (try have hz0 : w.heap.size < w'.heap.size := Bz hb); (try have hz1 : w.heap.size + 1 < w'.heap.size := Bz hb); (try have hz2 : w.heap.size + 1 + 1 < w'.heap.size := Bz hb); have hz := hb.size; (try simp at hz))) | (go_at_call 60; go_must (refine (HL.out _ hb).mono ?_; rintro e w' ⟨rfl, hb⟩; obtain ⟨hc, hf⟩ := bcell hb; (try have hz0 : w.heap.size < w'.heap.size := Bz hb); (try have hz1 : w.heap.size + 1 < w'.heap.size := Bz hb); (try have hz2 : w.heap.size + 1 + 1 < w'.heap.size := Bz hb); have hz := hb.size; (try simp at hz)))
    go_ret
    exact ⟨by rw [HQ.out]; rfl, hR.trans (hb.mono hR.size)⟩
def Row (w : World) (A : Option Addr) (l : List (Int × Int)) (cap : Nat) : Prop := l.length ≤ cap ∧ (0 < l.length → ∃ b off, A = some ⟨b, off, none⟩ ∧ Ars w b off l)
theorem Row.below {w w' : World} {A : Option Addr} {l : List (Int × Int)} {cap : Nat} (h : Row w A l cap) (hb : Below w.heap.size w w') : Row w' A l cap :=
 ⟨h.1, fun h0 => by obtain ⟨b, off, e, hA⟩ := h.2 h0; exact ⟨b, off, e, hA.below hb⟩⟩
theorem areValid_any (l : List (Int × Int)) (A : Option Addr) (cap : Nat) (w : World) (h : Row w A l cap) :
 Calls Tryz.prog 95 #[.slice A l.length cap] w fun e w' => e = .returned (.bool (Wh.av l)) ∧ Below w.heap.size w w' := by
 by_cases h0 : l.length = 0
 ·rw [Wh.av_nil h0, h0]; exact areValid_nil A cap w
 ·by_cases h8 : 8 < l.length
  ·rw [Wh.av_long h8]; exact areValid_long A _ cap h8 w
  ·obtain ⟨b, off, rfl, hA⟩ := h.2 (by omega)
   exact areValid_some l b off cap w hA h.1 (by omega) (by omega)
end
end Go.Proofs.YtljlanhpjpjgaaaGreatDoor
