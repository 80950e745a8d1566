/-
  CONTRACTS: chapter 11: letters and digits; the six byte classes.
-/
import Derived.Test.YtajijcnfhijanaaRxArr
namespace Go.Proofs.Ytajijcnfhijanaa
open Go.RowKit
open Me

namespace Rx
theorem word7 (c : UInt8) : (c.toNat < 48 ∧ wordB c = false) ∨ ((48 ≤ c.toNat ∧ c.toNat ≤ 57) ∧ wordB c = true) ∨ ((57 < c.toNat ∧ c.toNat < 65) ∧ wordB c = false) ∨ ((65 ≤ c.toNat ∧ c.toNat ≤ 90) ∧ wordB c = true) ∨ ((90 < c.toNat ∧ c.toNat < 97) ∧ wordB c = false) ∨ ((97 ≤ c.toNat ∧ c.toNat ≤ 122) ∧ wordB c = true) ∨ (122 < c.toNat ∧ wordB c = false) := by
  unfold wordB
  generalize c.toNat = n
  by_cases h : n < 48
  · exact .inl ⟨h, by simp; omega⟩
  by_cases h2 : n ≤ 57
  · exact .inr (.inl ⟨⟨by omega, h2⟩, by simp; omega⟩)
  by_cases h3 : n < 65
  · exact .inr (.inr (.inl ⟨⟨by omega, h3⟩, by simp; omega⟩))
  by_cases h4 : n ≤ 90
  · exact .inr (.inr (.inr (.inl ⟨⟨by omega, h4⟩, by simp; omega⟩)))
  by_cases h5 : n < 97
  · exact .inr (.inr (.inr (.inr (.inl ⟨⟨by omega, h5⟩, by simp; omega⟩))))
  by_cases h6 : n ≤ 122
  · exact .inr (.inr (.inr (.inr (.inr (.inl ⟨⟨by omega, h6⟩, by simp; omega⟩)))))
  · exact .inr (.inr (.inr (.inr (.inr (.inr ⟨by omega, by simp; omega⟩)))))
theorem ne_nat {c : UInt8} {k : Nat} (h : c ≠ UInt8.ofNat k) : c.toNat ≠ k := fun e => h (by rw [← e, UInt8.ofNat_toNat])
end Rx

set_option maxHeartbeats 1000000 in
theorem word_any (c : UInt8) (w : World) :
    Calls Try.prog 57 #[.int .u8 (c.toNat : Int)] w fun e w' => e = .returned (.bool (Rx.wordB c)) ∧ w = w' := by
  have H := Rx.word7 c
  generalize Rx.wordB c = R at *
  generalize c.toNat = n at *
  rcases H with ⟨h, rfl⟩ | ⟨⟨h, h2⟩, rfl⟩ | ⟨⟨h, h2⟩, rfl⟩ | ⟨⟨h, h2⟩, rfl⟩ | ⟨⟨h, h2⟩, rfl⟩ | ⟨⟨h, h2⟩, rfl⟩ | ⟨h, rfl⟩
  · have k1 : ¬ (48 : Int) ≤ (n : Int) := by omega
    have k2 : ¬ (65 : Int) ≤ (n : Int) := by omega
    have k3 : ¬ (97 : Int) ≤ (n : Int) := by omega
    go_enter Try.func57, Try.ntmps57
    go_wp2_with fail
    go_ret
    exact ⟨rfl, rfl⟩
  · have k1 : (48 : Int) ≤ (n : Int) := by omega
    have k2 : (n : Int) ≤ (57 : Int) := by omega
    go_enter Try.func57, Try.ntmps57
    go_wp2_with fail
    go_ret
    exact ⟨rfl, rfl⟩
  · have k0 : (48 : Int) ≤ (n : Int) := by omega
    have k1 : ¬ (n : Int) ≤ (57 : Int) := by omega
    have k2 : ¬ (65 : Int) ≤ (n : Int) := by omega
    have k3 : ¬ (97 : Int) ≤ (n : Int) := by omega
    go_enter Try.func57, Try.ntmps57
    go_wp2_with fail
    go_ret
    exact ⟨rfl, rfl⟩
  · have k0 : (48 : Int) ≤ (n : Int) := by omega
    have k1 : ¬ (n : Int) ≤ (57 : Int) := by omega
    have k2 : (65 : Int) ≤ (n : Int) := by omega
    have k3 : (n : Int) ≤ (90 : Int) := by omega
    go_enter Try.func57, Try.ntmps57
    go_wp2_with fail
    go_ret
    exact ⟨rfl, rfl⟩
  · have k0 : (48 : Int) ≤ (n : Int) := by omega
    have k1 : ¬ (n : Int) ≤ (57 : Int) := by omega
    have k2 : (65 : Int) ≤ (n : Int) := by omega
    have k3 : ¬ (n : Int) ≤ (90 : Int) := by omega
    have k4 : ¬ (97 : Int) ≤ (n : Int) := by omega
    go_enter Try.func57, Try.ntmps57
    go_wp2_with fail
    go_ret
    exact ⟨rfl, rfl⟩
  · have k0 : (48 : Int) ≤ (n : Int) := by omega
    have k1 : ¬ (n : Int) ≤ (57 : Int) := by omega
    have k2 : (65 : Int) ≤ (n : Int) := by omega
    have k3 : ¬ (n : Int) ≤ (90 : Int) := by omega
    have k4 : (97 : Int) ≤ (n : Int) := by omega
    have k5 : (n : Int) ≤ (122 : Int) := by omega
    go_enter Try.func57, Try.ntmps57
    go_wp2_with fail
    go_ret
    exact ⟨rfl, rfl⟩
  · have k0 : (48 : Int) ≤ (n : Int) := by omega
    have k1 : ¬ (n : Int) ≤ (57 : Int) := by omega
    have k2 : (65 : Int) ≤ (n : Int) := by omega
    have k3 : ¬ (n : Int) ≤ (90 : Int) := by omega
    have k4 : (97 : Int) ≤ (n : Int) := by omega
    have k5 : ¬ (n : Int) ≤ (122 : Int) := by omega
    go_enter Try.func57, Try.ntmps57
    go_wp2_with fail
    go_ret
    exact ⟨rfl, rfl⟩

namespace Rx
/-- What a call that hands back a set and whether there is one leaves. -/
def GaveS (w : World) (r : Option St) (e : Ending) (w' : World) : Prop :=
  Below w.heap.size w w' ∧ ((∃ f, r = some f ∧ e = .returned (.tuple #[.agg (cel f), .bool true])) ∨ (r = none ∧ ∃ f, e = .returned (.tuple #[.agg (cel f), .bool false])))
end Rx

-- CLASS
set_option maxRecDepth 100000 in
set_option maxHeartbeats 2000000 in
theorem class_none (c : UInt8) (h : Rx.cls c = none) (w : World) : Calls Try.prog 66 #[.int .u8 (c.toNat : Int)] w (Rx.GaveS w none) := by
  have H : (c.toNat ≠ 100 ∧ c.toNat ≠ 68 ∧ c.toNat ≠ 119) ∧ (c.toNat ≠ 87 ∧ c.toNat ≠ 115 ∧ c.toNat ≠ 83) := by
    unfold Rx.cls at h
    split at h
    · cases h
    split at h
    · cases h
    split at h
    · cases h
    split at h
    · cases h
    split at h
    · cases h
    split at h
    · cases h
    rename_i g1 g2 g3 g4 g5 g6
    exact ⟨⟨Rx.ne_nat g1, Rx.ne_nat g2, Rx.ne_nat g3⟩, Rx.ne_nat g4, Rx.ne_nat g5, Rx.ne_nat g6⟩
  have hX := z_size
  have h1 : Try.zeroCells73.all (·.oneCell') = true := by rw [z_set]; exact Rx.cel_one _
  have HE : Hid (∀ w', Below w.heap.size w w' → Rx.GaveS w none (.returned (.tuple #[.agg Try.zeroCells73, .bool false])) w') := Lib.hid fun w' hb => by rw [z_set]; exact ⟨hb, .inr ⟨rfl, _, rfl⟩⟩
  have HR0 : Hid (RowAt ((w.alloc (.cells Try.zeroCells73 73)).alloc (.cells Try.zeroCells73 73)) w.heap.size 73 Try.zeroCells73) := Lib.hid ((RowAt.new w _ _).alloc _)
  have HB : Hid (Below w.heap.size w ((w.alloc (.cells Try.zeroCells73 73)).alloc (.cells Try.zeroCells73 73))) := Lib.hid (((Below.refl _ _).alloc (Nat.le_refl _) _).alloc (by simp) _)
  clear h
  generalize c.toNat = n at *
  obtain ⟨⟨k1, k2, k3⟩, k4, k5, k6⟩ := H
  have j1 : ¬ (n : Int) = 100 := by omega
  have j2 : ¬ (n : Int) = 68 := by omega
  have j3 : ¬ (n : Int) = 119 := by omega
  have j4 : ¬ (n : Int) = 87 := by omega
  have j5 : ¬ (n : Int) = 115 := by omega
  have j6 : ¬ (n : Int) = 83 := by omega
  go_enter Try.func66, Try.ntmps66
  go_wp2_with first
    | ((with_reducible refine Rx.ldset Try.zeroCells73 hX ?_ (RowAt.new (w.alloc (.cells Try.zeroCells73 73)) _ _) ?_); (focus simp [Act.eval, Act.put]))
    | ((with_reducible refine Rx.stset Try.zeroCells73 Try.zeroCells73 hX h1 z_size ?_ ?_ (HR0.out) ?_); (focus simp [Act.eval, Act.put]); (focus simp [Act.eval, Act.put]))
  ((try simp only [Exit.inBlock, Exit.then]); refine bodyPost_ret (Rx.ret_set rfl _ ?_ (Rx.row_setRow HR0.out _) hX) rfl ?_; (focus simp); simp only [Array.getD_eq_getD_getElem?])
  exact HE.out _ (Rx.below_setRow HB.out (Nat.le_refl _) _)

namespace Rx
/-- class at work: the result's cell, the set under way. -/
structure SetW (w W : World) (f : St) : Prop where
  below : Below w.heap.size w W
  res : RowAt W w.heap.size 73 Try.zeroCells73
  row : RowAt W (w.heap.size + 1) 73 (cel f)
theorem SetW.start (w : World) : SetW w ((w.alloc (.cells Try.zeroCells73 73)).alloc (.cells Try.zeroCells73 73)) none_ :=
  ⟨((Below.refl _ _).alloc (Nat.le_refl _) _).alloc (by simp) _, (RowAt.new w _ _).alloc _, by
    have := RowAt.new (w.alloc (.cells Try.zeroCells73 73)) Try.zeroCells73 73
    rw [← z_set]
    simpa using this⟩
theorem SetW.turn {w W W' : World} {f g : St} {e : Ending} (h : SetW w W f) (k : Turned W (w.heap.size + 1) 73 g e W') : e = .returned (.tuple #[]) ∧ SetW w W' g := by
  obtain ⟨h1, h2, h3⟩ := h
  obtain ⟨k1, k2, k3⟩ := k
  have := h2.lt
  refine ⟨k1, (h1.trans (k3.below h1.size fun i hi e => by omega)), ?_, k2⟩
  exact (k3.block _ this (by omega)).trans h2
theorem SetW.add_ {w W : World} {f : St} (h : SetW w W f) (lo hi : Nat) (h1 : lo < 256) (h2 : hi < 256) : Calls Try.prog 46 #[.pointer (some ⟨w.heap.size + 1, 0, none⟩), .int .u8 lo, .int .u8 hi] W fun e W' => e = .returned (.tuple #[]) ∧ SetW w W' (add f lo hi) :=
  (sAdd_any h.row lo hi h1 h2).mono fun _ _ k => h.turn k
theorem SetW.inv_ {w W : World} {f : St} (h : SetW w W f) : Calls Try.prog 47 #[.pointer (some ⟨w.heap.size + 1, 0, none⟩)] W fun e W' => e = .returned (.tuple #[]) ∧ SetW w W' (inv f) :=
  (sInvert_any h.row).mono fun _ _ k => h.turn k
end Rx

set_option maxRecDepth 100000 in
set_option maxHeartbeats 2000000 in
theorem class_100 (w : World) : Calls Try.prog 66 #[.int .u8 100] w (Rx.GaveS w (Rx.cls 100)) := by
  have HS0 := Lib.hid (Rx.SetW.start w)
  have HA1 : Hid (∀ (W : World) (f : Rx.St), Rx.SetW w W f → Calls Try.prog 46 #[.pointer (some ⟨w.heap.size + 1, 0, none⟩), .int .u8 48, .int .u8 57] W fun e W' => e = .returned (.tuple #[]) ∧ Rx.SetW w W' (Rx.add f 48 57)) := Lib.hid fun W f h => h.add_ 48 57 (by decide) (by decide)
  have HE : Hid (∀ (f : Rx.St) (w' : World), f = (Rx.add Rx.none_ 48 57) → Below w.heap.size w w' → Rx.GaveS w (Rx.cls 100) (.returned (.tuple #[.agg (Rx.cel f), .bool true])) w') := Lib.hid fun f w' e hb => ⟨hb, .inl ⟨f, by rw [e]; rfl, rfl⟩⟩
  go_enter Try.func66, Try.ntmps66
  go_wp2_with first
    | (go_at_call 46; ((with_reducible refine (HA1.out _ _ HS0.out).mono ?_); rintro e w1 ⟨rfl, hs1⟩; have HS1 := Lib.hid hs1; clear hs1))
    | ((with_reducible refine Rx.ldset (Rx.cel (Rx.add Rx.none_ 48 57)) (Rx.cel_size _) ?_ (HS1.out.row) ?_); (focus simp [Act.eval, Act.put]))
    | ((with_reducible refine Rx.stset (Rx.cel (Rx.add Rx.none_ 48 57)) Try.zeroCells73 (Rx.cel_size _) (Rx.cel_one _) z_size ?_ ?_ (HS1.out.res) ?_); (focus simp [Act.eval, Act.put]); (focus simp [Act.eval, Act.put]))
  ((try simp only [Exit.inBlock, Exit.then]); refine bodyPost_ret (Rx.ret_set rfl _ ?_ (Rx.row_setRow HS1.out.res _) (Rx.cel_size _)) rfl ?_; (focus simp); simp only [Array.getD_eq_getD_getElem?])
  exact HE.out _ _ rfl (Rx.below_setRow HS1.out.below (Nat.le_refl _) _)

set_option maxRecDepth 100000 in
set_option maxHeartbeats 2000000 in
theorem class_68 (w : World) : Calls Try.prog 66 #[.int .u8 68] w (Rx.GaveS w (Rx.cls 68)) := by
  have HS0 := Lib.hid (Rx.SetW.start w)
  have HA1 : Hid (∀ (W : World) (f : Rx.St), Rx.SetW w W f → Calls Try.prog 46 #[.pointer (some ⟨w.heap.size + 1, 0, none⟩), .int .u8 48, .int .u8 57] W fun e W' => e = .returned (.tuple #[]) ∧ Rx.SetW w W' (Rx.add f 48 57)) := Lib.hid fun W f h => h.add_ 48 57 (by decide) (by decide)
  have HE : Hid (∀ (f : Rx.St) (w' : World), f = (Rx.inv (Rx.add Rx.none_ 48 57)) → Below w.heap.size w w' → Rx.GaveS w (Rx.cls 68) (.returned (.tuple #[.agg (Rx.cel f), .bool true])) w') := Lib.hid fun f w' e hb => ⟨hb, .inl ⟨f, by rw [e]; rfl, rfl⟩⟩
  go_enter Try.func66, Try.ntmps66
  go_wp2_with first
    | (go_at_call 46; ((with_reducible refine (HA1.out _ _ HS0.out).mono ?_); rintro e w1 ⟨rfl, hs1⟩; have HS1 := Lib.hid hs1; clear hs1))
    | (go_at_call 47; ((with_reducible refine (Rx.SetW.inv_ HS1.out).mono ?_); rintro e w2 ⟨rfl, hs2⟩; have HS2 := Lib.hid hs2; clear hs2))
    | ((with_reducible refine Rx.ldset (Rx.cel (Rx.inv (Rx.add Rx.none_ 48 57))) (Rx.cel_size _) ?_ (HS2.out.row) ?_); (focus simp [Act.eval, Act.put]))
    | ((with_reducible refine Rx.stset (Rx.cel (Rx.inv (Rx.add Rx.none_ 48 57))) Try.zeroCells73 (Rx.cel_size _) (Rx.cel_one _) z_size ?_ ?_ (HS2.out.res) ?_); (focus simp [Act.eval, Act.put]); (focus simp [Act.eval, Act.put]))
  ((try simp only [Exit.inBlock, Exit.then]); refine bodyPost_ret (Rx.ret_set rfl _ ?_ (Rx.row_setRow HS2.out.res _) (Rx.cel_size _)) rfl ?_; (focus simp); simp only [Array.getD_eq_getD_getElem?])
  exact HE.out _ _ rfl (Rx.below_setRow HS2.out.below (Nat.le_refl _) _)

set_option maxRecDepth 100000 in
set_option maxHeartbeats 2000000 in
theorem class_119 (w : World) : Calls Try.prog 66 #[.int .u8 119] w (Rx.GaveS w (Rx.cls 119)) := by
  have HS0 := Lib.hid (Rx.SetW.start w)
  have HA1 : Hid (∀ (W : World) (f : Rx.St), Rx.SetW w W f → Calls Try.prog 46 #[.pointer (some ⟨w.heap.size + 1, 0, none⟩), .int .u8 48, .int .u8 57] W fun e W' => e = .returned (.tuple #[]) ∧ Rx.SetW w W' (Rx.add f 48 57)) := Lib.hid fun W f h => h.add_ 48 57 (by decide) (by decide)
  have HA2 : Hid (∀ (W : World) (f : Rx.St), Rx.SetW w W f → Calls Try.prog 46 #[.pointer (some ⟨w.heap.size + 1, 0, none⟩), .int .u8 65, .int .u8 90] W fun e W' => e = .returned (.tuple #[]) ∧ Rx.SetW w W' (Rx.add f 65 90)) := Lib.hid fun W f h => h.add_ 65 90 (by decide) (by decide)
  have HA3 : Hid (∀ (W : World) (f : Rx.St), Rx.SetW w W f → Calls Try.prog 46 #[.pointer (some ⟨w.heap.size + 1, 0, none⟩), .int .u8 97, .int .u8 122] W fun e W' => e = .returned (.tuple #[]) ∧ Rx.SetW w W' (Rx.add f 97 122)) := Lib.hid fun W f h => h.add_ 97 122 (by decide) (by decide)
  have HA4 : Hid (∀ (W : World) (f : Rx.St), Rx.SetW w W f → Calls Try.prog 46 #[.pointer (some ⟨w.heap.size + 1, 0, none⟩), .int .u8 95, .int .u8 95] W fun e W' => e = .returned (.tuple #[]) ∧ Rx.SetW w W' (Rx.add f 95 95)) := Lib.hid fun W f h => h.add_ 95 95 (by decide) (by decide)
  have HE : Hid (∀ (f : Rx.St) (w' : World), f = (Rx.add (Rx.add (Rx.add (Rx.add Rx.none_ 48 57) 65 90) 97 122) 95 95) → Below w.heap.size w w' → Rx.GaveS w (Rx.cls 119) (.returned (.tuple #[.agg (Rx.cel f), .bool true])) w') := Lib.hid fun f w' e hb => ⟨hb, .inl ⟨f, by rw [e]; rfl, rfl⟩⟩
  go_enter Try.func66, Try.ntmps66
  go_wp2_with first
    | (go_at_call 46; ((with_reducible refine (HA1.out _ _ HS0.out).mono ?_); rintro e w1 ⟨rfl, hs1⟩; have HS1 := Lib.hid hs1; clear hs1))
    | (go_at_call 46; ((with_reducible refine (HA2.out _ _ HS1.out).mono ?_); rintro e w2 ⟨rfl, hs2⟩; have HS2 := Lib.hid hs2; clear hs2))
    | (go_at_call 46; ((with_reducible refine (HA3.out _ _ HS2.out).mono ?_); rintro e w3 ⟨rfl, hs3⟩; have HS3 := Lib.hid hs3; clear hs3))
    | (go_at_call 46; ((with_reducible refine (HA4.out _ _ HS3.out).mono ?_); rintro e w4 ⟨rfl, hs4⟩; have HS4 := Lib.hid hs4; clear hs4))
    | ((with_reducible refine Rx.ldset (Rx.cel (Rx.add (Rx.add (Rx.add (Rx.add Rx.none_ 48 57) 65 90) 97 122) 95 95)) (Rx.cel_size _) ?_ (HS4.out.row) ?_); (focus simp [Act.eval, Act.put]))
    | ((with_reducible refine Rx.stset (Rx.cel (Rx.add (Rx.add (Rx.add (Rx.add Rx.none_ 48 57) 65 90) 97 122) 95 95)) Try.zeroCells73 (Rx.cel_size _) (Rx.cel_one _) z_size ?_ ?_ (HS4.out.res) ?_); (focus simp [Act.eval, Act.put]); (focus simp [Act.eval, Act.put]))
  ((try simp only [Exit.inBlock, Exit.then]); refine bodyPost_ret (Rx.ret_set rfl _ ?_ (Rx.row_setRow HS4.out.res _) (Rx.cel_size _)) rfl ?_; (focus simp); simp only [Array.getD_eq_getD_getElem?])
  exact HE.out _ _ rfl (Rx.below_setRow HS4.out.below (Nat.le_refl _) _)

set_option maxRecDepth 100000 in
set_option maxHeartbeats 2000000 in
theorem class_87 (w : World) : Calls Try.prog 66 #[.int .u8 87] w (Rx.GaveS w (Rx.cls 87)) := by
  have HS0 := Lib.hid (Rx.SetW.start w)
  have HA1 : Hid (∀ (W : World) (f : Rx.St), Rx.SetW w W f → Calls Try.prog 46 #[.pointer (some ⟨w.heap.size + 1, 0, none⟩), .int .u8 48, .int .u8 57] W fun e W' => e = .returned (.tuple #[]) ∧ Rx.SetW w W' (Rx.add f 48 57)) := Lib.hid fun W f h => h.add_ 48 57 (by decide) (by decide)
  have HA2 : Hid (∀ (W : World) (f : Rx.St), Rx.SetW w W f → Calls Try.prog 46 #[.pointer (some ⟨w.heap.size + 1, 0, none⟩), .int .u8 65, .int .u8 90] W fun e W' => e = .returned (.tuple #[]) ∧ Rx.SetW w W' (Rx.add f 65 90)) := Lib.hid fun W f h => h.add_ 65 90 (by decide) (by decide)
  have HA3 : Hid (∀ (W : World) (f : Rx.St), Rx.SetW w W f → Calls Try.prog 46 #[.pointer (some ⟨w.heap.size + 1, 0, none⟩), .int .u8 97, .int .u8 122] W fun e W' => e = .returned (.tuple #[]) ∧ Rx.SetW w W' (Rx.add f 97 122)) := Lib.hid fun W f h => h.add_ 97 122 (by decide) (by decide)
  have HA4 : Hid (∀ (W : World) (f : Rx.St), Rx.SetW w W f → Calls Try.prog 46 #[.pointer (some ⟨w.heap.size + 1, 0, none⟩), .int .u8 95, .int .u8 95] W fun e W' => e = .returned (.tuple #[]) ∧ Rx.SetW w W' (Rx.add f 95 95)) := Lib.hid fun W f h => h.add_ 95 95 (by decide) (by decide)
  have HE : Hid (∀ (f : Rx.St) (w' : World), f = (Rx.inv (Rx.add (Rx.add (Rx.add (Rx.add Rx.none_ 48 57) 65 90) 97 122) 95 95)) → Below w.heap.size w w' → Rx.GaveS w (Rx.cls 87) (.returned (.tuple #[.agg (Rx.cel f), .bool true])) w') := Lib.hid fun f w' e hb => ⟨hb, .inl ⟨f, by rw [e]; rfl, rfl⟩⟩
  go_enter Try.func66, Try.ntmps66
  go_wp2_with first
    | (go_at_call 46; ((with_reducible refine (HA1.out _ _ HS0.out).mono ?_); rintro e w1 ⟨rfl, hs1⟩; have HS1 := Lib.hid hs1; clear hs1))
    | (go_at_call 46; ((with_reducible refine (HA2.out _ _ HS1.out).mono ?_); rintro e w2 ⟨rfl, hs2⟩; have HS2 := Lib.hid hs2; clear hs2))
    | (go_at_call 46; ((with_reducible refine (HA3.out _ _ HS2.out).mono ?_); rintro e w3 ⟨rfl, hs3⟩; have HS3 := Lib.hid hs3; clear hs3))
    | (go_at_call 46; ((with_reducible refine (HA4.out _ _ HS3.out).mono ?_); rintro e w4 ⟨rfl, hs4⟩; have HS4 := Lib.hid hs4; clear hs4))
    | (go_at_call 47; ((with_reducible refine (Rx.SetW.inv_ HS4.out).mono ?_); rintro e w5 ⟨rfl, hs5⟩; have HS5 := Lib.hid hs5; clear hs5))
    | ((with_reducible refine Rx.ldset (Rx.cel (Rx.inv (Rx.add (Rx.add (Rx.add (Rx.add Rx.none_ 48 57) 65 90) 97 122) 95 95))) (Rx.cel_size _) ?_ (HS5.out.row) ?_); (focus simp [Act.eval, Act.put]))
    | ((with_reducible refine Rx.stset (Rx.cel (Rx.inv (Rx.add (Rx.add (Rx.add (Rx.add Rx.none_ 48 57) 65 90) 97 122) 95 95))) Try.zeroCells73 (Rx.cel_size _) (Rx.cel_one _) z_size ?_ ?_ (HS5.out.res) ?_); (focus simp [Act.eval, Act.put]); (focus simp [Act.eval, Act.put]))
  ((try simp only [Exit.inBlock, Exit.then]); refine bodyPost_ret (Rx.ret_set rfl _ ?_ (Rx.row_setRow HS5.out.res _) (Rx.cel_size _)) rfl ?_; (focus simp); simp only [Array.getD_eq_getD_getElem?])
  exact HE.out _ _ rfl (Rx.below_setRow HS5.out.below (Nat.le_refl _) _)

set_option maxRecDepth 100000 in
set_option maxHeartbeats 2000000 in
theorem class_115 (w : World) : Calls Try.prog 66 #[.int .u8 115] w (Rx.GaveS w (Rx.cls 115)) := by
  have HS0 := Lib.hid (Rx.SetW.start w)
  have HA1 : Hid (∀ (W : World) (f : Rx.St), Rx.SetW w W f → Calls Try.prog 46 #[.pointer (some ⟨w.heap.size + 1, 0, none⟩), .int .u8 9, .int .u8 13] W fun e W' => e = .returned (.tuple #[]) ∧ Rx.SetW w W' (Rx.add f 9 13)) := Lib.hid fun W f h => h.add_ 9 13 (by decide) (by decide)
  have HA2 : Hid (∀ (W : World) (f : Rx.St), Rx.SetW w W f → Calls Try.prog 46 #[.pointer (some ⟨w.heap.size + 1, 0, none⟩), .int .u8 32, .int .u8 32] W fun e W' => e = .returned (.tuple #[]) ∧ Rx.SetW w W' (Rx.add f 32 32)) := Lib.hid fun W f h => h.add_ 32 32 (by decide) (by decide)
  have HE : Hid (∀ (f : Rx.St) (w' : World), f = (Rx.add (Rx.add Rx.none_ 9 13) 32 32) → Below w.heap.size w w' → Rx.GaveS w (Rx.cls 115) (.returned (.tuple #[.agg (Rx.cel f), .bool true])) w') := Lib.hid fun f w' e hb => ⟨hb, .inl ⟨f, by rw [e]; rfl, rfl⟩⟩
  go_enter Try.func66, Try.ntmps66
  go_wp2_with first
    | (go_at_call 46; ((with_reducible refine (HA1.out _ _ HS0.out).mono ?_); rintro e w1 ⟨rfl, hs1⟩; have HS1 := Lib.hid hs1; clear hs1))
    | (go_at_call 46; ((with_reducible refine (HA2.out _ _ HS1.out).mono ?_); rintro e w2 ⟨rfl, hs2⟩; have HS2 := Lib.hid hs2; clear hs2))
    | ((with_reducible refine Rx.ldset (Rx.cel (Rx.add (Rx.add Rx.none_ 9 13) 32 32)) (Rx.cel_size _) ?_ (HS2.out.row) ?_); (focus simp [Act.eval, Act.put]))
    | ((with_reducible refine Rx.stset (Rx.cel (Rx.add (Rx.add Rx.none_ 9 13) 32 32)) Try.zeroCells73 (Rx.cel_size _) (Rx.cel_one _) z_size ?_ ?_ (HS2.out.res) ?_); (focus simp [Act.eval, Act.put]); (focus simp [Act.eval, Act.put]))
  ((try simp only [Exit.inBlock, Exit.then]); refine bodyPost_ret (Rx.ret_set rfl _ ?_ (Rx.row_setRow HS2.out.res _) (Rx.cel_size _)) rfl ?_; (focus simp); simp only [Array.getD_eq_getD_getElem?])
  exact HE.out _ _ rfl (Rx.below_setRow HS2.out.below (Nat.le_refl _) _)

set_option maxRecDepth 100000 in
set_option maxHeartbeats 2000000 in
theorem class_83 (w : World) : Calls Try.prog 66 #[.int .u8 83] w (Rx.GaveS w (Rx.cls 83)) := by
  have HS0 := Lib.hid (Rx.SetW.start w)
  have HA1 : Hid (∀ (W : World) (f : Rx.St), Rx.SetW w W f → Calls Try.prog 46 #[.pointer (some ⟨w.heap.size + 1, 0, none⟩), .int .u8 9, .int .u8 13] W fun e W' => e = .returned (.tuple #[]) ∧ Rx.SetW w W' (Rx.add f 9 13)) := Lib.hid fun W f h => h.add_ 9 13 (by decide) (by decide)
  have HA2 : Hid (∀ (W : World) (f : Rx.St), Rx.SetW w W f → Calls Try.prog 46 #[.pointer (some ⟨w.heap.size + 1, 0, none⟩), .int .u8 32, .int .u8 32] W fun e W' => e = .returned (.tuple #[]) ∧ Rx.SetW w W' (Rx.add f 32 32)) := Lib.hid fun W f h => h.add_ 32 32 (by decide) (by decide)
  have HE : Hid (∀ (f : Rx.St) (w' : World), f = (Rx.inv (Rx.add (Rx.add Rx.none_ 9 13) 32 32)) → Below w.heap.size w w' → Rx.GaveS w (Rx.cls 83) (.returned (.tuple #[.agg (Rx.cel f), .bool true])) w') := Lib.hid fun f w' e hb => ⟨hb, .inl ⟨f, by rw [e]; rfl, rfl⟩⟩
  go_enter Try.func66, Try.ntmps66
  go_wp2_with first
    | (go_at_call 46; ((with_reducible refine (HA1.out _ _ HS0.out).mono ?_); rintro e w1 ⟨rfl, hs1⟩; have HS1 := Lib.hid hs1; clear hs1))
    | (go_at_call 46; ((with_reducible refine (HA2.out _ _ HS1.out).mono ?_); rintro e w2 ⟨rfl, hs2⟩; have HS2 := Lib.hid hs2; clear hs2))
    | (go_at_call 47; ((with_reducible refine (Rx.SetW.inv_ HS2.out).mono ?_); rintro e w3 ⟨rfl, hs3⟩; have HS3 := Lib.hid hs3; clear hs3))
    | ((with_reducible refine Rx.ldset (Rx.cel (Rx.inv (Rx.add (Rx.add Rx.none_ 9 13) 32 32))) (Rx.cel_size _) ?_ (HS3.out.row) ?_); (focus simp [Act.eval, Act.put]))
    | ((with_reducible refine Rx.stset (Rx.cel (Rx.inv (Rx.add (Rx.add Rx.none_ 9 13) 32 32))) Try.zeroCells73 (Rx.cel_size _) (Rx.cel_one _) z_size ?_ ?_ (HS3.out.res) ?_); (focus simp [Act.eval, Act.put]); (focus simp [Act.eval, Act.put]))
  ((try simp only [Exit.inBlock, Exit.then]); refine bodyPost_ret (Rx.ret_set rfl _ ?_ (Rx.row_setRow HS3.out.res _) (Rx.cel_size _)) rfl ?_; (focus simp); simp only [Array.getD_eq_getD_getElem?])
  exact HE.out _ _ rfl (Rx.below_setRow HS3.out.below (Nat.le_refl _) _)

theorem class_any (c : UInt8) (w : World) : Calls Try.prog 66 #[.int .u8 (c.toNat : Int)] w (Rx.GaveS w (Rx.cls c)) := by
  by_cases h1 : c = 100
  · subst h1; exact class_100 w
  by_cases h2 : c = 68
  · subst h2; exact class_68 w
  by_cases h3 : c = 119
  · subst h3; exact class_119 w
  by_cases h4 : c = 87
  · subst h4; exact class_87 w
  by_cases h5 : c = 115
  · subst h5; exact class_115 w
  by_cases h6 : c = 83
  · subst h6; exact class_83 w
  have h : Rx.cls c = none := by unfold Rx.cls; rw [if_neg h1, if_neg h2, if_neg h3, if_neg h4, if_neg h5, if_neg h6]
  rw [h]
  exact class_none c h w
end Go.Proofs.Ytajijcnfhijanaa
