/-
  CONTRACTS: chapter 3's law: an act, in both: WriteAt.
-/
import Derived.Test.YtiacpopgnmledaaVsHalf
import Derived.Deep.RegionHeld3
namespace Go.Proofs.Ytiacpopgnmledaa
open Go.RowKit
open Me Vf

set_option maxRecDepth 100000 in
set_option maxHeartbeats 4000000 in
theorem act_write {w : World} {U Gq : Nat → Prop} {fs xs N c : Nat} {S1 S2 : Vf.Sv} (h : Vs.Duo w U fs xs N c S1 S2) (a : Vs.A) (v : Value) (hp : Vf.Ps w Gq v a.b) (hGq : ∀ b, Gq b → b < w.heap.size ∧ ¬ U b) (hk : a.kind = 2)
    (hoff : a.off ≤ 9223372036854775807) (hN : N ≤ 4096) (hc : c ≤ 4096) (hl : a.b.length ≤ 1048576) (ht : a.b.flatten.length ≤ 1048576) :
    Calls Try.prog 9 #[.pointer (some ⟨fs, 0, none⟩), .pointer (some ⟨xs, 0, none⟩), .agg #[.int .i64 2, .int .i64 a.off, .int .i64 a.n, .string ⟨a.name.toArray⟩, v]] w (Vs.Acted w U fs xs (N + 2) (c + 1) S1 S2 (Vs.step S1 a) (Vs.step S2 a)) := by
  obtain ⟨A, m, cc, rfl⟩ : ∃ A m c, v = .slice A m c := by
    obtain ⟨A, c, xs, e, _⟩ := hp
    exact ⟨A, _, c, e⟩
  obtain ⟨X, hX⟩ : ∃ X : Obj, X = .cells #[.int .i64 2, .int .i64 a.off, .int .i64 a.n, .string ⟨a.name.toArray⟩, .slice A m cc] 34 := ⟨_, rfl⟩
  have hbx : Below w.heap.size w (w.alloc X).drew := ((Below.refl _ _).alloc (Nat.le_refl _) _).drew
  have hpW : ∀ w1, Kp (fun b => U b ∧ b < w.heap.size) (w.alloc X).drew w1 → Vf.Ps w1 Gq (.slice A m cc) a.b := fun w1 k => (hp.keep hbx.size (fun i hi _ => hbx.block i hi)).keep k.size (fun i hi hg => k.block i hi (fun hu => (hGq i hg).2 hu.1))
  have e1 : Vs.step S1 a = (Vf.write S1 a.name a.off a.b.flatten).1 := by unfold Vs.step; rw [if_neg (by omega), if_pos hk]
  have e2 : Vs.step S2 a = (Vf.write S2 a.name a.off a.b.flatten).1 := by unfold Vs.step; rw [if_neg (by omega), if_pos hk]
  rw [e1, e2]
  have HE : Hid (S1 = S2 → (Vf.write S1 a.name a.off a.b.flatten).2 = (Vf.write S2 a.name a.off a.b.flatten).2) := Lib.hid (fun e => by rw [e])
  have HP := Lib.hid (h.prog (W := (w.alloc X).drew) (c' := c + 1) (N' := N + 2) (S1' := (Vf.write S1 a.name a.off a.b.flatten).1) hbx (fun hi => hi.write _ _ _) (fun M hM hlt => by
    exact pwrite_any hM a.name a.off a.b (.slice A m cc) (hp.keep hbx.size (fun i hi _ => hbx.block i hi)) hoff (by omega) hl (by omega) (fun b hb => ⟨Nat.lt_of_lt_of_le (hGq b hb).1 hbx.size, fun hm => (hGq b hb).2 (hlt b hm).1⟩)))
  have HX : Hid (∀ w1, Hid (Vs.Half w U fs xs (N + 2) c (c + 1) (Vf.write S1 a.name a.off a.b.flatten).1 S2 w1) → Kp (fun b => U b ∧ b < w.heap.size) (w.alloc X).drew w1 → Calls Try.prog 23 #[.pointer (some ⟨xs, 0, none⟩), .string ⟨a.name.toArray⟩, .int .i64 a.off, .slice A m cc] w1 fun e w2 => e = .returned (.int .i64 (Vf.write S2 a.name a.off a.b.flatten).2) ∧ Hid (Vs.DuoNext w U fs xs (N + 2) (c + 1) (Vf.write S1 a.name a.off a.b.flatten).1 (Vf.write S2 a.name a.off a.b.flatten).1 w2) ∧ Kp (fun b => U b ∧ b < w.heap.size) w1 w2) := Lib.hid fun w1 h1 k1 =>
    Vs.Half.write a.name a.off a.b h1.out (hpW w1 k1) hc hl ht
  have hnew : (w.alloc X).drew.heap[w.heap.size]? = some X := heap_alloc_new w X
  have HBX : Hid (∀ w1, Kp (fun b => U b ∧ b < w.heap.size) (w.alloc X).drew w1 → w1.heap[w.heap.size]? = some X) := Lib.hid fun w1 k1 => (k1.block w.heap.size (by show w.heap.size < (w.alloc X).heap.size; simp) (fun e => by have := e.2; omega)).trans hnew
  subst hX
  have HC : Hid (∀ w1 : World, w1.heap[w.heap.size]? = some (.cells #[.int .i64 2, .int .i64 a.off, .int .i64 a.n, .string ⟨a.name.toArray⟩, .slice A m cc] 34) → w1.cell? ⟨w.heap.size, 1, none⟩ = some (.int .i64 a.off) ∧ w1.cell? ⟨w.heap.size, 3, none⟩ = some (.string ⟨a.name.toArray⟩) ∧ w1.cell? ⟨w.heap.size, 4, none⟩ = some (.slice A m cc)) := Lib.hid fun w1 hh => ⟨by rw [cell_of_row w1 _ 1 _ _ _ hh]; rfl, by rw [cell_of_row w1 _ 3 _ _ _ hh]; rfl, by rw [cell_of_row w1 _ 4 _ _ _ hh]; rfl⟩
  clear h hp hGq hk hpW e1 e2 hbx hnew ht hl
  generalize (Vf.write S1 a.name a.off a.b.flatten).2 = k1 at *
  generalize (Vf.write S2 a.name a.off a.b.flatten).2 = k2 at *
  generalize (Vf.write S1 a.name a.off a.b.flatten).1 = T1 at *
  generalize (Vf.write S2 a.name a.off a.b.flatten).1 = T2 at *
  have b0 : (w.alloc (.cells #[.int .i64 2, .int .i64 a.off, .int .i64 a.n, .string ⟨a.name.toArray⟩, .slice A m cc] 34)).cell? ⟨w.heap.size, 3, none⟩ = some (.string ⟨a.name.toArray⟩) := (HC.out _ (heap_alloc_new w _)).2.1
  have b1 : (w.alloc (.cells #[.int .i64 2, .int .i64 a.off, .int .i64 a.n, .string ⟨a.name.toArray⟩, .slice A m cc] 34)).cell? ⟨w.heap.size, 4, none⟩ = some (.slice A m cc) := (HC.out _ (heap_alloc_new w _)).2.2
  have b2 : (w.alloc (.cells #[.int .i64 2, .int .i64 a.off, .int .i64 a.n, .string ⟨a.name.toArray⟩, .slice A m cc] 34)).cell? ⟨w.heap.size, 1, none⟩ = some (.int .i64 a.off) := (HC.out _ (heap_alloc_new w _)).1
  go_enter Try.func9, Try.ntmps9
  go_wp2_with fail
  go_region_held3 (fun w' => w'.cell? ⟨w.heap.size, 1, none⟩ = some (.int .i64 a.off) ∧ w'.cell? ⟨w.heap.size, 3, none⟩ = some (.string ⟨a.name.toArray⟩) ∧ w'.cell? ⟨w.heap.size, 4, none⟩ = some (.slice A m cc)) (first | exact ⟨b2, b0, b1⟩ | exact ⟨f1, f3, f4⟩ | exact ⟨d1, d3, d4⟩ | go_keep) (first | (go_at_call 17; (with_reducible refine (HP.out).mono ?_); rintro e w1 ⟨rfl, hh, hk⟩; have hbx1 := HBX.out w1 hk; obtain ⟨d1, d3, d4⟩ := HC.out w1 hbx1; have HBX1 := Lib.hid hbx1; have HHF := Lib.hid hh; have HKK := Lib.hid hk; clear hh hk hbx1) | (go_at_call 23; (with_reducible refine (HX.out w1 HHF.out HKK.out).mono ?_); rintro e w2 ⟨rfl, hd, hk2⟩; obtain ⟨f1, f3, f4⟩ := HC.out w2 ((hk2.block w.heap.size ((Array.getElem?_eq_some_iff.1 HBX1.out).1) (fun e => by have := e.2; omega)).trans HBX1.out); have HD := Lib.hid hd; clear hd hk2))
  all_goals
    go_wp2_with fail
    all_goals
      go_ret
      exact ⟨_, rfl, fun e => by simpa using HE.out e, HD.out.out⟩
end Go.Proofs.Ytiacpopgnmledaa
