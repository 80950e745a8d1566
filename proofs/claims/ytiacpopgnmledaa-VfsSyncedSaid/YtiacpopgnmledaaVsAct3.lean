/-
  CONTRACTS: chapter 3's law: an act, in both: Remove.
-/
import Derived.Test.YtiacpopgnmledaaVsHalf
import Derived.Deep.RegionHeld3
namespace Go.Proofs.Ytiacpopgnmledaa
open Go.RowKit
open Me Vf

set_option maxRecDepth 100000 in
set_option maxHeartbeats 4000000 in
theorem act_remove {w : World} {U : Nat → Prop} {fs xs N c : Nat} {S1 S2 : Vf.Sv} (h : Vs.Duo w U fs xs N c S1 S2) (a : Vs.A) (v : Value) (hv : ∃ A m c, v = .slice A m c) (hk : a.kind = 3)
    (hN : N ≤ 4096) (hc : c ≤ 4096) :
    Calls Try.prog 9 #[.pointer (some ⟨fs, 0, none⟩), .pointer (some ⟨xs, 0, none⟩), .agg #[.int .i64 3, .int .i64 a.off, .int .i64 a.n, .string ⟨a.name.toArray⟩, v]] w (Vs.Acted w U fs xs (N + 2) (c + 1) S1 S2 (Vs.step S1 a) (Vs.step S2 a)) := by
  obtain ⟨A, m, cc, rfl⟩ := hv
  obtain ⟨X, hX⟩ : ∃ X : Obj, X = .cells #[.int .i64 3, .int .i64 a.off, .int .i64 a.n, .string ⟨a.name.toArray⟩, .slice A m cc] 34 := ⟨_, rfl⟩
  have hbx : Below w.heap.size w (w.alloc X).drew := ((Below.refl _ _).alloc (Nat.le_refl _) _).drew
  have e1 : Vs.step S1 a = (Vf.remove S1 a.name).1 := by unfold Vs.step; rw [if_neg (by omega), if_neg (by omega), if_pos hk]
  have e2 : Vs.step S2 a = (Vf.remove S2 a.name).1 := by unfold Vs.step; rw [if_neg (by omega), if_neg (by omega), if_pos hk]
  rw [e1, e2]
  have HE : Hid (S1 = S2 → (Vf.remove S1 a.name).2 = (Vf.remove S2 a.name).2) := Lib.hid (fun e => by rw [e])
  have HP := Lib.hid (h.prog (W := (w.alloc X).drew) (c' := c + 1) (N' := N + 2) (S1' := (Vf.remove S1 a.name).1) hbx (fun hi => hi.remove _) (fun M hM _ => by
    obtain ⟨_, _, _, _, _, _, _, _, _, h3, _⟩ := h
    have i1 := h3.last
    have i3 := h3.room1
    exact premove_any hM a.name (by omega) (by omega)))
  have HX : Hid (∀ w1, Hid (Vs.Half w U fs xs (N + 2) c (c + 1) (Vf.remove S1 a.name).1 S2 w1) → Kp (fun b => U b ∧ b < w.heap.size) (w.alloc X).drew w1 → Calls Try.prog 25 #[.pointer (some ⟨xs, 0, none⟩), .string ⟨a.name.toArray⟩] w1 fun e w2 => e = .returned (.int .i64 (Vf.remove S2 a.name).2) ∧ Hid (Vs.DuoNext w U fs xs (N + 2) (c + 1) (Vf.remove S1 a.name).1 (Vf.remove S2 a.name).1 w2) ∧ Kp (fun b => U b ∧ b < w.heap.size) w1 w2) := Lib.hid fun w1 h1 _ =>
    Vs.Half.remove a.name h1.out hc
  have hnew : (w.alloc X).drew.heap[w.heap.size]? = some X := heap_alloc_new w X
  have HBX : Hid (∀ w1, Kp (fun b => U b ∧ b < w.heap.size) (w.alloc X).drew w1 → w1.heap[w.heap.size]? = some X) := Lib.hid fun w1 k1 => (k1.block w.heap.size (by show w.heap.size < (w.alloc X).heap.size; simp) (fun e => by have := e.2; omega)).trans hnew
  subst hX
  have HC : Hid (∀ w1 : World, w1.heap[w.heap.size]? = some (.cells #[.int .i64 3, .int .i64 a.off, .int .i64 a.n, .string ⟨a.name.toArray⟩, .slice A m cc] 34) → w1.cell? ⟨w.heap.size, 3, none⟩ = some (.string ⟨a.name.toArray⟩) ∧ w1.cell? ⟨w.heap.size, 4, none⟩ = some (.slice A m cc)) := Lib.hid fun w1 hh => ⟨by rw [cell_of_row w1 _ 3 _ _ _ hh]; rfl, by rw [cell_of_row w1 _ 4 _ _ _ hh]; rfl⟩
  clear h hk e1 e2 hbx hnew
  generalize (Vf.remove S1 a.name).2 = k1 at *
  generalize (Vf.remove S2 a.name).2 = k2 at *
  generalize (Vf.remove S1 a.name).1 = T1 at *
  generalize (Vf.remove S2 a.name).1 = T2 at *
  have b0 : (w.alloc (.cells #[.int .i64 3, .int .i64 a.off, .int .i64 a.n, .string ⟨a.name.toArray⟩, .slice A m cc] 34)).cell? ⟨w.heap.size, 3, none⟩ = some (.string ⟨a.name.toArray⟩) := (HC.out _ (heap_alloc_new w _)).1
  have b1 : (w.alloc (.cells #[.int .i64 3, .int .i64 a.off, .int .i64 a.n, .string ⟨a.name.toArray⟩, .slice A m cc] 34)).cell? ⟨w.heap.size, 4, none⟩ = some (.slice A m cc) := (HC.out _ (heap_alloc_new w _)).2
  go_enter Try.func9, Try.ntmps9
  go_wp2_with fail
  go_region_held3 (fun w' => w'.cell? ⟨w.heap.size, 3, none⟩ = some (.string ⟨a.name.toArray⟩) ∧ w'.cell? ⟨w.heap.size, 4, none⟩ = some (.slice A m cc)) (first | exact ⟨b0, b1⟩ | exact ⟨f3, f4⟩ | exact ⟨d3, d4⟩ | go_keep) (first | (go_at_call 24; (with_reducible refine (HP.out).mono ?_); rintro e w1 ⟨rfl, hh, hk⟩; have hbx1 := HBX.out w1 hk; obtain ⟨d3, d4⟩ := HC.out w1 hbx1; have HBX1 := Lib.hid hbx1; have HHF := Lib.hid hh; have HKK := Lib.hid hk; clear hh hk hbx1) | (go_at_call 25; (with_reducible refine (HX.out w1 HHF.out HKK.out).mono ?_); rintro e w2 ⟨rfl, hd, hk2⟩; obtain ⟨f3, f4⟩ := HC.out w2 ((hk2.block w.heap.size ((Array.getElem?_eq_some_iff.1 HBX1.out).1) (fun e => by have := e.2; omega)).trans HBX1.out); have HD := Lib.hid hd; clear hd hk2))
  all_goals
    go_wp2_with fail
    all_goals
      go_ret
      exact ⟨_, rfl, fun e => by simpa using HE.out e, HD.out.out⟩
end Go.Proofs.Ytiacpopgnmledaa
