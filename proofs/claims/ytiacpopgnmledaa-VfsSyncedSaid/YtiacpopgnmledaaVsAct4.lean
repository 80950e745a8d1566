/-
  CONTRACTS: chapter 3's law: an act, in both: Sync, Crash, and none.
-/
import Derived.Test.YtiacpopgnmledaaVsHalf
namespace Go.Proofs.Ytiacpopgnmledaa
open Go.RowKit
open Me Vf
namespace Vs
theorem DuoNext.sizes {w w' : World} {U : Nat → Prop} {fs xs N c : Nat} {S1 S2 : Sv} (h : DuoNext w U fs xs N c S1 S2 w') (n : List UInt8) (hc : c ≤ 4096) :
    (Calls Try.prog 28 #[.pointer (some ⟨fs, 0, none⟩), .string ⟨n.toArray⟩] w' fun e w2 => e = .returned (.tuple #[.int .i64 (Vf.size S1.now n).1, .int .i64 (Vf.size S1.now n).2]) ∧ w' = w2) ∧
    (Calls Try.prog 29 #[.pointer (some ⟨xs, 0, none⟩), .string ⟨n.toArray⟩] w' fun e w2 => e = .returned (.tuple #[.int .i64 (Vf.size S2.now n).1, .int .i64 (Vf.size S2.now n).2]) ∧ w' = w2) := by
  obtain ⟨U', h1, _⟩ := h
  exact h1.sizes n hc
theorem two_eq {z1 z2 y1 y2 : Int} {P : Prop} (h : P → (z1, z2) = (y1, y2)) (p : P) : z1 = y1 ∧ z2 = y2 := by
  have := h p
  injection this with a b
  exact ⟨a, b⟩
end Vs

set_option maxRecDepth 100000 in
set_option maxHeartbeats 4000000 in
theorem act_sync {w : World} {U : Nat → Prop} {fs xs N c : Nat} {S1 S2 : Vf.Sv} (h : Vs.Duo w U fs xs N c S1 S2) (a : Vs.A) (v : Value) (hv : ∃ A m c, v = .slice A m c) (hk : a.kind = 4) (hc : c ≤ 4095) :
    Calls Try.prog 9 #[.pointer (some ⟨fs, 0, none⟩), .pointer (some ⟨xs, 0, none⟩), .agg #[.int .i64 4, .int .i64 a.off, .int .i64 a.n, .string ⟨a.name.toArray⟩, v]] w (Vs.Acted w U fs xs N (c + 1) S1 S2 (Vs.step S1 a) (Vs.step S2 a)) := by
  obtain ⟨A, m, cc, rfl⟩ := hv
  have e1 : ∀ S : Vf.Sv, Vs.step S a = { S with was := S.now, l := [] } := fun S => by unfold Vs.step; rw [if_neg (by omega), if_neg (by omega), if_neg (by omega), if_pos hk]
  obtain ⟨X, hX⟩ : ∃ X : Obj, X = .cells #[.int .i64 4, .int .i64 a.off, .int .i64 a.n, .string ⟨a.name.toArray⟩, .slice A m cc] 34 := ⟨_, rfl⟩
  have hbx : Below w.heap.size w (w.alloc X) := (Below.refl _ _).alloc (Nat.le_refl _) _
  have HE : Hid (S1 = S2 → Vf.size (Vs.step S1 a).now a.name = Vf.size (Vs.step S2 a).now a.name) := Lib.hid (fun e => by rw [e])
  have HP := Lib.hid (h.prog (W := w.alloc X) (c' := c + 1) (N' := N) (S1' := Vs.step S1 a) hbx (fun hi => by rw [e1]; exact hi.sync.mono (Nat.le_succ _)) (fun M hM _ => by rw [e1]; exact psync_any hM))
  have HX : Hid (∀ w1, Hid (Vs.Half w U fs xs N c (c + 1) (Vs.step S1 a) S2 w1) → Calls Try.prog 13 #[.pointer (some ⟨xs, 0, none⟩)] w1 fun e w2 => e = .returned (.tuple #[]) ∧ Hid (Vs.DuoNext w U fs xs N (c + 1) (Vs.step S1 a) (Vs.step S2 a) w2) ∧ Kp (fun b => U b ∧ b < w.heap.size) w1 w2) := Lib.hid fun w1 h1 => by
    rw [e1 S2]
    exact Vs.Half.sync h1.out
  have HS := Lib.hid (fun (w2 : World) (hd : Hid (Vs.DuoNext w U fs xs N (c + 1) (Vs.step S1 a) (Vs.step S2 a) w2)) => hd.out.sizes a.name (by omega))
  have hnew : (w.alloc X).heap[w.heap.size]? = some X := heap_alloc_new w X
  have HBX : Hid (∀ w1, Kp (fun b => U b ∧ b < w.heap.size) (w.alloc X) w1 → w1.heap[w.heap.size]? = some X) := Lib.hid fun w1 k1 => (k1.block w.heap.size (by simp) (fun e => by have := e.2; omega)).trans hnew
  subst hX
  have HC : Hid (∀ w1 : World, w1.heap[w.heap.size]? = some (.cells #[.int .i64 4, .int .i64 a.off, .int .i64 a.n, .string ⟨a.name.toArray⟩, .slice A m cc] 34) → w1.cell? ⟨w.heap.size, 3, none⟩ = some (.string ⟨a.name.toArray⟩)) := Lib.hid fun w1 hh => by rw [cell_of_row w1 _ 3 _ _ _ hh]; rfl
  clear h hk e1 hbx hnew
  generalize Vf.size (Vs.step S1 a).now a.name = z at *
  generalize Vf.size (Vs.step S2 a).now a.name = y at *
  obtain ⟨z1, z2⟩ := z
  obtain ⟨y1, y2⟩ := y
  go_enter Try.func9, Try.ntmps9
  go_wp2_with (first | (go_at_call 12; (with_reducible refine (HP.out).mono ?_); rintro e w1 ⟨rfl, hh, hk⟩; have hbx1 := HBX.out w1 hk; have HBX1 := Lib.hid hbx1; have HHF := Lib.hid hh; clear hh hk hbx1) | (go_at_call 13; (with_reducible refine (HX.out w1 HHF.out).mono ?_); rintro e w2 ⟨rfl, hd, hk2⟩; have d3 := HC.out w2 ((hk2.block w.heap.size ((Array.getElem?_eq_some_iff.1 HBX1.out).1) (fun e => by have := e.2; omega)).trans HBX1.out); have HD := Lib.hid hd; have HZ1 := Lib.hid (HS.out w2 hd).1; have HZ2 := Lib.hid (HS.out w2 hd).2; clear hd hk2) | (go_at_call 28; ((with_reducible refine (HZ1.out).mono ?_); rintro e w' ⟨rfl, rfl⟩)) | (go_at_call 29; ((with_reducible refine (HZ2.out).mono ?_); rintro e w' ⟨rfl, rfl⟩)))
  all_goals
    go_ret
    exact ⟨_, rfl, fun e => by have := Vs.two_eq HE.out e; simp_all, HD.out.out⟩

set_option maxRecDepth 100000 in
set_option maxHeartbeats 4000000 in
theorem act_crash {w : World} {U : Nat → Prop} {fs xs N c : Nat} {S1 S2 : Vf.Sv} (h : Vs.Duo w U fs xs N c S1 S2) (a : Vs.A) (v : Value) (hv : ∃ A m c, v = .slice A m c) (hk : a.kind = 5) (hc : c ≤ 4095) (hN : N ≤ 4096) :
    Calls Try.prog 9 #[.pointer (some ⟨fs, 0, none⟩), .pointer (some ⟨xs, 0, none⟩), .agg #[.int .i64 5, .int .i64 a.off, .int .i64 a.n, .string ⟨a.name.toArray⟩, v]] w (Vs.Acted w U fs xs N (c + 1) S1 S2 (Vs.step S1 a) (Vs.step S2 a)) := by
  obtain ⟨A, m, cc, rfl⟩ := hv
  have e1 : ∀ S : Vf.Sv, Vs.step S a = ⟨S.room, Vf.crash S a.off a.n, Vf.crash S a.off a.n, []⟩ := fun S => by unfold Vs.step; rw [if_neg (by omega), if_neg (by omega), if_neg (by omega), if_neg (by omega), if_pos hk]
  obtain ⟨X, hX⟩ : ∃ X : Obj, X = .cells #[.int .i64 5, .int .i64 a.off, .int .i64 a.n, .string ⟨a.name.toArray⟩, .slice A m cc] 34 := ⟨_, rfl⟩
  have hbx : Below w.heap.size w (w.alloc X) := (Below.refl _ _).alloc (Nat.le_refl _) _
  have HE : Hid (S1 = S2 → Vf.size (Vs.step S1 a).now a.name = Vf.size (Vs.step S2 a).now a.name) := Lib.hid (fun e => by rw [e])
  have HP := Lib.hid (h.prog (W := w.alloc X) (c' := c + 1) (N' := N) (S1' := Vs.step S1 a) hbx (fun hi => by rw [e1]; exact hi.crash _ _) (fun M hM _ => by
    obtain ⟨_, _, _, _, _, _, _, _, _, h3, _⟩ := h
    rw [e1]
    exact pcrash_any hM a.off a.n (by omega) h3))
  have HX : Hid (∀ w1, Hid (Vs.Half w U fs xs N c (c + 1) (Vs.step S1 a) S2 w1) → Calls Try.prog 26 #[.pointer (some ⟨xs, 0, none⟩), .int .i64 a.off, .int .i64 a.n] w1 fun e w2 => e = .returned (.tuple #[]) ∧ Hid (Vs.DuoNext w U fs xs N (c + 1) (Vs.step S1 a) (Vs.step S2 a) w2) ∧ Kp (fun b => U b ∧ b < w.heap.size) w1 w2) := Lib.hid fun w1 h1 => by
    rw [e1 S2]
    exact Vs.Half.crash a.off a.n h1.out (by omega)
  have HS := Lib.hid (fun (w2 : World) (hd : Hid (Vs.DuoNext w U fs xs N (c + 1) (Vs.step S1 a) (Vs.step S2 a) w2)) => hd.out.sizes a.name (by omega))
  have hnew : (w.alloc X).heap[w.heap.size]? = some X := heap_alloc_new w X
  have HBX : Hid (∀ w1, Kp (fun b => U b ∧ b < w.heap.size) (w.alloc X) w1 → w1.heap[w.heap.size]? = some X) := Lib.hid fun w1 k1 => (k1.block w.heap.size (by simp) (fun e => by have := e.2; omega)).trans hnew
  subst hX
  have HC : Hid (∀ w1 : World, w1.heap[w.heap.size]? = some (.cells #[.int .i64 5, .int .i64 a.off, .int .i64 a.n, .string ⟨a.name.toArray⟩, .slice A m cc] 34) → w1.cell? ⟨w.heap.size, 1, none⟩ = some (.int .i64 a.off) ∧ w1.cell? ⟨w.heap.size, 2, none⟩ = some (.int .i64 a.n) ∧ w1.cell? ⟨w.heap.size, 3, none⟩ = some (.string ⟨a.name.toArray⟩)) := Lib.hid fun w1 hh => ⟨by rw [cell_of_row w1 _ 1 _ _ _ hh]; rfl, by rw [cell_of_row w1 _ 2 _ _ _ hh]; rfl, by rw [cell_of_row w1 _ 3 _ _ _ hh]; rfl⟩
  clear h hk e1 hbx hnew
  generalize Vf.size (Vs.step S1 a).now a.name = z at *
  generalize Vf.size (Vs.step S2 a).now a.name = y at *
  obtain ⟨z1, z2⟩ := z
  obtain ⟨y1, y2⟩ := y
  go_enter Try.func9, Try.ntmps9
  go_wp2_with (first | (go_at_call 14; (with_reducible refine (HP.out).mono ?_); rintro e w1 ⟨rfl, hh, hk⟩; have hbx1 := HBX.out w1 hk; obtain ⟨d1, d2, _⟩ := HC.out w1 hbx1; have HBX1 := Lib.hid hbx1; have HHF := Lib.hid hh; clear hh hk hbx1) | (go_at_call 26; (with_reducible refine (HX.out w1 HHF.out).mono ?_); rintro e w2 ⟨rfl, hd, hk2⟩; obtain ⟨_, _, d3⟩ := HC.out w2 ((hk2.block w.heap.size ((Array.getElem?_eq_some_iff.1 HBX1.out).1) (fun e => by have := e.2; omega)).trans HBX1.out); have HD := Lib.hid hd; have HZ1 := Lib.hid (HS.out w2 hd).1; have HZ2 := Lib.hid (HS.out w2 hd).2; clear hd hk2) | (go_at_call 28; ((with_reducible refine (HZ1.out).mono ?_); rintro e w' ⟨rfl, rfl⟩)) | (go_at_call 29; ((with_reducible refine (HZ2.out).mono ?_); rintro e w' ⟨rfl, rfl⟩)))
  all_goals
    go_ret
    exact ⟨_, rfl, fun e => by have := Vs.two_eq HE.out e; simp_all, HD.out.out⟩

set_option maxRecDepth 100000 in
set_option maxHeartbeats 4000000 in
theorem act_none {w : World} {U : Nat → Prop} {fs xs N c : Nat} {S1 S2 : Vf.Sv} (h : Vs.Duo w U fs xs N c S1 S2) (a : Vs.A) (v : Value) (hv : ∃ A m c, v = .slice A m c) (hk : ∀ i : Int, 1 ≤ i → i ≤ 6 → a.kind ≠ i) (hc : c ≤ 4095) :
    Calls Try.prog 9 #[.pointer (some ⟨fs, 0, none⟩), .pointer (some ⟨xs, 0, none⟩), .agg #[.int .i64 a.kind, .int .i64 a.off, .int .i64 a.n, .string ⟨a.name.toArray⟩, v]] w (Vs.Acted w U fs xs N (c + 1) S1 S2 (Vs.step S1 a) (Vs.step S2 a)) := by
  obtain ⟨A, m, cc, rfl⟩ := hv
  have k1 := hk 1 (by omega) (by omega)
  have k2 := hk 2 (by omega) (by omega)
  have k3 := hk 3 (by omega) (by omega)
  have k4 := hk 4 (by omega) (by omega)
  have k5 := hk 5 (by omega) (by omega)
  have k6 := hk 6 (by omega) (by omega)
  have e1 : ∀ S : Vf.Sv, Vs.step S a = S := fun S => by unfold Vs.step; rw [if_neg k1, if_neg k2, if_neg k3, if_neg k4, if_neg k5]
  rw [e1, e1]
  obtain ⟨X, hX⟩ : ∃ X : Obj, X = .cells #[.int .i64 a.kind, .int .i64 a.off, .int .i64 a.n, .string ⟨a.name.toArray⟩, .slice A m cc] 34 := ⟨_, rfl⟩
  have hbx : Below w.heap.size w (w.alloc X) := (Below.refl _ _).alloc (Nat.le_refl _) _
  have HE : Hid (S1 = S2 → Vf.size S1.now a.name = Vf.size S2.now a.name) := Lib.hid (fun e => by rw [e])
  have HZ1 := Lib.hid ((h.below hbx).sizes a.name (by omega)).1
  have HZ2 := Lib.hid ((h.below hbx).sizes a.name (by omega)).2
  have HD : Hid (Vs.DuoNext w U fs xs N (c + 1) S1 S2 (w.alloc X)) := Lib.hid (Vs.DuoNext.same h (Nat.le_refl _) (Nat.le_succ _) hbx)
  subst hX
  have t1 : (a.kind == 1) = false := by simpa using k1
  have t2 : (a.kind == 2) = false := by simpa using k2
  have t3 : (a.kind == 3) = false := by simpa using k3
  have t4 : (a.kind == 4) = false := by simpa using k4
  have t5 : (a.kind == 5) = false := by simpa using k5
  have t6 : (a.kind == 6) = false := by simpa using k6
  clear h hk e1 hbx
  generalize Vf.size S1.now a.name = z at *
  generalize Vf.size S2.now a.name = y at *
  obtain ⟨z1, z2⟩ := z
  obtain ⟨y1, y2⟩ := y
  go_enter Try.func9, Try.ntmps9
  go_wp2_with (first | (go_at_call 28; ((with_reducible refine (HZ1.out).mono ?_); rintro e w' ⟨rfl, rfl⟩)) | (go_at_call 29; ((with_reducible refine (HZ2.out).mono ?_); rintro e w' ⟨rfl, rfl⟩)))
  all_goals
    go_ret
    exact ⟨_, rfl, fun e => by have := Vs.two_eq HE.out e; simp_all, HD.out⟩
end Go.Proofs.Ytiacpopgnmledaa
