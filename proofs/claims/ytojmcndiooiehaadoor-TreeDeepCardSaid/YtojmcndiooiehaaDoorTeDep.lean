/-
  CONTRACTS: chapter 15: the program's Depth.
-/
import Derived.Test.YtojmcndiooiehaaDoorTeKn
import Derived.Deep.RegionLaw
namespace Go.Proofs.YtojmcndiooiehaaDoor
open Go.RowKit Go.Sort
open Me

namespace Te
theorem deps_at {ks : List Nd} {k : Nat} (h : k < ks.length) : deps (ks.drop k) = max (dep ks[k]) (deps (ks.drop (k + 1))) := by
  rw [List.drop_eq_getElem_cons h, deps]
mutual
theorem dep_wt : ∀ x : Nd, dep x ≤ wt x
  | .mk k s n ks => by
    have := deps_wt ks
    rw [dep, wt]
    split <;> omega
theorem deps_wt : ∀ l : List Nd, deps l ≤ wts l
  | [] => by rw [deps]; exact Nat.zero_le _
  | x :: r => by
    have h1 := dep_wt x
    have h2 := deps_wt r
    rw [deps, wts]; omega
end
def DepC (f : Nat) (G : Nat → Prop) (x : Nd) : Prop := ∀ (w : World) (v : Value), At w G x v → Calls Tryd.prog f #[val x v] w fun e w' => e = .returned (.int .i64 ((dep x : Nat) : Int)) ∧ Below w.heap.size w w'
end Te

set_option maxRecDepth 100000 in
set_option maxHeartbeats 8000000 in
theorem tdep_call {G : Nat → Prop} (s : List UInt8) (n : Int) (ks : List Te.Nd) (hX : ∀ x ∈ ks, Te.DepC 7 G x) (hw : Te.wts ks ≤ 1048576) (w : World) (v : Value) (hat : Te.At w G (.mk 1 s n ks) v) :
    Calls Tryd.prog 7 #[.agg #[.int .i64 1, .string ⟨s.toArray⟩, .int .i64 n, v]] w fun e w' => e = .returned (.int .i64 ((Te.dep (.mk 1 s n ks) : Nat) : Int)) ∧ Below w.heap.size w w' := by
  rw [Te.At] at hat
  obtain ⟨A, c, xs, rfl, hr, ha⟩ := hat
  have HX := Lib.hid hX
  have HRD := Lib.hid hr
  have HKS := Lib.hid ha
  have hkl : ks.length ≤ 1048576 := by have := Te.wts_len ks; omega
  have HE : Hid (Te.dep (.mk 1 s n ks) = Te.deps ks + 1) := Lib.hid (by rw [Te.dep, if_pos rfl])
  have hD := Te.deps_wt ks
  generalize Te.dep (.mk 1 s n ks) = D at *
  have HB0 : Hid (Below w.heap.size w (w.alloc (.cells #[.int .i64 1, .string ⟨s.toArray⟩, .int .i64 n, .slice A ks.length c] 25))) := Lib.hid ((Below.refl w.heap.size w).alloc (Nat.le_refl _) _)
  have HS : Hid (max 0 (Te.deps (ks.drop 0)) = Te.deps ks) := Lib.hid (Nat.zero_max _)
  generalize Te.deps ks = D0 at *
  clear hX hr ha
  go_enter Tryd.func7, Tryd.ntmps7
  go_wp2_with fail
  go_loopw [3, 5, 12] (fun y _ x wr => ∃ k bl : Nat, x = .int .i64 k ∧ y = .int .i64 bl ∧ k ≤ ks.length ∧ bl ≤ 1048576 ∧ Hid (max bl (Te.deps (ks.drop k)) = D0) ∧ Hid (Below w.heap.size w wr)) (fun _ _ x _ => ks.length - (intOf x).toNat)
  case atStart => exact ⟨0, 0, rfl, rfl, Nat.zero_le _, Nat.zero_le _, HS, HB0⟩
  case round =>
    obtain ⟨k, bl, rfl, rfl, hk, hbl, HM, HW⟩ := hrel
    have hbel := HW.out
    have hws := hbel.size
    by_cases hlt : k < ks.length
    · have hM := HM.out
      rw [Te.deps_at hlt] at hM
      obtain ⟨b1, o1, v, rfl, hb, _, hat, c0, c1, c2, c3⟩ := Te.rd_kid HRD.out HKS.out hlt
      have hmem : ks[k] ∈ ks := List.getElem_mem hlt
      generalize ks[k] = x at *
      obtain ⟨kk, ss, nn, kks⟩ := x
      obtain ⟨Ak, ck, xk, rfl, _, _⟩ := hat.form
      have d0 : wr.cell? ⟨b1, o1 + k * 4, none⟩ = some (.int .i64 kk) := (hbel.cell (p := ⟨b1, _, none⟩) hb).trans c0
      have d1 : wr.cell? ⟨b1, o1 + k * 4 + 1, none⟩ = some (.string ⟨ss.toArray⟩) := (hbel.cell (p := ⟨b1, _, none⟩) hb).trans c1
      have d2 : wr.cell? ⟨b1, o1 + k * 4 + 2, none⟩ = some (.int .i64 nn) := (hbel.cell (p := ⟨b1, _, none⟩) hb).trans c2
      have d3 : wr.cell? ⟨b1, o1 + k * 4 + 3, none⟩ = some (.slice Ak kks.length ck) := (hbel.cell (p := ⟨b1, _, none⟩) hb).trans c3
      clear c0 c1 c2 c3
      have hNC : Hid (∀ W, Below wr.heap.size wr W → Calls Tryd.prog 7 #[.agg #[.int .i64 kk, .string ⟨ss.toArray⟩, .int .i64 nn, .slice Ak kks.length ck]] W fun e w' => e = .returned (.int .i64 ((Te.dep (.mk kk ss nn kks) : Nat) : Int)) ∧ Below W.heap.size W w') := Lib.hid fun W hW => HX.out _ hmem W _ (hat.below (hbel.trans (hW.mono hws)))
      have hkI : (k : Int) < (ks.length : Int) := by omega
      have hbw : b1 ≠ wr.heap.size := by omega
      have HBA : Hid (Below w.heap.size w (wr.alloc (.cells #[.int .i64 kk, .string ⟨ss.toArray⟩, .int .i64 nn, .slice Ak kks.length ck] 25))) := Lib.hid (hbel.alloc hws _)
      generalize Te.dep (.mk kk ss nn kks) = q at *
      have hql : q ≤ 1048576 := by omega
      have HM2 : Hid (max (max bl q) (Te.deps (ks.drop (k + 1))) = D0) := Lib.hid (by rw [← hM]; omega)
      clear hat hmem hbel HW hM HM
      by_cases hk0 : k = 0
      · subst hk0
        simp only [Nat.zero_mul, Nat.add_zero] at d0 d1 d2 d3
        go_wp2_with (go_at_call 7; go_must (refine (hNC.out _ ((Below.refl _ _).alloc (Nat.le_refl _) _)).mono ?_; rintro e w6 ⟨rfl, hw6⟩; have HW6 : Hid (Below w.heap.size w w6) := Lib.hid (HBA.out.trans (hw6.mono (by simp; omega))); clear hw6))
        go_roundw
        case rel => exact ⟨0 + 1, max bl q, by go_num, congrArg _ (by omega), by omega, by omega, HM2, HW6⟩
        case measure => simp [intOf]; omega
      · go_wp2_with (go_at_call 7; go_must (refine (hNC.out _ ((Below.refl _ _).alloc (Nat.le_refl _) _)).mono ?_; rintro e w6 ⟨rfl, hw6⟩; have HW6 : Hid (Below w.heap.size w w6) := Lib.hid (HBA.out.trans (hw6.mono (by simp; omega))); clear hw6))
        go_roundw
        case rel => exact ⟨k + 1, max bl q, by go_num, congrArg _ (by omega), by omega, by omega, HM2, HW6⟩
        case measure => simp [intOf]; omega
    · have hkI : ¬ (k : Int) < (ks.length : Int) := by omega
      have HM2 : Hid (bl = D0) := Lib.hid (by have := HM.out; rw [List.drop_eq_nil_of_le (by omega), Te.deps] at this; omega)
      have kw : IntKind.i64.wrap (1 + (bl : Int)) = 1 + (bl : Int) := IntWalk.i64_in _ (by omega)
      clear hbel
      go_wp2_with fail
      go_ret
      exact ⟨by rw [HE.out, ← HM2.out]; simp; omega, HW.out⟩

set_option maxRecDepth 100000 in
set_option maxHeartbeats 8000000 in
theorem tdep_leaf (k : Int) (hk : k ≠ 1) (s : List UInt8) (n : Int) (ks : List Te.Nd) (A : Option Addr) (m c : Nat) (w : World) :
    Calls Tryd.prog 7 #[.agg #[.int .i64 k, .string ⟨s.toArray⟩, .int .i64 n, .slice A m c]] w fun e w' => e = .returned (.int .i64 ((Te.dep (.mk k s n ks) : Nat) : Int)) ∧ Below w.heap.size w w' := by
  have HE : Hid (Te.dep (.mk k s n ks) = 1) := Lib.hid (by rw [Te.dep, if_neg hk])
  generalize Te.dep (.mk k s n ks) = D at *
  have kb : (k == 1) = false := by simpa using hk
  go_enter Tryd.func7, Tryd.ntmps7
  go_wp2
  go_ret
  exact ⟨by rw [HE.out]; rfl, (Below.refl w.heap.size w).alloc (Nat.le_refl _) _⟩

theorem tdep_any (G : Nat → Prop) : ∀ (m : Nat) (x : Te.Nd), Te.wt x ≤ m → m ≤ 1048576 → Te.DepC 7 G x
  | 0, .mk k s n ks, h, _ => by rw [Te.wt_eq] at h; omega
  | m + 1, .mk k s n ks, h, hm => fun w v hat => by
    rw [Te.wt_eq] at h
    by_cases hk : k = 1
    · subst hk
      exact tdep_call s n ks (fun x hx => tdep_any G m x (by have := Te.wts_mem ks x hx; omega) (by omega)) (by omega) w v hat
    · rw [Te.At] at hat
      obtain ⟨A, c, xs, rfl, _, _⟩ := hat
      exact tdep_leaf k hk s n ks A ks.length c w
end Go.Proofs.YtojmcndiooiehaaDoor
