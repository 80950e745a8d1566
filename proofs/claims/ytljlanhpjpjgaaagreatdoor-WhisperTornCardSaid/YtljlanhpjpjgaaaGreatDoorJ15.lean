/- WpWr AgKn -/
import Derived.Test.YtljlanhpjpjgaaaGreatDoorJ1
import Derived.Test.YtljlanhpjpjgaaaGreatDoorJ14
import Derived.Test.YtljlanhpjpjgaaaGreatDoorJ12
namespace Go.Proofs.YtljlanhpjpjgaaaGreatDoor
set_option maxRecDepth 100000
set_option maxHeartbeats 8000000
section
open Go.RowKit Go.Sort
open Fx (Vl)
open Me
open Wp
theorem ps_one {base g : Nat} {w : World} {v : Value} {L : List UInt8} (h : BsT base w v L) (hg : RowAt w g 45 #[v]) : Vf.Ps w (fun _ => True) (.slice (some ⟨g, 0, none⟩) 1 1) [L] := by
 obtain ⟨A, c, e, h1, h2, hr⟩ := h
 refine ⟨some ⟨g, 0, none⟩, 1, [v], rfl, Nat.le_refl _, by unfold maxLen; omega, fun _ => ⟨_, rfl, hg.lt, trivial, fun j u hu => ?_⟩, ⟨[v], [], rfl, ⟨v, rfl, A, c, e, h1, h2, hr.mono fun _ _ _ => trivial⟩, rfl⟩⟩
 rw [Addr.add_lit, Nat.zero_add, hg.cell]
 simpa using hu
theorem BsT.keep {base : Nat} {V : Nat → Prop} {w w' : World} {v : Value} {L : List UInt8} (h : BsT base w v L) (k : Kp (fun b => ¬ V b) w w') (hV : ∀ i, base ≤ i → i < w.heap.size → V i) : BsT base w' v L := by
 obtain ⟨A, c, e, h1, h2, hr⟩ := h
 exact ⟨A, c, e, h1, h2, hr.keep k.size fun i hi hb => k.block i hi (fun o => o (hV i hb hi))⟩
theorem kp_via {O : Nat → Prop} {a b c : World} (k : Kp O b c) (h : Below a.heap.size a b) : Kp O a c := (Kp.of_below h).trans k (fun _ _ h => h)
theorem Wp.one_flat (L : List UInt8) : [L].flatten = L := by simp
def Wp.Wrote (w : World) (V : Nat → Prop) (fs c : Nat) (S : Vf.Sv) (e : Ending) (w' : World) : Prop := e = .returned (.tuple #[]) ∧ RO w' V fs c S ∧ Kp (fun b => ¬ V b) w w'
theorem rwrite_any {w : World} {V : Nat → Prop} {c x fs : Nat} {S : Vf.Sv} {n : List UInt8} {h : Hd} {A : Option Addr} {cap : Nat} (ro : RO w V fs c S) (hc : c ≤ 999990) (f : FileR w x fs n h A cap) (hx : V x) (hA : ∀ a, A = some a → V a.block) (hv : h.val = true) (i : Nat) (hi : i < h.l.length) (t u : Int) (ht : t ≤ 9223372036854775807) :
 Calls Tryz.prog 55 #[.pointer (some ⟨x, 0, none⟩), .int .i64 (i : Int), .int .i64 t, .int .i64 u] w (Wrote w V fs (c + 3) (write S n h i t u)) := by
 have HAT : Hid (∀ W, Below w.heap.size w W → Calls Tryz.prog 90 #[.pointer (some ⟨x, 0, none⟩), .int .i64 (i : Int), .int .i64 t] W fun e w' => e = .returned (.int .i64 (at_ h i t)) ∧ Below W.heap.size W w') := Lib.hid fun W hb => rat_any (f.below hb) hv i hi t ht
 have HAL : Hid (∀ W, Calls Tryz.prog 54 #[.int .i64 t, .int .i64 (h.step i)] W fun e w' => e = .returned (.int .i64 (Sl.al t (h.step i))) ∧ W = w') := Lib.hid fun W => ralign_any t _ ht W
 have HWS : Hid (∀ W, Calls Tryz.prog 39 #[.agg #[.int .i64 (Sl.al t (h.step i)), .int .i64 u]] W fun e w' => ∃ v, e = .returned v ∧ Wr3M W.heap.size w' v (Sl.beb u 8) (Sl.beb (Sl.lim (Sl.al t (h.step i))) 4) ∧ Below W.heap.size W w') := Lib.hid fun W => rswrites_anyM _ _ W
 have HQ : Hid (write S n h i t u = (Vf.write (Vf.write (Vf.write S n (at_ h i t) [0, 0, 0, 0]).1 n (at_ h i t + 4) (Sl.beb u 8)).1 n (at_ h i t) (Sl.beb (Sl.lim (Sl.al t (h.step i))) 4)).1) := Lib.hid rfl
 have hb8 : (Sl.beb u 8).length = 8 := rfl
 have hb4 : (Sl.beb (Sl.lim (Sl.al t (h.step i))) 4).length = 4 := rfl
 have hbd := at_bd hv i hi t
 obtain ⟨b, off, rfl, ha⟩ := f.ars.2 (by omega)
 have hVb : V b := hA _ rfl
 have c0 : w.cell? ⟨x, 0, none⟩ = some (.pointer (some ⟨fs, 0, none⟩)) := f.row.cell 0
 have c1 : w.cell? ⟨x, 1, none⟩ = some (.string ⟨n.toArray⟩) := f.row.cell 1
 have c4 : w.cell? ⟨x, 4, none⟩ = some (.slice (some ⟨b, off, none⟩) h.l.length cap) := f.row.cell 4
 have s0 : w.cell? ⟨b, off + i * 2, none⟩ = some (.int .i64 (h.step i)) := ha.st i hi
 have hxl := f.row.lt
 have hbl := ha.lt
 have HC : Hid (∀ W, Kp (fun b => ¬ V b) w W → (W.cell? ⟨x, 0, none⟩ = some (.pointer (some ⟨fs, 0, none⟩)) ∧ W.cell? ⟨x, 1, none⟩ = some (.string ⟨n.toArray⟩) ∧ W.cell? ⟨x, 4, none⟩ = some (.slice (some ⟨b, off, none⟩) h.l.length cap) ∧ W.cell? ⟨b, off + i * 2, none⟩ = some (.int .i64 (h.step i))) ∧ x < W.heap.size ∧ b < W.heap.size) := Lib.hid fun W hk =>
  ⟨⟨(hk.cell (p := ⟨x, 0, none⟩) hxl (fun o => o hx)).trans c0, (hk.cell (p := ⟨x, 1, none⟩) hxl (fun o => o hx)).trans c1, (hk.cell (p := ⟨x, 4, none⟩) hxl (fun o => o hx)).trans c4, (hk.cell (p := ⟨b, off + i * 2, none⟩) hbl (fun o => o hVb)).trans s0⟩, Nat.lt_of_lt_of_le hxl hk.size, Nat.lt_of_lt_of_le hbl hk.size⟩
 have HRO := Lib.hid ro
 have hil : (i : Int) < (h.l.length : Int) := by omega
 have hi0 : (0 : Int) ≤ (i : Int) := by omega
 clear f ha ro
 generalize write S n h i t u = Q at *
 generalize at_ h i t = a at *
 generalize Sl.al t (h.step i) = g at *
 generalize Sl.beb (Sl.lim g) 4 = L3 at *
 generalize Sl.beb u 8 = L2 at *
 generalize h.step i = s at *
 generalize h.l.length = N at *
 go_enter Tryz.func55, Tryz.ntmps55
 go_wp2_with first
  | (go_at_call 90; (with_reducible refine (HAT.out _ (Below.refl _ _)).mono ?_); rintro e w1 ⟨rfl, hb1⟩; have HB1 := Lib.hid hb1; obtain ⟨⟨e0, e1, e4, es⟩, ex, eb⟩ := HC.out w1 (Kp.of_below hb1); have hs1 := hb1.size; clear hb1)
  | (go_at_call 54; ((with_reducible refine (HAL.out _).mono ?_); rintro e w' ⟨rfl, rfl⟩))
  | (go_at_call 39; (with_reducible refine (HWS.out _).mono ?_); rintro e w2 ⟨v2, rfl, hw3, hb2⟩; have hbb : Below w.heap.size w w2 := HB1.out.trans (hb2.mono hs1); have HB2 := Lib.hid hbb; obtain ⟨⟨f0, f1, _, _⟩, fx, _⟩ := HC.out w2 (Kp.of_below hbb); have hs2 := hbb.size; obtain ⟨p, v1, v2', v3, rfl, hp, hrow, hr1, hr2, hr3⟩ := hw3; have HROW := Lib.hid hrow; have HR1 := Lib.hid hr1; have HR2 := Lib.hid hr2; have HR3 := Lib.hid hr3; obtain ⟨A1, n1, q1, rfl⟩ : ∃ A n q, v1 = .slice A n q := (by obtain ⟨A, c, e, _⟩ := hr1; exact ⟨A, _, c, e⟩); obtain ⟨A2, n2, q2, rfl⟩ : ∃ A n q, v2' = .slice A n q := (by obtain ⟨A, c, e, _⟩ := hr2; exact ⟨A, _, c, e⟩); obtain ⟨A3, n3, q3, rfl⟩ : ∃ A n q, v3 = .slice A n q := (by obtain ⟨A, c, e, _⟩ := hr3; exact ⟨A, _, c, e⟩); clear hb2 hbb hrow hr1 hr2 hr3)
 obtain ⟨V', hV'⟩ : ∃ V' : Nat → Prop, ∀ i, V' i ↔ (V i ∨ (w.heap.size ≤ i ∧ i < w2.heap.size)) := ⟨_, fun _ => Iff.rfl⟩
 have HV := Lib.hid hV'
 have HRO2 : Hid (RO w2 V' fs c S) := Lib.hid (HRO.out.add HB2.out fun i hi => (hV' i).1 hi)
 clear hV'
 have hp2 : w.heap.size ≤ p := Nat.le_trans hs1 hp
 have r0 : w2.cell? ⟨p, 0, none⟩ = some (.slice A1 n1 q1) := HROW.out.cell 0
 have hpl := HROW.out.lt
 have HVp : Hid (V' x ∧ V' p ∧ ∀ i, w1.heap.size ≤ i → i < w2.heap.size → V' i) := Lib.hid ⟨(HV.out x).2 (.inl hx), (HV.out p).2 (.inr ⟨hp2, hpl⟩), fun i h1 h2 => (HV.out i).2 (.inr ⟨Nat.le_trans hs1 h1, h2⟩)⟩
 have HF : Hid (∀ W, Kp (fun b => ¬ V' b) w2 W → (W.cell? ⟨x, 0, none⟩ = some (.pointer (some ⟨fs, 0, none⟩)) ∧ W.cell? ⟨x, 1, none⟩ = some (.string ⟨n.toArray⟩) ∧ W.cell? ⟨p, 0, none⟩ = some (.slice A1 n1 q1) ∧ W.cell? ⟨p, 1, none⟩ = some (.slice A2 n2 q2) ∧ W.cell? ⟨p, 2, none⟩ = some (.slice A3 n3 q3)) ∧ x < W.heap.size ∧ p < W.heap.size) := Lib.hid fun W hk =>
  ⟨⟨(hk.cell (p := ⟨x, 0, none⟩) fx (fun o => o HVp.out.1)).trans f0, (hk.cell (p := ⟨x, 1, none⟩) fx (fun o => o HVp.out.1)).trans f1, (hk.cell (p := ⟨p, 0, none⟩) hpl (fun o => o HVp.out.2.1)).trans (HROW.out.cell 0), (hk.cell (p := ⟨p, 1, none⟩) hpl (fun o => o HVp.out.2.1)).trans (HROW.out.cell 1), (hk.cell (p := ⟨p, 2, none⟩) hpl (fun o => o HVp.out.2.1)).trans (HROW.out.cell 2)⟩, Nat.lt_of_lt_of_le fx hk.size, Nat.lt_of_lt_of_le hpl hk.size⟩
 have HW1 : Hid (∀ W b0, Below w2.heap.size w2 W → RowAt W b0 45 #[.slice A1 n1 q1] → Calls Tryz.prog 91 #[.pointer (some ⟨fs, 0, none⟩), .string ⟨n.toArray⟩, .int .i64 a, .slice (some ⟨b0, 0, none⟩) 1 1] W fun e w' => ∃ r, e = .returned (.int .i64 r) ∧ RO w' V' fs (c + 1) (Vf.write S n a [0, 0, 0, 0]).1 ∧ Kp (fun b => ¬ V' b) W w') := Lib.hid fun W b0 hb hg => by
  have h := rowrite (HRO2.out.below hb) (by omega) n a [[0, 0, 0, 0]] _ (ps_one (HR1.out.below hb) hg) (by simp) (by rw [one_flat]; simp)
  rw [one_flat] at h
  exact h.mono fun e w' ⟨h1, h2, h3⟩ => ⟨_, h1, h2, h3⟩
 go_region_held3 (fun W => W.cell? ⟨x, 0, none⟩ = some (.pointer (some ⟨fs, 0, none⟩)) ∧ W.cell? ⟨x, 1, none⟩ = some (.string ⟨n.toArray⟩) ∧ W.cell? ⟨p, 0, none⟩ = some (.slice A1 n1 q1)) (first | exact ⟨f0, f1, r0⟩ | exact ⟨k10, k11, k12⟩ | go_keep)
  (first | (go_at_call 91; (with_reducible refine (HW1.out _ _ Bqn (by first | exact RowAt.new _ _ _ | exact (RowAt.new _ _ _).drew | exact (RowAt.new _ _ _).drewN _)).mono ?_); rintro e w3 ⟨r1, rfl, ro1, hk1⟩; have hkk : Kp (fun b => ¬ V' b) w2 w3 := kp_via hk1 Bqn; have HK1 := Lib.hid hkk; have HRO3 := Lib.hid ro1; obtain ⟨⟨k10, k11, k12, k13, k14⟩, kx1, kp1⟩ := HF.out w3 hkk; clear hk1 hkk ro1))
 go_wp2_with fail
 obtain ⟨S1, hS1⟩ : ∃ S1, Hid (S1 = (Vf.write S n a [0, 0, 0, 0]).1) := ⟨_, Lib.hid rfl⟩
 rw [← hS1.out] at HRO3 HQ
 have HR2' : Hid (BsT w1.heap.size w3 (.slice A2 n2 q2) L2) := Lib.hid (HR2.out.keep HK1.out HVp.out.2.2)
 obtain ⟨a4, ha4⟩ : ∃ a4, a + 4 = a4 := ⟨_, rfl⟩
 rw [ha4] at HQ
 have hw4 : IntKind.i64.wrap a4 = a4 := IntWalk.i64_in _ (by omega)
 have HW2 : Hid (∀ W b0, Below w3.heap.size w3 W → RowAt W b0 45 #[.slice A2 n2 q2] → Calls Tryz.prog 91 #[.pointer (some ⟨fs, 0, none⟩), .string ⟨n.toArray⟩, .int .i64 a4, .slice (some ⟨b0, 0, none⟩) 1 1] W fun e w' => ∃ r, e = .returned (.int .i64 r) ∧ RO w' V' fs (c + 1 + 1) (Vf.write S1 n a4 L2).1 ∧ Kp (fun b => ¬ V' b) W w') := Lib.hid fun W b0 hb hg => by
  have h := rowrite (HRO3.out.below hb) (by omega) n a4 [L2] _ (ps_one (HR2'.out.below hb) hg) (by simp) (by rw [one_flat]; omega)
  rw [one_flat] at h
  exact h.mono fun e w' ⟨h1, h2, h3⟩ => ⟨_, h1, h2, h3⟩
 go_region_held3 (fun W => W.cell? ⟨x, 0, none⟩ = some (.pointer (some ⟨fs, 0, none⟩)) ∧ W.cell? ⟨x, 1, none⟩ = some (.string ⟨n.toArray⟩) ∧ W.cell? ⟨p, 1, none⟩ = some (.slice A2 n2 q2)) (first | exact ⟨k10, k11, k13⟩ | exact ⟨k20, k21, k23⟩ | go_keep)
  (first | (go_at_call 91; (with_reducible refine (HW2.out _ _ Bqn (by first | exact RowAt.new _ _ _ | exact (RowAt.new _ _ _).drew | exact (RowAt.new _ _ _).drewN _)).mono ?_); rintro e w4 ⟨r2, rfl, ro2, hk2⟩; have hkk : Kp (fun b => ¬ V' b) w2 w4 := HK1.out.trans (kp_via hk2 Bqn) (fun _ _ h => h); have HK2 := Lib.hid hkk; have HRO4 := Lib.hid ro2; obtain ⟨⟨k20, k21, k22, k23, k24⟩, kx2, kp2⟩ := HF.out w4 hkk; clear hk2 hkk ro2))
 go_wp2_with fail
 obtain ⟨S2, hS2⟩ : ∃ S2, Hid (S2 = (Vf.write S1 n a4 L2).1) := ⟨_, Lib.hid rfl⟩
 rw [← hS2.out] at HRO4 HQ
 have HR3' : Hid (BsT w1.heap.size w4 (.slice A3 n3 q3) L3) := Lib.hid (HR3.out.keep HK2.out HVp.out.2.2)
 have HW3 : Hid (∀ W b0, Below w4.heap.size w4 W → RowAt W b0 45 #[.slice A3 n3 q3] → Calls Tryz.prog 91 #[.pointer (some ⟨fs, 0, none⟩), .string ⟨n.toArray⟩, .int .i64 a, .slice (some ⟨b0, 0, none⟩) 1 1] W fun e w' => ∃ r, e = .returned (.int .i64 r) ∧ RO w' V' fs (c + 1 + 1 + 1) (Vf.write S2 n a L3).1 ∧ Kp (fun b => ¬ V' b) W w') := Lib.hid fun W b0 hb hg => by
  have h := rowrite (HRO4.out.below hb) (by omega) n a [L3] _ (ps_one (HR3'.out.below hb) hg) (by simp) (by rw [one_flat]; omega)
  rw [one_flat] at h
  exact h.mono fun e w' ⟨h1, h2, h3⟩ => ⟨_, h1, h2, h3⟩
 go_region_held3 (fun W => W.cell? ⟨x, 0, none⟩ = some (.pointer (some ⟨fs, 0, none⟩)) ∧ W.cell? ⟨x, 1, none⟩ = some (.string ⟨n.toArray⟩) ∧ W.cell? ⟨p, 2, none⟩ = some (.slice A3 n3 q3)) (first | exact ⟨k20, k21, k24⟩ | exact ⟨k30, k31, k34⟩ | go_keep)
  (first | (go_at_call 91; (with_reducible refine (HW3.out _ _ Bqn (by first | exact RowAt.new _ _ _ | exact (RowAt.new _ _ _).drew | exact (RowAt.new _ _ _).drewN _)).mono ?_); rintro e w5 ⟨r3, rfl, ro3, hk3⟩; have hkk : Kp (fun b => ¬ V' b) w2 w5 := HK2.out.trans (kp_via hk3 Bqn) (fun _ _ h => h); have HK3 := Lib.hid hkk; have HRO5 := Lib.hid ro3; obtain ⟨⟨k30, k31, k32, k33, k34⟩, kx3, kp3⟩ := HF.out w5 hkk; clear hk3 hkk ro3))
 go_wp2_with fail
 ((try simp only [Exit.inBlock, Exit.then]); first | (refine bodyPost_ret (results_none rfl _ _ _) rfl ?_) | (refine bodyPost_end (results_none rfl _ _ _) rfl ?_))
 exact ⟨rfl, by rw [HQ.out]; exact HRO5.out.more (by omega) (fun i hi => (HV.out i).2 (.inl hi)), (Kp.of_below HB2.out).trans (HK3.out.mono (fun i _ ho hv => ho ((HV.out i).2 (.inl hv)))) (fun _ _ h => h)⟩
end
section
open Go.RowKit Go.Sort
open Fx (Vl)
open Me
def Knew (w : World) (m : List Vl) (e : Ending) (w' : World) : Prop := ∃ v, e = .returned v ∧ OwnV w.heap.size w' v m ∧ Below w.heap.size w w'
theorem own_append {w W w2 : World} {v v2 : Value} {m : List Vl} {eo : Bool} {en : Int} (hb : Below w.heap.size w W) (ho : OwnV w.heap.size W v m)
 (hown : w2.ownsRow w.heap.size 110 2 v2 (m.length + 1) (cellsOf m ++ [.bool eo, .int .i64 en])) (hg : W.grownBy w2 v.ownBlock) : OwnV w.heap.size w2 v2 (m ++ [⟨eo, en⟩]) ∧ Below w.heap.size w w2 :=
 ⟨OwnV.more hown, hb.grown hg hb.size fun g e => (ho.lt g e).1⟩
theorem known_some (l : List Vl) (hl : l.length ≤ 1000000) (b off cap : Nat) (w : World) (hv : Vals w b off l) :
 Calls Tryz.prog 124 #[.slice (some ⟨b, off, none⟩) l.length cap] w (Knew w (Ag.kn l)) := by
 obtain ⟨i0, hi, hz0, hz1, hz2⟩ := info_parts infoVal
 obtain ⟨C, CS, hmk, hcs, hC⟩ : ∃ (C : Nat) (CS : Array Value), (∀ W : World, (Instr.makeSlice 104 (.int .i64 0) (.int .i64 (l.length : Int))).run Tryz.prog W = .ok (.slice (some ⟨W.heap.size, 0, none⟩) 0 C) (W.alloc (.cells CS 110))) ∧ CS.size = C * 2 ∧ C ≤ 1000000 := by
  refine ⟨(l.length : Int).toNat, madeCells #[.bool false, .int .i64 0] ((l.length : Int).toNat * 2), fun W => ?_, size_madeCells _ _, by omega⟩
  have h := run_make (P := Tryz.prog) W 104 110 i0 _ Tryz.underlying104 hi hz0 .i64 .i64 0 (l.length : Int) (by omega) (by omega) (by rw [hz2]; omega) (by omega)
  rw [hz1] at h
  exact h
 have HI := Lib.hid hi
 have HZ := Lib.hid (And.intro hz0 (And.intro hz1 hz2))
 have HO0 : Hid (∀ W : World, w.heap.size ≤ W.heap.size → OwnV w.heap.size (W.alloc (.cells CS 110)) (.slice (some ⟨W.heap.size, 0, none⟩) 0 C) []) := Lib.hid fun W h => World.ownsRow_made W CS C h (by unfold maxLen; omega) hcs
 clear hi hz0 hz1 hz2
 go_enter Tryz.func124, Tryz.ntmps124
 go_wp2_with fail
 go_loopw [3, 11] (fun v i wr => ∃ k : Nat, k ≤ l.length ∧ i = .int .i64 k ∧ OwnV w.heap.size wr v (Ag.kn (l.take k)) ∧ Below w.heap.size w wr) (fun _ i _ => l.length - (intOf i).toNat)
 case atStart => exact ⟨0, Nat.zero_le _, rfl, HO0.out w (Nat.le_refl _), (Below.refl _ _).alloc (Nat.le_refl _) _⟩
 case round =>
  obtain ⟨k, hk, rfl, hown, hbel⟩ := hrel
  obtain ⟨A, c, rfl⟩ := hown.slice
  by_cases hlt : k < l.length
  ·have hvr := hv.below hbel
   have ec0 := hvr.ok k hlt
   have ec1 := hvr.n k hlt
   have hbr := hvr.lt
   have hkl : (k : Int) < (l.length : Int) := by omega
   have hk0 : (0 : Int) ≤ (k : Int) := by omega
   have hst := Lib.hid (Ag.kn_take l k hlt)
   have hml := Ag.kn_take_len l k
   have HB := Lib.hid hbel
   have HO := Lib.hid hown
   have hws := hbel.size
   clear hbel hown hvr
   generalize l[k] = ek at *
   generalize Ag.kn (l.take k) = m at *
   obtain ⟨eo, en⟩ := ek
   cases hq : Fx.num ⟨eo, en⟩
   ·have HT : Hid (Ag.kn (l.take (k + 1)) = m) := Lib.hid (by rw [hst.out, if_neg (by rw [hq]; exact Bool.false_ne_true)])
    cases eo
    ·go_wp2_with fail
     go_roundw
     case rel => exact ⟨k + 1, by omega, by go_num, by rw [HT.out]; exact HO.out.below ((Below.refl _ _).alloc (Nat.le_refl _) _), HB.out.alloc hws _⟩
     case measure => simp [intOf]; omega
    ·have HIs : Hid (∀ W, Calls Tryz.prog 134 #[.agg #[.bool true, .int .i64 en]] W fun e w' => e = .returned (.bool false) ∧ Below W.heap.size W w') := Lib.hid fun W => by
      have := isV_any true en W
      rw [Fx.isV_on, show Fx.inR en = false from hq] at this
      exact this
     go_wp2_with (go_at_call 134; (((with_reducible refine (HIs.out _).mono ?_)); rintro e w1 ⟨rfl, hb1⟩; obtain ⟨hc1, hf1⟩ := bcell hb1; (try have hq1w : w.heap.size < w1.heap.size := Bz hb1); (try have hq1wr : wr.heap.size < w1.heap.size := Bz hb1); have hs1 := hb1.size; (try simp at hs1)))
     have HB1 : Hid (Below wr.heap.size wr w1) := Lib.hid Bq
     go_roundw
     case rel => exact ⟨k + 1, by omega, by go_num, by rw [HT.out]; exact HO.out.below HB1.out, HB.out.trans (HB1.out.mono hws)⟩
     case measure => simp [intOf]; omega
   ·obtain ⟨rfl, _, _⟩ := Fx.num_iff.1 hq
    have HT : Hid (Ag.kn (l.take (k + 1)) = m ++ [⟨true, en⟩]) := Lib.hid (by rw [hst.out, if_pos hq])
    have HIs : Hid (∀ W, Calls Tryz.prog 134 #[.agg #[.bool true, .int .i64 en]] W fun e w' => e = .returned (.bool true) ∧ Below W.heap.size W w') := Lib.hid fun W => by
     have := isV_any true en W
     rw [Fx.isV_on, show Fx.inR en = true from hq] at this
     exact this
    go_wp2_with first
     | (go_at_call 134; (((with_reducible refine (HIs.out _).mono ?_)); rintro e w1 ⟨rfl, hb1⟩; obtain ⟨hc1, hf1⟩ := bcell hb1; (try have hq1w : w.heap.size < w1.heap.size := Bz hb1); (try have hq1wr : wr.heap.size < w1.heap.size := Bz hb1); have hs1 := hb1.size; (try simp at hs1)))
     | (at_builtin; refine wpList_app _ rfl (.tmp 21) (.tmp 23) 104 rfl w.heap.size 110 i0 (.agg #[.bool false, .int .i64 0]) 2 16 Tryz.underlying104 HI.out HZ.out.1 HZ.out.2.1 HZ.out.2.2 rfl (by decide) (.slice A m.length c) m.length (cellsOf m) rfl (HO.out.below Bq) (fun b => b = w1.heap.size) (some ⟨w1.heap.size, 0, none⟩) 1 1 [.bool true, .int .i64 en] rfl rfl (Rd.fresh _ _ _ _ rfl) (by intro u hu; simp at hu; rcases hu with rfl | rfl <;> rfl) (by unfold maxLen; omega) (by omega) (by simp; omega) ?_; intro v2 w2 hown2 hg2 hat2 hnil2)
    have HB1 : Hid (Below wr.heap.size wr (w1.alloc (.cells #[.bool true, .int .i64 en] 110))) := Lib.hid Bq
    have HN := Lib.hid (own_append (HB.out.trans (HB1.out.mono hws)) (HO.out.below HB1.out) hown2 hg2)
    obtain ⟨A2, n2, c2, rfl⟩ := own_slice hown2
    clear hown2 hg2 hat2 hnil2
    go_wp2_with fail
    go_roundw
    case rel => exact ⟨k + 1, by omega, by go_num, by rw [HT.out]; exact HN.out.1, HN.out.2⟩
    case measure => simp [intOf]; omega
  ·obtain rfl : k = l.length := by omega
   have HO := Lib.hid hown
   have HB := Lib.hid hbel
   rw [List.take_length] at *
   clear hown hbel
   go_wp2
   go_ret
   exact ⟨_, rfl, HO.out, HB.out⟩
theorem known_zero (x : Option Addr) (cap : Nat) (w : World) :
 Calls Tryz.prog 124 #[.slice x 0 cap] w (Knew w []) := by
 obtain ⟨i0, hi, hz0, hz1, hz2⟩ := info_parts infoVal
 obtain ⟨CS, hmk, hcs⟩ : ∃ (CS : Array Value), (∀ W : World, (Instr.makeSlice 104 (.int .i64 0) (.int .i64 0)).run Tryz.prog W = .ok (.slice (some ⟨W.heap.size, 0, none⟩) 0 0) (W.alloc (.cells CS 110))) ∧ CS.size = 0 * 2 := by
  refine ⟨madeCells #[.bool false, .int .i64 0] ((0 : Int).toNat * 2), fun W => ?_, size_madeCells _ _⟩
  have h := run_make (P := Tryz.prog) W 104 110 i0 _ Tryz.underlying104 hi hz0 .i64 .i64 0 0 (by omega) (by omega) (by omega) (by omega)
  rw [hz1] at h
  exact h
 have HO0 : Hid (∀ W : World, w.heap.size ≤ W.heap.size → OwnV w.heap.size (W.alloc (.cells CS 110)) (.slice (some ⟨W.heap.size, 0, none⟩) 0 0) []) := Lib.hid fun W h => World.ownsRow_made W CS 0 h (by unfold maxLen; omega) hcs
 clear hi hz0 hz1 hz2
 go_enter Tryz.func124, Tryz.ntmps124
 go_wp2_with fail
 go_loopw [3, 11] (fun v i wr => i = .int .i64 0 ∧ OwnV w.heap.size wr v [] ∧ Below w.heap.size w wr) (fun _ i _ => 0)
 case atStart => exact ⟨rfl, HO0.out w (Nat.le_refl _), (Below.refl _ _).alloc (Nat.le_refl _) _⟩
 case round =>
  obtain ⟨rfl, hown, hbel⟩ := hrel
  obtain ⟨A, c, rfl⟩ := hown.slice
  have HO := Lib.hid hown
  have HB := Lib.hid hbel
  clear hown hbel
  go_wp2
  go_ret
  exact ⟨_, rfl, HO.out, HB.out⟩
theorem known_v (l : List Vl) (hl : l.length ≤ 1000000) (v : Value) (w : World) (hv : Sl w v l) : Calls Tryz.prog 124 #[v] w (Knew w (Ag.kn l)) := by
 rcases hv with ⟨rfl, x, cap, rfl⟩ | ⟨h0, b, off, cap, rfl, hv⟩
 ·exact known_zero x cap w
 ·exact known_some l hl b off cap w hv
theorem refKnown_some (l : List Vl) (hl : l.length ≤ 1000000) (b off cap : Nat) (w : World) (hv : Vals w b off l) :
 Calls Tryz.prog 113 #[.slice (some ⟨b, off, none⟩) l.length cap] w (Knew w (Ag.kn l)) := by
 obtain ⟨i0, hi, hz0, hz1, hz2⟩ := info_parts infoVal
 have HI := Lib.hid hi
 have HZ := Lib.hid (And.intro hz0 (And.intro hz1 hz2))
 clear hi hz0 hz1 hz2
 go_enter Tryz.func113, Tryz.ntmps113
 go_wp2_with fail
 go_loopw [3, 4] (fun v i wr => ∃ k : Nat, k ≤ l.length ∧ i = .int .i64 k ∧ OwnV w.heap.size wr v (Ag.kn (l.take k)) ∧ Below w.heap.size w wr) (fun _ i _ => l.length - (intOf i).toNat)
 case atStart => exact ⟨0, Nat.zero_le _, rfl, OwnV.nil _ _, Below.refl _ _⟩
 case round =>
  obtain ⟨k, hk, rfl, hown, hbel⟩ := hrel
  obtain ⟨A, c, rfl⟩ := hown.slice
  by_cases hlt : k < l.length
  ·have hvr := hv.below hbel
   have ec0 := hvr.ok k hlt
   have ec1 := hvr.n k hlt
   have hbr := hvr.lt
   have hkl : (k : Int) < (l.length : Int) := by omega
   have hk0 : (0 : Int) ≤ (k : Int) := by omega
   have hst := Lib.hid (Ag.kn_take l k hlt)
   have hml := Ag.kn_take_len l k
   have HB := Lib.hid hbel
   have HO := Lib.hid hown
   have hws := hbel.size
   clear hbel hown hvr
   generalize l[k] = ek at *
   generalize Ag.kn (l.take k) = m at *
   obtain ⟨eo, en⟩ := ek
   cases hq : Fx.num ⟨eo, en⟩
   ·have HT : Hid (Ag.kn (l.take (k + 1)) = m) := Lib.hid (by rw [hst.out, if_neg (by rw [hq]; exact Bool.false_ne_true)])
    have HIs : Hid (∀ W, Calls Tryz.prog 130 #[.agg #[.bool eo, .int .i64 en]] W fun e w' => e = .returned (.bool false) ∧ Below W.heap.size W w') := Lib.hid fun W => by
     have := known1_any eo en W
     rw [hq] at this
     exact this
    go_wp2_with (go_at_call 130; (((with_reducible refine (HIs.out _).mono ?_)); rintro e w1 ⟨rfl, hb1⟩; obtain ⟨hc1, hf1⟩ := bcell hb1; (try have hq1w : w.heap.size < w1.heap.size := Bz hb1); (try have hq1wr : wr.heap.size < w1.heap.size := Bz hb1); have hs1 := hb1.size; (try simp at hs1)))
    have HB1 : Hid (Below wr.heap.size wr w1) := Lib.hid Bq
    go_roundw
    case rel => exact ⟨k + 1, by omega, by go_num, by rw [HT.out]; exact HO.out.below HB1.out, HB.out.trans (HB1.out.mono hws)⟩
    case measure => simp [intOf]; omega
   ·have HT : Hid (Ag.kn (l.take (k + 1)) = m ++ [⟨eo, en⟩]) := Lib.hid (by rw [hst.out, if_pos hq])
    have HIs : Hid (∀ W, Calls Tryz.prog 130 #[.agg #[.bool eo, .int .i64 en]] W fun e w' => e = .returned (.bool true) ∧ Below W.heap.size W w') := Lib.hid fun W => by
     have := known1_any eo en W
     rw [hq] at this
     exact this
    go_wp2_with first
     | (go_at_call 130; (((with_reducible refine (HIs.out _).mono ?_)); rintro e w1 ⟨rfl, hb1⟩; obtain ⟨hc1, hf1⟩ := bcell hb1; (try have hq1w : w.heap.size < w1.heap.size := Bz hb1); (try have hq1wr : wr.heap.size < w1.heap.size := Bz hb1); have hs1 := hb1.size; (try simp at hs1)))
     | (at_builtin; refine wpList_app _ rfl (.tmp 16) (.tmp 21) 104 rfl w.heap.size 110 i0 (.agg #[.bool false, .int .i64 0]) 2 16 Tryz.underlying104 HI.out HZ.out.1 HZ.out.2.1 HZ.out.2.2 rfl (by decide) (.slice A m.length c) m.length (cellsOf m) rfl (HO.out.below Bq) (fun b => b = w1.heap.size) (some ⟨w1.heap.size, 0, none⟩) 1 1 [.bool eo, .int .i64 en] rfl rfl (Rd.fresh _ _ _ _ rfl) (by intro u hu; simp at hu; rcases hu with rfl | rfl <;> rfl) (by unfold maxLen; omega) (by omega) (by simp; omega) ?_; intro v2 w2 hown2 hg2 hat2 hnil2)
    have HB1 : Hid (Below wr.heap.size wr (w1.alloc (.cells #[.bool eo, .int .i64 en] 110))) := Lib.hid Bq
    have HN := Lib.hid (own_append (HB.out.trans (HB1.out.mono hws)) (HO.out.below HB1.out) hown2 hg2)
    obtain ⟨A2, n2, c2, rfl⟩ := own_slice hown2
    clear hown2 hg2 hat2 hnil2
    go_wp2_with fail
    go_roundw
    case rel => exact ⟨k + 1, by omega, by go_num, by rw [HT.out]; exact HN.out.1, HN.out.2⟩
    case measure => simp [intOf]; omega
  ·obtain rfl : k = l.length := by omega
   have HO := Lib.hid hown
   have HB := Lib.hid hbel
   rw [List.take_length] at *
   clear hown hbel
   go_wp2
   go_ret
   exact ⟨_, rfl, HO.out, HB.out⟩
theorem refKnown_zero (x : Option Addr) (cap : Nat) (w : World) :
 Calls Tryz.prog 113 #[.slice x 0 cap] w (Knew w []) := by
 go_enter Tryz.func113, Tryz.ntmps113
 go_wp2_with fail
 go_loopw [3, 4] (fun v i wr => i = .int .i64 0 ∧ v = .slice none 0 0 ∧ Below w.heap.size w wr) (fun _ i _ => 0)
 case atStart => exact ⟨rfl, rfl, Below.refl _ _⟩
 case round =>
  obtain ⟨rfl, rfl, hbel⟩ := hrel
  have HB := Lib.hid hbel
  clear hbel
  go_wp2
  go_ret
  exact ⟨_, rfl, OwnV.nil _ _, HB.out⟩
theorem refKnown_v (l : List Vl) (hl : l.length ≤ 1000000) (v : Value) (w : World) (hv : Sl w v l) : Calls Tryz.prog 113 #[v] w (Knew w (Ag.kn l)) := by
 rcases hv with ⟨rfl, x, cap, rfl⟩ | ⟨h0, b, off, cap, rfl, hv⟩
 ·exact refKnown_zero x cap w
 ·exact refKnown_some l hl b off cap w hv
end
end Go.Proofs.YtljlanhpjpjgaaaGreatDoor
