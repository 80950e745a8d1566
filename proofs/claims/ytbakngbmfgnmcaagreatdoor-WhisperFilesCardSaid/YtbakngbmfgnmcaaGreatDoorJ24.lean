/- WsFi WsFiE -/
import Derived.Test.YtbakngbmfgnmcaaGreatDoorJ1
import Derived.Test.YtbakngbmfgnmcaaGreatDoorJ23
import Derived.Test.YtbakngbmfgnmcaaGreatDoorJ2
namespace Go.Proofs.YtbakngbmfgnmcaaGreatDoor
set_option maxRecDepth 100000
set_option maxHeartbeats 8000000
section
open Go.RowKit Go.Sort
open Fx (Vl)
open Me
open Wp
open Ws
theorem ps_bytes {w : World} {g : Nat} {A : Option Addr} {c : Nat} {L : List UInt8} (hc : L.length ≤ c) (hm : c ≤ maxLen) (h : Rd w (fun _ => True) A (by8 L)) (hg : RowAt w g 49 #[.slice A L.length c]) : Vf.Ps w (fun _ => True) (.slice (some ⟨g, 0, none⟩) 1 1) [L] := by
 refine ⟨some ⟨g, 0, none⟩, 1, [.slice A L.length c], rfl, Nat.le_refl _, by unfold maxLen; omega, fun _ => ⟨_, rfl, hg.lt, trivial, fun j u hu => ?_⟩, ⟨[.slice A L.length c], [], rfl, ⟨_, rfl, A, c, rfl, hc, hm, h⟩, rfl⟩⟩
 rw [Addr.add_lit, Nat.zero_add, hg.cell]
 simpa using hu
theorem Me.Rd.laid {w : World} {G : Nat → Prop} {A : Option Addr} {xs : List Value} (h : Rd w G A xs) : Rd w (fun b => b < w.heap.size) A xs := h.mono fun _ hl _ => hl
theorem files_main (bl : List UInt8) (A : Option Addr) (cap : Nat) (k now fr un ix : Int) (l : List (Int × Int)) (Ap : Option Addr) (capp : Nat) (w : World) (hg : Gv w) (hbc : bl.length ≤ cap) (hbm : cap ≤ maxLen) (hr : Rd w (fun _ => True) A (by8 bl)) (hp : Row w Ap l capp) (t1 : ¬ 3000 < (bl.length : Int)) (t2 : ¬ 10 < (l.length : Int)) :
 Calls Tryz.prog 4 #[.slice A bl.length cap, .agg #[.int .i64 k, .int .i64 now, .int .i64 fr, .int .i64 un, .int .i64 ix, .slice Ap l.length capp]] w fun e w' => e = .returned (.bool true) ∧ Below w.heap.size w w' := by
 obtain ⟨X, hX⟩ : ∃ X, X = w.alloc (.cells #[.int .i64 k, .int .i64 now, .int .i64 fr, .int .i64 un, .int .i64 ix, .slice Ap l.length capp] 40) := ⟨_, rfl⟩
 have hbX : Below w.heap.size w X := by rw [hX]; exact (Below.refl _ _).alloc (Nat.le_refl _) _
 obtain ⟨p, hpw⟩ : ∃ p, p = w.heap.size := ⟨_, rfl⟩
 have hrp : RowAt X p 40 #[.int .i64 k, .int .i64 now, .int .i64 fr, .int .i64 un, .int .i64 ix, .slice Ap l.length capp] := by rw [hX, hpw]; exact RowAt.new w _ _
 have HRP := Lib.hid hrp
 have HX := Lib.hid hbX
 have HGX : Hid (Gv X) := Lib.hid (hg.below hbX)
 have HBL : Hid (Rd X (fun b => b < X.heap.size) A (by8 bl)) := Lib.hid (hr.below hbX).laid
 have HPX : Hid (Row X Ap l capp) := Lib.hid (hp.below hbX)
 have y5 : X.cell? ⟨p, 5, none⟩ = some (.slice Ap l.length capp) := hrp.cell 5
 have hin : Vf.Inv 0 Kt.s0 := Vf.Inv.new (by decide) (by decide)
 obtain ⟨S', hS'⟩ : ∃ S', S' = (Vf.create Kt.s0 [97] [bl].flatten).1 := ⟨_, rfl⟩
 have hfl : [bl].flatten.length ≤ 3000 := by simp; omega
 have HN0 : Hid (Calls Tryz.prog 9 #[.int .i64 65536] X fun e w' => e = .returned (.tuple #[.pointer (some ⟨X.heap.size, 0, none⟩), .int .i64 0]) ∧ Hid (Kw X X.heap.size 0 Kt.s0 w')) := Lib.hid (Ws.new_any X)
 obtain ⟨fs, hfs⟩ : ∃ fs, fs = X.heap.size := ⟨_, rfl⟩
 rw [← hfs] at HN0
 have HN1 : Hid (∀ w1, Kw X fs 0 Kt.s0 w1 → Calls Tryz.prog 10 #[.int .i64 65536] w1 fun e w' => e = .returned (.tuple #[.pointer (some ⟨w1.heap.size, 0, none⟩), .int .i64 0]) ∧ Hid (Dx X fs w1.heap.size 0 0 Kt.s0 Kt.s0 (fun _ => False) w')) := Lib.hid fun w1 h => by
  refine (new_any 65536 w1 (by decide) (by decide)).mono ?_
  rintro e w' ⟨rfl, ha, hb⟩
  exact ⟨rfl, Lib.hid (dx_new h ⟨_, _, _, _, ha⟩ (Nat.le_refl _) hb hin)⟩
 have HFC : Hid (∀ xs W, Dx X fs xs 0 0 Kt.s0 Kt.s0 (fun _ => False) W → Calls Tryz.prog 19 #[.pointer (some ⟨fs, 0, none⟩), .string ⟨#[97]⟩, .slice (some ⟨W.heap.size, 0, none⟩) 1 1] (W.alloc (.cells #[.slice A bl.length cap] 49)) fun e w' => e = .returned (.int .i64 (Vf.create Kt.s0 [97] [bl].flatten).2) ∧ Hid (Dx X fs xs 1 0 S' Kt.s0 (fun _ => False) w')) := Lib.hid fun xs W h => by
  have hb : Below W.heap.size W (W.alloc (.cells #[.slice A bl.length cap] 49)) := (Below.refl _ _).alloc (Nat.le_refl _) _
  have h2 := h.below hb
  have hps := ps_bytes hbc hbm ((HBL.out.keep (h.base.trans (hb.mono h.base.size)).size (fun i hi _ => (h.base.trans (hb.mono h.base.size)).block i hi)).mono fun _ _ _ => trivial) (RowAt.new W #[.slice A bl.length cap] 49)
  refine (h2.prog (c1' := 1) (S1' := S') (P := fun e => e = .returned (.int .i64 (Vf.create Kt.s0 [97] [bl].flatten).2)) (fun V ro hV => by rw [hS']; exact pocreate ro (by omega) [97] [bl] _ (Wp.Ps.laid hps) (by simp) (by omega) (fun b hb => hb))).mono ?_
  rintro e w' ⟨rfl, h1, _⟩
  exact ⟨rfl, h1⟩
 have HXC : Hid (∀ xs W, Dx X fs xs 1 0 S' Kt.s0 (fun _ => False) W → Calls Tryz.prog 20 #[.pointer (some ⟨xs, 0, none⟩), .string ⟨#[97]⟩, .slice (some ⟨W.heap.size, 0, none⟩) 1 1] (W.alloc (.cells #[.slice A bl.length cap] 49)) fun e w' => e = .returned (.int .i64 (Vf.create Kt.s0 [97] [bl].flatten).2) ∧ Hid (Dx X fs xs 1 1 S' S' (fun _ => False) w')) := Lib.hid fun xs W h => by
  have hb : Below W.heap.size W (W.alloc (.cells #[.slice A bl.length cap] 49)) := (Below.refl _ _).alloc (Nat.le_refl _) _
  have h2 := h.below hb
  have hps := ps_bytes hbc hbm ((HBL.out.keep (h.base.trans (hb.mono h.base.size)).size (fun i hi _ => (h.base.trans (hb.mono h.base.size)).block i hi)).mono fun _ _ _ => trivial) (RowAt.new W #[.slice A bl.length cap] 49)
  refine (h2.doc (c2' := 1) (S2' := S') (P := fun e => e = .returned (.int .i64 (Vf.create Kt.s0 [97] [bl].flatten).2)) (fun V ro hV => by rw [hS']; exact rocreate ro (by omega) [97] [bl] _ hps (by simp) (by omega))).mono ?_
  rintro e w' ⟨rfl, h1, _⟩
  exact ⟨rfl, h1⟩
 generalize (Vf.create Kt.s0 [97] [bl].flatten).2 = ec at *
 clear hbX hrp hg hr hp hin hS' hfl
 generalize bl.length = bn at *
 generalize Kt.s0 = s0 at *
 go_enter Tryz.func4, Tryz.ntmps4
 go_wp2_with fail
 rw [← hX, ← hpw]
 clear hX hpw hfs
 have HI1 : Hid (∀ xs W, Dx X fs xs 1 1 S' S' (fun _ => False) W → Calls Tryz.prog 15 #[.pointer (some ⟨fs, 0, none⟩), .string ⟨#[97]⟩] W (Informed W (info S'.now [97]))) := Lib.hid fun xs W h => by obtain ⟨V, ro⟩ := h.po; exact info_any7 ro [97]
 have HI2 : Hid (∀ xs W, Dx X fs xs 1 1 S' S' (fun _ => False) W → Calls Tryz.prog 16 #[.pointer (some ⟨xs, 0, none⟩), .string ⟨#[97]⟩] W (Informed W (info S'.now [97]))) := Lib.hid fun xs W h => by obtain ⟨V, ro⟩ := h.ro; exact rinfo_any ro (by omega) [97]
 have hil := info_len S'.now [97]
 generalize info S'.now [97] = R at *
 obtain ⟨hd, ie⟩ := R
 go_wp2_with first
  | (go_at_call 9; (with_reducible refine (HN0.out).mono ?_); rintro e w1 ⟨rfl, h1⟩)
  | (go_at_call 10; (with_reducible refine (HN1.out w1 h1.out).mono ?_); rintro e w2 ⟨rfl, h2⟩)
  | (go_at_call 19; (with_reducible refine (HFC.out _ w2 h2.out).mono ?_); rintro e w3 ⟨rfl, h3⟩)
  | (go_at_call 20; (with_reducible refine (HXC.out _ w3 h3.out).mono ?_); rintro e w4 ⟨rfl, h4⟩)
  | (go_at_call 15; (with_reducible refine (HI1.out _ w4 h4.out).mono ?_); (rintro e w5 ⟨A1, c1, rfl, hrow1, hfr1, hb5⟩; have HB5 := Lib.hid hb5; have HR1 := Lib.hid hrow1; have HF1 := Lib.hid hfr1; clear hb5 hrow1 hfr1))
 obtain ⟨Y, hY⟩ : ∃ Y, Y = w5.alloc (.cells #[.int .i64 hd.ag, .int .i64 hd.xf, .slice A1 hd.l.length c1] 24) := ⟨_, rfl⟩
 obtain ⟨b1, hb1⟩ : ∃ b, b = w5.heap.size := ⟨_, rfl⟩
 have hbY : Below w4.heap.size w4 Y := by rw [hY]; exact HB5.out.alloc HB5.out.size _
 have hrY : RowAt Y b1 24 #[.int .i64 hd.ag, .int .i64 hd.xf, .slice A1 hd.l.length c1] := by rw [hY, hb1]; exact RowAt.new w5 _ _
 have hrow1 : Row Y A1 hd.l c1 := by rw [hY]; exact HR1.out.below ((Below.refl _ _).alloc (Nat.le_refl _) _)
 rw [← hY, ← hb1]
 have HBY := Lib.hid hbY
 have HRY := Lib.hid hrY
 have HROW1 := Lib.hid hrow1
 have HLB1 : Hid (w4.heap.size ≤ b1) := Lib.hid (by rw [hb1]; exact HB5.out.size)
 clear hY hb1 hbY hrY hrow1 HR1 HB5
 have HI2' := Lib.hid (HI2.out _ _ (h4.out.below HBY.out))
 have hAp : 0 < l.length → ∀ a, Ap = some a → a.block < X.heap.size := fun h0 a e => by
  obtain ⟨b, off, e2, ha⟩ := HPX.out.2 h0
  rw [e] at e2
  cases e2
  exact ha.lt
 have HAP := Lib.hid hAp
 clear hAp
 go_wp2_with first
  | (go_at_call 16; (with_reducible refine (HI2'.out).mono ?_); (rintro e w6 ⟨A2, c2, rfl, hrow2, hfr2, hb6⟩; have hbZ : Below Y.heap.size Y (w6.alloc (.cells #[.int .i64 hd.ag, .int .i64 hd.xf, .slice A2 hd.l.length c2] 24)) := hb6.alloc hb6.size _; have HBZ := Lib.hid hbZ; have hr6 := HRY.out.below hbZ HRY.out.lt; have x0 := hr6.cell 0; have x1 := hr6.cell 1; have x2 := hr6.cell 2; have HZ1 := Lib.hid (HROW1.out.below hbZ); have HZ2 := Lib.hid (hrow2.below ((Below.refl _ _).alloc (Nat.le_refl _) (.cells #[.int .i64 hd.ag, .int .i64 hd.xf, .slice A2 hd.l.length c2] 24))); have HRZ := Lib.hid hr6; have HDZ : Hid (Dx X fs w1.heap.size 1 1 S' S' (fun b => w4.heap.size ≤ b ∧ b < (w6.alloc (.cells #[.int .i64 hd.ag, .int .i64 hd.xf, .slice A2 hd.l.length c2] 24)).heap.size) (w6.alloc (.cells #[.int .i64 hd.ag, .int .i64 hd.xf, .slice A2 hd.l.length c2] 24))) := Lib.hid (h4.out.laid (HBY.out.trans (hbZ.mono HBY.out.size)) (fun i hi => .inr hi)); clear hb6 hrow2 hfr2 hbZ hr6))
  | (go_at_call 17; (with_reducible refine (headers_any7 hd.ag hd.xf hd.l A1 A2 c1 c2 (by omega) _ HZ1.out HZ2.out).mono ?_); (rintro e w7 ⟨rfl, hb7⟩; have hr7 := HRZ.out.below hb7 HRZ.out.lt; have x0' := hr7.cell 0; have x1' := hr7.cell 1; have x2' := hr7.cell 2; have HZ7 := Lib.hid (HZ1.out.below hb7); have HD7 := Lib.hid (HDZ.out.below hb7); have hrp7 := HRP.out.below HD7.out.base HRP.out.lt; have p0 := hrp7.cell 0; have p1 := hrp7.cell 1; have p2 := hrp7.cell 2; have p3 := hrp7.cell 3; have p4 := hrp7.cell 4; have p5 := hrp7.cell 5; have HA1 : Hid (0 < hd.l.length → ∀ a, A1 = some a → w4.heap.size ≤ a.block ∧ a.block < (w6.alloc (.cells #[.int .i64 hd.ag, .int .i64 hd.xf, .slice A2 hd.l.length c2] 24)).heap.size) := Lib.hid (fun h0 a e => ⟨HF1.out a e, (by obtain ⟨b, off, e2, ha⟩ := HZ1.out.2 h0; rw [e] at e2; cases e2; exact ha.lt)⟩); clear hb7 hr7 hrp7))
  | (go_at_call 13; (with_reducible refine (act_any7 HD7.out HGX.out hd A1 c1 HZ7.out (fun h0 a e => .inr (HA1.out h0 a e)) k now fr un ix l Ap capp (HPX.out.below HD7.out.base) (fun h0 a e => .inl (HAP.out h0 a e)) (by omega)).mono ?_); (rintro e w8 ⟨rfl, hd8⟩))
  | (go_at_call 14; (with_reducible refine (bytes_any7 hd8.out (by omega)).mono ?_); (rintro e w9 ⟨rfl, hd9⟩))
  | (go_at_call 18; (with_reducible refine (known7_any _ (HGX.out.below hd9.out.base)).mono ?_); (rintro e w10 ⟨rfl, hb10⟩))
 go_ret
 exact ⟨rfl, HX.out.trans ((hd9.out.base.trans (hb10.mono hd9.out.base.size)).mono HX.out.size)⟩
end
section
open Go.RowKit Go.Sort
open Me
open Wp
theorem lawFiles7 (bl : List UInt8) (A : Option Addr) (cap : Nat) (k now fr un ix : Int) (l : List (Int × Int)) (Ap : Option Addr) (capp : Nat) (w : World) (hg : Gv w) (hbc : bl.length ≤ cap) (hbm : cap ≤ maxLen) (hr : Rd w (fun _ => True) A (by8 bl)) (hp : Row w Ap l capp) :
 Calls Tryz.prog 4 #[.slice A bl.length cap, .agg #[.int .i64 k, .int .i64 now, .int .i64 fr, .int .i64 un, .int .i64 ix, .slice Ap l.length capp]] w fun e w' => e = .returned (.bool true) ∧ Below w.heap.size w w' := by
 by_cases t1 : 3000 < (bl.length : Int)
 ·clear hr hp hg
  generalize bl.length = bn at *
  generalize l.length = n at *
  go_enter Tryz.func4, Tryz.ntmps4
  go_wp2_with fail
  go_ret
  exact ⟨rfl, Bq⟩
 by_cases t2 : 10 < (l.length : Int)
 ·clear hr hp hg
  generalize bl.length = bn at *
  generalize l.length = n at *
  go_enter Tryz.func4, Tryz.ntmps4
  go_wp2_with fail
  go_ret
  exact ⟨rfl, Bq⟩
 exact files_main bl A cap k now fr un ix l Ap capp w hg hbc hbm hr hp t1 t2
end
end Go.Proofs.YtbakngbmfgnmcaaGreatDoor
