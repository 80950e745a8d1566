/- WsHv WsPl WsPlE WsPlOp -/
import Derived.Test.YtbakngbmfgnmcaaGreatDoorJ1
import Derived.Test.YtbakngbmfgnmcaaGreatDoorJ23
import Derived.RegionTactic
import Derived.Test.YtbakngbmfgnmcaaGreatDoorJ2
import Derived.Test.YtbakngbmfgnmcaaGreatDoorJ21
import Derived.Deep.RegionHeld3
namespace Go.Proofs.YtbakngbmfgnmcaaGreatDoor
set_option maxRecDepth 100000
set_option maxHeartbeats 8000000
section
open Go.RowKit Go.Sort
open Me
open Wp
open Ws
structure Wp.AD where
 k : Int
 now : Int
 fr : Int
 un : Int
 ix : Int
 l : List (Int × Int)
structure Wp.ActsAt (w : World) (b off : Nat) (m : List AD) : Prop where
 lt : b < w.heap.size
 at_ : ∀ i (h : i < m.length), ∃ Ap capp, w.cell? ⟨b, off + i * 6, none⟩ = some (.int .i64 m[i].k) ∧ w.cell? ⟨b, off + i * 6 + 1, none⟩ = some (.int .i64 m[i].now) ∧ w.cell? ⟨b, off + i * 6 + 2, none⟩ = some (.int .i64 m[i].fr) ∧ w.cell? ⟨b, off + i * 6 + 3, none⟩ = some (.int .i64 m[i].un) ∧ w.cell? ⟨b, off + i * 6 + 4, none⟩ = some (.int .i64 m[i].ix) ∧ w.cell? ⟨b, off + i * 6 + 5, none⟩ = some (.slice Ap m[i].l.length capp) ∧ Row w Ap m[i].l capp
def Wp.Acts (w : World) (A : Option Addr) (m : List AD) : Prop := 0 < m.length → ∃ b off, A = some ⟨b, off, none⟩ ∧ ActsAt w b off m
theorem Wp.ActsAt.below {w w' : World} {b off : Nat} {m : List AD} (h : ActsAt w b off m) (hb : Below w.heap.size w w') : ActsAt w' b off m := by
 refine ⟨Nat.lt_of_lt_of_le h.lt hb.size, fun i hi => ?_⟩
 obtain ⟨Ap, capp, c0, c1, c2, c3, c4, c5, hr⟩ := h.at_ i hi
 have key : ∀ o u, w.cell? ⟨b, o, none⟩ = some u → w'.cell? ⟨b, o, none⟩ = some u := fun o u e => (hb.cell (p := ⟨b, o, none⟩) h.lt).trans e
 exact ⟨Ap, capp, key _ _ c0, key _ _ c1, key _ _ c2, key _ _ c3, key _ _ c4, key _ _ c5, hr.below hb⟩
theorem Wp.Acts.below {w w' : World} {A : Option Addr} {m : List AD} (h : Acts w A m) (hb : Below w.heap.size w w') : Acts w' A m := fun h0 => by
 obtain ⟨b, off, e, ha⟩ := h h0
 exact ⟨b, off, e, ha.below hb⟩
def Wp.Weighed7 (m : List AD) (e : Ending) : Prop := ∃ r : Bool, e = .returned (.bool r) ∧ (r = false → ∀ i (h : i < m.length), i < 60 → m[i].l.length ≤ 30)
theorem heavy_any7 (m : List AD) (A : Option Addr) (c : Nat) (w : World) (h : Acts w A m) (hm : m.length ≤ maxLen) :
 Calls Tryz.prog 8 #[.slice A m.length c] w fun e w' => Weighed7 m e ∧ w' = w := by
 have HA := Lib.hid h
 have hml : (m.length : Int) ≤ 9223372036854775807 := by unfold maxLen at hm; omega
 clear h hm
 go_enter Tryz.func8, Tryz.ntmps8
 go_wp2_with fail
 go_loop [3, 4] (fun x y => ∃ (i : Nat) (s : Int), i ≤ m.length ∧ i ≤ 60 ∧ y = .int .i64 i ∧ x = .int .i64 s ∧ 0 ≤ s ∧ s ≤ 200 ∧ Hid (∀ j (h : j < m.length), j < i → m[j].l.length ≤ 30)) (fun _ y => m.length - (intOf y).toNat)
 case atStart => exact ⟨0, 0, Nat.zero_le _, by omega, rfl, rfl, by omega, by omega, Lib.hid fun j _ h => absurd h (by omega)⟩
 case round =>
  obtain ⟨i, s, hi, h60, rfl, rfl, hs0, hs1, HD⟩ := hrel
  by_cases hlt : i < m.length
  ·have hil : (i : Int) < (m.length : Int) := by omega
   have hi0 : (0 : Int) ≤ (i : Int) := by omega
   by_cases h6 : i < 60
   ·have h6' : (i : Int) < 60 := by omega
    obtain ⟨b, off, rfl, ha⟩ := HA.out (by omega)
    obtain ⟨Ap, capp, _, _, _, _, _, c5, hr⟩ := ha.at_ i hlt
    have HDn : Hid (m[i].l.length ≤ 30 → ∀ j (h : j < m.length), j < i + 1 → m[j].l.length ≤ 30) := Lib.hid fun hc j h hj => by
     by_cases e : j = i
     ·subst e; exact hc
     ·exact HD.out j h (by omega)
    clear ha hr
    generalize m[i].l.length = q at *
    by_cases hq : 30 < q
    ·have hq' : (30 : Int) < (q : Int) := by omega
     go_wp2_with fail
     go_ret
     exact ⟨⟨true, rfl, fun e => by cases e⟩, rfl⟩
    ·have hq' : ¬ (30 : Int) < (q : Int) := by omega
     by_cases hs : 200 < s + (q : Int)
     ·go_wp2_with fail
      go_ret
      exact ⟨⟨true, rfl, fun e => by cases e⟩, rfl⟩
     ·have HN := Lib.hid (HDn.out (by omega))
      go_wp2_with fail
      go_round
      case rel => exact ⟨i + 1, s + q, by omega, by omega, by go_num, rfl, by omega, by omega, HN⟩
      case measure => simp [intOf]; omega
   ·have h6' : ¬ (i : Int) < 60 := by omega
    go_wp2_with fail
    go_ret
    exact ⟨⟨false, rfl, fun _ j h hj => HD.out j h (by omega)⟩, rfl⟩
  ·obtain rfl : i = m.length := by omega
   go_wp2_with fail
   go_ret
   exact ⟨⟨false, rfl, fun _ j h hj => HD.out j h h⟩, rfl⟩
end
section
open Go.RowKit Go.Sort
open Fx (Vl)
open Me
open Wp
open Ws
theorem plays_new (Y : World) : Calls Tryz.prog 9 #[.int .i64 65536] Y fun e w' => e = .returned (.tuple #[.pointer (some ⟨Y.heap.size, 0, none⟩), .int .i64 0]) ∧ Hid (Kw Y Y.heap.size 0 Kt.s0 w') := Ws.new_any Y
theorem plays_new2 {Y w1 : World} {fs : Nat} (h : Kw Y fs 0 Kt.s0 w1) : Calls Tryz.prog 10 #[.int .i64 65536] w1 fun e w' => e = .returned (.tuple #[.pointer (some ⟨w1.heap.size, 0, none⟩), .int .i64 0]) ∧ Hid (Dx Y fs w1.heap.size 0 0 Kt.s0 Kt.s0 (fun _ => False) w') := by
 refine (new_any 65536 w1 (by decide) (by decide)).mono ?_
 rintro e w' ⟨rfl, ha, hb⟩
 exact ⟨rfl, Lib.hid (dx_new h ⟨_, _, _, _, ha⟩ (Nat.le_refl _) hb (Vf.Inv.new (by decide) (by decide)))⟩
theorem plays_cr1 {Y W : World} {fs xs c1 c2 : Nat} {S1 S2 : Vf.Sv} {Q : Nat → Prop} (h : Dx Y fs xs c1 c2 S1 S2 Q W) (hd : Hd) (A : Option Addr) (cap : Nat) (hrow : Row W A hd.l cap) (hc : c1 ≤ 490000 := by decide) :
 Calls Tryz.prog 11 #[.pointer (some ⟨fs, 0, none⟩), .string ⟨#[97]⟩, .agg #[.int .i64 hd.ag, .int .i64 hd.xf, .slice A hd.l.length cap]] W fun e w' => e = .returned (.int .i64 (create S1 [97] hd).2) ∧ Hid (Dx Y fs xs (c1 + 1) c2 (create S1 [97] hd).1 S2 Q w') := by
 refine (h.prog (c1' := c1 + 1) (S1' := (create S1 [97] hd).1) (P := fun e => e = .returned (.int .i64 (create S1 [97] hd).2)) (fun V ro hV => create_yes_any ro (by omega) [97] hd A cap hrow)).mono ?_
 rintro e w' ⟨rfl, h1, _⟩
 exact ⟨rfl, h1⟩
theorem plays_cr2 {Y W : World} {fs xs c1 c2 : Nat} {S1 S2 : Vf.Sv} {Q : Nat → Prop} (h : Dx Y fs xs c1 c2 S1 S2 Q W) (hd : Hd) (A : Option Addr) (cap : Nat) (hrow : Row W A hd.l cap) (hc : c2 ≤ 490000 := by decide) :
 Calls Tryz.prog 12 #[.pointer (some ⟨xs, 0, none⟩), .string ⟨#[97]⟩, .agg #[.int .i64 hd.ag, .int .i64 hd.xf, .slice A hd.l.length cap]] W fun e w' => e = .returned (.int .i64 (create S2 [97] hd).2) ∧ Hid (Dx Y fs xs c1 (c2 + 1) S1 (create S2 [97] hd).1 Q w') := by
 refine (h.doc (c2' := c2 + 1) (S2' := (create S2 [97] hd).1) (P := fun e => e = .returned (.int .i64 (create S2 [97] hd).2)) (fun V ro hV => rcreate_any ro (by omega) [97] hd A cap hrow)).mono ?_
 rintro e w' ⟨rfl, h1, _⟩
 exact ⟨rfl, h1⟩
theorem plays_main (hd : Hd) (A : Option Addr) (cap : Nat) (m : List AD) (A2 : Option Addr) (c2 : Nat) (w : World) (hg : Gv w) (hr : Row w A hd.l cap) (ha : Acts w A2 m) (hm : m.length ≤ maxLen) (t1 : (hd.val && !(hd.val && decide (hd.size ≤ 3000))) = false) (t2 : ¬ 20 < (hd.l.length : Int)) :
 Calls Tryz.prog 3 #[.agg #[.int .i64 hd.ag, .int .i64 hd.xf, .slice A hd.l.length cap], .slice A2 m.length c2] w fun e w' => e = .returned (.bool true) ∧ Below w.heap.size w w' := by
 obtain ⟨X, hX⟩ : ∃ X, X = w.alloc (.cells #[.int .i64 hd.ag, .int .i64 hd.xf, .slice A hd.l.length cap] 24) := ⟨_, rfl⟩
 have hbX : Below w.heap.size w X := by rw [hX]; exact (Below.refl _ _).alloc (Nat.le_refl _) _
 obtain ⟨p, hpw⟩ : ∃ p, p = w.heap.size := ⟨_, rfl⟩
 have hrp : RowAt X p 24 #[.int .i64 hd.ag, .int .i64 hd.xf, .slice A hd.l.length cap] := by rw [hX, hpw]; exact RowAt.new w _ _
 have HX := Lib.hid hbX
 have HRX := Lib.hid hrp
 have HGX : Hid (∀ W, Below X.heap.size X W → Gv W) := Lib.hid fun W hb => (hg.below hbX).below hb
 have HROW : Hid (∀ W, Below X.heap.size X W → Row W A hd.l cap) := Lib.hid fun W hb => (hr.below hbX).below hb
 have HACT : Hid (∀ W, Below X.heap.size X W → Acts W A2 m) := Lib.hid fun W hb => (ha.below hbX).below hb
 have HMAY : Hid (Calls Tryz.prog 6 #[.agg #[.int .i64 hd.ag, .int .i64 hd.xf, .slice A hd.l.length cap]] X fun e w' => e = .returned (.bool hd.val) ∧ Below X.heap.size X w') := Lib.hid (may_any hd.ag hd.xf hd.l A cap X (hr.below hbX))
 have HSM : Hid (∀ W, Below X.heap.size X W → Calls Tryz.prog 7 #[.agg #[.int .i64 hd.ag, .int .i64 hd.xf, .slice A hd.l.length cap]] W fun e w' => e = .returned (.bool (hd.val && decide (hd.size ≤ 3000))) ∧ Below W.heap.size W w') := Lib.hid fun W hb => small_any hd.ag hd.xf hd.l A cap W ((hr.below hbX).below hb)
 have HHV : Hid (∀ W, Below X.heap.size X W → Calls Tryz.prog 8 #[.slice A2 m.length c2] W fun e w' => Weighed7 m e ∧ w' = W) := Lib.hid fun W hb => heavy_any7 m A2 c2 W ((ha.below hbX).below hb) hm
 have hml : (m.length : Int) ≤ 9223372036854775807 := by unfold maxLen at hm; omega
 have y0 := hrp.cell 0
 have y1 := hrp.cell 1
 have y2 := hrp.cell 2
 change X.cell? ⟨p, 0, none⟩ = some (.int .i64 hd.ag) at y0
 change X.cell? ⟨p, 1, none⟩ = some (.int .i64 hd.xf) at y1
 change X.cell? ⟨p, 2, none⟩ = some (.slice A hd.l.length cap) at y2
 clear hbX hrp hg hr ha hm
 have HT1 := Lib.hid t1
 clear t1
 have t2b : decide (20 < (hd.l.length : Int)) = false := decide_eq_false t2
 cases hv : hd.val
 ·rw [hv] at HMAY
  go_enter Tryz.func3, Tryz.ntmps3
  go_wp2_with fail
  rw [← hX, ← hpw]
  clear hX hpw
  go_wp2_with first
   | (go_at_call 6; (with_reducible refine (HMAY.out).mono ?_); (rintro e Y ⟨rfl, hb1⟩; have hr1 := HRX.out.below hb1 HRX.out.lt; have z0 := hr1.cell 0; have z1 := hr1.cell 1; have z2 := hr1.cell 2; have HBY := Lib.hid hb1; clear hb1 hr1))
   | (go_at_call 8; (with_reducible refine (HHV.out _ HBY.out).mono ?_); (rintro e w2 ⟨⟨r, rfl, hr⟩, hw⟩; obtain rfl : Y = w2 := hw.symm; have HR := Lib.hid hr; clear hr))
  all_goals try (go_ret; exact ⟨rfl, HX.out.trans (HBY.out.mono HX.out.size)⟩)
  have HLM := Lib.hid (HR.out (by assumption))
  have HN0 := Lib.hid (plays_new Y)
  obtain ⟨fs, hfs⟩ : ∃ fs, fs = Y.heap.size := ⟨_, rfl⟩
  rw [← hfs] at HN0
  have HCELL : Hid (∀ W, Below Y.heap.size Y W → W.cell? ⟨p, 0, none⟩ = some (.int .i64 hd.ag) ∧ W.cell? ⟨p, 1, none⟩ = some (.int .i64 hd.xf) ∧ W.cell? ⟨p, 2, none⟩ = some (.slice A hd.l.length cap)) := Lib.hid fun W hb => by
   have h1 := HRX.out.below (HBY.out.trans (hb.mono HBY.out.size)) HRX.out.lt
   exact ⟨h1.cell 0, h1.cell 1, h1.cell 2⟩
  have HROWY : Hid (∀ W, Below Y.heap.size Y W → Row W A hd.l cap) := Lib.hid fun W hb => HROW.out W (HBY.out.trans (hb.mono HBY.out.size))
  have HN1 : Hid (∀ w1, Kw Y fs 0 Kt.s0 w1 → Calls Tryz.prog 10 #[.int .i64 65536] w1 fun e w' => e = .returned (.tuple #[.pointer (some ⟨w1.heap.size, 0, none⟩), .int .i64 0]) ∧ Hid (Dx Y fs w1.heap.size 0 0 Kt.s0 Kt.s0 (fun _ => False) w')) := Lib.hid fun w1 h => plays_new2 h
  obtain ⟨S1, hS1⟩ : ∃ S1, S1 = (create Kt.s0 [97] hd).1 := ⟨_, rfl⟩
  obtain ⟨ec, hec⟩ : ∃ ec, ec = (create Kt.s0 [97] hd).2 := ⟨_, rfl⟩
  have HC1 : Hid (∀ xs W, Dx Y fs xs 0 0 Kt.s0 Kt.s0 (fun _ => False) W → Calls Tryz.prog 11 #[.pointer (some ⟨fs, 0, none⟩), .string ⟨#[97]⟩, .agg #[.int .i64 hd.ag, .int .i64 hd.xf, .slice A hd.l.length cap]] W fun e w' => e = .returned (.int .i64 ec) ∧ Hid (Dx Y fs xs 1 0 S1 Kt.s0 (fun _ => False) w')) := Lib.hid fun xs W h => by rw [hS1, hec]; exact plays_cr1 h hd A cap (HROWY.out W h.base)
  have HC2 : Hid (∀ xs W, Dx Y fs xs 1 0 S1 Kt.s0 (fun _ => False) W → Calls Tryz.prog 12 #[.pointer (some ⟨xs, 0, none⟩), .string ⟨#[97]⟩, .agg #[.int .i64 hd.ag, .int .i64 hd.xf, .slice A hd.l.length cap]] W fun e w' => e = .returned (.int .i64 ec) ∧ Hid (Dx Y fs xs 1 1 S1 S1 (fun _ => False) w')) := Lib.hid fun xs W h => by rw [hec]; rw [hS1] at h ⊢; exact plays_cr2 h hd A cap (HROWY.out W h.base)
  clear hfs hS1 hec HMAY HSM HHV HR
  generalize Kt.s0 = s0 at *
  go_wp2_with first
   | (go_at_call 9; (with_reducible refine (HN0.out).mono ?_); rintro e w1 ⟨rfl, h1⟩)
   | (go_at_call 10; (with_reducible refine (HN1.out w1 h1.out).mono ?_); rintro e w2 ⟨rfl, h2⟩)
  obtain ⟨b0, b1, b2⟩ := HCELL.out _ h2.out.base
  obtain ⟨xs, hxs⟩ : ∃ xs, xs = w1.heap.size := ⟨_, rfl⟩
  rw [← hxs] at h2 ⊢
  clear hxs
  have HD2 : Hid (Dx Y fs xs 0 0 s0 s0 (fun _ => False) w2.drew) := Lib.hid (h2.out.below (Below.refl _ _).drew)
  go_region_held3 (fun w' => w'.cell? ⟨p, 0, none⟩ = some (.int .i64 hd.ag) ∧ w'.cell? ⟨p, 1, none⟩ = some (.int .i64 hd.xf) ∧ w'.cell? ⟨p, 2, none⟩ = some (.slice A hd.l.length cap)) (first | exact ⟨b0, b1, b2⟩ | exact ⟨f0, f1, f2⟩ | exact ⟨d0, d1, d2⟩ | go_keep) (first
   | (go_at_call 11; (with_reducible refine (HC1.out _ _ HD2.out).mono ?_); rintro e w3 ⟨rfl, hd1⟩; obtain ⟨d0, d1, d2⟩ := HCELL.out _ hd1.out.base; have HD3 := Lib.hid hd1.out; clear hd1)
   | (go_at_call 12; (with_reducible refine (HC2.out _ w3 HD3.out).mono ?_); rintro e w4 ⟨rfl, hd2⟩; obtain ⟨f0, f1, f2⟩ := HCELL.out _ hd2.out.base; have HD4 := Lib.hid hd2.out; clear hd2))
  all_goals
   have HRA : Hid (0 < hd.l.length → ∀ a, A = some a → a.block < Y.heap.size) := Lib.hid fun h0 a e => by
    obtain ⟨b, off, e2, ha⟩ := (HROWY.out Y (Below.refl _ _)).2 h0
    rw [e] at e2
    cases e2
    exact ha.lt
   have HGY : Hid (∀ W, Below Y.heap.size Y W → Gv W) := Lib.hid fun W hb => HGX.out W (HBY.out.trans (hb.mono HBY.out.size))
   have HAY := Lib.hid (HACT.out Y HBY.out)
   clear h1 h2 HN0 HN1 HC1 HC2 HD2 HD3 b0 b1 b2 d0 d1 d2 f0 f1 f2 y0 y1 y2
   go_wp2_with fail
   go_loopw [9] (fun x wr => ∃ (j c : Nat) (S : Vf.Sv), j ≤ m.length ∧ j ≤ 60 ∧ x = .int .i64 j ∧ c ≤ 1 + 811 * j ∧ Hid (Dx Y fs xs c c S S (fun _ => False) wr)) (fun x _ => m.length - (intOf x).toNat)
   case atStart => exact ⟨0, 1, S1, Nat.zero_le _, by omega, rfl, by omega, HD4⟩
   case round =>
    obtain ⟨j, c, S, hj, h60, rfl, hc, HDr⟩ := hrel
    obtain ⟨b0, b1, b2⟩ := HCELL.out _ HDr.out.base
    by_cases hlt : j < m.length ∧ j < 60
    ·obtain ⟨hl1, hl2⟩ := hlt
     obtain ⟨bA, off, rfl, haY⟩ := HAY.out (by omega)
     obtain ⟨Ap, capp, g0, g1, g2, g3, g4, g5, hrp⟩ := haY.at_ j hl1
     have hbA := haY.lt
     have hal := HLM.out j hl1 hl2
     have HAP : Hid (0 < m[j].l.length → ∀ a, Ap = some a → a.block < Y.heap.size) := Lib.hid fun h0 a e => by
      obtain ⟨b, off, e2, ha⟩ := hrp.2 h0
      rw [e] at e2
      cases e2
      exact ha.lt
     have HPR : Hid (∀ W, Below Y.heap.size Y W → Row W Ap m[j].l capp) := Lib.hid fun W hb => hrp.below hb
     generalize m[j].k = ak at *
     generalize m[j].now = an at *
     generalize m[j].fr = af at *
     generalize m[j].un = au at *
     generalize m[j].ix = ai at *
     generalize m[j].l = al at *
     have HCA : Hid (∀ W, Below Y.heap.size Y W → W.cell? ⟨bA, off + j * 6, none⟩ = some (.int .i64 ak) ∧ W.cell? ⟨bA, off + j * 6 + 1, none⟩ = some (.int .i64 an) ∧ W.cell? ⟨bA, off + j * 6 + 2, none⟩ = some (.int .i64 af) ∧ W.cell? ⟨bA, off + j * 6 + 3, none⟩ = some (.int .i64 au) ∧ W.cell? ⟨bA, off + j * 6 + 4, none⟩ = some (.int .i64 ai) ∧ W.cell? ⟨bA, off + j * 6 + 5, none⟩ = some (.slice Ap al.length capp)) := Lib.hid fun W hb => by
      have key : ∀ o u, Y.cell? ⟨bA, o, none⟩ = some u → W.cell? ⟨bA, o, none⟩ = some u := fun o u e => (hb.cell (p := ⟨bA, o, none⟩) hbA).trans e
      exact ⟨key _ _ g0, key _ _ g1, key _ _ g2, key _ _ g3, key _ _ g4, key _ _ g5⟩
     clear g0 g1 g2 g3 g4 g5 hrp haY
     obtain ⟨g0, g1, g2, g3, g4, g5⟩ := HCA.out _ HDr.out.base
     have hil : (j : Int) < (m.length : Int) := by omega
     have hi0 : (0 : Int) ≤ (j : Int) := by omega
     have hi6 : (j : Int) < 60 := by omega
     have HDd : Hid (Dx Y fs xs c c S S (fun _ => False) wr.drew) := Lib.hid (HDr.out.below (Below.refl _ _).drew)
     have HAC := Lib.hid (act_any7 HDd.out (HGY.out _ (Below.refl _ _)) hd A cap (HROWY.out _ HDd.out.base) (fun h0 a e => .inl (HRA.out h0 a e)) ak an af au ai al Ap capp (HPR.out _ HDd.out.base) (fun h0 a e => .inl (HAP.out h0 a e)) (by omega))
     generalize actS S hd ak an al = S' at *
     have HBYT : Hid (∀ W, Dx Y fs xs (c + 27 * al.length + 1) (c + 27 * al.length + 1) S' S' (fun _ => False) W → Calls Tryz.prog 14 #[.pointer (some ⟨fs, 0, none⟩), .pointer (some ⟨xs, 0, none⟩)] W fun e w' => e = .returned (.bool true) ∧ Hid (Dx Y fs xs (c + 27 * al.length + 1) (c + 27 * al.length + 1) S' S' (fun _ => False) w')) := Lib.hid fun W h => bytes_any7 h (by omega)
     go_wp2_with fail
     go_region_held3 (fun w' => w'.cell? ⟨p, 0, none⟩ = some (.int .i64 hd.ag) ∧ w'.cell? ⟨p, 1, none⟩ = some (.int .i64 hd.xf) ∧ w'.cell? ⟨p, 2, none⟩ = some (.slice A hd.l.length cap) ∧ w'.cell? ⟨bA, off + j * 6, none⟩ = some (.int .i64 ak) ∧ w'.cell? ⟨bA, off + j * 6 + 1, none⟩ = some (.int .i64 an) ∧ w'.cell? ⟨bA, off + j * 6 + 2, none⟩ = some (.int .i64 af) ∧ w'.cell? ⟨bA, off + j * 6 + 3, none⟩ = some (.int .i64 au) ∧ w'.cell? ⟨bA, off + j * 6 + 4, none⟩ = some (.int .i64 ai) ∧ w'.cell? ⟨bA, off + j * 6 + 5, none⟩ = some (.slice Ap al.length capp)) (first | exact ⟨b0, b1, b2, g0, g1, g2, g3, g4, g5⟩ | exact ⟨f0, f1, f2, f3, f4, f5, f6, f7, f8⟩ | exact ⟨d0, d1, d2, d3, d4, d5, d6, d7, d8⟩ | go_keep) (first
      | (go_at_call 13; (with_reducible refine (HAC.out).mono ?_); rintro e w5 ⟨rfl, hd5⟩; obtain ⟨d0, d1, d2⟩ := HCELL.out _ hd5.out.base; obtain ⟨d3, d4, d5, d6, d7, d8⟩ := HCA.out _ hd5.out.base; have HD5 := Lib.hid hd5.out; clear hd5)
      | (go_at_call 14; (with_reducible refine (HBYT.out _ HD5.out).mono ?_); rintro e w6 ⟨rfl, hd6⟩; obtain ⟨f0, f1, f2⟩ := HCELL.out _ hd6.out.base; obtain ⟨f3, f4, f5, f6, f7, f8⟩ := HCA.out _ hd6.out.base; have HD6 := Lib.hid hd6.out; clear hd6))
     all_goals
      go_wp2_with fail
      go_roundw
      case rel => exact ⟨j + 1, c + 27 * al.length + 1, S', by omega, by omega, by go_num, by omega, HD6⟩
      case measure => simp [intOf]; omega
    ·by_cases hA : j < m.length
     ·have hB : ¬ ((j : Int) < 60) := by omega
      have hil : (j : Int) < (m.length : Int) := by omega
      have hlen := info_len S.now [97]
      have HI1 : Hid (∀ W, Dx Y fs xs c c S S (fun _ => False) W → Calls Tryz.prog 15 #[.pointer (some ⟨fs, 0, none⟩), .string ⟨#[97]⟩] W (Informed W (info S.now [97]))) := Lib.hid fun W h => by obtain ⟨V, ro⟩ := h.po; exact info_any7 ro [97]
      have HI2 : Hid (∀ W, Dx Y fs xs c c S S (fun _ => False) W → Calls Tryz.prog 16 #[.pointer (some ⟨xs, 0, none⟩), .string ⟨#[97]⟩] W (Informed W (info S.now [97]))) := Lib.hid fun W h => by obtain ⟨V, ro⟩ := h.ro; exact rinfo_any ro (by omega) [97]
      generalize info S.now [97] = R at *
      obtain ⟨hi, ie⟩ := R
      go_wp2_with first
       | (go_at_call 15; (with_reducible refine (HI1.out _ HDr.out).mono ?_); (rintro e w5 ⟨A1, c1, rfl, hrow1, hfr1, hb5⟩; have HB5 := Lib.hid hb5; have HR1 := Lib.hid hrow1; clear hb5 hrow1 hfr1))
      obtain ⟨Z, hZ⟩ : ∃ Z, Z = w5.alloc (.cells #[.int .i64 hi.ag, .int .i64 hi.xf, .slice A1 hi.l.length c1] 24) := ⟨_, rfl⟩
      obtain ⟨b1', hb1⟩ : ∃ b, b = w5.heap.size := ⟨_, rfl⟩
      have hbZ : Below wr.heap.size wr Z := by rw [hZ]; exact HB5.out.alloc HB5.out.size _
      have hrZ : RowAt Z b1' 24 #[.int .i64 hi.ag, .int .i64 hi.xf, .slice A1 hi.l.length c1] := by rw [hZ, hb1]; exact RowAt.new w5 _ _
      have hrow1 : Row Z A1 hi.l c1 := by rw [hZ]; exact HR1.out.below ((Below.refl _ _).alloc (Nat.le_refl _) _)
      rw [← hZ, ← hb1]
      have HBZ := Lib.hid hbZ
      have HRZ := Lib.hid hrZ
      have HROW1 := Lib.hid hrow1
      clear hZ hb1 hbZ hrZ hrow1 HR1 HB5
      have HI2' := Lib.hid (HI2.out _ (HDr.out.below HBZ.out))
      go_wp2_with first
       | (go_at_call 16; (with_reducible refine (HI2'.out).mono ?_); (rintro e w6 ⟨A2', c2', rfl, hrow2, hfr2, hb6⟩; have hbV : Below Z.heap.size Z (w6.alloc (.cells #[.int .i64 hi.ag, .int .i64 hi.xf, .slice A2' hi.l.length c2'] 24)) := hb6.alloc hb6.size _; have HBV := Lib.hid hbV; have hr6 := HRZ.out.below hbV HRZ.out.lt; have x0 := hr6.cell 0; have x1 := hr6.cell 1; have x2 := hr6.cell 2; have HZ1 := Lib.hid (HROW1.out.below hbV); have HZ2 := Lib.hid (hrow2.below ((Below.refl _ _).alloc (Nat.le_refl _) (.cells #[.int .i64 hi.ag, .int .i64 hi.xf, .slice A2' hi.l.length c2'] 24))); have HRV := Lib.hid hr6; have HV : Hid (Below Y.heap.size Y (w6.alloc (.cells #[.int .i64 hi.ag, .int .i64 hi.xf, .slice A2' hi.l.length c2'] 24))) := Lib.hid (HDr.out.base.trans ((HBZ.out.trans (hbV.mono HBZ.out.size)).mono HDr.out.base.size)); clear hb6 hrow2 hfr2 hbV hr6))
       | (go_at_call 17; (with_reducible refine (headers_any7 hi.ag hi.xf hi.l A1 A2' c1 c2' (by omega) _ HZ1.out HZ2.out).mono ?_); (rintro e w7 ⟨rfl, hb7⟩; have HV7 := Lib.hid (HV.out.trans (hb7.mono HV.out.size)); clear hb7))
       | (go_at_call 18; (with_reducible refine (known7_any _ (HGY.out _ HV7.out)).mono ?_); (rintro e w10 ⟨rfl, hb10⟩))
      go_ret
      exact ⟨rfl, HX.out.trans ((HBY.out.trans ((HV7.out.trans (hb10.mono HV7.out.size)).mono HBY.out.size)).mono HX.out.size)⟩
     ·obtain rfl : j = m.length := by omega
      have hil : ¬ ((m.length : Int) < (m.length : Int)) := by omega
      have hlen := info_len S.now [97]
      have HI1 : Hid (∀ W, Dx Y fs xs c c S S (fun _ => False) W → Calls Tryz.prog 15 #[.pointer (some ⟨fs, 0, none⟩), .string ⟨#[97]⟩] W (Informed W (info S.now [97]))) := Lib.hid fun W h => by obtain ⟨V, ro⟩ := h.po; exact info_any7 ro [97]
      have HI2 : Hid (∀ W, Dx Y fs xs c c S S (fun _ => False) W → Calls Tryz.prog 16 #[.pointer (some ⟨xs, 0, none⟩), .string ⟨#[97]⟩] W (Informed W (info S.now [97]))) := Lib.hid fun W h => by obtain ⟨V, ro⟩ := h.ro; exact rinfo_any ro (by omega) [97]
      generalize info S.now [97] = R at *
      obtain ⟨hi, ie⟩ := R
      go_wp2_with first
       | (go_at_call 15; (with_reducible refine (HI1.out _ HDr.out).mono ?_); (rintro e w5 ⟨A1, c1, rfl, hrow1, hfr1, hb5⟩; have HB5 := Lib.hid hb5; have HR1 := Lib.hid hrow1; clear hb5 hrow1 hfr1))
      obtain ⟨Z, hZ⟩ : ∃ Z, Z = w5.alloc (.cells #[.int .i64 hi.ag, .int .i64 hi.xf, .slice A1 hi.l.length c1] 24) := ⟨_, rfl⟩
      obtain ⟨b1', hb1⟩ : ∃ b, b = w5.heap.size := ⟨_, rfl⟩
      have hbZ : Below wr.heap.size wr Z := by rw [hZ]; exact HB5.out.alloc HB5.out.size _
      have hrZ : RowAt Z b1' 24 #[.int .i64 hi.ag, .int .i64 hi.xf, .slice A1 hi.l.length c1] := by rw [hZ, hb1]; exact RowAt.new w5 _ _
      have hrow1 : Row Z A1 hi.l c1 := by rw [hZ]; exact HR1.out.below ((Below.refl _ _).alloc (Nat.le_refl _) _)
      rw [← hZ, ← hb1]
      have HBZ := Lib.hid hbZ
      have HRZ := Lib.hid hrZ
      have HROW1 := Lib.hid hrow1
      clear hZ hb1 hbZ hrZ hrow1 HR1 HB5
      have HI2' := Lib.hid (HI2.out _ (HDr.out.below HBZ.out))
      go_wp2_with first
       | (go_at_call 16; (with_reducible refine (HI2'.out).mono ?_); (rintro e w6 ⟨A2', c2', rfl, hrow2, hfr2, hb6⟩; have hbV : Below Z.heap.size Z (w6.alloc (.cells #[.int .i64 hi.ag, .int .i64 hi.xf, .slice A2' hi.l.length c2'] 24)) := hb6.alloc hb6.size _; have HBV := Lib.hid hbV; have hr6 := HRZ.out.below hbV HRZ.out.lt; have x0 := hr6.cell 0; have x1 := hr6.cell 1; have x2 := hr6.cell 2; have HZ1 := Lib.hid (HROW1.out.below hbV); have HZ2 := Lib.hid (hrow2.below ((Below.refl _ _).alloc (Nat.le_refl _) (.cells #[.int .i64 hi.ag, .int .i64 hi.xf, .slice A2' hi.l.length c2'] 24))); have HRV := Lib.hid hr6; have HV : Hid (Below Y.heap.size Y (w6.alloc (.cells #[.int .i64 hi.ag, .int .i64 hi.xf, .slice A2' hi.l.length c2'] 24))) := Lib.hid (HDr.out.base.trans ((HBZ.out.trans (hbV.mono HBZ.out.size)).mono HDr.out.base.size)); clear hb6 hrow2 hfr2 hbV hr6))
       | (go_at_call 17; (with_reducible refine (headers_any7 hi.ag hi.xf hi.l A1 A2' c1 c2' (by omega) _ HZ1.out HZ2.out).mono ?_); (rintro e w7 ⟨rfl, hb7⟩; have HV7 := Lib.hid (HV.out.trans (hb7.mono HV.out.size)); clear hb7))
       | (go_at_call 18; (with_reducible refine (known7_any _ (HGY.out _ HV7.out)).mono ?_); (rintro e w10 ⟨rfl, hb10⟩))
      go_ret
      exact ⟨rfl, HX.out.trans ((HBY.out.trans ((HV7.out.trans (hb10.mono HV7.out.size)).mono HBY.out.size)).mono HX.out.size)⟩
 ·rw [hv] at HMAY
  have hs : (hd.val && decide (hd.size ≤ 3000)) = true := by
   have := HT1.out
   rw [hv] at this ⊢
   simpa using this
  rw [hs] at HSM
  clear hs
  go_enter Tryz.func3, Tryz.ntmps3
  go_wp2_with fail
  rw [← hX, ← hpw]
  clear hX hpw
  go_wp2_with first
   | (go_at_call 6; (with_reducible refine (HMAY.out).mono ?_); (rintro e w1 ⟨rfl, hb1⟩; have hr1 := HRX.out.below hb1 HRX.out.lt; have v0 := hr1.cell 0; have v1 := hr1.cell 1; have v2 := hr1.cell 2; have HB1 := Lib.hid hb1; clear hb1 hr1))
   | (go_at_call 7; (with_reducible refine (HSM.out _ HB1.out).mono ?_); (rintro e Y ⟨rfl, hb2⟩; have hb1 := HB1.out.trans (hb2.mono HB1.out.size); have hr1 := HRX.out.below hb1 HRX.out.lt; have z0 := hr1.cell 0; have z1 := hr1.cell 1; have z2 := hr1.cell 2; have HBY := Lib.hid hb1; clear hb1 hb2 hr1))
   | (go_at_call 8; (with_reducible refine (HHV.out _ HBY.out).mono ?_); (rintro e w2 ⟨⟨r, rfl, hr⟩, hw⟩; obtain rfl : Y = w2 := hw.symm; have HR := Lib.hid hr; clear hr))
  all_goals try (go_ret; exact ⟨rfl, HX.out.trans (HBY.out.mono HX.out.size)⟩)
  have HLM := Lib.hid (HR.out (by assumption))
  have HN0 := Lib.hid (plays_new Y)
  obtain ⟨fs, hfs⟩ : ∃ fs, fs = Y.heap.size := ⟨_, rfl⟩
  rw [← hfs] at HN0
  have HCELL : Hid (∀ W, Below Y.heap.size Y W → W.cell? ⟨p, 0, none⟩ = some (.int .i64 hd.ag) ∧ W.cell? ⟨p, 1, none⟩ = some (.int .i64 hd.xf) ∧ W.cell? ⟨p, 2, none⟩ = some (.slice A hd.l.length cap)) := Lib.hid fun W hb => by
   have h1 := HRX.out.below (HBY.out.trans (hb.mono HBY.out.size)) HRX.out.lt
   exact ⟨h1.cell 0, h1.cell 1, h1.cell 2⟩
  have HROWY : Hid (∀ W, Below Y.heap.size Y W → Row W A hd.l cap) := Lib.hid fun W hb => HROW.out W (HBY.out.trans (hb.mono HBY.out.size))
  have HN1 : Hid (∀ w1, Kw Y fs 0 Kt.s0 w1 → Calls Tryz.prog 10 #[.int .i64 65536] w1 fun e w' => e = .returned (.tuple #[.pointer (some ⟨w1.heap.size, 0, none⟩), .int .i64 0]) ∧ Hid (Dx Y fs w1.heap.size 0 0 Kt.s0 Kt.s0 (fun _ => False) w')) := Lib.hid fun w1 h => plays_new2 h
  obtain ⟨S1, hS1⟩ : ∃ S1, S1 = (create Kt.s0 [97] hd).1 := ⟨_, rfl⟩
  obtain ⟨ec, hec⟩ : ∃ ec, ec = (create Kt.s0 [97] hd).2 := ⟨_, rfl⟩
  have HC1 : Hid (∀ xs W, Dx Y fs xs 0 0 Kt.s0 Kt.s0 (fun _ => False) W → Calls Tryz.prog 11 #[.pointer (some ⟨fs, 0, none⟩), .string ⟨#[97]⟩, .agg #[.int .i64 hd.ag, .int .i64 hd.xf, .slice A hd.l.length cap]] W fun e w' => e = .returned (.int .i64 ec) ∧ Hid (Dx Y fs xs 1 0 S1 Kt.s0 (fun _ => False) w')) := Lib.hid fun xs W h => by rw [hS1, hec]; exact plays_cr1 h hd A cap (HROWY.out W h.base)
  have HC2 : Hid (∀ xs W, Dx Y fs xs 1 0 S1 Kt.s0 (fun _ => False) W → Calls Tryz.prog 12 #[.pointer (some ⟨xs, 0, none⟩), .string ⟨#[97]⟩, .agg #[.int .i64 hd.ag, .int .i64 hd.xf, .slice A hd.l.length cap]] W fun e w' => e = .returned (.int .i64 ec) ∧ Hid (Dx Y fs xs 1 1 S1 S1 (fun _ => False) w')) := Lib.hid fun xs W h => by rw [hec]; rw [hS1] at h ⊢; exact plays_cr2 h hd A cap (HROWY.out W h.base)
  clear hfs hS1 hec HMAY HSM HHV HR
  generalize Kt.s0 = s0 at *
  go_wp2_with first
   | (go_at_call 9; (with_reducible refine (HN0.out).mono ?_); rintro e w1 ⟨rfl, h1⟩)
   | (go_at_call 10; (with_reducible refine (HN1.out w1 h1.out).mono ?_); rintro e w2 ⟨rfl, h2⟩)
  obtain ⟨b0, b1, b2⟩ := HCELL.out _ h2.out.base
  obtain ⟨xs, hxs⟩ : ∃ xs, xs = w1.heap.size := ⟨_, rfl⟩
  rw [← hxs] at h2 ⊢
  clear hxs
  have HD2 : Hid (Dx Y fs xs 0 0 s0 s0 (fun _ => False) w2.drew) := Lib.hid (h2.out.below (Below.refl _ _).drew)
  go_region_held3 (fun w' => w'.cell? ⟨p, 0, none⟩ = some (.int .i64 hd.ag) ∧ w'.cell? ⟨p, 1, none⟩ = some (.int .i64 hd.xf) ∧ w'.cell? ⟨p, 2, none⟩ = some (.slice A hd.l.length cap)) (first | exact ⟨b0, b1, b2⟩ | exact ⟨f0, f1, f2⟩ | exact ⟨d0, d1, d2⟩ | go_keep) (first
   | (go_at_call 11; (with_reducible refine (HC1.out _ _ HD2.out).mono ?_); rintro e w3 ⟨rfl, hd1⟩; obtain ⟨d0, d1, d2⟩ := HCELL.out _ hd1.out.base; have HD3 := Lib.hid hd1.out; clear hd1)
   | (go_at_call 12; (with_reducible refine (HC2.out _ w3 HD3.out).mono ?_); rintro e w4 ⟨rfl, hd2⟩; obtain ⟨f0, f1, f2⟩ := HCELL.out _ hd2.out.base; have HD4 := Lib.hid hd2.out; clear hd2))
  all_goals
   have HRA : Hid (0 < hd.l.length → ∀ a, A = some a → a.block < Y.heap.size) := Lib.hid fun h0 a e => by
    obtain ⟨b, off, e2, ha⟩ := (HROWY.out Y (Below.refl _ _)).2 h0
    rw [e] at e2
    cases e2
    exact ha.lt
   have HGY : Hid (∀ W, Below Y.heap.size Y W → Gv W) := Lib.hid fun W hb => HGX.out W (HBY.out.trans (hb.mono HBY.out.size))
   have HAY := Lib.hid (HACT.out Y HBY.out)
   clear h1 h2 HN0 HN1 HC1 HC2 HD2 HD3 b0 b1 b2 d0 d1 d2 f0 f1 f2 y0 y1 y2
   go_wp2_with fail
   go_loopw [9] (fun x wr => ∃ (j c : Nat) (S : Vf.Sv), j ≤ m.length ∧ j ≤ 60 ∧ x = .int .i64 j ∧ c ≤ 1 + 811 * j ∧ Hid (Dx Y fs xs c c S S (fun _ => False) wr)) (fun x _ => m.length - (intOf x).toNat)
   case atStart => exact ⟨0, 1, S1, Nat.zero_le _, by omega, rfl, by omega, HD4⟩
   case round =>
    obtain ⟨j, c, S, hj, h60, rfl, hc, HDr⟩ := hrel
    obtain ⟨b0, b1, b2⟩ := HCELL.out _ HDr.out.base
    by_cases hlt : j < m.length ∧ j < 60
    ·obtain ⟨hl1, hl2⟩ := hlt
     obtain ⟨bA, off, rfl, haY⟩ := HAY.out (by omega)
     obtain ⟨Ap, capp, g0, g1, g2, g3, g4, g5, hrp⟩ := haY.at_ j hl1
     have hbA := haY.lt
     have hal := HLM.out j hl1 hl2
     have HAP : Hid (0 < m[j].l.length → ∀ a, Ap = some a → a.block < Y.heap.size) := Lib.hid fun h0 a e => by
      obtain ⟨b, off, e2, ha⟩ := hrp.2 h0
      rw [e] at e2
      cases e2
      exact ha.lt
     have HPR : Hid (∀ W, Below Y.heap.size Y W → Row W Ap m[j].l capp) := Lib.hid fun W hb => hrp.below hb
     generalize m[j].k = ak at *
     generalize m[j].now = an at *
     generalize m[j].fr = af at *
     generalize m[j].un = au at *
     generalize m[j].ix = ai at *
     generalize m[j].l = al at *
     have HCA : Hid (∀ W, Below Y.heap.size Y W → W.cell? ⟨bA, off + j * 6, none⟩ = some (.int .i64 ak) ∧ W.cell? ⟨bA, off + j * 6 + 1, none⟩ = some (.int .i64 an) ∧ W.cell? ⟨bA, off + j * 6 + 2, none⟩ = some (.int .i64 af) ∧ W.cell? ⟨bA, off + j * 6 + 3, none⟩ = some (.int .i64 au) ∧ W.cell? ⟨bA, off + j * 6 + 4, none⟩ = some (.int .i64 ai) ∧ W.cell? ⟨bA, off + j * 6 + 5, none⟩ = some (.slice Ap al.length capp)) := Lib.hid fun W hb => by
      have key : ∀ o u, Y.cell? ⟨bA, o, none⟩ = some u → W.cell? ⟨bA, o, none⟩ = some u := fun o u e => (hb.cell (p := ⟨bA, o, none⟩) hbA).trans e
      exact ⟨key _ _ g0, key _ _ g1, key _ _ g2, key _ _ g3, key _ _ g4, key _ _ g5⟩
     clear g0 g1 g2 g3 g4 g5 hrp haY
     obtain ⟨g0, g1, g2, g3, g4, g5⟩ := HCA.out _ HDr.out.base
     have hil : (j : Int) < (m.length : Int) := by omega
     have hi0 : (0 : Int) ≤ (j : Int) := by omega
     have hi6 : (j : Int) < 60 := by omega
     have HDd : Hid (Dx Y fs xs c c S S (fun _ => False) wr.drew) := Lib.hid (HDr.out.below (Below.refl _ _).drew)
     have HAC := Lib.hid (act_any7 HDd.out (HGY.out _ (Below.refl _ _)) hd A cap (HROWY.out _ HDd.out.base) (fun h0 a e => .inl (HRA.out h0 a e)) ak an af au ai al Ap capp (HPR.out _ HDd.out.base) (fun h0 a e => .inl (HAP.out h0 a e)) (by omega))
     generalize actS S hd ak an al = S' at *
     have HBYT : Hid (∀ W, Dx Y fs xs (c + 27 * al.length + 1) (c + 27 * al.length + 1) S' S' (fun _ => False) W → Calls Tryz.prog 14 #[.pointer (some ⟨fs, 0, none⟩), .pointer (some ⟨xs, 0, none⟩)] W fun e w' => e = .returned (.bool true) ∧ Hid (Dx Y fs xs (c + 27 * al.length + 1) (c + 27 * al.length + 1) S' S' (fun _ => False) w')) := Lib.hid fun W h => bytes_any7 h (by omega)
     go_wp2_with fail
     go_region_held3 (fun w' => w'.cell? ⟨p, 0, none⟩ = some (.int .i64 hd.ag) ∧ w'.cell? ⟨p, 1, none⟩ = some (.int .i64 hd.xf) ∧ w'.cell? ⟨p, 2, none⟩ = some (.slice A hd.l.length cap) ∧ w'.cell? ⟨bA, off + j * 6, none⟩ = some (.int .i64 ak) ∧ w'.cell? ⟨bA, off + j * 6 + 1, none⟩ = some (.int .i64 an) ∧ w'.cell? ⟨bA, off + j * 6 + 2, none⟩ = some (.int .i64 af) ∧ w'.cell? ⟨bA, off + j * 6 + 3, none⟩ = some (.int .i64 au) ∧ w'.cell? ⟨bA, off + j * 6 + 4, none⟩ = some (.int .i64 ai) ∧ w'.cell? ⟨bA, off + j * 6 + 5, none⟩ = some (.slice Ap al.length capp)) (first | exact ⟨b0, b1, b2, g0, g1, g2, g3, g4, g5⟩ | exact ⟨f0, f1, f2, f3, f4, f5, f6, f7, f8⟩ | exact ⟨d0, d1, d2, d3, d4, d5, d6, d7, d8⟩ | go_keep) (first
      | (go_at_call 13; (with_reducible refine (HAC.out).mono ?_); rintro e w5 ⟨rfl, hd5⟩; obtain ⟨d0, d1, d2⟩ := HCELL.out _ hd5.out.base; obtain ⟨d3, d4, d5, d6, d7, d8⟩ := HCA.out _ hd5.out.base; have HD5 := Lib.hid hd5.out; clear hd5)
      | (go_at_call 14; (with_reducible refine (HBYT.out _ HD5.out).mono ?_); rintro e w6 ⟨rfl, hd6⟩; obtain ⟨f0, f1, f2⟩ := HCELL.out _ hd6.out.base; obtain ⟨f3, f4, f5, f6, f7, f8⟩ := HCA.out _ hd6.out.base; have HD6 := Lib.hid hd6.out; clear hd6))
     all_goals
      go_wp2_with fail
      go_roundw
      case rel => exact ⟨j + 1, c + 27 * al.length + 1, S', by omega, by omega, by go_num, by omega, HD6⟩
      case measure => simp [intOf]; omega
    ·by_cases hA : j < m.length
     ·have hB : ¬ ((j : Int) < 60) := by omega
      have hil : (j : Int) < (m.length : Int) := by omega
      have hlen := info_len S.now [97]
      have HI1 : Hid (∀ W, Dx Y fs xs c c S S (fun _ => False) W → Calls Tryz.prog 15 #[.pointer (some ⟨fs, 0, none⟩), .string ⟨#[97]⟩] W (Informed W (info S.now [97]))) := Lib.hid fun W h => by obtain ⟨V, ro⟩ := h.po; exact info_any7 ro [97]
      have HI2 : Hid (∀ W, Dx Y fs xs c c S S (fun _ => False) W → Calls Tryz.prog 16 #[.pointer (some ⟨xs, 0, none⟩), .string ⟨#[97]⟩] W (Informed W (info S.now [97]))) := Lib.hid fun W h => by obtain ⟨V, ro⟩ := h.ro; exact rinfo_any ro (by omega) [97]
      generalize info S.now [97] = R at *
      obtain ⟨hi, ie⟩ := R
      go_wp2_with first
       | (go_at_call 15; (with_reducible refine (HI1.out _ HDr.out).mono ?_); (rintro e w5 ⟨A1, c1, rfl, hrow1, hfr1, hb5⟩; have HB5 := Lib.hid hb5; have HR1 := Lib.hid hrow1; clear hb5 hrow1 hfr1))
      obtain ⟨Z, hZ⟩ : ∃ Z, Z = w5.alloc (.cells #[.int .i64 hi.ag, .int .i64 hi.xf, .slice A1 hi.l.length c1] 24) := ⟨_, rfl⟩
      obtain ⟨b1', hb1⟩ : ∃ b, b = w5.heap.size := ⟨_, rfl⟩
      have hbZ : Below wr.heap.size wr Z := by rw [hZ]; exact HB5.out.alloc HB5.out.size _
      have hrZ : RowAt Z b1' 24 #[.int .i64 hi.ag, .int .i64 hi.xf, .slice A1 hi.l.length c1] := by rw [hZ, hb1]; exact RowAt.new w5 _ _
      have hrow1 : Row Z A1 hi.l c1 := by rw [hZ]; exact HR1.out.below ((Below.refl _ _).alloc (Nat.le_refl _) _)
      rw [← hZ, ← hb1]
      have HBZ := Lib.hid hbZ
      have HRZ := Lib.hid hrZ
      have HROW1 := Lib.hid hrow1
      clear hZ hb1 hbZ hrZ hrow1 HR1 HB5
      have HI2' := Lib.hid (HI2.out _ (HDr.out.below HBZ.out))
      go_wp2_with first
       | (go_at_call 16; (with_reducible refine (HI2'.out).mono ?_); (rintro e w6 ⟨A2', c2', rfl, hrow2, hfr2, hb6⟩; have hbV : Below Z.heap.size Z (w6.alloc (.cells #[.int .i64 hi.ag, .int .i64 hi.xf, .slice A2' hi.l.length c2'] 24)) := hb6.alloc hb6.size _; have HBV := Lib.hid hbV; have hr6 := HRZ.out.below hbV HRZ.out.lt; have x0 := hr6.cell 0; have x1 := hr6.cell 1; have x2 := hr6.cell 2; have HZ1 := Lib.hid (HROW1.out.below hbV); have HZ2 := Lib.hid (hrow2.below ((Below.refl _ _).alloc (Nat.le_refl _) (.cells #[.int .i64 hi.ag, .int .i64 hi.xf, .slice A2' hi.l.length c2'] 24))); have HRV := Lib.hid hr6; have HV : Hid (Below Y.heap.size Y (w6.alloc (.cells #[.int .i64 hi.ag, .int .i64 hi.xf, .slice A2' hi.l.length c2'] 24))) := Lib.hid (HDr.out.base.trans ((HBZ.out.trans (hbV.mono HBZ.out.size)).mono HDr.out.base.size)); clear hb6 hrow2 hfr2 hbV hr6))
       | (go_at_call 17; (with_reducible refine (headers_any7 hi.ag hi.xf hi.l A1 A2' c1 c2' (by omega) _ HZ1.out HZ2.out).mono ?_); (rintro e w7 ⟨rfl, hb7⟩; have HV7 := Lib.hid (HV.out.trans (hb7.mono HV.out.size)); clear hb7))
       | (go_at_call 18; (with_reducible refine (known7_any _ (HGY.out _ HV7.out)).mono ?_); (rintro e w10 ⟨rfl, hb10⟩))
      go_ret
      exact ⟨rfl, HX.out.trans ((HBY.out.trans ((HV7.out.trans (hb10.mono HV7.out.size)).mono HBY.out.size)).mono HX.out.size)⟩
     ·obtain rfl : j = m.length := by omega
      have hil : ¬ ((m.length : Int) < (m.length : Int)) := by omega
      have hlen := info_len S.now [97]
      have HI1 : Hid (∀ W, Dx Y fs xs c c S S (fun _ => False) W → Calls Tryz.prog 15 #[.pointer (some ⟨fs, 0, none⟩), .string ⟨#[97]⟩] W (Informed W (info S.now [97]))) := Lib.hid fun W h => by obtain ⟨V, ro⟩ := h.po; exact info_any7 ro [97]
      have HI2 : Hid (∀ W, Dx Y fs xs c c S S (fun _ => False) W → Calls Tryz.prog 16 #[.pointer (some ⟨xs, 0, none⟩), .string ⟨#[97]⟩] W (Informed W (info S.now [97]))) := Lib.hid fun W h => by obtain ⟨V, ro⟩ := h.ro; exact rinfo_any ro (by omega) [97]
      generalize info S.now [97] = R at *
      obtain ⟨hi, ie⟩ := R
      go_wp2_with first
       | (go_at_call 15; (with_reducible refine (HI1.out _ HDr.out).mono ?_); (rintro e w5 ⟨A1, c1, rfl, hrow1, hfr1, hb5⟩; have HB5 := Lib.hid hb5; have HR1 := Lib.hid hrow1; clear hb5 hrow1 hfr1))
      obtain ⟨Z, hZ⟩ : ∃ Z, Z = w5.alloc (.cells #[.int .i64 hi.ag, .int .i64 hi.xf, .slice A1 hi.l.length c1] 24) := ⟨_, rfl⟩
      obtain ⟨b1', hb1⟩ : ∃ b, b = w5.heap.size := ⟨_, rfl⟩
      have hbZ : Below wr.heap.size wr Z := by rw [hZ]; exact HB5.out.alloc HB5.out.size _
      have hrZ : RowAt Z b1' 24 #[.int .i64 hi.ag, .int .i64 hi.xf, .slice A1 hi.l.length c1] := by rw [hZ, hb1]; exact RowAt.new w5 _ _
      have hrow1 : Row Z A1 hi.l c1 := by rw [hZ]; exact HR1.out.below ((Below.refl _ _).alloc (Nat.le_refl _) _)
      rw [← hZ, ← hb1]
      have HBZ := Lib.hid hbZ
      have HRZ := Lib.hid hrZ
      have HROW1 := Lib.hid hrow1
      clear hZ hb1 hbZ hrZ hrow1 HR1 HB5
      have HI2' := Lib.hid (HI2.out _ (HDr.out.below HBZ.out))
      go_wp2_with first
       | (go_at_call 16; (with_reducible refine (HI2'.out).mono ?_); (rintro e w6 ⟨A2', c2', rfl, hrow2, hfr2, hb6⟩; have hbV : Below Z.heap.size Z (w6.alloc (.cells #[.int .i64 hi.ag, .int .i64 hi.xf, .slice A2' hi.l.length c2'] 24)) := hb6.alloc hb6.size _; have HBV := Lib.hid hbV; have hr6 := HRZ.out.below hbV HRZ.out.lt; have x0 := hr6.cell 0; have x1 := hr6.cell 1; have x2 := hr6.cell 2; have HZ1 := Lib.hid (HROW1.out.below hbV); have HZ2 := Lib.hid (hrow2.below ((Below.refl _ _).alloc (Nat.le_refl _) (.cells #[.int .i64 hi.ag, .int .i64 hi.xf, .slice A2' hi.l.length c2'] 24))); have HRV := Lib.hid hr6; have HV : Hid (Below Y.heap.size Y (w6.alloc (.cells #[.int .i64 hi.ag, .int .i64 hi.xf, .slice A2' hi.l.length c2'] 24))) := Lib.hid (HDr.out.base.trans ((HBZ.out.trans (hbV.mono HBZ.out.size)).mono HDr.out.base.size)); clear hb6 hrow2 hfr2 hbV hr6))
       | (go_at_call 17; (with_reducible refine (headers_any7 hi.ag hi.xf hi.l A1 A2' c1 c2' (by omega) _ HZ1.out HZ2.out).mono ?_); (rintro e w7 ⟨rfl, hb7⟩; have HV7 := Lib.hid (HV.out.trans (hb7.mono HV.out.size)); clear hb7))
       | (go_at_call 18; (with_reducible refine (known7_any _ (HGY.out _ HV7.out)).mono ?_); (rintro e w10 ⟨rfl, hb10⟩))
      go_ret
      exact ⟨rfl, HX.out.trans ((HBY.out.trans ((HV7.out.trans (hb10.mono HV7.out.size)).mono HBY.out.size)).mono HX.out.size)⟩
end
section
open Go.RowKit Go.Sort
open Me
open Wp
theorem plays_big (hd : Hd) (A : Option Addr) (cap : Nat) (A2 : Option Addr) (n c2 : Nat) (w : World) (hr : Row w A hd.l cap) (t1 : (hd.val && !(hd.val && decide (hd.size ≤ 3000))) = true) :
 Calls Tryz.prog 3 #[.agg #[.int .i64 hd.ag, .int .i64 hd.xf, .slice A hd.l.length cap], .slice A2 n c2] w fun e w' => e = .returned (.bool true) ∧ Below w.heap.size w w' := by
 obtain ⟨X, hX⟩ : ∃ X, X = w.alloc (.cells #[.int .i64 hd.ag, .int .i64 hd.xf, .slice A hd.l.length cap] 24) := ⟨_, rfl⟩
 have hbX : Below w.heap.size w X := by rw [hX]; exact (Below.refl _ _).alloc (Nat.le_refl _) _
 obtain ⟨p, hpw⟩ : ∃ p, p = w.heap.size := ⟨_, rfl⟩
 have hrp : RowAt X p 24 #[.int .i64 hd.ag, .int .i64 hd.xf, .slice A hd.l.length cap] := by rw [hX, hpw]; exact RowAt.new w _ _
 have HX := Lib.hid hbX
 have HRX := Lib.hid hrp
 have hv : hd.val = true := by
  revert t1
  cases hd.val <;> simp
 have hs : (hd.val && decide (hd.size ≤ 3000)) = false := by
  rw [hv] at t1 ⊢
  simpa using t1
 have HMAY : Hid (Calls Tryz.prog 6 #[.agg #[.int .i64 hd.ag, .int .i64 hd.xf, .slice A hd.l.length cap]] X fun e w' => e = .returned (.bool true) ∧ Below X.heap.size X w') := Lib.hid ((may_any hd.ag hd.xf hd.l A cap X (hr.below hbX)).mono fun e w' h => ⟨h.1.trans (congrArg (fun b => Ending.returned (Value.bool b)) hv), h.2⟩)
 have HSM : Hid (∀ W, Below X.heap.size X W → Calls Tryz.prog 7 #[.agg #[.int .i64 hd.ag, .int .i64 hd.xf, .slice A hd.l.length cap]] W fun e w' => e = .returned (.bool false) ∧ Below W.heap.size W w') := Lib.hid fun W hb => (small_any hd.ag hd.xf hd.l A cap W ((hr.below hbX).below hb)).mono fun e w' h => ⟨h.1.trans (congrArg (fun b => Ending.returned (Value.bool b)) hs), h.2⟩
 have y0 := hrp.cell 0
 have y1 := hrp.cell 1
 have y2 := hrp.cell 2
 change X.cell? ⟨p, 0, none⟩ = some (.int .i64 hd.ag) at y0
 change X.cell? ⟨p, 1, none⟩ = some (.int .i64 hd.xf) at y1
 change X.cell? ⟨p, 2, none⟩ = some (.slice A hd.l.length cap) at y2
 clear hbX hrp hr t1 hv hs
 go_enter Tryz.func3, Tryz.ntmps3
 go_wp2_with fail
 rw [← hX, ← hpw]
 clear hX hpw
 go_wp2_with first
  | (go_at_call 6; (with_reducible refine (HMAY.out).mono ?_); (rintro e w1 ⟨rfl, hb1⟩; have hr1 := HRX.out.below hb1 HRX.out.lt; have v0 := hr1.cell 0; have v1 := hr1.cell 1; have v2 := hr1.cell 2; have HB1 := Lib.hid hb1; clear hb1 hr1))
  | (go_at_call 7; (with_reducible refine (HSM.out _ HB1.out).mono ?_); (rintro e Y ⟨rfl, hb2⟩; have HBY := Lib.hid (HB1.out.trans (hb2.mono HB1.out.size)); clear hb2))
 go_ret
 exact ⟨rfl, HX.out.trans (HBY.out.mono HX.out.size)⟩
theorem plays_long (hd : Hd) (A : Option Addr) (cap : Nat) (A2 : Option Addr) (n c2 : Nat) (w : World) (hr : Row w A hd.l cap) (t1 : (hd.val && !(hd.val && decide (hd.size ≤ 3000))) = false) (t2 : 20 < (hd.l.length : Int)) :
 Calls Tryz.prog 3 #[.agg #[.int .i64 hd.ag, .int .i64 hd.xf, .slice A hd.l.length cap], .slice A2 n c2] w fun e w' => e = .returned (.bool true) ∧ Below w.heap.size w w' := by
 obtain ⟨X, hX⟩ : ∃ X, X = w.alloc (.cells #[.int .i64 hd.ag, .int .i64 hd.xf, .slice A hd.l.length cap] 24) := ⟨_, rfl⟩
 have hbX : Below w.heap.size w X := by rw [hX]; exact (Below.refl _ _).alloc (Nat.le_refl _) _
 obtain ⟨p, hpw⟩ : ∃ p, p = w.heap.size := ⟨_, rfl⟩
 have hrp : RowAt X p 24 #[.int .i64 hd.ag, .int .i64 hd.xf, .slice A hd.l.length cap] := by rw [hX, hpw]; exact RowAt.new w _ _
 have HX := Lib.hid hbX
 have HRX := Lib.hid hrp
 have HMAY : Hid (Calls Tryz.prog 6 #[.agg #[.int .i64 hd.ag, .int .i64 hd.xf, .slice A hd.l.length cap]] X fun e w' => e = .returned (.bool hd.val) ∧ Below X.heap.size X w') := Lib.hid (may_any hd.ag hd.xf hd.l A cap X (hr.below hbX))
 have HSM : Hid (∀ W, Below X.heap.size X W → Calls Tryz.prog 7 #[.agg #[.int .i64 hd.ag, .int .i64 hd.xf, .slice A hd.l.length cap]] W fun e w' => e = .returned (.bool (hd.val && decide (hd.size ≤ 3000))) ∧ Below W.heap.size W w') := Lib.hid fun W hb => small_any hd.ag hd.xf hd.l A cap W ((hr.below hbX).below hb)
 have y0 := hrp.cell 0
 have y1 := hrp.cell 1
 have y2 := hrp.cell 2
 change X.cell? ⟨p, 0, none⟩ = some (.int .i64 hd.ag) at y0
 change X.cell? ⟨p, 1, none⟩ = some (.int .i64 hd.xf) at y1
 change X.cell? ⟨p, 2, none⟩ = some (.slice A hd.l.length cap) at y2
 have t2b : decide (20 < (hd.l.length : Int)) = true := decide_eq_true t2
 have HT1 := Lib.hid t1
 clear hbX hrp hr t1
 cases hv : hd.val
 ·rw [hv] at HMAY
  go_enter Tryz.func3, Tryz.ntmps3
  go_wp2_with fail
  rw [← hX, ← hpw]
  clear hX hpw
  go_wp2_with first
   | (go_at_call 6; (with_reducible refine (HMAY.out).mono ?_); (rintro e Y ⟨rfl, hb1⟩; have hr1 := HRX.out.below hb1 HRX.out.lt; have z0 := hr1.cell 0; have z1 := hr1.cell 1; have z2 := hr1.cell 2; have HBY := Lib.hid hb1; clear hb1 hr1))
  go_ret
  exact ⟨rfl, HX.out.trans (HBY.out.mono HX.out.size)⟩
 ·rw [hv] at HMAY
  have hs : (hd.val && decide (hd.size ≤ 3000)) = true := by
   have := HT1.out
   rw [hv] at this ⊢
   simpa using this
  rw [hs] at HSM
  clear hs
  go_enter Tryz.func3, Tryz.ntmps3
  go_wp2_with fail
  rw [← hX, ← hpw]
  clear hX hpw
  go_wp2_with first
   | (go_at_call 6; (with_reducible refine (HMAY.out).mono ?_); (rintro e w1 ⟨rfl, hb1⟩; have hr1 := HRX.out.below hb1 HRX.out.lt; have v0 := hr1.cell 0; have v1 := hr1.cell 1; have v2 := hr1.cell 2; have HB1 := Lib.hid hb1; clear hb1 hr1))
   | (go_at_call 7; (with_reducible refine (HSM.out _ HB1.out).mono ?_); (rintro e Y ⟨rfl, hb2⟩; have hb1 := HB1.out.trans (hb2.mono HB1.out.size); have hr1 := HRX.out.below hb1 HRX.out.lt; have z0 := hr1.cell 0; have z1 := hr1.cell 1; have z2 := hr1.cell 2; have HBY := Lib.hid hb1; clear hb1 hb2 hr1))
  go_ret
  exact ⟨rfl, HX.out.trans (HBY.out.mono HX.out.size)⟩
theorem lawPlays7 (ag xf : Int) (l : List (Int × Int)) (A : Option Addr) (cap : Nat) (m : List AD) (A2 : Option Addr) (c2 : Nat) (w : World) (hg : Gv w) (hr : Row w A l cap) (ha : Acts w A2 m) (hm : m.length ≤ maxLen) :
 Calls Tryz.prog 3 #[.agg #[.int .i64 ag, .int .i64 xf, .slice A l.length cap], .slice A2 m.length c2] w fun e w' => e = .returned (.bool true) ∧ Below w.heap.size w w' := by
 cases t1 : ((⟨ag, xf, l⟩ : Hd).val && !((⟨ag, xf, l⟩ : Hd).val && decide ((⟨ag, xf, l⟩ : Hd).size ≤ 3000)))
 ·by_cases t2 : 20 < (l.length : Int)
  ·exact plays_long ⟨ag, xf, l⟩ A cap A2 m.length c2 w hr t1 t2
  ·exact plays_main ⟨ag, xf, l⟩ A cap m A2 c2 w hg hr ha hm t1 t2
 ·exact plays_big ⟨ag, xf, l⟩ A cap A2 m.length c2 w hr t1
end
section
open Go.RowKit Go.Sort
open Me
open Wp
namespace WsOpen
open Go.ChangeShapes Go.WideShapes Go.ChangeAt Go.RowKit Go.Deep Go.Joins
def ActAt (w : World) (b off i : Nat) (x : AD) : Prop := ∃ Ap capp, w.cell? ⟨b, off + i * 6, none⟩ = some (.int .i64 x.k) ∧ w.cell? ⟨b, off + i * 6 + 1, none⟩ = some (.int .i64 x.now) ∧ w.cell? ⟨b, off + i * 6 + 2, none⟩ = some (.int .i64 x.fr) ∧ w.cell? ⟨b, off + i * 6 + 3, none⟩ = some (.int .i64 x.un) ∧ w.cell? ⟨b, off + i * 6 + 4, none⟩ = some (.int .i64 x.ix) ∧ w.cell? ⟨b, off + i * 6 + 5, none⟩ = some (.slice Ap x.l.length capp) ∧ Row w Ap x.l capp
theorem acts_list {w : World} {b off : Nat} : ∀ (n : Nat), (∀ i, i < n → ∃ x, ActAt w b off i x) → ∃ m : List AD, m.length = n ∧ ∀ i (h : i < m.length), ActAt w b off i m[i]
 | 0, _ => ⟨[], rfl, fun i h => by cases h⟩
 | n + 1, h => by
   obtain ⟨m, e, hm⟩ := acts_list n fun i hi => h i (by omega)
   obtain ⟨x, hx⟩ := h n (by omega)
   refine ⟨m ++ [x], by simp [e], fun i hi => ?_⟩
   rw [List.length_append, List.length_singleton] at hi
   by_cases hl : i < m.length
   ·rw [List.getElem_append_left hl]; exact hm i hl
   ·obtain rfl : i = m.length := by omega
    simp only [List.getElem_concat_length]
    rw [e]; exact hx
theorem actsV {H : Type} {enc : TypeId × Value → H} {w : World} {base : Nat} {spare : Nat → Bool} {held : Bool} {fuel : Nat} {x : Option Addr} {len cap : Nat} {y : DataW H × List MemPlace}
 (h : DataW.trod enc Tryz.prog w base spare held fuel 25 [.slice x len cap] = some y) :
 ∃ m : List AD, m.length = len ∧ len ≤ maxLen ∧ Acts w x m := by
 rcases open_slice Tryz.underlying25 h with ⟨hcs, _⟩ | ⟨a, len', cap', m, n, D, Pl, hcs, _, hl, hcm, hm, _, hi⟩
 ·simp at hcs
  obtain ⟨rfl, rfl, rfl⟩ := hcs
  exact ⟨[], rfl, Nat.zero_le _, fun h => by cases h⟩
 ·simp at hcs
  obtain ⟨rfl, rfl, rfl⟩ := hcs
  have hC : Tryz.prog.cellsOf 40 = 6 := by kernel_rfl
  by_cases h0 : len = 0
  ·subst h0; exact ⟨[], rfl, Nat.zero_le _, fun h => by cases h⟩
  have six : ∀ i, i < len → ∃ c0 c1 c2 c3 c4 c5, (w.cell? (a.add (i * 6)) = some c0 ∧ w.cell? ((a.add (i * 6)).add 1) = some c1 ∧ w.cell? ((a.add (i * 6)).add 2) = some c2 ∧ w.cell? ((a.add (i * 6)).add 3) = some c3 ∧ w.cell? ((a.add (i * 6)).add 4) = some c4 ∧ w.cell? ((a.add (i * 6)).add 5) = some c5) ∧ ∃ yy, DataW.trod enc Tryz.prog w base spare held n 40 [c0, c1, c2, c3, c4, c5] = some yy := fun i hil => by
   obtain ⟨cs', g1, g2⟩ := hi i (by rw [hm]; split <;> omega)
   rw [hC] at g1
   obtain ⟨_, hlen, hat⟩ := World.cells?_some g1
   match cs', hlen with
   | [c0, c1, c2, c3, c4, c5], _ =>
     refine ⟨c0, c1, c2, c3, c4, c5, ⟨?_, ?_, ?_, ?_, ?_, ?_⟩, _, g2⟩
     ·simpa [Addr.add] using hat 0 (by omega)
     ·simpa using hat 1 (by omega)
     ·simpa using hat 2 (by omega)
     ·simpa using hat 3 (by omega)
     ·simpa using hat 4 (by omega)
     ·simpa using hat 5 (by omega)
  obtain ⟨b, off, spot⟩ := a
  obtain ⟨c0, _, _, _, _, _, ⟨hk0, _⟩, _⟩ := six 0 (by omega)
  have hspot : spot = none := by simpa [Addr.add] using World.cell?_spot hk0
  subst hspot
  have hlt : b < w.heap.size := by simpa [Addr.add] using World.block_lt_of_cell? w _ hk0
  obtain ⟨l, e, hL⟩ := acts_list (w := w) (b := b) (off := off) len fun i hil => by
   obtain ⟨c0, c1, c2, c3, c4, c5, ⟨k0, k1, k2, k3, k4, k5⟩, yy, hy⟩ := six i hil
   obtain ⟨k, now, fr, un, ix, l, A, cp, rfl, rfl, rfl, rfl, rfl, rfl, hr⟩ := act6 hy
   simp only [WhOpen.adN] at k0 k1 k2 k3 k4 k5
   exact ⟨⟨k, now, fr, un, ix, l⟩, A, cp, k0, k1, k2, k3, k4, k5, hr⟩
  exact ⟨l, e, by omega, fun _ => ⟨b, off, rfl, hlt, hL⟩⟩
theorem actsM {H : Type} {enc : TypeId × Value → H} {w : World} {base : Nat} {spare : Nat → Bool} {held : Bool} {v : Value} {d : DataW H} {p : List MemPlace} {r : Reach} {b0 : Nat}
 (hv : Value.okWide Tryz.prog w r b0 25 v) (h : DataW.Trod enc Tryz.prog w base spare held 25 v d p) : ∃ A c m, v = .slice A (List.length m) c ∧ m.length ≤ maxLen ∧ Acts w A m := by
 obtain ⟨A, len, c, rfl⟩ := okWide_slice Tryz.underlying25 hv
 obtain ⟨fuel, hf⟩ := h
 obtain ⟨m, e, hm, ha⟩ := actsV (by simpa [Value.cells] using hf)
 subst e
 exact ⟨A, c, m, rfl, hm, ha⟩
end WsOpen
end
end Go.Proofs.YtbakngbmfgnmcaaGreatDoor
