/- WhReadY WhDec SlPl SlPut SlEnc SlREnc ByOf SlDec SlDecY CopyB -/
import Derived.Test.YtbakngbmfgnmcaaGreatDoorJ1
import Derived.Test.YtbakngbmfgnmcaaGreatDoorJ3
import Derived.Test.YtbakngbmfgnmcaaGreatDoorJ2
import Derived.Test.YtbakngbmfgnmcaaGreatDoorRows
import Derived.WalkKit
import Derived.WalkSpells
import Derived.WalkLawsBesides
import Derived.Deep.QuietTactic
import Derived.BigQuiet
import Derived.Lib.QuietBelow
import Derived.Lib.Hide
import Derived.IntWalk
import Derived.Deep.RegionLaw
import Derived.Laws.Bits64
import Derived.Deep.RegionWith
import Derived.Laws.CopyRow
namespace Go.Proofs.YtbakngbmfgnmcaaGreatDoor
set_option maxRecDepth 100000
set_option maxHeartbeats 8000000
section
open Go.RowKit Go.Sort
open Wh (At)
open Me
def ReadOk (w : World) (L : List UInt8) (k : Nat) (e : Ending) (w' : World) : Prop :=
 ∃ g, e = .returned (.tuple #[.agg #[.int .i64 (Wh.nm L 0), .int .i64 (Wh.nm L 8), .slice (some ⟨g, 0, none⟩) k k], .bool true]) ∧ w.heap.size ≤ g ∧ Ars w' g 0 (Wh.archs L k) ∧ Below w.heap.size w w'
structure RdMade (w wx : World) (L : List UInt8) (k j g h : Nat) : Prop where
 g0 : w.heap.size < g
 h0 : w.heap.size < h
 gh : g ≠ h
 bel : Below w.heap.size w wx
 rr : RowAt wx w.heap.size 24 #[.int .i64 0, .int .i64 0, .slice none 0 0]
 rh : RowAt wx h 24 #[.int .i64 (Wh.nm L 0), .int .i64 (Wh.nm L 8), .slice (some ⟨g, 0, none⟩) k k]
 rg : ∃ cs : Array Value, cs.size = k * 2 ∧ RowAt wx g 69 cs ∧ ∀ i, i < j → cs[i * 2]? = some (.int .i64 (Wh.nm L (16 + 12 * i + 4))) ∧ cs[i * 2 + 1]? = some (.int .i64 (Wh.nm L (16 + 12 * i + 8)))
theorem bel_drewN {B : Nat} {a w : World} (h : Below B a w) (n : Nat) : Below B a (w.drewN n) := ⟨h.os, h.tape, h.output, h.size, h.block⟩
theorem RowAt.new' {w : World} {g : Nat} {cs : Array Value} {t : TypeId} (h : g = w.heap.size) : RowAt (w.alloc (.cells cs t)) g t cs := by subst h; exact RowAt.new w cs t
theorem RowAt.set3 {w : World} {g : Nat} {t : TypeId} {a b c x y z : Value} (h : RowAt w g t #[a, b, c]) : RowAt (((w.setCell ⟨g, 0, none⟩ x).setCell ⟨g, 1, none⟩ y).setCell ⟨g, 2, none⟩ z) g t #[x, y, z] := by
 have := ((h.set_ 0 x).set_ 1 y).set_ 2 z
 simpa using this
theorem made_of {w X wx : World} {L : List UInt8} {k g h : Nat} {CS : Array Value} (hX : X.heap.size = w.heap.size + 1) (hB : Below w.heap.size w X) (hR : RowAt X w.heap.size 24 #[.int .i64 0, .int .i64 0, .slice none 0 0]) (hcs : CS.size = k * 2)
 (g0 : w.heap.size < g) (h0 : w.heap.size < h) (gh : g ≠ h) (hb : Below X.heap.size X wx) (h1 : RowAt wx h 24 #[.int .i64 (Wh.nm L 0), .int .i64 (Wh.nm L 8), .slice (some ⟨g, 0, none⟩) k k]) (h2 : RowAt wx g 69 CS) : RdMade w wx L k 0 g h :=
 ⟨g0, h0, gh, hB.trans (hb.mono (by omega)), hR.below hb (by omega), h1, CS, hcs, h2, fun i hi => by omega⟩
theorem RdMade.step {w wr : World} {L : List UInt8} {k j g h : Nat} (hM : RdMade w wr L k j g h) (hj : j < k) (n : Nat) :
 RdMade w (((wr.drewN n).setCell ⟨g, j * 2, none⟩ (.int .i64 (Wh.nm L (16 + 12 * j + 4)))).setCell ⟨g, j * 2 + 1, none⟩ (.int .i64 (Wh.nm L (16 + 12 * j + 8)))) L k (j + 1) g h := by
 obtain ⟨g0, h0, gh, hb, rr, rh, cs, hcs, rg, hv⟩ := hM
 refine ⟨g0, h0, gh, ((bel_drewN hb n).setCell (by show _ ≤ g; omega) _).setCell (by show _ ≤ g; omega) _, ((rr.drewN n).far (by show _ ≠ g; omega) _).far (by show _ ≠ g; omega) _, ((rh.drewN n).far (Ne.symm gh) _).far (Ne.symm gh) _, (cs.setIfInBounds (j * 2) (.int .i64 (Wh.nm L (16 + 12 * j + 4)))).setIfInBounds (j * 2 + 1) (.int .i64 (Wh.nm L (16 + 12 * j + 8))), by simp [hcs], ((rg.drewN n).set_ _ _).set_ _ _, fun i hi => ?_⟩
 by_cases e : i = j
 ·subst e
  constructor
  ·rw [Array.getElem?_setIfInBounds, if_neg (by omega), Array.getElem?_setIfInBounds, if_pos rfl, if_pos (by omega)]
  ·rw [Array.getElem?_setIfInBounds, if_pos rfl, if_pos (by simp; omega)]
 ·obtain ⟨v1, v2⟩ := hv i (by omega)
  constructor
  ·rw [Array.getElem?_setIfInBounds, if_neg (by omega), Array.getElem?_setIfInBounds, if_neg (by omega)]; exact v1
  ·rw [Array.getElem?_setIfInBounds, if_neg (by omega), Array.getElem?_setIfInBounds, if_neg (by omega)]; exact v2
theorem RdMade.fin {w wr : World} {L : List UInt8} {k g h : Nat} (hM : RdMade w wr L k k g h) (x y z : Value) :
 Ars (((wr.setCell ⟨w.heap.size, 0, none⟩ x).setCell ⟨w.heap.size, 1, none⟩ y).setCell ⟨w.heap.size, 2, none⟩ z) g 0 (Wh.archs L k) ∧ Below w.heap.size w (((wr.setCell ⟨w.heap.size, 0, none⟩ x).setCell ⟨w.heap.size, 1, none⟩ y).setCell ⟨w.heap.size, 2, none⟩ z) := by
 obtain ⟨g0, h0, gh, hb, rr, rh, cs, hcs, rg, hv⟩ := hM
 refine ⟨?_, ((hb.setCell (Nat.le_refl _) _).setCell (Nat.le_refl _) _).setCell (Nat.le_refl _) _⟩
 have r := ((rg.far (p := ⟨w.heap.size, 0, none⟩) (by show g ≠ w.heap.size; omega) x).far (p := ⟨w.heap.size, 1, none⟩) (by show g ≠ w.heap.size; omega) y).far (p := ⟨w.heap.size, 2, none⟩) (by show g ≠ w.heap.size; omega) z
 refine ⟨r.lt, fun i hi => ?_, fun i hi => ?_⟩
 ·rw [Wh.archs_len] at hi
  rw [r.cell, Wh.archs_at L k i hi, Nat.zero_add]; exact (hv i hi).1
 ·rw [Wh.archs_len] at hi
  rw [r.cell, Wh.archs_at L k i hi, Nat.zero_add]; exact (hv i hi).2
theorem read_yes (L : List UInt8) (b off cap k : Nat) (w : World) (h : By w b off L) (hc : L.length ≤ cap) (hk : Wh.nm L 12 = (k : Int)) (h8 : k ≤ 8) (hl : 16 + 12 * k ≤ L.length) :
 Calls Tryz.prog 110 #[.slice (some ⟨b, off, none⟩) L.length cap] w (ReadOk w L k) := by
 obtain ⟨j0, hj0, hy0, hy1, hy2⟩ := info_parts arinfo
 obtain ⟨CS, hmk, hcs⟩ : ∃ (CS : Array Value), (∀ W : World, (Instr.makeSlice 22 (.int .i64 (k : Int)) (.int .i64 (k : Int))).run Tryz.prog W = .ok (.slice (some ⟨W.heap.size, 0, none⟩) k k) (W.alloc (.cells CS 69))) ∧ CS.size = k * 2 := by
  refine ⟨madeCells #[.int .i64 0, .int .i64 0] (k * 2), fun W => ?_, size_madeCells _ _⟩
  have h := run_make (P := Tryz.prog) W 22 69 j0 (.agg #[.int .i64 0, .int .i64 0]) Tryz.underlying22 hj0 hy0 .i64 .i64 (k : Int) (k : Int) (by omega) (by omega) (by rw [hy2]; omega) (by omega)
  rw [hy1] at h
  exact h
 have HN : Hid (∀ W i n c, 4 ≤ n → i + 4 ≤ L.length → Below w.heap.size w W → Calls Tryz.prog 123 #[.slice (some ⟨b, off + i, none⟩) n c] W fun e w' => e = .returned (.int .i64 (Wh.nm L i)) ∧ ∃ m, w' = W.drewN m) := Lib.hid fun W i n c hn hi hb => number_dr L i b off n c W (h.below hb) hi hn
 have HN0 : Hid (∀ W n c, 4 ≤ n → Below w.heap.size w W → Calls Tryz.prog 123 #[.slice (some ⟨b, off, none⟩) n c] W fun e w' => e = .returned (.int .i64 (Wh.nm L 0)) ∧ ∃ m, w' = W.drewN m) := Lib.hid fun W n c hn hb => number_dr L 0 b off n c W (h.below hb) (by omega) hn
 have HN12 : Hid (∀ W n c, 4 ≤ n → Below w.heap.size w W → Calls Tryz.prog 123 #[.slice (some ⟨b, off + 12, none⟩) n c] W fun e w' => e = .returned (.int .i64 (k : Int)) ∧ ∃ m, w' = W.drewN m) := Lib.hid fun W n c hn hb => by rw [← hk]; exact number_dr L 12 b off n c W (h.below hb) (by omega) hn
 have HH := Lib.hid (headBytes_any (k : Int) (by omega) (by omega))
 have HH2 : Hid (∀ i : Nat, i ≤ 8 → ∀ W, Calls Tryz.prog 69 #[.int .i64 (i : Int)] W fun e w' => e = .returned (.int .i64 ((16 + 12 * i : Nat) : Int)) ∧ W = w') := Lib.hid fun i hi W => by
  have := headBytes_any (i : Int) (by omega) (by omega) W
  have e : (16 + (i : Int) * 12) = ((16 + 12 * i : Nat) : Int) := by omega
  rw [e] at this
  exact this
 have hbl := h.lt
 have hlI : (16 : Int) + 12 * (k : Int) ≤ (L.length : Int) := by omega
 have hc12 : ¬ cap = 12 := by omega
 have hc8 : ¬ cap = 8 := by omega
 have hI8 : (8 : Int) ≤ (L.length : Int) := by omega
 have hIc : (L.length : Int) ≤ (cap : Int) := by omega
 have hN8 : 8 ≤ L.length := by omega
 have hN8c : 8 ≤ cap := by omega
 clear h hk hj0 hy0 hy1 hy2
 go_enter Tryz.func110, Tryz.ntmps110
 go_upto_region 6 with (first | (go_at_call 123; (with_reducible refine (HN12.out _ _ _ (by omega) ((Below.refl _ _).alloc (Nat.le_refl _) _)).mono ?_); rintro e w1 ⟨rfl, m1, rfl⟩) | (go_at_call 69; go_must (refine (HH.out _).mono ?_; rintro e w' ⟨rfl, rfl⟩)))
 have hB0 : Below w.heap.size w ((w.alloc (.cells #[.int .i64 0, .int .i64 0, .slice none 0 0] 24)).drewN m1) := Bqn
 have hR0 : RowAt ((w.alloc (.cells #[.int .i64 0, .int .i64 0, .slice none 0 0] 24)).drewN m1) w.heap.size 24 #[.int .i64 0, .int .i64 0, .slice none 0 0] := RowAt.new w _ _
 have hX0 : ((w.alloc (.cells #[.int .i64 0, .int .i64 0, .slice none 0 0] 24)).drewN m1).heap.size = w.heap.size + 1 := by simp
 generalize (w.alloc (.cells #[.int .i64 0, .int .i64 0, .slice none 0 0] 24)).drewN m1 = X at *
 have HB0 := Lib.hid hB0
 have HR0 := Lib.hid hR0
 have HX0 := Lib.hid hX0
 have hX1 : w.heap.size < X.heap.size := by omega
 clear hB0 hR0 hX0
 have hA1 : ∀ (W : World) (n : Nat) (cs : Array Value) (t : TypeId) (i : Nat), ((W.drewN n).alloc (.cells cs t)).cell? ⟨W.heap.size, i, none⟩ = cs[i]? := fun W n cs t i => by rw [show W.heap.size = (W.drewN n).heap.size from rfl]; exact World.cell?_alloc_new _ _ _ _
 have hA2 : ∀ (W : World) (n : Nat) (cs : Array Value) (t : TypeId) (i : Nat), ((W.drewN n).alloc (.cells cs t)).frozen? ⟨W.heap.size, i, none⟩ = false := fun W n cs t i => by
  have h := RowAt.frozen (RowAt.new (W.drewN n) cs t) i
  exact h
 go_cut [5] (fun s5 wx => ∃ g h : Nat, s5 = .pointer (some ⟨h, 0, none⟩) ∧ RdMade w wx L k 0 g h)
 case first =>
  go_region_held3 (fun _ => True) (trivial) (first
   | (go_at_call 123; (with_reducible refine (HN0.out _ _ _ (by omega) (HB0.out.trans (Below.mono (by repeat (first | exact Below.refl _ _ | refine Below.setCell ?_ (by simp) _ | refine Below.alloc ?_ (by simp) _ | refine Below.drew ?_ | refine bel_drewN ?_ _)) (Nat.le_of_lt hX1)))).mono ?_); rintro e w1 ⟨rfl, m2, rfl⟩)
   | (go_at_call 123; (with_reducible refine (HN.out _ 8 _ _ (by omega) (by omega) (HB0.out.trans (Below.mono (by repeat (first | exact Below.refl _ _ | refine Below.setCell ?_ (by simp) _ | refine Below.alloc ?_ (by simp) _ | refine Below.drew ?_ | refine bel_drewN ?_ _)) (Nat.le_of_lt hX1)))).mono ?_); rintro e w1 ⟨rfl, m2, rfl⟩)
   | fail)
  all_goals go_wp2_with fail
  all_goals go_meet
  all_goals
   have hz := HX0.out
   first
    | refine ⟨X.heap.size, X.heap.size + 1, rfl, ?_⟩
    | refine ⟨X.heap.size + 1, X.heap.size, rfl, ?_⟩
  all_goals refine made_of (CS := CS) HX0.out HB0.out HR0.out hcs (by omega) (by omega) (by omega) (by repeat (first | exact Below.refl _ _ | refine Below.setCell ?_ (by simp) _ | refine Below.alloc ?_ (by simp) _ | refine Below.drew ?_ | refine bel_drewN ?_ _)) ?_ ?_
  all_goals repeat (first | (with_reducible refine RowAt.new' ?_; simp; done) | with_reducible refine RowAt.set3 (a := .int .i64 0) (b := .int .i64 0) (c := .slice none 0 0) ?_ | with_reducible refine RowAt.far ?_ (by simp) _ | with_reducible refine RowAt.alloc ?_ _ | with_reducible refine RowAt.drewN ?_ _)
 case rest =>
  obtain ⟨g, h, rfl, hM⟩ := hcut
  have hhl := hM.rh.lt
  have h2c : wc.cell? ⟨h, 2, none⟩ = some (.slice (some ⟨g, 0, none⟩) k k) := hM.rh.cell 2
  have HM0 := Lib.hid hM
  clear hM hmk HN0 HN12 hA1 hA2 HB0 HR0 HX0 hX1
  go_wp2_with fail
  go_loopw [36] (fun i wr => ∃ j : Nat, j ≤ k ∧ i = .int .i64 j ∧ Hid (RdMade w wr L k j g h)) (fun i _ => k - (intOf i).toNat)
  case atStart => exact ⟨0, Nat.zero_le _, rfl, HM0⟩
  case round =>
   obtain ⟨j, hj, rfl, hM⟩ := hrel
   obtain ⟨cs, hcs2, hrg, _⟩ := hM.out.rg
   have hhl2 := hM.out.rh.lt
   have hgl := hrg.lt
   have hrl := hM.out.rr.lt
   have x0 : wr.cell? ⟨h, 0, none⟩ = some (.int .i64 (Wh.nm L 0)) := hM.out.rh.cell 0
   have x1 : wr.cell? ⟨h, 1, none⟩ = some (.int .i64 (Wh.nm L 8)) := hM.out.rh.cell 1
   have x2 : wr.cell? ⟨h, 2, none⟩ = some (.slice (some ⟨g, 0, none⟩) k k) := hM.out.rh.cell 2
   by_cases hlt : j < k
   ·obtain ⟨p, hp⟩ : ∃ p, 16 + 12 * j = p := ⟨_, rfl⟩
    have HHj := Lib.hid (HH2.out j (by omega))
    have HNa : Hid (∀ W n c, 4 ≤ n → Below w.heap.size w W → Calls Tryz.prog 123 #[.slice (some ⟨b, off + p + 4, none⟩) n c] W fun e w' => e = .returned (.int .i64 (Wh.nm L (16 + 12 * j + 4))) ∧ ∃ m, w' = W.drewN m) := Lib.hid fun W n c hn hb => by
     have := HN.out W (16 + 12 * j + 4) n c hn (by omega) hb
     rw [hp, ← Nat.add_assoc] at this
     rw [hp]
     exact this
    have HNb : Hid (∀ W n c, 4 ≤ n → Below w.heap.size w W → Calls Tryz.prog 123 #[.slice (some ⟨b, off + p + 8, none⟩) n c] W fun e w' => e = .returned (.int .i64 (Wh.nm L (16 + 12 * j + 8))) ∧ ∃ m, w' = W.drewN m) := Lib.hid fun W n c hn hb => by
     have := HN.out W (16 + 12 * j + 8) n c hn (by omega) hb
     rw [hp, ← Nat.add_assoc] at this
     rw [hp]
     exact this
    rw [hp] at HHj
    have hpl : p + 12 ≤ L.length := by omega
    have HST : Hid (∀ n, RdMade w (((wr.drewN n).setCell ⟨g, j * 2, none⟩ (.int .i64 (Wh.nm L (16 + 12 * j + 4)))).setCell ⟨g, j * 2 + 1, none⟩ (.int .i64 (Wh.nm L (16 + 12 * j + 8)))) L k (j + 1) g h) := Lib.hid fun n => hM.out.step hlt n
    have y0 : wr.cell? ⟨g, j * 2, none⟩ = some (cs[j * 2]'(by omega)) := by rw [hrg.cell]; exact Array.getElem?_eq_getElem (by omega)
    have y1 : wr.cell? ⟨g, j * 2 + 1, none⟩ = some (cs[j * 2 + 1]'(by omega)) := by rw [hrg.cell]; exact Array.getElem?_eq_getElem (by omega)
    have z0 := hrg.frozen (j * 2)
    have z1 := hrg.frozen (j * 2 + 1)
    have hbW := Lib.hid hM.out.bel
    generalize cs[j * 2]'(by omega) = v0 at y0
    generalize cs[j * 2 + 1]'(by omega) = v1 at y1
    generalize Wh.nm L (16 + 12 * j + 4) = na at *
    generalize Wh.nm L (16 + 12 * j + 8) = nb at *
    have hpI : (p : Int) ≤ (L.length : Int) := by omega
    have hpN : p ≤ L.length := by omega
    have hpc : ¬ cap = p := by omega
    have hpc2 : p ≤ cap := by omega
    clear hp HN hrg hcs2
    go_wp2_with (go_at_call 69; go_must (refine (HHj.out _).mono ?_; rintro e w' ⟨rfl, rfl⟩))
    generalize hn1 : L.length - p = n1
    generalize hc1 : cap - p = c1
    have hq1 : 12 ≤ n1 := by omega
    have hq2 : n1 ≤ c1 := by omega
    have hq4 : (4 : Int) ≤ (n1 : Int) := by omega
    have hq8 : (8 : Int) ≤ (n1 : Int) := by omega
    have hqc : (n1 : Int) ≤ (c1 : Int) := by omega
    have hr4 : ¬ c1 = 4 := by omega
    have hr8 : ¬ c1 = 8 := by omega
    have hs4 : 4 ≤ n1 := by omega
    have hs8 : 8 ≤ n1 := by omega
    have hs4c : 4 ≤ c1 := by omega
    have hs8c : 8 ≤ c1 := by omega
    have hjk : (j : Int) < (k : Int) := by omega
    clear hn1 hc1 hpl hpI hpN hpc hpc2 hlI hI8 hIc hN8 hN8c hc8 hc12 hc hl
    go_region_held3 (fun W => W.cell? ⟨h, 2, none⟩ = some (.slice (some ⟨g, 0, none⟩) k k)) (first | exact x2 | exact (HST.out _).rh.cell 2 | go_keep) (first
     | (go_at_call 123; (with_reducible refine (HNa.out _ _ _ (by omega) (hbW.out.trans (Below.mono (by repeat (first | exact Below.refl _ _ | refine Below.drew ?_ | refine bel_drewN ?_ _)) (hbW.out.size)))).mono ?_); rintro e w1 ⟨rfl, m2, rfl⟩)
     | (go_at_call 123; (with_reducible refine (HNb.out _ _ _ (by omega) (hbW.out.trans (Below.mono (by repeat (first | exact Below.refl _ _ | refine Below.drew ?_ | refine bel_drewN ?_ _)) (hbW.out.size)))).mono ?_); rintro e w1 ⟨rfl, m2, rfl⟩)
     | fail)
    go_wp2_with fail
    go_roundw
    case rel => exact ⟨j + 1, by omega, by go_num, Lib.hid (HST.out _)⟩
    case measure => simp [intOf]; omega
   ·obtain rfl : j = k := by omega
    have HFI := Lib.hid (hM.out.fin (.int .i64 (Wh.nm L 0)) (.int .i64 (Wh.nm L 8)) (.slice (some ⟨g, 0, none⟩) j j))
    have hg0 := hM.out.g0
    have hh0 := hM.out.h0
    have r0 : wr.cell? ⟨w.heap.size, 0, none⟩ = some (.int .i64 0) := hM.out.rr.cell 0
    have r1 : wr.cell? ⟨w.heap.size, 1, none⟩ = some (.int .i64 0) := hM.out.rr.cell 1
    have r2 : wr.cell? ⟨w.heap.size, 2, none⟩ = some (.slice none 0 0) := hM.out.rr.cell 2
    have s0 := hM.out.rr.frozen 0
    have s1 := hM.out.rr.frozen 1
    have s2 := hM.out.rr.frozen 2
    clear hM hrg hcs2 HN HH2 HH HM0 hlI hI8 hIc hN8 hN8c hc8 hc12 hc hl
    go_wp2_with fail
    refine bodyPost_ret (v := .tuple #[.agg #[.int .i64 (Wh.nm L 0), .int .i64 (Wh.nm L 8), .slice (some ⟨g, 0, none⟩) j j], .bool true]) (by simp [results, Tryz.results110, go_sem, r0, r1, r2]) rfl ⟨g, rfl, Nat.le_of_lt hg0, HFI.out.1, HFI.out.2⟩
end
section
open Go.RowKit Go.Sort
open Wh (At)
open Me
namespace Wh
def rok (L : List UInt8) : Bool := decide (16 ≤ L.length) && decide (nm L 12 ≤ 8) && decide (16 + 12 * nm L 12 ≤ (L.length : Int))
def cand (L : List UInt8) : List (Int × Int) := archs L (nm L 12).toNat
def encL (L : List UInt8) : List UInt8 := enc (nm L 0) (nm L 8) (cand L)
def dok (L : List UInt8) : Bool := rok L && val (nm L 0) (nm L 8) (cand L) && decide ((encL L).length ≤ L.length ∧ L.take (encL L).length = encL L)
def dag (L : List UInt8) : Int := if dok L = true then nm L 0 else 0
def dxf (L : List UInt8) : Int := if dok L = true then nm L 8 else 0
def dl (L : List UInt8) : List (Int × Int) := if dok L = true then cand L else []
def derr (L : List UInt8) : Int := if dok L = true then 0 else 2
theorem rok_t {L : List UInt8} (h : rok L = true) : 16 ≤ L.length ∧ nm L 12 ≤ 8 ∧ 16 + 12 * nm L 12 ≤ (L.length : Int) := by
 unfold rok at h
 simp only [Bool.and_eq_true, decide_eq_true_eq] at h
 exact ⟨h.1.1, h.1.2, h.2⟩
theorem rok_f {L : List UInt8} (h : rok L = false) : L.length < 16 ∨ (16 ≤ L.length ∧ (8 < nm L 12 ∨ (L.length : Int) < 16 + nm L 12 * 12)) := by
 by_cases h1 : L.length < 16
 ·exact .inl h1
 ·refine .inr ⟨by omega, ?_⟩
  by_cases h2 : 8 < nm L 12
  ·exact .inl h2
  ·refine .inr ?_
   by_cases h3 : (L.length : Int) < 16 + nm L 12 * 12
   ·exact h3
   ·exfalso
    have : rok L = true := by
     unfold rok
     simp only [Bool.and_eq_true, decide_eq_true_eq]
     exact ⟨⟨by omega, by omega⟩, by omega⟩
    rw [h] at this
    cases this
theorem dok_f {L : List UInt8} (h : dok L = false) : dag L = 0 ∧ dxf L = 0 ∧ dl L = [] ∧ derr L = 2 := by unfold dag dxf dl derr; rw [h]; exact ⟨rfl, rfl, rfl, rfl⟩
theorem dok_t {L : List UInt8} (h : dok L = true) : dag L = nm L 0 ∧ dxf L = nm L 8 ∧ dl L = cand L ∧ derr L = 0 := by unfold dag dxf dl derr; rw [h]; exact ⟨rfl, rfl, rfl, rfl⟩
theorem dok_r {L : List UInt8} (h : rok L = false) : dok L = false := by unfold dok; rw [h, Bool.false_and, Bool.false_and]
theorem dok_v {L : List UInt8} (h : val (nm L 0) (nm L 8) (cand L) = false) : dok L = false := by unfold dok; rw [h]; simp
theorem dok_p {L : List UInt8} (h : rok L = true) (hv : val (nm L 0) (nm L 8) (cand L) = true) : dok L = decide ((encL L).length ≤ L.length ∧ L.take (encL L).length = encL L) := by unfold dok; rw [h, hv, Bool.true_and, Bool.true_and]
end Wh
def DecodedF (w : World) (L : List UInt8) (e : Ending) (w' : World) : Prop :=
 ∃ A c, e = .returned (.tuple #[.agg #[.int .i64 (Wh.dag L), .int .i64 (Wh.dxf L), .slice A (Wh.dl L).length c], .int .i64 (Wh.derr L)]) ∧ Row w' A (Wh.dl L) c ∧ Below w.heap.size w w' ∧ ∀ a, A = some a → w.heap.size ≤ a.block
theorem DecodedF.no {w w' : World} {L : List UInt8} {e : Ending} (h : Wh.dok L = false) (he : e = .returned (.tuple #[.agg #[.int .i64 0, .int .i64 0, .slice none 0 0], .int .i64 2])) (hb : Below w.heap.size w w') : DecodedF w L e w' := by
 obtain ⟨e1, e2, e3, e4⟩ := Wh.dok_f h
 refine ⟨none, 0, ?_, ?_, hb, fun a e => by cases e⟩
 ·rw [he, e1, e2, e3, e4]; rfl
 ·rw [e3]; exact ⟨Nat.le_refl _, fun h => by cases h⟩
theorem DecodedF.yes {w w' : World} {L : List UInt8} {e : Ending} {g c : Nat} (h : Wh.dok L = true) (he : e = .returned (.tuple #[.agg #[.int .i64 (Wh.nm L 0), .int .i64 (Wh.nm L 8), .slice (some ⟨g, 0, none⟩) (Wh.cand L).length c], .int .i64 0])) (hr : Row w' (some ⟨g, 0, none⟩) (Wh.cand L) c) (hb : Below w.heap.size w w') (hg : w.heap.size ≤ g) : DecodedF w L e w' := by
 obtain ⟨e1, e2, e3, e4⟩ := Wh.dok_t h
 refine ⟨some ⟨g, 0, none⟩, c, ?_, ?_, hb, fun a e => by cases e; exact hg⟩
 ·rw [he, e1, e2, e3, e4]
 ·rw [e3]; exact hr
theorem decode_bad (A : Option Addr) (L : List UInt8) (cap : Nat) (w : World) (hd : Wh.dok L = false)
 (HR : Hid (∀ W, Below w.heap.size w W → Calls Tryz.prog 110 #[.slice A L.length cap] W fun e w' => e = .returned (.tuple #[.agg #[.int .i64 0, .int .i64 0, .slice none 0 0], .bool false]) ∧ Below W.heap.size W w')) :
 Calls Tryz.prog 84 #[.slice A L.length cap] w (DecodedF w L) := by
 have HD := Lib.hid hd
 clear hd
 go_enter Tryz.func84, Tryz.ntmps84
 go_wp2_with (go_at_call 110; (((with_reducible refine (HR.out _ ((Below.refl _ _).alloc (Nat.le_refl _) _)).mono ?_)); rintro e w1 ⟨rfl, hb1⟩; obtain ⟨hc1, hf1⟩ := bcell hb1; (try have hq1w : w.heap.size < w1.heap.size := Bz hb1); have hs1 := hb1.size; (try simp at hs1)))
 refine bodyPost_ret (v := .tuple #[.agg #[.int .i64 0, .int .i64 0, .slice none 0 0], .int .i64 2]) ?_ rfl (DecodedF.no HD.out rfl ?_)
 ·simp [results, Tryz.results84, go_sem, hc1, hq1w]
 ·exact Bq
end
section
open Go.RowKit Go.Sort
namespace Sl
def al (t s : Int) : Int := if s < 1 ∨ t < 0 then t else t - t % s
def pl (s c t : Int) : Int := if s < 1 ∨ c < 1 ∨ t < 0 then 0 else t / s % c
theorem al_eq {t s : Int} (h1 : 1 ≤ s) (h2 : 0 ≤ t) : al t s = t - t % s := by unfold al; rw [if_neg (by omega)]
theorem pl_eq {s c t : Int} (h1 : 1 ≤ s) (h2 : 1 ≤ c) (h3 : 0 ≤ t) : pl s c t = t / s % c := by unfold pl; rw [if_neg (by omega)]
theorem al_mul {t s : Int} (h1 : 1 ≤ s) (h2 : 0 ≤ t) : al t s = s * (t / s) := by
 rw [al_eq h1 h2]
 have := Int.mul_ediv_add_emod t s
 omega
theorem al_div {t s : Int} (h1 : 1 ≤ s) (h2 : 0 ≤ t) : al t s / s = t / s := by
 rw [al_mul h1 h2]
 exact Int.mul_ediv_cancel_left _ (by omega)
theorem al_bd {t s : Int} (h1 : 1 ≤ s) (h2 : 0 ≤ t) : 0 ≤ al t s ∧ al t s ≤ t := by
 rw [al_eq h1 h2]
 have h3 := Int.emod_nonneg t (by omega : s ≠ 0)
 have h4 : t % s ≤ t := by
  have := Int.mul_ediv_add_emod t s
  have h5 : 0 ≤ s * (t / s) := Int.mul_nonneg (by omega) (Int.ediv_nonneg h2 (by omega))
  omega
 omega
theorem pl_bd {s c t : Int} (h1 : 1 ≤ s) (h2 : 1 ≤ c) (h3 : 0 ≤ t) : 0 ≤ pl s c t ∧ pl s c t < c := by
 rw [pl_eq h1 h2 h3]
 exact ⟨Int.emod_nonneg _ (by omega), Int.emod_lt_of_pos _ (by omega)⟩
end Sl
section
set_option maxHeartbeats 400000
theorem align_any (t s : Int) (hi : t ≤ 9223372036854775807) (w : World) :
 Calls Tryz.prog 78 #[.int .i64 t, .int .i64 s] w fun e w' => e = .returned (.int .i64 (Sl.al t s)) ∧ w = w' := by
 by_cases h1 : s < 1
 ·have H : Hid (Sl.al t s = t) := Lib.hid (by unfold Sl.al; rw [if_pos (.inl h1)])
  go_enter Tryz.func78, Tryz.ntmps78
  go_wp2
  go_ret
  exact ⟨by rw [H.out]; rfl, rfl⟩
 by_cases h2 : t < 0
 ·have H : Hid (Sl.al t s = t) := Lib.hid (by unfold Sl.al; rw [if_pos (.inr h2)])
  go_enter Tryz.func78, Tryz.ntmps78
  go_wp2
  go_ret
  exact ⟨by rw [H.out]; rfl, rfl⟩
 have H := Lib.hid (Sl.al_eq (t := t) (s := s) (by omega) (by omega))
 have hm : t.tmod s = t % s := Int.tmod_eq_emod_of_nonneg (by omega)
 have hz : (s == 0) = false := by simp; omega
 have hb := Sl.al_bd (t := t) (s := s) (by omega) (by omega)
 rw [H.out] at hb
 have hw : IntKind.i64.wrap (t - t % s) = t - t % s := IntWalk.i64_in _ (by omega)
 have hn : 0 ≤ t % s := Int.emod_nonneg _ (by omega)
 have hw2 : IntKind.i64.wrap (t % s) = t % s := IntWalk.i64_in _ (by omega)
 go_enter Tryz.func78, Tryz.ntmps78
 go_wp2
 go_ret
 exact ⟨by rw [H.out]; rfl, rfl⟩
theorem ralign_any (t s : Int) (hi : t ≤ 9223372036854775807) (w : World) :
 Calls Tryz.prog 80 #[.int .i64 t, .int .i64 s] w fun e w' => e = .returned (.int .i64 (Sl.al t s)) ∧ w = w' := by
 by_cases h1 : s < 1
 ·have H : Hid (Sl.al t s = t) := Lib.hid (by unfold Sl.al; rw [if_pos (.inl h1)])
  go_enter Tryz.func80, Tryz.ntmps80
  go_wp2
  go_ret
  exact ⟨by rw [H.out]; rfl, rfl⟩
 by_cases h2 : t < 0
 ·have H : Hid (Sl.al t s = t) := Lib.hid (by unfold Sl.al; rw [if_pos (.inr h2)])
  go_enter Tryz.func80, Tryz.ntmps80
  go_wp2
  go_ret
  exact ⟨by rw [H.out]; rfl, rfl⟩
 have H := Lib.hid (Sl.al_eq (t := t) (s := s) (by omega) (by omega))
 have hm : t.tmod s = t % s := Int.tmod_eq_emod_of_nonneg (by omega)
 have hz : (s == 0) = false := by simp; omega
 have hb := Sl.al_bd (t := t) (s := s) (by omega) (by omega)
 rw [H.out] at hb
 have hw : IntKind.i64.wrap (t - t % s) = t - t % s := IntWalk.i64_in _ (by omega)
 have hn : 0 ≤ t % s := Int.emod_nonneg _ (by omega)
 have hw2 : IntKind.i64.wrap (t % s) = t % s := IntWalk.i64_in _ (by omega)
 go_enter Tryz.func80, Tryz.ntmps80
 go_wp2
 go_ret
 exact ⟨by rw [H.out]; rfl, rfl⟩
end
section
set_option maxHeartbeats 1000000
theorem place_any (s c t : Int) (hi : t ≤ 9223372036854775807) (w : World) :
 Calls Tryz.prog 107 #[.agg #[.int .i64 s, .int .i64 c], .int .i64 t] w fun e w' => e = .returned (.int .i64 (Sl.pl s c t)) ∧ Below w.heap.size w w' := by
 by_cases h1 : s < 1
 ·have H : Hid (Sl.pl s c t = 0) := Lib.hid (by unfold Sl.pl; rw [if_pos (.inl h1)])
  go_enter Tryz.func107, Tryz.ntmps107
  go_wp2
  go_ret
  exact ⟨by rw [H.out]; rfl, Bq⟩
 by_cases h2 : c < 1
 ·have H : Hid (Sl.pl s c t = 0) := Lib.hid (by unfold Sl.pl; rw [if_pos (.inr (.inl h2))])
  go_enter Tryz.func107, Tryz.ntmps107
  go_wp2
  go_ret
  exact ⟨by rw [H.out]; rfl, Bq⟩
 by_cases h3 : t < 0
 ·have H : Hid (Sl.pl s c t = 0) := Lib.hid (by unfold Sl.pl; rw [if_pos (.inr (.inr h3))])
  go_enter Tryz.func107, Tryz.ntmps107
  go_wp2
  go_ret
  exact ⟨by rw [H.out]; rfl, Bq⟩
 have hb := Sl.al_bd (t := t) (s := s) (by omega) (by omega)
 have hq : 0 ≤ t / s ∧ t / s ≤ t := ⟨Int.ediv_nonneg (by omega) (by omega), Int.ediv_le_self _ (by omega)⟩
 have HA := Lib.hid (fun W => align_any t s hi W)
 have hd : (Sl.al t s).tdiv s = t / s := by rw [Int.tdiv_eq_ediv_of_nonneg hb.1, Sl.al_div (by omega) (by omega)]
 have hp := Sl.pl_bd (s := s) (c := c) (t := t) (by omega) (by omega) (by omega)
 have hm : (t / s).tmod c = Sl.pl s c t := by rw [Int.tmod_eq_emod_of_nonneg hq.1, Sl.pl_eq (by omega) (by omega) (by omega)]
 have hz : (s == 0) = false := by simp; omega
 have hz2 : (c == 0) = false := by simp; omega
 have hpq : Sl.pl s c t ≤ t / s := by
  rw [Sl.pl_eq (by omega) (by omega) (by omega)]
  have := Int.mul_ediv_add_emod (t / s) c
  have h5 : 0 ≤ c * (t / s / c) := Int.mul_nonneg (by omega) (Int.ediv_nonneg hq.1 (by omega))
  omega
 generalize Sl.pl s c t = p at *
 generalize t / s = q at *
 generalize Sl.al t s = a at *
 have hw1 : IntKind.i64.wrap q = q := IntWalk.i64_in _ (by omega)
 have hw2 : IntKind.i64.wrap p = p := IntWalk.i64_in _ (by omega)
 obtain ⟨kc, kf⟩ := kgrown (w.alloc (.cells #[.int .i64 s, .int .i64 c] 69))
 go_enter Tryz.func107, Tryz.ntmps107
 go_wp2_with fail
 refine wp_region_quiet_below (by kernel_rfl) (by kernel_rfl) ?_
 repeat (go_big_quiet_step (first
  | (go_at_call 78; exact Calls.regrown_of ((HA.out _).mono fun _ _ ⟨e, h⟩ => ⟨e, h ▸ Below.refl _ _⟩))))
 refine wpQuiet_nil ?_
 intro _ hw'
 obtain ⟨⟨dq, osq⟩, hw''⟩ := hw'
 subst hw''
 go_wp2
 go_ret
 exact ⟨rfl, Bq⟩
theorem rplace_any (s c t : Int) (hi : t ≤ 9223372036854775807) (w : World) :
 Calls Tryz.prog 67 #[.agg #[.int .i64 s, .int .i64 c], .int .i64 t] w fun e w' => e = .returned (.int .i64 (Sl.pl s c t)) ∧ Below w.heap.size w w' := by
 by_cases h1 : s < 1
 ·have H : Hid (Sl.pl s c t = 0) := Lib.hid (by unfold Sl.pl; rw [if_pos (.inl h1)])
  go_enter Tryz.func67, Tryz.ntmps67
  go_wp2
  go_ret
  exact ⟨by rw [H.out]; rfl, Bq⟩
 by_cases h2 : c < 1
 ·have H : Hid (Sl.pl s c t = 0) := Lib.hid (by unfold Sl.pl; rw [if_pos (.inr (.inl h2))])
  go_enter Tryz.func67, Tryz.ntmps67
  go_wp2
  go_ret
  exact ⟨by rw [H.out]; rfl, Bq⟩
 by_cases h3 : t < 0
 ·have H : Hid (Sl.pl s c t = 0) := Lib.hid (by unfold Sl.pl; rw [if_pos (.inr (.inr h3))])
  go_enter Tryz.func67, Tryz.ntmps67
  go_wp2
  go_ret
  exact ⟨by rw [H.out]; rfl, Bq⟩
 have hq : 0 ≤ t / s ∧ t / s ≤ t := ⟨Int.ediv_nonneg (by omega) (by omega), Int.ediv_le_self _ (by omega)⟩
 have hd : t.tdiv s = t / s := Int.tdiv_eq_ediv_of_nonneg (by omega)
 have hp := Sl.pl_bd (s := s) (c := c) (t := t) (by omega) (by omega) (by omega)
 have hm : (t / s).tmod c = Sl.pl s c t := by rw [Int.tmod_eq_emod_of_nonneg hq.1, Sl.pl_eq (by omega) (by omega) (by omega)]
 have hz : (s == 0) = false := by simp; omega
 have hz2 : (c == 0) = false := by simp; omega
 have hpq : Sl.pl s c t ≤ t / s := by
  rw [Sl.pl_eq (by omega) (by omega) (by omega)]
  have := Int.mul_ediv_add_emod (t / s) c
  have h5 : 0 ≤ c * (t / s / c) := Int.mul_nonneg (by omega) (Int.ediv_nonneg hq.1 (by omega))
  omega
 generalize Sl.pl s c t = p at *
 generalize t / s = q at *
 have hw1 : IntKind.i64.wrap q = q := IntWalk.i64_in _ (by omega)
 have hw2 : IntKind.i64.wrap p = p := IntWalk.i64_in _ (by omega)
 go_enter Tryz.func67, Tryz.ntmps67
 go_wp2_with fail
 go_quiet (fail)
 go_wp2
 go_ret
 exact ⟨rfl, Bqn⟩
end
end
section
open Go.RowKit Go.Sort
open Me
namespace Sl
def bt (n : Int) (k : Nat) : UInt8 := UInt8.ofNat ((n / (2 : Int) ^ (8 * k)) % 256).toNat
def lim (a : Int) : Int := min (max a 0) 4294967295
def beb (n : Int) : Nat → List UInt8
 | 0 => []
 | k + 1 => bt n k :: beb n k
theorem beb_len (n : Int) (k : Nat) : (beb n k).length = k := by induction k with
 | zero => rfl
 | succ k ih => unfold beb; simp [ih]
theorem by8_bt (n : Int) (k : Nat) : by8 [bt n k] = [.int .u8 (n / (2 : Int) ^ (8 * k) % 256)] := by
 unfold by8 bt
 simp only [List.map_cons, List.map_nil, Wh.u8of]
def ptC (v : Value) (a n : Int) : Obj := .cells #[v, .int .i64 a, .int .i64 n] 191
def Pst (w0 : World) (g : Nat) (lr : Option Nat) (a n : Int) (L : List UInt8) (w : World) : Prop :=
 ∃ v, w.heap[g]? = some (ptC v a n) ∧ OwnB 0 w v L ∧ Kp (fun b => b = g ∨ lr = some b) w0 w ∧ (v.ownBlock = lr ∨ ∃ b, v.ownBlock = some b ∧ w0.heap.size ≤ b)
theorem pt_cells {w : World} {g : Nat} {v : Value} {a n : Int} (h : w.heap[g]? = some (ptC v a n)) :
 w.cell? ⟨g, 0, none⟩ = some v ∧ w.cell? ⟨g, 1, none⟩ = some (.int .i64 a) ∧ w.cell? ⟨g, 2, none⟩ = some (.int .i64 n) ∧ (∀ i, w.frozen? ⟨g, i, none⟩ = false) ∧ g < w.heap.size := by
 unfold ptC at h
 refine ⟨?_, ?_, ?_, fun i => ?_, (Array.getElem?_eq_some_iff.1 h).1⟩
 ·rw [cell_of_row w g 0 _ _ (0, 0) h]; rfl
 ·rw [cell_of_row w g 1 _ _ (0, 0) h]; rfl
 ·rw [cell_of_row w g 2 _ _ (0, 0) h]; rfl
 ·simp [World.frozen?, h]
theorem row_ne {w : World} {g : Nat} {v v' : Value} {a n : Int} {L : List UInt8} (h : w.heap[g]? = some (ptC v' a n)) (ho : OwnB 0 w v L) : v.ownBlock ≠ some g := by
 intro e
 rcases ho.2 with ⟨rfl, _⟩ | ⟨g', cap, cur, rfl, _, hh, _⟩
 ·cases e
 ·have : g' = g := by simpa [Value.ownBlock] using e
  subst this
  rw [h] at hh
  unfold ptC at hh
  simp at hh
theorem heap_cell0 {w : World} {g : Nat} {v : Value} {a n : Int} (h : w.heap[g]? = some (ptC v a n)) (u : Value) : (w.setCell ⟨g, 0, none⟩ u).heap[g]? = some (ptC u a n) := by
 unfold ptC at *
 simp [World.setCell, Array.getElem?_modify, h]
theorem Pst.put {w0 w w2 : World} {o : Obj} {g : Nat} {lr : Option Nat} {a n : Int} {X : List UInt8} {v v2 : Value} (hg : w.heap[g]? = some (ptC v a n)) (hk : Kp (fun b => b = g ∨ lr = some b) w0 w) (hfr : v.ownBlock = lr ∨ ∃ b, v.ownBlock = some b ∧ w0.heap.size ≤ b)
 (hne : v.ownBlock ≠ some g) (ho : OwnB 0 w2 v2 X) (hgr : (w.alloc o).grownBy w2 v.ownBlock) (hat : v2.ownBlock = v.ownBlock ∨ v2.ownBlock = some (w.alloc o).heap.size) : Pst w0 g lr a n X (w2.setCell ⟨g, 0, none⟩ v2) := by
 have gl : g < w.heap.size := (Array.getElem?_eq_some_iff.1 hg).1
 have h2 : w2.heap[g]? = some (ptC v a n) := (hgr.block g (by simp; omega) (fun e => hne e.symm)).trans ((Below.heap_alloc w o g gl).trans hg)
 refine ⟨v2, heap_cell0 h2 v2, owns_keep ho (fun b hb => Below.heap_setCell w2 ⟨g, 0, none⟩ _ b ?_), ?_, ?_⟩
 ·show b ≠ g
  rintro rfl
  rcases hat with e | e
  ·exact hne (e ▸ hb)
  ·rw [hb] at e; simp at e; omega
 ·refine ((hk.alloc o).grown hgr (fun b hb => ?_)).setCell ⟨g, 0, none⟩ (.inr (.inl rfl)) _
  rcases hfr with e | ⟨c, e, hc⟩
  ·exact .inr (.inr (e ▸ hb))
  ·rw [e] at hb
   injection hb with hb
   exact .inl (hb ▸ hc)
 ·rcases hat with e | e
  ·rw [e]; exact hfr
  ·exact .inr ⟨_, e, Nat.le_trans hk.size (by simp)⟩
end Sl
theorem sput_any {w : World} {g : Nat} {v : Value} {a n : Int} {L : List UInt8} (hg : w.heap[g]? = some (Sl.ptC v a n)) (hown : OwnB 0 w v L) (hL : L.length ≤ 100) (x : Int) (size : Nat) (hs : size ≤ 8) :
 Calls Tryz.prog 129 #[.pointer (some ⟨g, 0, none⟩), .int .i64 x, .int .i64 size] w fun e w' => e = .returned (.tuple #[]) ∧ Sl.Pst w g v.ownBlock a n (L ++ Sl.beb x size) w' := by
 obtain ⟨j0, hj0, hy0, hy1, hy2⟩ := info_parts u8info
 have HJ := Lib.hid hj0
 have HY := Lib.hid (And.intro hy0 (And.intro hy1 hy2))
 clear hj0 hy0 hy1 hy2
 have H0 : Hid (Sl.Pst w g v.ownBlock a n L w) := Lib.hid ⟨v, hg, hown, Kp.refl _ _, .inl rfl⟩
 generalize v.ownBlock = lr at *
 clear hg hown
 go_enter Tryz.func129, Tryz.ntmps129
 go_wp2_with fail
 go_loopw [6] (fun i wr => ∃ (k : Nat) (X : List UInt8), k ≤ size ∧ i = .int .i64 ((k : Int) - 1) ∧ Hid (X ++ Sl.beb x k = L ++ Sl.beb x size) ∧ Hid (Sl.Pst w g lr a n X wr)) (fun i _ => (intOf i + 1).toNat)
 case atStart => exact ⟨size, L, Nat.le_refl _, rfl, Lib.hid rfl, H0⟩
 case round =>
  obtain ⟨k, X, hk, rfl, hx, hp⟩ := hrel
  obtain ⟨v, h1, h2, h3, h4⟩ := hp.out
  obtain ⟨d0, d1, d2, d3, d4⟩ := Sl.pt_cells h1
  have df := d3 0
  clear d3
  obtain ⟨A, m, c, rfl⟩ := own_slice h2
  cases k with
  | zero =>
    go_wp2_with fail
    ((try simp only [Exit.inBlock, Exit.then]); first | (refine bodyPost_ret (results_none rfl _ _ _) rfl ?_) | (refine bodyPost_end (results_none rfl _ _ _) rfl ?_))
    exact ⟨rfl, by have := hx.out; simp only [Sl.beb, List.append_nil] at this; rw [← this]; exact hp.out⟩
  | succ k =>
    have hki : ((k + 1 : Nat) : Int) - 1 = (k : Int) := by omega
    rw [hki]
    have hq8 := Sl.by8_bt x k
    have hkk : (k : Int) ≤ 7 := by omega
    obtain ⟨y, q, hwy, hsh, hz⟩ : ∃ y q : Int, IntKind.i64.wrap (8 * (k : Int)) = y ∧ Op.shift .shr .i64 x .i64 y = pure (.int .i64 q) ∧ IntKind.u8.wrap q = x / (2 : Int) ^ (8 * k) % 256 := by
     refine ⟨8 * (k : Int), x / (2 : Int) ^ (8 * k), IntWalk.i64_in _ (by omega), ?_, ?_⟩
     ·rw [shift_shr .i64 .i64 x (8 * (k : Int)) (by omega) (by show _ ≤ (64 : Int); omega)]
      have : (8 * (k : Int)).toNat = 8 * k := by omega
      rw [this]
     ·rw [IntKind.wrap_u8]
    generalize x / (2 : Int) ^ (8 * k) % 256 = z at *
    have HOW : Hid ((wr.alloc (.cells #[.int .u8 z] 5)).ownsRow 0 5 1 (.slice A m c) X.length (by8 X)) := Lib.hid (owns_keep h2 fun b hb => Below.heap_alloc _ _ _ (own_lt h2 b hb).2)
    have HRD : Hid (Rd (wr.alloc (.cells #[.int .u8 z] 5)) (fun b => b = wr.heap.size) (some ⟨wr.heap.size, 0, none⟩) [.int .u8 z]) := Lib.hid (Rd.fresh wr [.int .u8 z] 5 _ rfl)
    have hne := Sl.row_ne h1 h2
    have HNE := Lib.hid hne
    have HG := Lib.hid h1
    have HK := Lib.hid h3
    have HFR := Lib.hid h4
    have hXl : X.length ≤ 108 := by
     have := congrArg List.length hx.out
     rw [List.length_append, List.length_append, Sl.beb_len, Sl.beb_len] at this
     omega
    have hX2 : X.length + 1 ≤ maxLen := by unfold maxLen; omega
    have HXM : Hid (∀ w2 v2, w2.ownsRow 0 5 1 v2 (X.length + 1) (by8 X ++ [.int .u8 z]) → OwnB 0 w2 v2 (X ++ [Sl.bt x k])) := Lib.hid fun w2 v2 h => by
     refine own_more (Y := [Sl.bt x k]) rfl ?_
     rw [hq8]
     exact h
    have HXE : Hid ((X ++ [Sl.bt x k]) ++ Sl.beb x k = L ++ Sl.beb x size) := Lib.hid (by rw [← hx.out, List.append_assoc]; rfl)
    generalize X ++ [Sl.bt x k] = X2 at *
    clear hx hp h1 h2 h3 h4 hne hq8
    go_wp2_with fail
    go_region_law (refine step_app _ rfl (.tmp 17) (.tmp 23) 49 rfl 0 5 j0 (.int .u8 0) 1 1 Tryz.underlying49 HJ.out HY.out.1 HY.out.2.1 HY.out.2.2 rfl (by decide) (.slice A m c) X.length (by8 X) (by simp [Act.eval]) HOW.out (fun b => b = wr.heap.size) (some ⟨wr.heap.size, 0, none⟩) 1 1 [.int .u8 z] (by simp [Act.eval]) (by simp) HRD.out (by intro u hu; simp at hu; subst hu; rfl) hX2 (by omega) (Nat.zero_le _) ?_; intro v2 w2 hown2 hg2 hat2 hnil2; have d0' : w2.cell? ⟨g, 0, none⟩ = some (.slice A m c) := (hg2.cell_far ⟨g, 0, none⟩ (by show g < _; simp; omega) (fun e => HNE.out e.symm)).trans ((World.cell?_alloc_lt _ _ _ d4).trans d0); have df' : w2.frozen? ⟨g, 0, none⟩ = false := (hg2.frozen_far ⟨g, 0, none⟩ (by show g < _; simp; omega) (fun e => HNE.out e.symm)).trans ((World.frozen?_of_block (Below.heap_alloc _ _ g d4)).trans df); have HO2 := Lib.hid (HXM.out _ _ hown2); have HG2 := Lib.hid hg2; have HA2 := Lib.hid hat2; obtain ⟨A2, m2, c2, rfl⟩ := own_slice hown2; clear hown2 hg2 hat2 hnil2)
    all_goals
     go_wp2_with fail
     go_roundw
     case rel => exact ⟨k, X2, by omega, by go_num, HXE, Lib.hid (Sl.Pst.put (w := wr.drew) HG.out HK.out.drew HFR.out HNE.out HO2.out HG2.out HA2.out)⟩
     case measure => first | (simp [intOf]; done) | (simp [intOf]; omega)
theorem stake_any {w : World} {g : Nat} {v : Value} {a n : Int} {L : List UInt8} (hg : w.heap[g]? = some (Sl.ptC v a n)) (hown : OwnB 0 w v L) :
 Calls Tryz.prog 130 #[.pointer (some ⟨g, 0, none⟩)] w fun e w' => e = .returned v ∧ w' = w.setCell ⟨g, 0, none⟩ (.slice none 0 0) := by
 obtain ⟨d0, _, _, d3, d4⟩ := Sl.pt_cells hg
 have df := d3 0
 obtain ⟨A, m, c, rfl⟩ := own_slice hown
 clear hg hown d3
 go_enter Tryz.func130, Tryz.ntmps130
 go_wp2_with fail
 go_ret
 exact ⟨rfl, rfl⟩
theorem pointOf_any (a n : Int) (w : World) :
 Calls Tryz.prog 128 #[.agg #[.int .i64 a, .int .i64 n]] w fun e w' => e = .returned (.pointer (some ⟨w.heap.size + 1, 0, none⟩)) ∧ w' = (w.alloc (.cells #[.int .i64 a, .int .i64 n] 54)).alloc (Sl.ptC (.slice none 0 0) (Sl.lim a) n) := by
 rcases (by omega : a < 0 ∨ (0 ≤ a ∧ a ≤ 4294967295) ∨ 4294967295 < a) with h | h | h
 ·have H : Hid (Sl.lim a = 0) := Lib.hid (by unfold Sl.lim; omega)
  go_enter Tryz.func128, Tryz.ntmps128
  go_wp2_with fail
  go_ret
  exact ⟨rfl, by rw [H.out]; rfl⟩
 ·have H : Hid (Sl.lim a = a) := Lib.hid (by unfold Sl.lim; omega)
  go_enter Tryz.func128, Tryz.ntmps128
  go_wp2_with fail
  go_ret
  exact ⟨rfl, by rw [H.out]; rfl⟩
 ·have H : Hid (Sl.lim a = 4294967295) := Lib.hid (by unfold Sl.lim; omega)
  go_enter Tryz.func128, Tryz.ntmps128
  go_wp2_with fail
  go_ret
  exact ⟨rfl, by rw [H.out]; rfl⟩
end
section
open Go.RowKit Go.Sort
open Me
theorem OwnB.rebase {a b : Nat} {w : World} {v : Value} {l : List UInt8} (h : OwnB a w v l) (hb : ∀ g, v.ownBlock = some g → b ≤ g) : OwnB b w v l := by
 refine ⟨h.1, ?_⟩
 rcases h.2 with hn | ⟨g, cap, cur, hv, _, rest⟩
 ·exact .inl hn
 ·exact .inr ⟨g, cap, cur, hv, hb g (by rw [hv]; rfl), rest⟩
namespace Sl
def enc (a n : Int) : List UInt8 := beb (lim a) 4 ++ beb n 8
theorem enc_len (a n : Int) : (enc a n).length = 12 := by unfold enc; rw [List.length_append, beb_len, beb_len]
theorem Pst.chain {w0 w w' : World} {g : Nat} {lr : Option Nat} {a n : Int} {L' : List UInt8} {v : Value} (hk : Kp (fun b => b = g ∨ lr = some b) w0 w) (hfr : v.ownBlock = lr ∨ ∃ b, v.ownBlock = some b ∧ w0.heap.size ≤ b)
 (h' : Pst w g v.ownBlock a n L' w') : Pst w0 g lr a n L' w' := by
 obtain ⟨v', p1, p2, p3, p4⟩ := h'
 refine ⟨v', p1, p2, hk.trans p3 (fun i hi ho => ?_), ?_⟩
 ·rcases ho with rfl | ho
  ·exact .inl rfl
  ·rcases hfr with e | ⟨b, e, hb⟩
   ·exact .inr (e ▸ ho)
   ·rw [e] at ho
    injection ho with ho
    omega
 ·rcases p4 with e | ⟨b, e, hb⟩
  ·rw [e]; exact hfr
  ·exact .inr ⟨b, e, Nat.le_trans hk.size hb⟩
theorem Pst.take {w0 w : World} {g : Nat} {a n : Int} {L : List UInt8} {v : Value} (h1 : w.heap[g]? = some (ptC v a n)) (h2 : OwnB 0 w v L) (h3 : Kp (fun b => b = g ∨ (none : Option Nat) = some b) w0 w) (h4 : v.ownBlock = none ∨ ∃ b, v.ownBlock = some b ∧ w0.heap.size ≤ b) :
 OwnB w0.heap.size (w.setCell ⟨g, 0, none⟩ (.slice none 0 0)) v L ∧ Kp (fun b => b = g) w0 (w.setCell ⟨g, 0, none⟩ (.slice none 0 0)) ∧ Pst (w.setCell ⟨g, 0, none⟩ (.slice none 0 0)) g none a n [] (w.setCell ⟨g, 0, none⟩ (.slice none 0 0)) ∧ v.ownBlock ≠ some g := by
 have hne := row_ne h1 h2
 refine ⟨?_, ?_, ⟨_, heap_cell0 h1 _, OwnB.nil _ _, Kp.refl _ _, .inl rfl⟩, hne⟩
 ·refine (OwnB.rebase h2 fun b hb => ?_).kp (O := fun b => b = g) (Kp.setCell (O := fun b => b = g) (Kp.refl _ _) ⟨g, 0, none⟩ (.inr rfl) _) fun b hb e => hne (e ▸ hb)
  rcases h4 with e | ⟨c, e, hc⟩
  ·rw [e] at hb; cases hb
  ·rw [e] at hb; injection hb with hb; omega
 ·refine Kp.setCell (O := fun b => b = g) (h3.mono fun i _ ho => ?_) ⟨g, 0, none⟩ (.inr rfl) _
  rcases ho with e | e
  ·exact e
  ·cases e
end Sl
section
variable {w0 w : World} {g : Nat} {lr : Option Nat} {a n : Int} {L : List UInt8}
theorem sput_P (h : Sl.Pst w0 g lr a n L w) (hL : L.length ≤ 100) (x : Int) (size : Nat) (hs : size ≤ 8) :
 Calls Tryz.prog 129 #[.pointer (some ⟨g, 0, none⟩), .int .i64 x, .int .i64 size] w fun e w' => e = .returned (.tuple #[]) ∧ Sl.Pst w0 g lr a n (L ++ Sl.beb x size) w' := by
 obtain ⟨v, h1, h2, h3, h4⟩ := h
 exact (sput_any h1 h2 hL x size hs).mono fun _ _ ⟨e, hp⟩ => ⟨e, Sl.Pst.chain h3 h4 hp⟩
theorem stake_P (h : Sl.Pst w0 g none a n L w) :
 Calls Tryz.prog 130 #[.pointer (some ⟨g, 0, none⟩)] w fun e w' => ∃ v, e = .returned v ∧ OwnB w0.heap.size w' v L ∧ Kp (fun b => b = g) w0 w' ∧ Sl.Pst w' g none a n [] w' ∧ v.ownBlock ≠ some g := by
 obtain ⟨v, h1, h2, h3, h4⟩ := h
 refine (stake_any h1 h2).mono ?_
 rintro e w' ⟨rfl, rfl⟩
 exact ⟨v, rfl, Sl.Pst.take h1 h2 h3 h4⟩
theorem pointOf_P (a n : Int) (w : World) :
 Calls Tryz.prog 128 #[.agg #[.int .i64 a, .int .i64 n]] w fun e w' => ∃ g, e = .returned (.pointer (some ⟨g, 0, none⟩)) ∧ w.heap.size ≤ g ∧ Sl.Pst w' g none (Sl.lim a) n [] w' ∧ Below w.heap.size w w' := by
 refine (pointOf_any a n w).mono ?_
 rintro e w' ⟨rfl, rfl⟩
 refine ⟨_, rfl, by omega, ⟨_, ?_, OwnB.nil _ _, Kp.refl _ _, .inl rfl⟩, Bq⟩
 have := heap_alloc_new (w.alloc (.cells #[.int .i64 a, .int .i64 n] 54)) (Sl.ptC (.slice none 0 0) (Sl.lim a) n)
 simpa using this
theorem putAt_P (h : Sl.Pst w0 g lr a n L w) (hL : L.length ≤ 100) :
 Calls Tryz.prog 132 #[.pointer (some ⟨g, 0, none⟩)] w fun e w' => e = .returned (.tuple #[]) ∧ Sl.Pst w0 g lr a n (L ++ Sl.beb a 4) w' := by
 have HC : Hid (∀ W : World, W.heap = w.heap → W.os = w.os → W.tape = w.tape → W.output = w.output → Calls Tryz.prog 129 #[.pointer (some ⟨g, 0, none⟩), .int .i64 a, .int .i64 4] W fun e w' => e = .returned (.tuple #[]) ∧ Sl.Pst w0 g lr a n (L ++ Sl.beb a 4) w') := Lib.hid fun W e1 e2 e3 e4 => by
  obtain ⟨v, h1, h2, h3, h4⟩ := h
  exact sput_P (w := W) ⟨v, by rw [e1]; exact h1, owns_keep h2 fun _ _ => by rw [e1], ⟨e2.trans h3.os, e3.trans h3.tape, e4.trans h3.output, by rw [e1]; exact h3.size, by rw [e1]; exact h3.block⟩, h4⟩ hL a 4 (by omega)
 have HCD := Lib.hid (HC.out w.drew rfl rfl rfl rfl)
 obtain ⟨v, h1, h2, h3, h4⟩ := h
 obtain ⟨d0, d1, d2, d3, d4⟩ := Sl.pt_cells h1
 clear h1 h2 h3 h4 d3
 go_enter Tryz.func132, Tryz.ntmps132
 go_wp2_with fail
 go_region_with (go_at_call 129; refine HCD.out.mono ?_; rintro e w' ⟨rfl, hp⟩; have HP := Lib.hid hp; clear hp)
 go_wp2_with fail
 ((try simp only [Exit.inBlock, Exit.then]); first | (refine bodyPost_ret (results_none rfl _ _ _) rfl ?_) | (refine bodyPost_end (results_none rfl _ _ _) rfl ?_))
 exact ⟨rfl, HP.out⟩
theorem putN_P (h : Sl.Pst w0 g lr a n L w) (hL : L.length ≤ 100) :
 Calls Tryz.prog 131 #[.pointer (some ⟨g, 0, none⟩)] w fun e w' => e = .returned (.tuple #[]) ∧ Sl.Pst w0 g lr a n (L ++ Sl.beb n 8) w' := by
 have HC : Hid (∀ W : World, W.heap = w.heap → W.os = w.os → W.tape = w.tape → W.output = w.output → Calls Tryz.prog 129 #[.pointer (some ⟨g, 0, none⟩), .int .i64 n, .int .i64 8] W fun e w' => e = .returned (.tuple #[]) ∧ Sl.Pst w0 g lr a n (L ++ Sl.beb n 8) w') := Lib.hid fun W e1 e2 e3 e4 => by
  obtain ⟨v, h1, h2, h3, h4⟩ := h
  exact sput_P (w := W) ⟨v, by rw [e1]; exact h1, owns_keep h2 fun _ _ => by rw [e1], ⟨e2.trans h3.os, e3.trans h3.tape, e4.trans h3.output, by rw [e1]; exact h3.size, by rw [e1]; exact h3.block⟩, h4⟩ hL n 8 (by omega)
 have HCD := Lib.hid (HC.out w.drew rfl rfl rfl rfl)
 obtain ⟨v, h1, h2, h3, h4⟩ := h
 obtain ⟨d0, d1, d2, d3, d4⟩ := Sl.pt_cells h1
 clear h1 h2 h3 h4 d3
 go_enter Tryz.func131, Tryz.ntmps131
 go_wp2_with fail
 go_region_with (go_at_call 129; refine HCD.out.mono ?_; rintro e w' ⟨rfl, hp⟩; have HP := Lib.hid hp; clear hp)
 go_wp2_with fail
 ((try simp only [Exit.inBlock, Exit.then]); first | (refine bodyPost_ret (results_none rfl _ _ _) rfl ?_) | (refine bodyPost_end (results_none rfl _ _ _) rfl ?_))
 exact ⟨rfl, HP.out⟩
end
end
section
open Go.RowKit Go.Sort
open Me
theorem OwnB.fresh (w : World) (l : List UInt8) (base : Nat) (hb : base ≤ w.heap.size) (hm : l.length ≤ 1048576) : OwnB base (w.alloc (.cells (by8 l).toArray 5)) (.slice (some ⟨w.heap.size, 0, none⟩) l.length l.length) l := by
 refine ⟨by rw [by8_len]; simp, .inr ⟨w.heap.size, l.length, _, rfl, hb, heap_alloc_new w _, Nat.le_refl _, by unfold maxLen; omega, by simp [by8_len], ?_⟩⟩
 rw [Nat.mul_one]
 exact List.take_of_length_le (by simp [by8_len])
theorem OwnB.lit {base : Nat} {w : World} {v : Value} {l : List UInt8} (h : OwnB base w v l) : ∃ A c, v = .slice A l.length c ∧ Rd w (fun i => v.ownBlock = some i) A (by8 l) := by
 obtain ⟨A, c, e, _, _, hr⟩ := Bs.own h
 refine ⟨A, c, e, ?_⟩
 subst e
 have h' : w.ownsRow base 5 1 (.slice A l.length c) l.length (by8 l) := h
 exact Rd.own h'
theorem four_P (n : Int) (h1 : 0 ≤ n) (h2 : n ≤ 4294967295) (w : World) :
 Calls Tryz.prog 75 #[.int .i64 n] w fun e w' => ∃ v, e = .returned v ∧ OwnB w.heap.size w' v (Wh.four n) ∧ Below w.heap.size w w' := by
 refine (four_any n h1 h2 w).mono ?_
 rintro e w' ⟨rfl, rfl⟩
 exact ⟨_, rfl, OwnB.fresh w (Wh.four n) _ (Nat.le_refl _) (by show 4 ≤ 1048576; omega), Bq⟩
namespace Sl
def hi (n : Int) : Int := n % 18446744073709551616 / 4294967296
def lo (n : Int) : Int := n % 18446744073709551616 % 4294967296
theorem pw : (2 : Int) ^ (8 * 7) = 72057594037927936 ∧ (2 : Int) ^ (8 * 6) = 281474976710656 ∧ (2 : Int) ^ (8 * 5) = 1099511627776 ∧ (2 : Int) ^ (8 * 4) = 4294967296 ∧ (2 : Int) ^ (8 * 3) = 16777216 ∧ (2 : Int) ^ (8 * 2) = 65536 ∧ (2 : Int) ^ (8 * 1) = 256 ∧ (2 : Int) ^ (8 * 0) = 1 := by
 refine ⟨rfl, rfl, rfl, rfl, rfl, rfl, rfl, rfl⟩
theorem enc_four (a n : Int) : enc a n = Wh.four (lim a) ++ Wh.four (hi n) ++ Wh.four (lo n) := by
 obtain ⟨p7, p6, p5, p4, p3, p2, p1, p0⟩ := pw
 unfold enc beb beb beb beb beb beb beb beb beb bt Wh.four
 simp only [p7, p6, p5, p4, p3, p2, p1, p0, Int.ediv_one, List.cons_append, List.nil_append]
 have e7 : n / 72057594037927936 % 256 = hi n / 16777216 % 256 := by unfold hi; omega
 have e6 : n / 281474976710656 % 256 = hi n / 65536 % 256 := by unfold hi; omega
 have e5 : n / 1099511627776 % 256 = hi n / 256 % 256 := by unfold hi; omega
 have e4 : n / 4294967296 % 256 = hi n % 256 := by unfold hi; omega
 have e3 : n / 16777216 % 256 = lo n / 16777216 % 256 := by unfold lo; omega
 have e2 : n / 65536 % 256 = lo n / 65536 % 256 := by unfold lo; omega
 have e1 : n / 256 % 256 = lo n / 256 % 256 := by unfold lo; omega
 have e0 : n % 256 = lo n % 256 := by unfold lo; omega
 rw [e7, e6, e5, e4, e3, e2, e1, e0]
theorem hi_bd (n : Int) : 0 ≤ hi n ∧ hi n ≤ 4294967295 := by unfold hi; omega
theorem lo_bd (n : Int) : 0 ≤ lo n ∧ lo n ≤ 4294967295 := by unfold lo; omega
theorem lim_bd (a : Int) : 0 ≤ lim a ∧ lim a ≤ 4294967295 := by unfold lim; omega
end Sl
theorem rsencode_core (a n x : Int) (w : World) (hx : Sl.lim a = x) (hc : (a ≤ 0 ∧ x = 0) ∨ (0 < a ∧ a ≤ 4294967295 ∧ x = a) ∨ (4294967295 < a ∧ x = 4294967295)) :
 Calls Tryz.prog 95 #[.agg #[.int .i64 a, .int .i64 n]] w fun e w' => ∃ v, e = .returned v ∧ OwnB w.heap.size w' v (Sl.enc a n) ∧ Below w.heap.size w w' := by
 have HE : Hid (Sl.enc a n = Wh.four x ++ Wh.four (Sl.hi n) ++ Wh.four (Sl.lo n)) := Lib.hid (by rw [Sl.enc_four, hx])
 have xb := Sl.lim_bd a
 rw [hx] at xb
 have hb := Sl.hi_bd n
 have lb := Sl.lo_bd n
 have HX := Lib.hid (fun W => four_P x xb.1 xb.2 W)
 have HH := Lib.hid (fun W => four_P (Sl.hi n) hb.1 hb.2 W)
 have HL := Lib.hid (fun W => four_P (Sl.lo n) lb.1 lb.2 W)
 obtain ⟨u, hu, hu0, hu1⟩ : ∃ u : Int, IntKind.u64.wrap n = u ∧ 0 ≤ u ∧ u ≤ 18446744073709551615 := ⟨IntKind.u64.wrap n, rfl, by rw [IntKind.wrap_u64]; omega, by rw [IntKind.wrap_u64]; omega⟩
 have hu' : n % 18446744073709551616 = u := by rw [← hu, IntKind.wrap_u64]
 have hsh : Op.shift .shr .u64 u .u64 32 = pure (.int .u64 (Sl.hi n)) := by
  rw [shift_shr .u64 .u64 u 32 (by omega) (by show (32 : Int) ≤ 64; omega)]
  unfold Sl.hi
  rw [hu']
  rfl
 have han : bits .and .u64 u 4294967295 = Sl.lo n := by
  have := bits_mask .u64 64 (by decide) (fun n h0 h1 => by rw [IntKind.wrap_u64]; omega) 32 (by decide) u hu0 (by omega)
  unfold Sl.lo
  rw [hu']
  exact this
 have hwh : IntKind.i64.wrap (Sl.hi n) = Sl.hi n := IntWalk.i64_in _ (by omega)
 have hwl : IntKind.i64.wrap (Sl.lo n) = Sl.lo n := IntWalk.i64_in _ (by omega)
 have l1 : (Wh.four x).length ≤ 4 := Nat.le_refl _
 have l2 : (Wh.four (Sl.hi n)).length ≤ 4 := Nat.le_refl _
 have l3 : (Wh.four (Sl.lo n)).length ≤ 4 := Nat.le_refl _
 obtain ⟨j0, hj0, hy0, hy1, hy2⟩ := info_parts u8info
 have HJ := Lib.hid hj0
 have HY := Lib.hid (And.intro hy0 (And.intro hy1 hy2))
 clear hj0 hy0 hy1 hy2 hu' hx
 generalize Wh.four x = X at *
 generalize Wh.four (Sl.hi n) = Y at *
 generalize Wh.four (Sl.lo n) = Z at *
 generalize Sl.hi n = h at *
 generalize Sl.lo n = l at *
 rcases hc with ⟨hc, rfl⟩ | ⟨hc, hc2, rfl⟩ | ⟨hc, rfl⟩
 all_goals
  go_enter Tryz.func95, Tryz.ntmps95
  go_wp2_with first
   | (go_at_call 75; (with_reducible refine (HX.out _).mono ?_); rintro e w1 ⟨v1, rfl, ho1, hb1⟩; have HB1 : Hid (Below w.heap.size w w1) := Lib.hid (lowBox' (hb1.mono (by simp))); have hz1 := HB1.out.size; have HO1 := Lib.hid (OwnB.base ho1 (a := w.heap.size) (by simp)); obtain ⟨A1, c1, rfl, hr1⟩ := ho1.lit; have k0 := (hb1.cell (p := ⟨w.heap.size, 0, none⟩) (by simp)); have k1 := (hb1.cell (p := ⟨w.heap.size, 1, none⟩) (by simp)); simp [go_sem] at k0 k1; clear ho1 hb1 hr1)
   | (go_at_call 75; (with_reducible refine (HH.out w1).mono ?_); rintro e w2 ⟨v2, rfl, ho2, hb2⟩; have HB2 : Hid (Below w.heap.size w w2) := Lib.hid (HB1.out.trans (hb2.mono hz1)); have hz2 := HB2.out.size; have HO1' := Lib.hid (OwnB.below HO1.out hb2); obtain ⟨A2, c2, rfl, hr2⟩ := ho2.lit; have HR2 := Lib.hid hr2; clear ho2 hb2 hr2)
   | (at_builtin; refine wpList_app _ rfl (.tmp 13) (.tmp 17) 49 rfl w.heap.size 5 j0 (.int .u8 0) 1 1 Tryz.underlying49 HJ.out HY.out.1 HY.out.2.1 HY.out.2.2 rfl (by decide) (.slice A1 X.length c1) X.length (by8 X) rfl HO1'.out _ A2 Y.length c2 (by8 Y) rfl (by rw [by8_len]; omega) HR2.out (by8_one _) (by unfold maxLen; omega) (by omega) hz2 ?_; intro v3 w3 hown3 hg3 hat3 hnil3; have HB3 : Hid (Below w.heap.size w w3) := Lib.hid (HB2.out.grown hg3 (by omega) (fun g e => (own_lt HO1'.out g e).1)); have hz3 := HB3.out.size; obtain ⟨XY, HXY, hl3, HO3⟩ : ∃ XY, Hid (XY = X ++ Y) ∧ XY.length ≤ 8 ∧ Hid (OwnB w.heap.size w3 v3 XY) := ⟨_, Lib.hid rfl, by rw [List.length_append]; omega, Lib.hid (own_more (X := X) (Y := Y) rfl hown3)⟩; obtain ⟨A3, c3, rfl, hr3⟩ := HO3.out.lit; clear hown3 hg3 hat3 hnil3 hr3)
   | (go_at_call 75; (with_reducible refine (HL.out w3).mono ?_); rintro e w4 ⟨v4, rfl, ho4, hb4⟩; have HB4 : Hid (Below w.heap.size w w4) := Lib.hid (HB3.out.trans (hb4.mono hz3)); have hz4 := HB4.out.size; have HO3' := Lib.hid (OwnB.below HO3.out hb4); obtain ⟨A4, c4, rfl, hr4⟩ := ho4.lit; have HR4 := Lib.hid hr4; clear ho4 hb4 hr4)
   | (at_builtin; refine wpList_app _ rfl (.tmp 19) (.tmp 23) 49 rfl w.heap.size 5 j0 (.int .u8 0) 1 1 Tryz.underlying49 HJ.out HY.out.1 HY.out.2.1 HY.out.2.2 rfl (by decide) (.slice A3 XY.length c3) XY.length (by8 XY) rfl HO3'.out _ A4 Z.length c4 (by8 Z) rfl (by rw [by8_len]; omega) HR4.out (by8_one _) (by unfold maxLen; omega) (by omega) hz4 ?_; intro v5 w5 hown5 hg5 hat5 hnil5; have HB5 : Hid (Below w.heap.size w w5) := Lib.hid (HB4.out.grown hg5 (by omega) (fun g e => (own_lt HO3'.out g e).1)); have HO5 := Lib.hid (own_more (X := XY) (Y := Z) rfl hown5); obtain ⟨A5, c5, rfl, hr5⟩ := HO5.out.lit; clear hown5 hg5 hat5 hnil5 hr5)
  go_ret
  exact ⟨_, rfl, by have h5 := HO5.out; rw [List.length_append] at h5; rw [HE.out, ← HXY.out]; exact h5, HB5.out⟩
theorem rsencode_any (a n : Int) (w : World) :
 Calls Tryz.prog 95 #[.agg #[.int .i64 a, .int .i64 n]] w fun e w' => ∃ v, e = .returned v ∧ OwnB w.heap.size w' v (Sl.enc a n) ∧ Below w.heap.size w w' :=
 rsencode_core a n _ w rfl (by unfold Sl.lim; omega)
end
section
open Go.RowKit Go.Sort
open Me
theorem By.of {w : World} {G : Nat → Prop} {A : Option Addr} {l : List UInt8} (h : Rd w G A (by8 l)) (hl : 0 < l.length) : ∃ b off, A = some ⟨b, off, none⟩ ∧ By w b off l := by
 obtain ⟨b, off, e, h1, _, h3⟩ := Rd.lit h 0 (by rw [by8_len]; exact hl)
 refine ⟨b, off, e, h1, fun j hj => ?_⟩
 have : Wh.byt l j = l[j].toNat := by unfold Wh.byt; rw [List.getD_eq_getElem?_getD, List.getElem?_eq_getElem hj]; rfl
 rw [this]
 exact h3 j _ (by8_get l j hj)
theorem By.take {w : World} {b off : Nat} {l : List UInt8} (h : By w b off l) (n : Nat) (_ : n ≤ l.length) : By w b off (l.take n) :=
 ⟨h.lt, fun j hj => by
  rw [List.length_take] at hj
  have : Wh.byt (l.take n) j = Wh.byt l j := by unfold Wh.byt; rw [List.getD_eq_getElem?_getD, List.getD_eq_getElem?_getD, List.getElem?_take, if_pos (by omega)]
  rw [this]; exact h.at_ j (by omega)⟩
theorem By.drop {w : World} {b off : Nat} {l : List UInt8} (h : By w b off l) (n : Nat) : By w b (off + n) (l.drop n) :=
 ⟨h.lt, fun j hj => by
  rw [List.length_drop] at hj
  have : Wh.byt (l.drop n) j = Wh.byt l (n + j) := by unfold Wh.byt; rw [List.getD_eq_getElem?_getD, List.getD_eq_getElem?_getD, List.getElem?_drop]
  rw [this, Nat.add_assoc]; exact h.at_ (n + j) (by omega)⟩
end
section
open Go.RowKit Go.Sort
open Me
namespace Sl
def wr64 (z : Int) : Int := (z + 9223372036854775808) % 18446744073709551616 - 9223372036854775808
def acc (l : List UInt8) : Int := l.foldl (fun n x => wr64 (n * 256) + (x.toNat : Int)) 0
theorem acc_snoc (l : List UInt8) (c : UInt8) : acc (l ++ [c]) = wr64 (acc l * 256) + (c.toNat : Int) := by unfold acc; rw [List.foldl_append]; rfl
theorem wr_low (z : Int) : wr64 (z * 256) % 256 = 0 ∧ -9223372036854775808 ≤ wr64 (z * 256) ∧ wr64 (z * 256) ≤ 9223372036854775552 := by unfold wr64; omega
theorem acc_take (l : List UInt8) (k : Nat) (h : k < l.length) : acc (l.take (k + 1)) = wr64 (acc (l.take k) * 256) + (Wh.byt l k : Int) := by
 rw [List.take_succ_eq_append_getElem h, acc_snoc]
 have : Wh.byt l k = l[k].toNat := by unfold Wh.byt; rw [List.getD_eq_getElem?_getD, List.getElem?_eq_getElem h]; rfl
 rw [this]
theorem or_low (x y : Int) (hx : x % 256 = 0) (h1 : -9223372036854775808 ≤ x) (h2 : x ≤ 9223372036854775552) (y1 : 0 ≤ y) (y2 : y < 256) : bits .or .i64 x y = x + y := by
 have e : bits .or .i64 x y = IntKind.i64.wrap (((BitVec.ofInt 64 x ||| BitVec.ofInt 64 y).toNat : Nat) : Int) := rfl
 rw [e, BitVec.toNat_or, BitVec.toNat_ofInt, BitVec.toNat_ofInt]
 have p : ((2 ^ 64 : Nat) : Int) = 18446744073709551616 := rfl
 rw [p]
 have hy : (y % 18446744073709551616).toNat < 2 ^ 8 := by show _ < 256; omega
 have hq : (x % 18446744073709551616).toNat = 2 ^ 8 * ((x % 18446744073709551616).toNat / 2 ^ 8) := by show _ = 256 * (_ / 256); omega
 rw [hq, ← Nat.two_pow_add_eq_or_of_lt hy, ← hq, IntKind.wrap_i64]
 omega
end Sl
theorem snumber_any (l : List UInt8) (b off cap : Nat) (w : World) (h : By w b off l) (hl : l.length ≤ 100) :
 Calls Tryz.prog 137 #[.slice (some ⟨b, off, none⟩) l.length cap] w fun e w' => e = .returned (.int .i64 (Sl.acc l)) ∧ w = w' := by
 have HB := Lib.hid h
 have HT := Lib.hid (Sl.acc_take l)
 have hlt := h.lt
 have h0 : Hid (Sl.acc (l.take 0) = 0) := Lib.hid rfl
 have hlI : (l.length : Int) ≤ 100 := by omega
 clear h
 go_enter Tryz.func137, Tryz.ntmps137
 go_wp2_with fail
 go_loopw [3, 8] (fun n i wr => ∃ k : Nat, k ≤ l.length ∧ i = .int .i64 k ∧ n = .int .i64 (Sl.acc (l.take k)) ∧ wr = w) (fun _ i _ => l.length - (intOf i).toNat)
 case atStart => exact ⟨0, Nat.zero_le _, rfl, by rw [h0.out], rfl⟩
 case round =>
  obtain ⟨k, hk, rfl, rfl, rfl⟩ := hrel
  by_cases hkl : k < l.length
  ·have hcell := HB.out.at_ k hkl
   have hbl := Wh.by_lt l k
   obtain ⟨a1, a2, a3⟩ := Sl.wr_low (Sl.acc (l.take k))
   have hT := HT.out k hkl
   have hor := Sl.or_low (Sl.wr64 (Sl.acc (l.take k) * 256)) (Wh.byt l k) a1 a2 a3 (by omega) (by omega)
   rw [← hT] at hor
   have hw : IntKind.i64.wrap (Sl.acc (l.take k) * 256) = Sl.wr64 (Sl.acc (l.take k) * 256) := by rw [IntKind.wrap_i64]; rfl
   clear hT a1 a2 a3
   generalize hq : Sl.acc (l.take (k + 1)) = q at *
   have HQ := Lib.hid hq
   clear hq
   generalize Sl.wr64 (Sl.acc (l.take k) * 256) = s at *
   generalize Sl.acc (l.take k) = a at *
   generalize Wh.byt l k = c at *
   go_wp2_with fail
   go_roundw
   case rel => exact ⟨k + 1, by omega, by go_num, by rw [HQ.out], trivial⟩
   case measure => simp [intOf]; omega
  ·obtain rfl : k = l.length := by omega
   rw [List.take_length]
   go_wp2_with fail
   go_ret
   exact ⟨rfl, rfl⟩
namespace Sl
theorem wr_small (z : Int) (h1 : 0 ≤ z) (h2 : z < 9223372036854775808) : wr64 z = z := by unfold wr64; omega
def dn (l : List UInt8) : Int := wr64 (Wh.nm l 4 * 4294967296 + Wh.nm l 8)
theorem twelve {l : List UInt8} (h : l.length = 12) : ∃ c0 c1 c2 c3 c4 c5 c6 c7 c8 c9 c10 c11, l = [c0, c1, c2, c3, c4, c5, c6, c7, c8, c9, c10, c11] := by
 match l, h with
 | [c0, c1, c2, c3, c4, c5, c6, c7, c8, c9, c10, c11], _ => exact ⟨c0, c1, c2, c3, c4, c5, c6, c7, c8, c9, c10, c11, rfl⟩
theorem four_step (x1 x2 x3 x4 c0 c1 c2 c3 : Int) (h0 : 0 ≤ c0 ∧ c0 < 256) (h1 : 0 ≤ c1 ∧ c1 < 256) (h2 : 0 ≤ c2 ∧ c2 < 256)
 (a1 : x1 = wr64 (0 * 256) + c0) (a2 : x2 = wr64 (x1 * 256) + c1) (a3 : x3 = wr64 (x2 * 256) + c2) (a4 : x4 = wr64 (x3 * 256) + c3) : x4 = ((c0 * 256 + c1) * 256 + c2) * 256 + c3 := by
 rw [wr_small (0 * 256) (by omega) (by omega)] at a1
 rw [wr_small (x1 * 256) (by omega) (by omega)] at a2
 rw [wr_small (x2 * 256) (by omega) (by omega)] at a3
 rw [wr_small (x3 * 256) (by omega) (by omega)] at a4
 omega
theorem eight_step (x4 x5 x6 x7 x8 c4 c5 c6 c7 : Int) (h : 0 ≤ x4 ∧ x4 < 4294967296) (h0 : 0 ≤ c4 ∧ c4 < 256) (h1 : 0 ≤ c5 ∧ c5 < 256) (h3 : 0 ≤ c7 ∧ c7 < 256)
 (a5 : x5 = wr64 (x4 * 256) + c4) (a6 : x6 = wr64 (x5 * 256) + c5) (a7 : x7 = wr64 (x6 * 256) + c6) (a8 : x8 = wr64 (x7 * 256) + c7) : x8 = wr64 (x4 * 4294967296 + (((c4 * 256 + c5) * 256 + c6) * 256 + c7)) := by
 rw [wr_small (x4 * 256) (by omega) (by omega)] at a5
 rw [wr_small (x5 * 256) (by omega) (by omega)] at a6
 rw [wr_small (x6 * 256) (by omega) (by omega)] at a7
 have hz : x4 * 4294967296 + (((c4 * 256 + c5) * 256 + c6) * 256 + c7) = x7 * 256 + c7 := by omega
 rw [hz, a8]
 clear hz a5 a6 a7 a8
 unfold wr64
 omega
theorem u8_bd (c : UInt8) : 0 ≤ (c.toNat : Int) ∧ (c.toNat : Int) < 256 := by have := c.toNat_lt; omega
theorem acc4 (c0 c1 c2 c3 : UInt8) : acc [c0, c1, c2, c3] = (((c0.toNat : Int) * 256 + c1.toNat) * 256 + c2.toNat) * 256 + c3.toNat :=
 four_step _ _ _ _ _ _ _ _ (u8_bd c0) (u8_bd c1) (u8_bd c2) (acc_snoc [] c0) (acc_snoc [c0] c1) (acc_snoc [c0, c1] c2) (acc_snoc [c0, c1, c2] c3)
theorem acc8 (c0 c1 c2 c3 c4 c5 c6 c7 : UInt8) : acc [c0, c1, c2, c3, c4, c5, c6, c7] = wr64 (((((c0.toNat : Int) * 256 + c1.toNat) * 256 + c2.toNat) * 256 + c3.toNat) * 4294967296 + ((((c4.toNat : Int) * 256 + c5.toNat) * 256 + c6.toNat) * 256 + c7.toNat)) := by
 rw [← acc4 c0 c1 c2 c3]
 refine eight_step _ _ _ _ _ _ _ _ _ ?_ (u8_bd c4) (u8_bd c5) (u8_bd c7) (acc_snoc [c0, c1, c2, c3] c4) (acc_snoc [c0, c1, c2, c3, c4] c5) (acc_snoc [c0, c1, c2, c3, c4, c5] c6) (acc_snoc [c0, c1, c2, c3, c4, c5, c6] c7)
 rw [acc4]
 have := u8_bd c0
 have := u8_bd c1
 have := u8_bd c2
 have := u8_bd c3
 omega
theorem acc_at {l : List UInt8} (h : l.length = 12) : acc (l.take 4) = Wh.nm l 0 := by
 obtain ⟨c0, c1, c2, c3, c4, c5, c6, c7, c8, c9, c10, c11, rfl⟩ := twelve h
 refine (acc4 c0 c1 c2 c3).trans ?_
 show _ = (c0.toNat : Int) * 16777216 + c1.toNat * 65536 + c2.toNat * 256 + c3.toNat
 omega
theorem acc_n {l : List UInt8} (h : l.length = 12) : acc (l.drop 4) = dn l := by
 obtain ⟨c0, c1, c2, c3, c4, c5, c6, c7, c8, c9, c10, c11, rfl⟩ := twelve h
 refine (acc8 c4 c5 c6 c7 c8 c9 c10 c11).trans ?_
 have n1 : Wh.nm [c0, c1, c2, c3, c4, c5, c6, c7, c8, c9, c10, c11] 4 = (c4.toNat : Int) * 16777216 + c5.toNat * 65536 + c6.toNat * 256 + c7.toNat := rfl
 have n2 : Wh.nm [c0, c1, c2, c3, c4, c5, c6, c7, c8, c9, c10, c11] 8 = (c8.toNat : Int) * 16777216 + c9.toNat * 65536 + c10.toNat * 256 + c11.toNat := rfl
 unfold dn
 rw [n1, n2]
 have e1 : (((c4.toNat : Int) * 256 + c5.toNat) * 256 + c6.toNat) * 256 + c7.toNat = (c4.toNat : Int) * 16777216 + c5.toNat * 65536 + c6.toNat * 256 + c7.toNat := by omega
 have e2 : (((c8.toNat : Int) * 256 + c9.toNat) * 256 + c10.toNat) * 256 + c11.toNat = (c8.toNat : Int) * 16777216 + c9.toNat * 65536 + c10.toNat * 256 + c11.toNat := by omega
 rw [e1, e2]
end Sl
end
section
open Go.RowKit Go.Sort
open Me
namespace Sl
def okd (l : List UInt8) : Bool := decide (l.length = 12)
def dat (l : List UInt8) : Int := if l.length = 12 then Wh.nm l 0 else 0
def dnn (l : List UInt8) : Int := if l.length = 12 then dn l else 0
end Sl
theorem sdecode_12 (L : List UInt8) (hL : L.length = 12) (b off cap : Nat) (w : World) (h : By w b off L) (hc : 12 ≤ cap) :
 Calls Tryz.prog 120 #[.slice (some ⟨b, off, none⟩) 12 cap] w fun e w' => e = .returned (.tuple #[.agg #[.int .i64 (Wh.nm L 0), .int .i64 (Sl.dn L)], .bool true]) ∧ Below w.heap.size w w' := by
 have H4 : Hid (∀ W, Below w.heap.size w W → Calls Tryz.prog 137 #[.slice (some ⟨b, off, none⟩) 4 cap] W fun e w' => e = .returned (.int .i64 (Wh.nm L 0)) ∧ W = w') := Lib.hid fun W hb => by
  have := snumber_any (L.take 4) b off cap W ((h.below hb).take 4 (by omega)) (by rw [List.length_take]; omega)
  rw [Sl.acc_at hL, List.length_take, hL] at this
  exact this
 have H8 : Hid (∀ W, Below w.heap.size w W → Calls Tryz.prog 137 #[.slice (some ⟨b, off + 4, none⟩) 8 (cap - 4)] W fun e w' => e = .returned (.int .i64 (Sl.dn L)) ∧ W = w') := Lib.hid fun W hb => by
  have := snumber_any (L.drop 4) b (off + 4) (cap - 4) W ((h.below hb).drop 4) (by rw [List.length_drop]; omega)
  rw [Sl.acc_n hL, List.length_drop, hL] at this
  exact this
 generalize Wh.nm L 0 = p at *
 generalize Sl.dn L = q at *
 have hcI : (12 : Int) ≤ (cap : Int) := by omega
 have h4c : ¬ cap = 4 := by omega
 clear h hL
 go_enter Tryz.func120, Tryz.ntmps120
 go_wp2_with fail
 go_region_with (first
  | (go_at_call 137; (with_reducible refine (H4.out _ Bqn).mono ?_); rintro e w1 ⟨rfl, rfl⟩)
  | (go_at_call 137; (with_reducible refine (H8.out _ Bqn).mono ?_); rintro e w1 ⟨rfl, rfl⟩)
  | fail)
 all_goals
  go_wp2_with fail
  refine bodyPost_ret (v := .tuple #[.agg #[.int .i64 p, .int .i64 q], .bool true]) ?_ rfl ⟨rfl, Bqn⟩
  simp [results, Tryz.results120, go_sem]
theorem rsdecode_no (A : Option Addr) (n cap : Nat) (hn : n ≠ 12) (w : World) :
 Calls Tryz.prog 61 #[.slice A n cap] w fun e w' => e = .returned (.tuple #[.agg #[.int .i64 0, .int .i64 0], .bool false]) ∧ Below w.heap.size w w' := by
 have h1 : ((n : Int) == 12) = false := by simp; omega
 have h2 : ¬ (n : Int) = 12 := by omega
 go_enter Tryz.func61, Tryz.ntmps61
 go_wp2_with fail
 refine bodyPost_ret (v := .tuple #[.agg #[.int .i64 0, .int .i64 0], .bool false]) ?_ rfl ⟨rfl, Bqn⟩
 simp [results, Tryz.results61, go_sem]
theorem rsdecode_12 (L : List UInt8) (hL : L.length = 12) (b off cap : Nat) (w : World) (h : By w b off L) (hc : 12 ≤ cap) :
 Calls Tryz.prog 61 #[.slice (some ⟨b, off, none⟩) 12 cap] w fun e w' => e = .returned (.tuple #[.agg #[.int .i64 (Wh.nm L 0), .int .i64 (Sl.dn L)], .bool true]) ∧ Below w.heap.size w w' := by
 have H0 : Hid (∀ W n c, 4 ≤ n → Below w.heap.size w W → Calls Tryz.prog 85 #[.slice (some ⟨b, off, none⟩) n c] W fun e w' => e = .returned (.int .i64 (Wh.nm L 0)) ∧ ∃ m, w' = W.drewN m) := Lib.hid fun W n c hn hb => fromFour_dr L 0 b off n c W (h.below hb) (by omega) hn
 have H4 : Hid (∀ W n c, 4 ≤ n → Below w.heap.size w W → Calls Tryz.prog 85 #[.slice (some ⟨b, off + 4, none⟩) n c] W fun e w' => e = .returned (.int .i64 (Wh.nm L 4)) ∧ ∃ m, w' = W.drewN m) := Lib.hid fun W n c hn hb => fromFour_dr L 4 b off n c W (h.below hb) (by omega) hn
 have H8 : Hid (∀ W n c, 4 ≤ n → Below w.heap.size w W → Calls Tryz.prog 85 #[.slice (some ⟨b, off + 8, none⟩) n c] W fun e w' => e = .returned (.int .i64 (Wh.nm L 8)) ∧ ∃ m, w' = W.drewN m) := Lib.hid fun W n c hn hb => fromFour_dr L 8 b off n c W (h.below hb) (by omega) hn
 have b4 := Wh.nm_bd L 4
 have b8 := Wh.nm_bd L 8
 have hdn : Sl.dn L = Sl.wr64 (Wh.nm L 4 * 4294967296 + Wh.nm L 8) := rfl
 generalize Sl.dn L = q at *
 generalize Wh.nm L 4 = x at *
 generalize Wh.nm L 8 = y at *
 generalize Wh.nm L 0 = p at *
 obtain ⟨s, z, hw1, hw2, hw3, hw4, hor, hq⟩ : ∃ s z : Int, IntKind.u64.wrap x = x ∧ IntKind.u64.wrap y = y ∧ IntKind.u64.wrap (x * 4294967296) = s ∧ Op.shift .shl .u64 x .u64 32 = pure (.int .u64 s) ∧ bits .or .u64 s y = z ∧ IntKind.i64.wrap z = q := by
  have e1 : IntKind.u64.wrap (x * 4294967296) = x * 4294967296 := by rw [IntKind.wrap_u64]; omega
  refine ⟨x * 4294967296, x * 4294967296 + y, by rw [IntKind.wrap_u64]; omega, by rw [IntKind.wrap_u64]; omega, e1, ?_, ?_, ?_⟩
  ·rw [shift_shl .u64 .u64 x 32 (by omega) (by show (32 : Int) ≤ 64; omega)]
   exact congrArg (fun z => pure (Value.int .u64 z)) e1
  ·exact bits_join .u64 64 (by decide) (fun n h0 h1 => by rw [IntKind.wrap_u64]; omega) 32 _ _ (by omega) (by omega) (by omega) b8.1 (by omega) (by omega)
  ·rw [IntKind.wrap_i64, hdn]; rfl
 have hcI : (12 : Int) ≤ (cap : Int) := by omega
 have h4c : ¬ cap = 4 := by omega
 have h8c : ¬ cap = 8 := by omega
 clear h hL hdn
 go_enter Tryz.func61, Tryz.ntmps61
 go_wp2_with fail
 go_region_with (first
  | (go_at_call 85; (with_reducible refine (H4.out _ _ _ (by omega) Bqn).mono ?_); rintro e w1 ⟨rfl, m1, rfl⟩)
  | (go_at_call 85; (with_reducible refine (H8.out _ _ _ (by omega) Bqn).mono ?_); rintro e w1 ⟨rfl, m2, rfl⟩)
  | fail)
 all_goals
  go_wp2_with (go_at_call 85; (with_reducible refine (H0.out _ _ _ (by omega) Bqn).mono ?_); rintro e w1 ⟨rfl, m3, rfl⟩)
  refine bodyPost_ret (v := .tuple #[.agg #[.int .i64 p, .int .i64 q], .bool true]) ?_ rfl ⟨rfl, Bqn⟩
  simp [results, Tryz.results61, go_sem]
end
section
open Go.RowKit Go.Sort
open Me
theorem app_empty {W : World} (b : Addr) (A : Option Addr) (c : Nat) (L : List UInt8) (t ty : TypeId) (ht : Tryz.prog.underlying t = some (.slice 5)) (G : Nat → Prop) (hr : Rd W G A (by8 L)) (h0 : 0 < L.length) (hL : L.length ≤ 1048576) (base : Nat) (hb : base ≤ W.heap.size) :
 ∃ cap W', (Builtin.append_ #[t, t] ty #[.slice (some b) 0 0, .slice A L.length c]).run Tryz.prog W = .ok (.slice (some ⟨W.heap.size, 0, none⟩) L.length cap) W' ∧ OwnB base W' (.slice (some ⟨W.heap.size, 0, none⟩) L.length cap) L ∧ Below W.heap.size W W' := by
 obtain ⟨i, hi, hz, hs, hby⟩ := info_parts u8info
 obtain ⟨ad, rfl, _, _, hc⟩ := hr (by intro e; have := by8_len L; rw [e] at this; simp at this; omega)
 have hrun := run_append_grow (P := Tryz.prog) W t ty 5 i (.int .u8 0) ht hi hz b 0 0 [] (by simp) (by simp) ad L.length c (by8 L) (by rw [by8_len, hs]; omega) hc (by omega) (by simp; omega) (growslice_fits (by omega) (by rw [hby]; omega))
 simp only [Nat.zero_add] at hrun
 refine ⟨_, _, hrun, ⟨by rw [by8_len]; simp, .inr ⟨W.heap.size, _, _, rfl, hb, heap_alloc_new W.drew _, grownCap_ge W L.length 0 _, grownCap_le_maxLen W L.length 0 _ (by unfold maxLen; omega), ?_, ?_⟩⟩, Bq⟩
 ·have hge := grownCap_ge W L.length 0 5
  have e1 : (Value.int IntKind.u8 0).cells.size = 1 := rfl
  simp only [Array.size_append, List.size_toArray, size_zeroCells, e1, by8_len, List.length_nil]
  omega
 ·rw [Nat.mul_one]
  simp only [Array.toList_append, List.nil_append]
  rw [← by8_len L]
  exact List.take_left
end
end Go.Proofs.YtbakngbmfgnmcaaGreatDoor
