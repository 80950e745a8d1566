/- WhReadY WhDec SlPl -/
import Derived.Test.YtljlanhpjpjgaaaGreatDoorJ1
import Derived.Test.YtljlanhpjpjgaaaGreatDoorJ7
import Derived.Test.YtljlanhpjpjgaaaGreatDoorJ4
import Derived.Test.YtljlanhpjpjgaaaGreatDoorRows
import Derived.WalkKit
import Derived.WalkSpells
import Derived.WalkLawsBesides
import Derived.Deep.QuietTactic
import Derived.BigQuiet
import Derived.Lib.QuietBelow
import Derived.Lib.Hide
import Derived.IntWalk
namespace Go.Proofs.YtljlanhpjpjgaaaGreatDoor
set_option maxRecDepth 100000
set_option maxHeartbeats 8000000
section
open Go.RowKit Go.Sort
open Wh (At)
open Me
def ReadOk (w : World) (L : List UInt8) (k : Nat) (e : Ending) (w' : World) : Prop :=
 ∃ g, e = .returned (.tuple #[.agg #[.int .i64 (Wh.nm L 0), .int .i64 (Wh.nm L 8), .slice (some ⟨g, 0, none⟩) k k], .bool true]) ∧ w.heap.size ≤ g ∧ Ars w' g 0 (Wh.archs L k) ∧ Below w.heap.size w w'
structure RdMade (w wx : World) (L : List UInt8) (k j g h : Nat) : Prop where
 g0 : w.heap.size < g
 h0 : w.heap.size < h
 gh : g ≠ h
 bel : Below w.heap.size w wx
 rr : RowAt wx w.heap.size 24 #[.int .i64 0, .int .i64 0, .slice none 0 0]
 rh : RowAt wx h 24 #[.int .i64 (Wh.nm L 0), .int .i64 (Wh.nm L 8), .slice (some ⟨g, 0, none⟩) k k]
 rg : ∃ cs : Array Value, cs.size = k * 2 ∧ RowAt wx g 56 cs ∧ ∀ i, i < j → cs[i * 2]? = some (.int .i64 (Wh.nm L (16 + 12 * i + 4))) ∧ cs[i * 2 + 1]? = some (.int .i64 (Wh.nm L (16 + 12 * i + 8)))
theorem bel_drewN {B : Nat} {a w : World} (h : Below B a w) (n : Nat) : Below B a (w.drewN n) := ⟨h.os, h.tape, h.output, h.size, h.block⟩
theorem RowAt.new' {w : World} {g : Nat} {cs : Array Value} {t : TypeId} (h : g = w.heap.size) : RowAt (w.alloc (.cells cs t)) g t cs := by subst h; exact RowAt.new w cs t
theorem RowAt.set3 {w : World} {g : Nat} {t : TypeId} {a b c x y z : Value} (h : RowAt w g t #[a, b, c]) : RowAt (((w.setCell ⟨g, 0, none⟩ x).setCell ⟨g, 1, none⟩ y).setCell ⟨g, 2, none⟩ z) g t #[x, y, z] := by
 have := ((h.set_ 0 x).set_ 1 y).set_ 2 z
 simpa using this
theorem made_of {w X wx : World} {L : List UInt8} {k g h : Nat} {CS : Array Value} (hX : X.heap.size = w.heap.size + 1) (hB : Below w.heap.size w X) (hR : RowAt X w.heap.size 24 #[.int .i64 0, .int .i64 0, .slice none 0 0]) (hcs : CS.size = k * 2)
 (g0 : w.heap.size < g) (h0 : w.heap.size < h) (gh : g ≠ h) (hb : Below X.heap.size X wx) (h1 : RowAt wx h 24 #[.int .i64 (Wh.nm L 0), .int .i64 (Wh.nm L 8), .slice (some ⟨g, 0, none⟩) k k]) (h2 : RowAt wx g 56 CS) : RdMade w wx L k 0 g h :=
 ⟨g0, h0, gh, hB.trans (hb.mono (by omega)), hR.below hb (by omega), h1, CS, hcs, h2, fun i hi => by omega⟩
theorem RdMade.step {w wr : World} {L : List UInt8} {k j g h : Nat} (hM : RdMade w wr L k j g h) (hj : j < k) (n : Nat) :
 RdMade w (((wr.drewN n).setCell ⟨g, j * 2, none⟩ (.int .i64 (Wh.nm L (16 + 12 * j + 4)))).setCell ⟨g, j * 2 + 1, none⟩ (.int .i64 (Wh.nm L (16 + 12 * j + 8)))) L k (j + 1) g h := by
 obtain ⟨g0, h0, gh, hb, rr, rh, cs, hcs, rg, hv⟩ := hM
 refine ⟨g0, h0, gh, ((bel_drewN hb n).setCell (by show _ ≤ g; omega) _).setCell (by show _ ≤ g; omega) _, ((rr.drewN n).far (by show _ ≠ g; omega) _).far (by show _ ≠ g; omega) _, ((rh.drewN n).far (Ne.symm gh) _).far (Ne.symm gh) _, (cs.setIfInBounds (j * 2) (.int .i64 (Wh.nm L (16 + 12 * j + 4)))).setIfInBounds (j * 2 + 1) (.int .i64 (Wh.nm L (16 + 12 * j + 8))), by simp [hcs], ((rg.drewN n).set_ _ _).set_ _ _, fun i hi => ?_⟩
 by_cases e : i = j
 ·subst e
  constructor
  ·rw [Array.getElem?_setIfInBounds, if_neg (by omega), Array.getElem?_setIfInBounds, if_pos rfl, if_pos (by omega)]
  ·rw [Array.getElem?_setIfInBounds, if_pos rfl, if_pos (by simp; omega)]
 ·obtain ⟨v1, v2⟩ := hv i (by omega)
  constructor
  ·rw [Array.getElem?_setIfInBounds, if_neg (by omega), Array.getElem?_setIfInBounds, if_neg (by omega)]; exact v1
  ·rw [Array.getElem?_setIfInBounds, if_neg (by omega), Array.getElem?_setIfInBounds, if_neg (by omega)]; exact v2
theorem RdMade.fin {w wr : World} {L : List UInt8} {k g h : Nat} (hM : RdMade w wr L k k g h) (x y z : Value) :
 Ars (((wr.setCell ⟨w.heap.size, 0, none⟩ x).setCell ⟨w.heap.size, 1, none⟩ y).setCell ⟨w.heap.size, 2, none⟩ z) g 0 (Wh.archs L k) ∧ Below w.heap.size w (((wr.setCell ⟨w.heap.size, 0, none⟩ x).setCell ⟨w.heap.size, 1, none⟩ y).setCell ⟨w.heap.size, 2, none⟩ z) := by
 obtain ⟨g0, h0, gh, hb, rr, rh, cs, hcs, rg, hv⟩ := hM
 refine ⟨?_, ((hb.setCell (Nat.le_refl _) _).setCell (Nat.le_refl _) _).setCell (Nat.le_refl _) _⟩
 have r := ((rg.far (p := ⟨w.heap.size, 0, none⟩) (by show g ≠ w.heap.size; omega) x).far (p := ⟨w.heap.size, 1, none⟩) (by show g ≠ w.heap.size; omega) y).far (p := ⟨w.heap.size, 2, none⟩) (by show g ≠ w.heap.size; omega) z
 refine ⟨r.lt, fun i hi => ?_, fun i hi => ?_⟩
 ·rw [Wh.archs_len] at hi
  rw [r.cell, Wh.archs_at L k i hi, Nat.zero_add]; exact (hv i hi).1
 ·rw [Wh.archs_len] at hi
  rw [r.cell, Wh.archs_at L k i hi, Nat.zero_add]; exact (hv i hi).2
theorem read_yes (L : List UInt8) (b off cap k : Nat) (w : World) (h : By w b off L) (hc : L.length ≤ cap) (hk : Wh.nm L 12 = (k : Int)) (h8 : k ≤ 8) (hl : 16 + 12 * k ≤ L.length) :
 Calls Tryz.prog 98 #[.slice (some ⟨b, off, none⟩) L.length cap] w (ReadOk w L k) := by
 obtain ⟨j0, hj0, hy0, hy1, hy2⟩ := info_parts arinfo
 obtain ⟨CS, hmk, hcs⟩ : ∃ (CS : Array Value), (∀ W : World, (Instr.makeSlice 22 (.int .i64 (k : Int)) (.int .i64 (k : Int))).run Tryz.prog W = .ok (.slice (some ⟨W.heap.size, 0, none⟩) k k) (W.alloc (.cells CS 56))) ∧ CS.size = k * 2 := by
  refine ⟨madeCells #[.int .i64 0, .int .i64 0] (k * 2), fun W => ?_, size_madeCells _ _⟩
  have h := run_make (P := Tryz.prog) W 22 56 j0 (.agg #[.int .i64 0, .int .i64 0]) Tryz.underlying22 hj0 hy0 .i64 .i64 (k : Int) (k : Int) (by omega) (by omega) (by rw [hy2]; omega) (by omega)
  rw [hy1] at h
  exact h
 have HN : Hid (∀ W i n c, 4 ≤ n → i + 4 ≤ L.length → Below w.heap.size w W → Calls Tryz.prog 117 #[.slice (some ⟨b, off + i, none⟩) n c] W fun e w' => e = .returned (.int .i64 (Wh.nm L i)) ∧ ∃ m, w' = W.drewN m) := Lib.hid fun W i n c hn hi hb => number_dr L i b off n c W (h.below hb) hi hn
 have HN0 : Hid (∀ W n c, 4 ≤ n → Below w.heap.size w W → Calls Tryz.prog 117 #[.slice (some ⟨b, off, none⟩) n c] W fun e w' => e = .returned (.int .i64 (Wh.nm L 0)) ∧ ∃ m, w' = W.drewN m) := Lib.hid fun W n c hn hb => number_dr L 0 b off n c W (h.below hb) (by omega) hn
 have HN12 : Hid (∀ W n c, 4 ≤ n → Below w.heap.size w W → Calls Tryz.prog 117 #[.slice (some ⟨b, off + 12, none⟩) n c] W fun e w' => e = .returned (.int .i64 (k : Int)) ∧ ∃ m, w' = W.drewN m) := Lib.hid fun W n c hn hb => by rw [← hk]; exact number_dr L 12 b off n c W (h.below hb) (by omega) hn
 have HH := Lib.hid (headBytes_any (k : Int) (by omega) (by omega))
 have HH2 : Hid (∀ i : Nat, i ≤ 8 → ∀ W, Calls Tryz.prog 58 #[.int .i64 (i : Int)] W fun e w' => e = .returned (.int .i64 ((16 + 12 * i : Nat) : Int)) ∧ W = w') := Lib.hid fun i hi W => by
  have := headBytes_any (i : Int) (by omega) (by omega) W
  have e : (16 + (i : Int) * 12) = ((16 + 12 * i : Nat) : Int) := by omega
  rw [e] at this
  exact this
 have hbl := h.lt
 have hlI : (16 : Int) + 12 * (k : Int) ≤ (L.length : Int) := by omega
 have hc12 : ¬ cap = 12 := by omega
 have hc8 : ¬ cap = 8 := by omega
 have hI8 : (8 : Int) ≤ (L.length : Int) := by omega
 have hIc : (L.length : Int) ≤ (cap : Int) := by omega
 have hN8 : 8 ≤ L.length := by omega
 have hN8c : 8 ≤ cap := by omega
 clear h hk hj0 hy0 hy1 hy2
 go_enter Tryz.func98, Tryz.ntmps98
 go_upto_region 6 with (first | (go_at_call 117; (with_reducible refine (HN12.out _ _ _ (by omega) ((Below.refl _ _).alloc (Nat.le_refl _) _)).mono ?_); rintro e w1 ⟨rfl, m1, rfl⟩) | (go_at_call 58; go_must (refine (HH.out _).mono ?_; rintro e w' ⟨rfl, rfl⟩)))
 have hB0 : Below w.heap.size w ((w.alloc (.cells #[.int .i64 0, .int .i64 0, .slice none 0 0] 24)).drewN m1) := Bqn
 have hR0 : RowAt ((w.alloc (.cells #[.int .i64 0, .int .i64 0, .slice none 0 0] 24)).drewN m1) w.heap.size 24 #[.int .i64 0, .int .i64 0, .slice none 0 0] := RowAt.new w _ _
 have hX0 : ((w.alloc (.cells #[.int .i64 0, .int .i64 0, .slice none 0 0] 24)).drewN m1).heap.size = w.heap.size + 1 := by simp
 generalize (w.alloc (.cells #[.int .i64 0, .int .i64 0, .slice none 0 0] 24)).drewN m1 = X at *
 have HB0 := Lib.hid hB0
 have HR0 := Lib.hid hR0
 have HX0 := Lib.hid hX0
 have hX1 : w.heap.size < X.heap.size := by omega
 clear hB0 hR0 hX0
 have hA1 : ∀ (W : World) (n : Nat) (cs : Array Value) (t : TypeId) (i : Nat), ((W.drewN n).alloc (.cells cs t)).cell? ⟨W.heap.size, i, none⟩ = cs[i]? := fun W n cs t i => by rw [show W.heap.size = (W.drewN n).heap.size from rfl]; exact World.cell?_alloc_new _ _ _ _
 have hA2 : ∀ (W : World) (n : Nat) (cs : Array Value) (t : TypeId) (i : Nat), ((W.drewN n).alloc (.cells cs t)).frozen? ⟨W.heap.size, i, none⟩ = false := fun W n cs t i => by
  have h := RowAt.frozen (RowAt.new (W.drewN n) cs t) i
  exact h
 go_cut [5] (fun s5 wx => ∃ g h : Nat, s5 = .pointer (some ⟨h, 0, none⟩) ∧ RdMade w wx L k 0 g h)
 case first =>
  go_region_held3 (fun _ => True) (trivial) (first
   | (go_at_call 117; (with_reducible refine (HN0.out _ _ _ (by omega) (HB0.out.trans (Below.mono (by repeat (first | exact Below.refl _ _ | refine Below.setCell ?_ (by simp) _ | refine Below.alloc ?_ (by simp) _ | refine Below.drew ?_ | refine bel_drewN ?_ _)) (Nat.le_of_lt hX1)))).mono ?_); rintro e w1 ⟨rfl, m2, rfl⟩)
   | (go_at_call 117; (with_reducible refine (HN.out _ 8 _ _ (by omega) (by omega) (HB0.out.trans (Below.mono (by repeat (first | exact Below.refl _ _ | refine Below.setCell ?_ (by simp) _ | refine Below.alloc ?_ (by simp) _ | refine Below.drew ?_ | refine bel_drewN ?_ _)) (Nat.le_of_lt hX1)))).mono ?_); rintro e w1 ⟨rfl, m2, rfl⟩)
   | fail)
  all_goals go_wp2_with fail
  all_goals go_meet
  all_goals
   have hz := HX0.out
   first
    | refine ⟨X.heap.size, X.heap.size + 1, rfl, ?_⟩
    | refine ⟨X.heap.size + 1, X.heap.size, rfl, ?_⟩
  all_goals refine made_of (CS := CS) HX0.out HB0.out HR0.out hcs (by omega) (by omega) (by omega) (by repeat (first | exact Below.refl _ _ | refine Below.setCell ?_ (by simp) _ | refine Below.alloc ?_ (by simp) _ | refine Below.drew ?_ | refine bel_drewN ?_ _)) ?_ ?_
  all_goals repeat (first | (with_reducible refine RowAt.new' ?_; simp; done) | with_reducible refine RowAt.set3 (a := .int .i64 0) (b := .int .i64 0) (c := .slice none 0 0) ?_ | with_reducible refine RowAt.far ?_ (by simp) _ | with_reducible refine RowAt.alloc ?_ _ | with_reducible refine RowAt.drewN ?_ _)
 case rest =>
  obtain ⟨g, h, rfl, hM⟩ := hcut
  have hhl := hM.rh.lt
  have h2c : wc.cell? ⟨h, 2, none⟩ = some (.slice (some ⟨g, 0, none⟩) k k) := hM.rh.cell 2
  have HM0 := Lib.hid hM
  clear hM hmk HN0 HN12 hA1 hA2 HB0 HR0 HX0 hX1
  go_wp2_with fail
  go_loopw [36] (fun i wr => ∃ j : Nat, j ≤ k ∧ i = .int .i64 j ∧ Hid (RdMade w wr L k j g h)) (fun i _ => k - (intOf i).toNat)
  case atStart => exact ⟨0, Nat.zero_le _, rfl, HM0⟩
  case round =>
   obtain ⟨j, hj, rfl, hM⟩ := hrel
   obtain ⟨cs, hcs2, hrg, _⟩ := hM.out.rg
   have hhl2 := hM.out.rh.lt
   have hgl := hrg.lt
   have hrl := hM.out.rr.lt
   have x0 : wr.cell? ⟨h, 0, none⟩ = some (.int .i64 (Wh.nm L 0)) := hM.out.rh.cell 0
   have x1 : wr.cell? ⟨h, 1, none⟩ = some (.int .i64 (Wh.nm L 8)) := hM.out.rh.cell 1
   have x2 : wr.cell? ⟨h, 2, none⟩ = some (.slice (some ⟨g, 0, none⟩) k k) := hM.out.rh.cell 2
   by_cases hlt : j < k
   ·obtain ⟨p, hp⟩ : ∃ p, 16 + 12 * j = p := ⟨_, rfl⟩
    have HHj := Lib.hid (HH2.out j (by omega))
    have HNa : Hid (∀ W n c, 4 ≤ n → Below w.heap.size w W → Calls Tryz.prog 117 #[.slice (some ⟨b, off + p + 4, none⟩) n c] W fun e w' => e = .returned (.int .i64 (Wh.nm L (16 + 12 * j + 4))) ∧ ∃ m, w' = W.drewN m) := Lib.hid fun W n c hn hb => by
     have := HN.out W (16 + 12 * j + 4) n c hn (by omega) hb
     rw [hp, ← Nat.add_assoc] at this
     rw [hp]
     exact this
    have HNb : Hid (∀ W n c, 4 ≤ n → Below w.heap.size w W → Calls Tryz.prog 117 #[.slice (some ⟨b, off + p + 8, none⟩) n c] W fun e w' => e = .returned (.int .i64 (Wh.nm L (16 + 12 * j + 8))) ∧ ∃ m, w' = W.drewN m) := Lib.hid fun W n c hn hb => by
     have := HN.out W (16 + 12 * j + 8) n c hn (by omega) hb
     rw [hp, ← Nat.add_assoc] at this
     rw [hp]
     exact this
    rw [hp] at HHj
    have hpl : p + 12 ≤ L.length := by omega
    have HST : Hid (∀ n, RdMade w (((wr.drewN n).setCell ⟨g, j * 2, none⟩ (.int .i64 (Wh.nm L (16 + 12 * j + 4)))).setCell ⟨g, j * 2 + 1, none⟩ (.int .i64 (Wh.nm L (16 + 12 * j + 8)))) L k (j + 1) g h) := Lib.hid fun n => hM.out.step hlt n
    have y0 : wr.cell? ⟨g, j * 2, none⟩ = some (cs[j * 2]'(by omega)) := by rw [hrg.cell]; exact Array.getElem?_eq_getElem (by omega)
    have y1 : wr.cell? ⟨g, j * 2 + 1, none⟩ = some (cs[j * 2 + 1]'(by omega)) := by rw [hrg.cell]; exact Array.getElem?_eq_getElem (by omega)
    have z0 := hrg.frozen (j * 2)
    have z1 := hrg.frozen (j * 2 + 1)
    have hbW := Lib.hid hM.out.bel
    generalize cs[j * 2]'(by omega) = v0 at y0
    generalize cs[j * 2 + 1]'(by omega) = v1 at y1
    generalize Wh.nm L (16 + 12 * j + 4) = na at *
    generalize Wh.nm L (16 + 12 * j + 8) = nb at *
    have hpI : (p : Int) ≤ (L.length : Int) := by omega
    have hpN : p ≤ L.length := by omega
    have hpc : ¬ cap = p := by omega
    have hpc2 : p ≤ cap := by omega
    clear hp HN hrg hcs2
    go_wp2_with (go_at_call 58; go_must (refine (HHj.out _).mono ?_; rintro e w' ⟨rfl, rfl⟩))
    generalize hn1 : L.length - p = n1
    generalize hc1 : cap - p = c1
    have hq1 : 12 ≤ n1 := by omega
    have hq2 : n1 ≤ c1 := by omega
    have hq4 : (4 : Int) ≤ (n1 : Int) := by omega
    have hq8 : (8 : Int) ≤ (n1 : Int) := by omega
    have hqc : (n1 : Int) ≤ (c1 : Int) := by omega
    have hr4 : ¬ c1 = 4 := by omega
    have hr8 : ¬ c1 = 8 := by omega
    have hs4 : 4 ≤ n1 := by omega
    have hs8 : 8 ≤ n1 := by omega
    have hs4c : 4 ≤ c1 := by omega
    have hs8c : 8 ≤ c1 := by omega
    have hjk : (j : Int) < (k : Int) := by omega
    clear hn1 hc1 hpl hpI hpN hpc hpc2 hlI hI8 hIc hN8 hN8c hc8 hc12 hc hl
    go_region_held3 (fun W => W.cell? ⟨h, 2, none⟩ = some (.slice (some ⟨g, 0, none⟩) k k)) (first | exact x2 | exact (HST.out _).rh.cell 2 | go_keep) (first
     | (go_at_call 117; (with_reducible refine (HNa.out _ _ _ (by omega) (hbW.out.trans (Below.mono (by repeat (first | exact Below.refl _ _ | refine Below.drew ?_ | refine bel_drewN ?_ _)) (hbW.out.size)))).mono ?_); rintro e w1 ⟨rfl, m2, rfl⟩)
     | (go_at_call 117; (with_reducible refine (HNb.out _ _ _ (by omega) (hbW.out.trans (Below.mono (by repeat (first | exact Below.refl _ _ | refine Below.drew ?_ | refine bel_drewN ?_ _)) (hbW.out.size)))).mono ?_); rintro e w1 ⟨rfl, m2, rfl⟩)
     | fail)
    go_wp2_with fail
    go_roundw
    case rel => exact ⟨j + 1, by omega, by go_num, Lib.hid (HST.out _)⟩
    case measure => simp [intOf]; omega
   ·obtain rfl : j = k := by omega
    have HFI := Lib.hid (hM.out.fin (.int .i64 (Wh.nm L 0)) (.int .i64 (Wh.nm L 8)) (.slice (some ⟨g, 0, none⟩) j j))
    have hg0 := hM.out.g0
    have hh0 := hM.out.h0
    have r0 : wr.cell? ⟨w.heap.size, 0, none⟩ = some (.int .i64 0) := hM.out.rr.cell 0
    have r1 : wr.cell? ⟨w.heap.size, 1, none⟩ = some (.int .i64 0) := hM.out.rr.cell 1
    have r2 : wr.cell? ⟨w.heap.size, 2, none⟩ = some (.slice none 0 0) := hM.out.rr.cell 2
    have s0 := hM.out.rr.frozen 0
    have s1 := hM.out.rr.frozen 1
    have s2 := hM.out.rr.frozen 2
    clear hM hrg hcs2 HN HH2 HH HM0 hlI hI8 hIc hN8 hN8c hc8 hc12 hc hl
    go_wp2_with fail
    refine bodyPost_ret (v := .tuple #[.agg #[.int .i64 (Wh.nm L 0), .int .i64 (Wh.nm L 8), .slice (some ⟨g, 0, none⟩) j j], .bool true]) (by simp [results, Tryz.results98, go_sem, r0, r1, r2]) rfl ⟨g, rfl, Nat.le_of_lt hg0, HFI.out.1, HFI.out.2⟩
end
section
open Go.RowKit Go.Sort
open Wh (At)
open Me
namespace Wh
def rok (L : List UInt8) : Bool := decide (16 ≤ L.length) && decide (nm L 12 ≤ 8) && decide (16 + 12 * nm L 12 ≤ (L.length : Int))
def cand (L : List UInt8) : List (Int × Int) := archs L (nm L 12).toNat
def encL (L : List UInt8) : List UInt8 := enc (nm L 0) (nm L 8) (cand L)
def dok (L : List UInt8) : Bool := rok L && val (nm L 0) (nm L 8) (cand L) && decide ((encL L).length ≤ L.length ∧ L.take (encL L).length = encL L)
def dag (L : List UInt8) : Int := if dok L = true then nm L 0 else 0
def dxf (L : List UInt8) : Int := if dok L = true then nm L 8 else 0
def dl (L : List UInt8) : List (Int × Int) := if dok L = true then cand L else []
def derr (L : List UInt8) : Int := if dok L = true then 0 else 2
theorem rok_t {L : List UInt8} (h : rok L = true) : 16 ≤ L.length ∧ nm L 12 ≤ 8 ∧ 16 + 12 * nm L 12 ≤ (L.length : Int) := by
 unfold rok at h
 simp only [Bool.and_eq_true, decide_eq_true_eq] at h
 exact ⟨h.1.1, h.1.2, h.2⟩
theorem rok_f {L : List UInt8} (h : rok L = false) : L.length < 16 ∨ (16 ≤ L.length ∧ (8 < nm L 12 ∨ (L.length : Int) < 16 + nm L 12 * 12)) := by
 by_cases h1 : L.length < 16
 ·exact .inl h1
 ·refine .inr ⟨by omega, ?_⟩
  by_cases h2 : 8 < nm L 12
  ·exact .inl h2
  ·refine .inr ?_
   by_cases h3 : (L.length : Int) < 16 + nm L 12 * 12
   ·exact h3
   ·exfalso
    have : rok L = true := by
     unfold rok
     simp only [Bool.and_eq_true, decide_eq_true_eq]
     exact ⟨⟨by omega, by omega⟩, by omega⟩
    rw [h] at this
    cases this
theorem dok_f {L : List UInt8} (h : dok L = false) : dag L = 0 ∧ dxf L = 0 ∧ dl L = [] ∧ derr L = 2 := by unfold dag dxf dl derr; rw [h]; exact ⟨rfl, rfl, rfl, rfl⟩
theorem dok_t {L : List UInt8} (h : dok L = true) : dag L = nm L 0 ∧ dxf L = nm L 8 ∧ dl L = cand L ∧ derr L = 0 := by unfold dag dxf dl derr; rw [h]; exact ⟨rfl, rfl, rfl, rfl⟩
theorem dok_r {L : List UInt8} (h : rok L = false) : dok L = false := by unfold dok; rw [h, Bool.false_and, Bool.false_and]
theorem dok_v {L : List UInt8} (h : val (nm L 0) (nm L 8) (cand L) = false) : dok L = false := by unfold dok; rw [h]; simp
theorem dok_p {L : List UInt8} (h : rok L = true) (hv : val (nm L 0) (nm L 8) (cand L) = true) : dok L = decide ((encL L).length ≤ L.length ∧ L.take (encL L).length = encL L) := by unfold dok; rw [h, hv, Bool.true_and, Bool.true_and]
end Wh
def DecodedF (w : World) (L : List UInt8) (e : Ending) (w' : World) : Prop :=
 ∃ A c, e = .returned (.tuple #[.agg #[.int .i64 (Wh.dag L), .int .i64 (Wh.dxf L), .slice A (Wh.dl L).length c], .int .i64 (Wh.derr L)]) ∧ Row w' A (Wh.dl L) c ∧ Below w.heap.size w w' ∧ ∀ a, A = some a → w.heap.size ≤ a.block
theorem DecodedF.no {w w' : World} {L : List UInt8} {e : Ending} (h : Wh.dok L = false) (he : e = .returned (.tuple #[.agg #[.int .i64 0, .int .i64 0, .slice none 0 0], .int .i64 2])) (hb : Below w.heap.size w w') : DecodedF w L e w' := by
 obtain ⟨e1, e2, e3, e4⟩ := Wh.dok_f h
 refine ⟨none, 0, ?_, ?_, hb, fun a e => by cases e⟩
 ·rw [he, e1, e2, e3, e4]; rfl
 ·rw [e3]; exact ⟨Nat.le_refl _, fun h => by cases h⟩
theorem DecodedF.yes {w w' : World} {L : List UInt8} {e : Ending} {g c : Nat} (h : Wh.dok L = true) (he : e = .returned (.tuple #[.agg #[.int .i64 (Wh.nm L 0), .int .i64 (Wh.nm L 8), .slice (some ⟨g, 0, none⟩) (Wh.cand L).length c], .int .i64 0])) (hr : Row w' (some ⟨g, 0, none⟩) (Wh.cand L) c) (hb : Below w.heap.size w w') (hg : w.heap.size ≤ g) : DecodedF w L e w' := by
 obtain ⟨e1, e2, e3, e4⟩ := Wh.dok_t h
 refine ⟨some ⟨g, 0, none⟩, c, ?_, ?_, hb, fun a e => by cases e; exact hg⟩
 ·rw [he, e1, e2, e3, e4]
 ·rw [e3]; exact hr
theorem decode_bad (A : Option Addr) (L : List UInt8) (cap : Nat) (w : World) (hd : Wh.dok L = false)
 (HR : Hid (∀ W, Below w.heap.size w W → Calls Tryz.prog 98 #[.slice A L.length cap] W fun e w' => e = .returned (.tuple #[.agg #[.int .i64 0, .int .i64 0, .slice none 0 0], .bool false]) ∧ Below W.heap.size W w')) :
 Calls Tryz.prog 71 #[.slice A L.length cap] w (DecodedF w L) := by
 have HD := Lib.hid hd
 clear hd
 go_enter Tryz.func71, Tryz.ntmps71
 go_wp2_with (go_at_call 98; (((with_reducible refine (HR.out _ ((Below.refl _ _).alloc (Nat.le_refl _) _)).mono ?_)); rintro e w1 ⟨rfl, hb1⟩; obtain ⟨hc1, hf1⟩ := bcell hb1; (try have hq1w : w.heap.size < w1.heap.size := Bz hb1); have hs1 := hb1.size; (try simp at hs1)))
 refine bodyPost_ret (v := .tuple #[.agg #[.int .i64 0, .int .i64 0, .slice none 0 0], .int .i64 2]) ?_ rfl (DecodedF.no HD.out rfl ?_)
 ·simp [results, Tryz.results71, go_sem, hc1, hq1w]
 ·exact Bq
end
section
open Go.RowKit Go.Sort
namespace Sl
def al (t s : Int) : Int := if s < 1 ∨ t < 0 then t else t - t % s
def pl (s c t : Int) : Int := if s < 1 ∨ c < 1 ∨ t < 0 then 0 else t / s % c
theorem al_eq {t s : Int} (h1 : 1 ≤ s) (h2 : 0 ≤ t) : al t s = t - t % s := by unfold al; rw [if_neg (by omega)]
theorem pl_eq {s c t : Int} (h1 : 1 ≤ s) (h2 : 1 ≤ c) (h3 : 0 ≤ t) : pl s c t = t / s % c := by unfold pl; rw [if_neg (by omega)]
theorem al_mul {t s : Int} (h1 : 1 ≤ s) (h2 : 0 ≤ t) : al t s = s * (t / s) := by
 rw [al_eq h1 h2]
 have := Int.mul_ediv_add_emod t s
 omega
theorem al_div {t s : Int} (h1 : 1 ≤ s) (h2 : 0 ≤ t) : al t s / s = t / s := by
 rw [al_mul h1 h2]
 exact Int.mul_ediv_cancel_left _ (by omega)
theorem al_bd {t s : Int} (h1 : 1 ≤ s) (h2 : 0 ≤ t) : 0 ≤ al t s ∧ al t s ≤ t := by
 rw [al_eq h1 h2]
 have h3 := Int.emod_nonneg t (by omega : s ≠ 0)
 have h4 : t % s ≤ t := by
  have := Int.mul_ediv_add_emod t s
  have h5 : 0 ≤ s * (t / s) := Int.mul_nonneg (by omega) (Int.ediv_nonneg h2 (by omega))
  omega
 omega
theorem pl_bd {s c t : Int} (h1 : 1 ≤ s) (h2 : 1 ≤ c) (h3 : 0 ≤ t) : 0 ≤ pl s c t ∧ pl s c t < c := by
 rw [pl_eq h1 h2 h3]
 exact ⟨Int.emod_nonneg _ (by omega), Int.emod_lt_of_pos _ (by omega)⟩
end Sl
section
set_option maxHeartbeats 400000
theorem align_any (t s : Int) (hi : t ≤ 9223372036854775807) (w : World) :
 Calls Tryz.prog 87 #[.int .i64 t, .int .i64 s] w fun e w' => e = .returned (.int .i64 (Sl.al t s)) ∧ w = w' := by
 by_cases h1 : s < 1
 ·have H : Hid (Sl.al t s = t) := Lib.hid (by unfold Sl.al; rw [if_pos (.inl h1)])
  go_enter Tryz.func87, Tryz.ntmps87
  go_wp2
  go_ret
  exact ⟨by rw [H.out]; rfl, rfl⟩
 by_cases h2 : t < 0
 ·have H : Hid (Sl.al t s = t) := Lib.hid (by unfold Sl.al; rw [if_pos (.inr h2)])
  go_enter Tryz.func87, Tryz.ntmps87
  go_wp2
  go_ret
  exact ⟨by rw [H.out]; rfl, rfl⟩
 have H := Lib.hid (Sl.al_eq (t := t) (s := s) (by omega) (by omega))
 have hm : t.tmod s = t % s := Int.tmod_eq_emod_of_nonneg (by omega)
 have hz : (s == 0) = false := by simp; omega
 have hb := Sl.al_bd (t := t) (s := s) (by omega) (by omega)
 rw [H.out] at hb
 have hw : IntKind.i64.wrap (t - t % s) = t - t % s := IntWalk.i64_in _ (by omega)
 have hn : 0 ≤ t % s := Int.emod_nonneg _ (by omega)
 have hw2 : IntKind.i64.wrap (t % s) = t % s := IntWalk.i64_in _ (by omega)
 go_enter Tryz.func87, Tryz.ntmps87
 go_wp2
 go_ret
 exact ⟨by rw [H.out]; rfl, rfl⟩
theorem ralign_any (t s : Int) (hi : t ≤ 9223372036854775807) (w : World) :
 Calls Tryz.prog 54 #[.int .i64 t, .int .i64 s] w fun e w' => e = .returned (.int .i64 (Sl.al t s)) ∧ w = w' := by
 by_cases h1 : s < 1
 ·have H : Hid (Sl.al t s = t) := Lib.hid (by unfold Sl.al; rw [if_pos (.inl h1)])
  go_enter Tryz.func54, Tryz.ntmps54
  go_wp2
  go_ret
  exact ⟨by rw [H.out]; rfl, rfl⟩
 by_cases h2 : t < 0
 ·have H : Hid (Sl.al t s = t) := Lib.hid (by unfold Sl.al; rw [if_pos (.inr h2)])
  go_enter Tryz.func54, Tryz.ntmps54
  go_wp2
  go_ret
  exact ⟨by rw [H.out]; rfl, rfl⟩
 have H := Lib.hid (Sl.al_eq (t := t) (s := s) (by omega) (by omega))
 have hm : t.tmod s = t % s := Int.tmod_eq_emod_of_nonneg (by omega)
 have hz : (s == 0) = false := by simp; omega
 have hb := Sl.al_bd (t := t) (s := s) (by omega) (by omega)
 rw [H.out] at hb
 have hw : IntKind.i64.wrap (t - t % s) = t - t % s := IntWalk.i64_in _ (by omega)
 have hn : 0 ≤ t % s := Int.emod_nonneg _ (by omega)
 have hw2 : IntKind.i64.wrap (t % s) = t % s := IntWalk.i64_in _ (by omega)
 go_enter Tryz.func54, Tryz.ntmps54
 go_wp2
 go_ret
 exact ⟨by rw [H.out]; rfl, rfl⟩
end
section
set_option maxHeartbeats 1000000
theorem place_any (s c t : Int) (hi : t ≤ 9223372036854775807) (w : World) :
 Calls Tryz.prog 104 #[.agg #[.int .i64 s, .int .i64 c], .int .i64 t] w fun e w' => e = .returned (.int .i64 (Sl.pl s c t)) ∧ Below w.heap.size w w' := by
 by_cases h1 : s < 1
 ·have H : Hid (Sl.pl s c t = 0) := Lib.hid (by unfold Sl.pl; rw [if_pos (.inl h1)])
  go_enter Tryz.func104, Tryz.ntmps104
  go_wp2
  go_ret
  exact ⟨by rw [H.out]; rfl, Bq⟩
 by_cases h2 : c < 1
 ·have H : Hid (Sl.pl s c t = 0) := Lib.hid (by unfold Sl.pl; rw [if_pos (.inr (.inl h2))])
  go_enter Tryz.func104, Tryz.ntmps104
  go_wp2
  go_ret
  exact ⟨by rw [H.out]; rfl, Bq⟩
 by_cases h3 : t < 0
 ·have H : Hid (Sl.pl s c t = 0) := Lib.hid (by unfold Sl.pl; rw [if_pos (.inr (.inr h3))])
  go_enter Tryz.func104, Tryz.ntmps104
  go_wp2
  go_ret
  exact ⟨by rw [H.out]; rfl, Bq⟩
 have hb := Sl.al_bd (t := t) (s := s) (by omega) (by omega)
 have hq : 0 ≤ t / s ∧ t / s ≤ t := ⟨Int.ediv_nonneg (by omega) (by omega), Int.ediv_le_self _ (by omega)⟩
 have HA := Lib.hid (fun W => align_any t s hi W)
 have hd : (Sl.al t s).tdiv s = t / s := by rw [Int.tdiv_eq_ediv_of_nonneg hb.1, Sl.al_div (by omega) (by omega)]
 have hp := Sl.pl_bd (s := s) (c := c) (t := t) (by omega) (by omega) (by omega)
 have hm : (t / s).tmod c = Sl.pl s c t := by rw [Int.tmod_eq_emod_of_nonneg hq.1, Sl.pl_eq (by omega) (by omega) (by omega)]
 have hz : (s == 0) = false := by simp; omega
 have hz2 : (c == 0) = false := by simp; omega
 have hpq : Sl.pl s c t ≤ t / s := by
  rw [Sl.pl_eq (by omega) (by omega) (by omega)]
  have := Int.mul_ediv_add_emod (t / s) c
  have h5 : 0 ≤ c * (t / s / c) := Int.mul_nonneg (by omega) (Int.ediv_nonneg hq.1 (by omega))
  omega
 generalize Sl.pl s c t = p at *
 generalize t / s = q at *
 generalize Sl.al t s = a at *
 have hw1 : IntKind.i64.wrap q = q := IntWalk.i64_in _ (by omega)
 have hw2 : IntKind.i64.wrap p = p := IntWalk.i64_in _ (by omega)
 obtain ⟨kc, kf⟩ := kgrown (w.alloc (.cells #[.int .i64 s, .int .i64 c] 56))
 go_enter Tryz.func104, Tryz.ntmps104
 go_wp2_with fail
 refine wp_region_quiet_below (by kernel_rfl) (by kernel_rfl) ?_
 repeat (go_big_quiet_step (first
  | (go_at_call 87; exact Calls.regrown_of ((HA.out _).mono fun _ _ ⟨e, h⟩ => ⟨e, h ▸ Below.refl _ _⟩))))
 refine wpQuiet_nil ?_
 intro _ hw'
 obtain ⟨⟨dq, osq⟩, hw''⟩ := hw'
 subst hw''
 go_wp2
 go_ret
 exact ⟨rfl, Bq⟩
theorem rplace_any (s c t : Int) (hi : t ≤ 9223372036854775807) (w : World) :
 Calls Tryz.prog 44 #[.agg #[.int .i64 s, .int .i64 c], .int .i64 t] w fun e w' => e = .returned (.int .i64 (Sl.pl s c t)) ∧ Below w.heap.size w w' := by
 by_cases h1 : s < 1
 ·have H : Hid (Sl.pl s c t = 0) := Lib.hid (by unfold Sl.pl; rw [if_pos (.inl h1)])
  go_enter Tryz.func44, Tryz.ntmps44
  go_wp2
  go_ret
  exact ⟨by rw [H.out]; rfl, Bq⟩
 by_cases h2 : c < 1
 ·have H : Hid (Sl.pl s c t = 0) := Lib.hid (by unfold Sl.pl; rw [if_pos (.inr (.inl h2))])
  go_enter Tryz.func44, Tryz.ntmps44
  go_wp2
  go_ret
  exact ⟨by rw [H.out]; rfl, Bq⟩
 by_cases h3 : t < 0
 ·have H : Hid (Sl.pl s c t = 0) := Lib.hid (by unfold Sl.pl; rw [if_pos (.inr (.inr h3))])
  go_enter Tryz.func44, Tryz.ntmps44
  go_wp2
  go_ret
  exact ⟨by rw [H.out]; rfl, Bq⟩
 have hq : 0 ≤ t / s ∧ t / s ≤ t := ⟨Int.ediv_nonneg (by omega) (by omega), Int.ediv_le_self _ (by omega)⟩
 have hd : t.tdiv s = t / s := Int.tdiv_eq_ediv_of_nonneg (by omega)
 have hp := Sl.pl_bd (s := s) (c := c) (t := t) (by omega) (by omega) (by omega)
 have hm : (t / s).tmod c = Sl.pl s c t := by rw [Int.tmod_eq_emod_of_nonneg hq.1, Sl.pl_eq (by omega) (by omega) (by omega)]
 have hz : (s == 0) = false := by simp; omega
 have hz2 : (c == 0) = false := by simp; omega
 have hpq : Sl.pl s c t ≤ t / s := by
  rw [Sl.pl_eq (by omega) (by omega) (by omega)]
  have := Int.mul_ediv_add_emod (t / s) c
  have h5 : 0 ≤ c * (t / s / c) := Int.mul_nonneg (by omega) (Int.ediv_nonneg hq.1 (by omega))
  omega
 generalize Sl.pl s c t = p at *
 generalize t / s = q at *
 have hw1 : IntKind.i64.wrap q = q := IntWalk.i64_in _ (by omega)
 have hw2 : IntKind.i64.wrap p = p := IntWalk.i64_in _ (by omega)
 go_enter Tryz.func44, Tryz.ntmps44
 go_wp2_with fail
 go_quiet (fail)
 go_wp2
 go_ret
 exact ⟨rfl, Bqn⟩
end
end
end Go.Proofs.YtljlanhpjpjgaaaGreatDoor
