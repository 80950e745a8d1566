/-
  CONTRACT: whead's read of bytes that hold a header's numbers.
-/
import Derived.Test.YthjpodjfiajhaaaWhRead
namespace Go.Proofs.Ythjpodjfiajhaaa
open Go.RowKit Go.Sort
open Wh (At)
open Me

/-- What read hands back of bytes that hold so many archives. -/
def ReadOk (w : World) (L : List UInt8) (k : Nat) (e : Ending) (w' : World) : Prop :=
  ∃ g, e = .returned (.tuple #[.agg #[.int .i64 (Wh.nm L 0), .int .i64 (Wh.nm L 8), .slice (some ⟨g, 0, none⟩) k k], .bool true]) ∧ w.heap.size ≤ g ∧ Ars w' g 0 (Wh.archs L k) ∧ Below w.heap.size w w'

/-- What holds of the blocks while the archives are read: r the result's, g the archives', h the header's. -/
structure RdMade (w wx : World) (L : List UInt8) (k j g h : Nat) : Prop where
  g0 : w.heap.size < g
  h0 : w.heap.size < h
  gh : g ≠ h
  bel : Below w.heap.size w wx
  rr : RowAt wx w.heap.size 25 #[.int .i64 0, .int .i64 0, .slice none 0 0]
  rh : RowAt wx h 25 #[.int .i64 (Wh.nm L 0), .int .i64 (Wh.nm L 8), .slice (some ⟨g, 0, none⟩) k k]
  rg : ∃ cs : Array Value, cs.size = k * 2 ∧ RowAt wx g 41 cs ∧ ∀ i, i < j → cs[i * 2]? = some (.int .i64 (Wh.nm L (16 + 12 * i + 4))) ∧ cs[i * 2 + 1]? = some (.int .i64 (Wh.nm L (16 + 12 * i + 8)))

theorem bel_drewN {B : Nat} {a w : World} (h : Below B a w) (n : Nat) : Below B a (w.drewN n) := ⟨h.os, h.tape, h.output, h.size, h.block⟩
theorem RowAt.new' {w : World} {g : Nat} {cs : Array Value} {t : TypeId} (h : g = w.heap.size) : RowAt (w.alloc (.cells cs t)) g t cs := by subst h; exact RowAt.new w cs t
theorem RowAt.set3 {w : World} {g : Nat} {t : TypeId} {a b c x y z : Value} (h : RowAt w g t #[a, b, c]) : RowAt (((w.setCell ⟨g, 0, none⟩ x).setCell ⟨g, 1, none⟩ y).setCell ⟨g, 2, none⟩ z) g t #[x, y, z] := by
  have := ((h.set_ 0 x).set_ 1 y).set_ 2 z
  simpa using this
theorem made_of {w X wx : World} {L : List UInt8} {k g h : Nat} {CS : Array Value} (hX : X.heap.size = w.heap.size + 1) (hB : Below w.heap.size w X) (hR : RowAt X w.heap.size 25 #[.int .i64 0, .int .i64 0, .slice none 0 0]) (hcs : CS.size = k * 2)
    (g0 : w.heap.size < g) (h0 : w.heap.size < h) (gh : g ≠ h) (hb : Below X.heap.size X wx) (h1 : RowAt wx h 25 #[.int .i64 (Wh.nm L 0), .int .i64 (Wh.nm L 8), .slice (some ⟨g, 0, none⟩) k k]) (h2 : RowAt wx g 41 CS) : RdMade w wx L k 0 g h :=
  ⟨g0, h0, gh, hB.trans (hb.mono (by omega)), hR.below hb (by omega), h1, CS, hcs, h2, fun i hi => by omega⟩

theorem RdMade.step {w wr : World} {L : List UInt8} {k j g h : Nat} (hM : RdMade w wr L k j g h) (hj : j < k) (n : Nat) :
    RdMade w (((wr.drewN n).setCell ⟨g, j * 2, none⟩ (.int .i64 (Wh.nm L (16 + 12 * j + 4)))).setCell ⟨g, j * 2 + 1, none⟩ (.int .i64 (Wh.nm L (16 + 12 * j + 8)))) L k (j + 1) g h := by
  obtain ⟨g0, h0, gh, hb, rr, rh, cs, hcs, rg, hv⟩ := hM
  refine ⟨g0, h0, gh, ((bel_drewN hb n).setCell (by show _ ≤ g; omega) _).setCell (by show _ ≤ g; omega) _, ((rr.drewN n).far (by show _ ≠ g; omega) _).far (by show _ ≠ g; omega) _, ((rh.drewN n).far (Ne.symm gh) _).far (Ne.symm gh) _, (cs.setIfInBounds (j * 2) (.int .i64 (Wh.nm L (16 + 12 * j + 4)))).setIfInBounds (j * 2 + 1) (.int .i64 (Wh.nm L (16 + 12 * j + 8))), by simp [hcs], ((rg.drewN n).set_ _ _).set_ _ _, fun i hi => ?_⟩
  by_cases e : i = j
  · subst e
    constructor
    · rw [Array.getElem?_setIfInBounds, if_neg (by omega), Array.getElem?_setIfInBounds, if_pos rfl, if_pos (by omega)]
    · rw [Array.getElem?_setIfInBounds, if_pos rfl, if_pos (by simp; omega)]
  · obtain ⟨v1, v2⟩ := hv i (by omega)
    constructor
    · rw [Array.getElem?_setIfInBounds, if_neg (by omega), Array.getElem?_setIfInBounds, if_neg (by omega)]; exact v1
    · rw [Array.getElem?_setIfInBounds, if_neg (by omega), Array.getElem?_setIfInBounds, if_neg (by omega)]; exact v2
theorem RdMade.fin {w wr : World} {L : List UInt8} {k g h : Nat} (hM : RdMade w wr L k k g h) (x y z : Value) :
    Ars (((wr.setCell ⟨w.heap.size, 0, none⟩ x).setCell ⟨w.heap.size, 1, none⟩ y).setCell ⟨w.heap.size, 2, none⟩ z) g 0 (Wh.archs L k) ∧ Below w.heap.size w (((wr.setCell ⟨w.heap.size, 0, none⟩ x).setCell ⟨w.heap.size, 1, none⟩ y).setCell ⟨w.heap.size, 2, none⟩ z) := by
  obtain ⟨g0, h0, gh, hb, rr, rh, cs, hcs, rg, hv⟩ := hM
  refine ⟨?_, ((hb.setCell (Nat.le_refl _) _).setCell (Nat.le_refl _) _).setCell (Nat.le_refl _) _⟩
  have r := ((rg.far (p := ⟨w.heap.size, 0, none⟩) (by show g ≠ w.heap.size; omega) x).far (p := ⟨w.heap.size, 1, none⟩) (by show g ≠ w.heap.size; omega) y).far (p := ⟨w.heap.size, 2, none⟩) (by show g ≠ w.heap.size; omega) z
  refine ⟨r.lt, fun i hi => ?_, fun i hi => ?_⟩
  · rw [Wh.archs_len] at hi
    rw [r.cell, Wh.archs_at L k i hi, Nat.zero_add]; exact (hv i hi).1
  · rw [Wh.archs_len] at hi
    rw [r.cell, Wh.archs_at L k i hi, Nat.zero_add]; exact (hv i hi).2

set_option maxHeartbeats 4000000 in
theorem read_yes (L : List UInt8) (b off cap k : Nat) (w : World) (h : By w b off L) (hc : L.length ≤ cap) (hk : Wh.nm L 12 = (k : Int)) (h8 : k ≤ 8) (hl : 16 + 12 * k ≤ L.length) :
    Calls Try.prog 9 #[.slice (some ⟨b, off, none⟩) L.length cap] w (ReadOk w L k) := by
  obtain ⟨j0, hj0, hy0, hy1, hy2⟩ := info_parts arinfo
  obtain ⟨CS, hmk, hcs⟩ : ∃ (CS : Array Value), (∀ W : World, (Instr.makeSlice 23 (.int .i64 (k : Int)) (.int .i64 (k : Int))).run Try.prog W = .ok (.slice (some ⟨W.heap.size, 0, none⟩) k k) (W.alloc (.cells CS 41))) ∧ CS.size = k * 2 := by
    refine ⟨madeCells #[.int .i64 0, .int .i64 0] (k * 2), fun W => ?_, size_madeCells _ _⟩
    have h := run_make (P := Try.prog) W 23 41 j0 (.agg #[.int .i64 0, .int .i64 0]) Try.underlying23 hj0 hy0 .i64 .i64 (k : Int) (k : Int) (by omega) (by omega) (by rw [hy2]; omega) (by omega)
    rw [hy1] at h
    exact h
  have HN : Hid (∀ W i n c, 4 ≤ n → i + 4 ≤ L.length → Below w.heap.size w W → Calls Try.prog 19 #[.slice (some ⟨b, off + i, none⟩) n c] W fun e w' => e = .returned (.int .i64 (Wh.nm L i)) ∧ ∃ m, w' = W.drewN m) := Lib.hid fun W i n c hn hi hb => number_dr L i b off n c W (h.below hb) hi hn
  have HN0 : Hid (∀ W n c, 4 ≤ n → Below w.heap.size w W → Calls Try.prog 19 #[.slice (some ⟨b, off, none⟩) n c] W fun e w' => e = .returned (.int .i64 (Wh.nm L 0)) ∧ ∃ m, w' = W.drewN m) := Lib.hid fun W n c hn hb => number_dr L 0 b off n c W (h.below hb) (by omega) hn
  have HN12 : Hid (∀ W n c, 4 ≤ n → Below w.heap.size w W → Calls Try.prog 19 #[.slice (some ⟨b, off + 12, none⟩) n c] W fun e w' => e = .returned (.int .i64 (k : Int)) ∧ ∃ m, w' = W.drewN m) := Lib.hid fun W n c hn hb => by rw [← hk]; exact number_dr L 12 b off n c W (h.below hb) (by omega) hn
  have HH := Lib.hid (headBytes_any (k : Int) (by omega) (by omega))
  have HH2 : Hid (∀ i : Nat, i ≤ 8 → ∀ W, Calls Try.prog 16 #[.int .i64 (i : Int)] W fun e w' => e = .returned (.int .i64 ((16 + 12 * i : Nat) : Int)) ∧ W = w') := Lib.hid fun i hi W => by
    have := headBytes_any (i : Int) (by omega) (by omega) W
    have e : (16 + (i : Int) * 12) = ((16 + 12 * i : Nat) : Int) := by omega
    rw [e] at this
    exact this
  have hbl := h.lt
  have hlI : (16 : Int) + 12 * (k : Int) ≤ (L.length : Int) := by omega
  have hc12 : ¬ cap = 12 := by omega
  have hc8 : ¬ cap = 8 := by omega
  have hI8 : (8 : Int) ≤ (L.length : Int) := by omega
  have hIc : (L.length : Int) ≤ (cap : Int) := by omega
  have hN8 : 8 ≤ L.length := by omega
  have hN8c : 8 ≤ cap := by omega
  clear h hk hj0 hy0 hy1 hy2
  go_enter Try.func9, Try.ntmps9
  go_upto_region 6 with (first | (go_at_call 19; (with_reducible refine (HN12.out _ _ _ (by omega) ((Below.refl _ _).alloc (Nat.le_refl _) _)).mono ?_); rintro e w1 ⟨rfl, m1, rfl⟩) | (go_at_call 16; go_must (refine (HH.out _).mono ?_; rintro e w' ⟨rfl, rfl⟩)))
  have hB0 : Below w.heap.size w ((w.alloc (.cells #[.int .i64 0, .int .i64 0, .slice none 0 0] 25)).drewN m1) := (by repeat (first | exact Below.refl _ _ | assumption | refine Below.setCell ?_ (by first | (simp; done) | omega | (simp; omega) | (simp at *; omega)) _ | refine Below.alloc ?_ (by first | (simp; done) | omega | (simp; omega) | (simp at *; omega)) _ | refine Below.drew ?_ | refine below_drewN ?_ _ | (refine Below.trans ?_ (Below.mono (by assumption) (by first | (simp; done) | omega | (simp; omega) | (simp at *; omega)))) | (refine Below.trans ?_ (Below.mono (below_regrown _ _ _) (by first | (simp; done) | omega | (simp; omega) | (simp at *; omega))))))
  have hR0 : RowAt ((w.alloc (.cells #[.int .i64 0, .int .i64 0, .slice none 0 0] 25)).drewN m1) w.heap.size 25 #[.int .i64 0, .int .i64 0, .slice none 0 0] := RowAt.new w _ _
  have hX0 : ((w.alloc (.cells #[.int .i64 0, .int .i64 0, .slice none 0 0] 25)).drewN m1).heap.size = w.heap.size + 1 := by simp
  generalize (w.alloc (.cells #[.int .i64 0, .int .i64 0, .slice none 0 0] 25)).drewN m1 = X at *
  have HB0 := Lib.hid hB0
  have HR0 := Lib.hid hR0
  have HX0 := Lib.hid hX0
  have hX1 : w.heap.size < X.heap.size := by omega
  clear hB0 hR0 hX0
  have hA1 : ∀ (W : World) (n : Nat) (cs : Array Value) (t : TypeId) (i : Nat), ((W.drewN n).alloc (.cells cs t)).cell? ⟨W.heap.size, i, none⟩ = cs[i]? := fun W n cs t i => by rw [show W.heap.size = (W.drewN n).heap.size from rfl]; exact World.cell?_alloc_new _ _ _ _
  have hA2 : ∀ (W : World) (n : Nat) (cs : Array Value) (t : TypeId) (i : Nat), ((W.drewN n).alloc (.cells cs t)).frozen? ⟨W.heap.size, i, none⟩ = false := fun W n cs t i => by
    have h := RowAt.frozen (RowAt.new (W.drewN n) cs t) i
    exact h
  go_cut [5] (fun s5 wx => ∃ g h : Nat, s5 = .pointer (some ⟨h, 0, none⟩) ∧ RdMade w wx L k 0 g h)
  case first =>
    go_region_held3 (fun _ => True) (trivial) (first
      | (go_at_call 19; (with_reducible refine (HN0.out _ _ _ (by omega) (HB0.out.trans (Below.mono (by repeat (first | exact Below.refl _ _ | refine Below.setCell ?_ (by simp) _ | refine Below.alloc ?_ (by simp) _ | refine Below.drew ?_ | refine bel_drewN ?_ _)) (Nat.le_of_lt hX1)))).mono ?_); rintro e w1 ⟨rfl, m2, rfl⟩)
      | (go_at_call 19; (with_reducible refine (HN.out _ 8 _ _ (by omega) (by omega) (HB0.out.trans (Below.mono (by repeat (first | exact Below.refl _ _ | refine Below.setCell ?_ (by simp) _ | refine Below.alloc ?_ (by simp) _ | refine Below.drew ?_ | refine bel_drewN ?_ _)) (Nat.le_of_lt hX1)))).mono ?_); rintro e w1 ⟨rfl, m2, rfl⟩)
      | fail)
    all_goals go_wp2_with fail
    all_goals go_meet
    all_goals
      have hz := HX0.out
      first
        | refine ⟨X.heap.size, X.heap.size + 1, rfl, ?_⟩
        | refine ⟨X.heap.size + 1, X.heap.size, rfl, ?_⟩
    all_goals refine made_of (CS := CS) HX0.out HB0.out HR0.out hcs (by omega) (by omega) (by omega) (by repeat (first | exact Below.refl _ _ | refine Below.setCell ?_ (by simp) _ | refine Below.alloc ?_ (by simp) _ | refine Below.drew ?_ | refine bel_drewN ?_ _)) ?_ ?_
    all_goals repeat (first | (with_reducible refine RowAt.new' ?_; simp; done) | with_reducible refine RowAt.set3 (a := .int .i64 0) (b := .int .i64 0) (c := .slice none 0 0) ?_ | with_reducible refine RowAt.far ?_ (by simp) _ | with_reducible refine RowAt.alloc ?_ _ | with_reducible refine RowAt.drewN ?_ _)
  case rest =>
    obtain ⟨g, h, rfl, hM⟩ := hcut
    have hhl := hM.rh.lt
    have h2c : wc.cell? ⟨h, 2, none⟩ = some (.slice (some ⟨g, 0, none⟩) k k) := hM.rh.cell 2
    have HM0 := Lib.hid hM
    clear hM hmk HN0 HN12 hA1 hA2 HB0 HR0 HX0 hX1
    go_wp2_with fail
    go_loopw [36] (fun i wr => ∃ j : Nat, j ≤ k ∧ i = .int .i64 j ∧ Hid (RdMade w wr L k j g h)) (fun i _ => k - (intOf i).toNat)
    case atStart => exact ⟨0, Nat.zero_le _, rfl, HM0⟩
    case round =>
      obtain ⟨j, hj, rfl, hM⟩ := hrel
      obtain ⟨cs, hcs2, hrg, _⟩ := hM.out.rg
      have hhl2 := hM.out.rh.lt
      have hgl := hrg.lt
      have hrl := hM.out.rr.lt
      have x0 : wr.cell? ⟨h, 0, none⟩ = some (.int .i64 (Wh.nm L 0)) := hM.out.rh.cell 0
      have x1 : wr.cell? ⟨h, 1, none⟩ = some (.int .i64 (Wh.nm L 8)) := hM.out.rh.cell 1
      have x2 : wr.cell? ⟨h, 2, none⟩ = some (.slice (some ⟨g, 0, none⟩) k k) := hM.out.rh.cell 2
      by_cases hlt : j < k
      · obtain ⟨p, hp⟩ : ∃ p, 16 + 12 * j = p := ⟨_, rfl⟩
        have HHj := Lib.hid (HH2.out j (by omega))
        have HNa : Hid (∀ W n c, 4 ≤ n → Below w.heap.size w W → Calls Try.prog 19 #[.slice (some ⟨b, off + p + 4, none⟩) n c] W fun e w' => e = .returned (.int .i64 (Wh.nm L (16 + 12 * j + 4))) ∧ ∃ m, w' = W.drewN m) := Lib.hid fun W n c hn hb => by
          have := HN.out W (16 + 12 * j + 4) n c hn (by omega) hb
          rw [hp, ← Nat.add_assoc] at this
          rw [hp]
          exact this
        have HNb : Hid (∀ W n c, 4 ≤ n → Below w.heap.size w W → Calls Try.prog 19 #[.slice (some ⟨b, off + p + 8, none⟩) n c] W fun e w' => e = .returned (.int .i64 (Wh.nm L (16 + 12 * j + 8))) ∧ ∃ m, w' = W.drewN m) := Lib.hid fun W n c hn hb => by
          have := HN.out W (16 + 12 * j + 8) n c hn (by omega) hb
          rw [hp, ← Nat.add_assoc] at this
          rw [hp]
          exact this
        rw [hp] at HHj
        have hpl : p + 12 ≤ L.length := by omega
        have HST : Hid (∀ n, RdMade w (((wr.drewN n).setCell ⟨g, j * 2, none⟩ (.int .i64 (Wh.nm L (16 + 12 * j + 4)))).setCell ⟨g, j * 2 + 1, none⟩ (.int .i64 (Wh.nm L (16 + 12 * j + 8)))) L k (j + 1) g h) := Lib.hid fun n => hM.out.step hlt n
        have y0 : wr.cell? ⟨g, j * 2, none⟩ = some (cs[j * 2]'(by omega)) := by rw [hrg.cell]; exact Array.getElem?_eq_getElem (by omega)
        have y1 : wr.cell? ⟨g, j * 2 + 1, none⟩ = some (cs[j * 2 + 1]'(by omega)) := by rw [hrg.cell]; exact Array.getElem?_eq_getElem (by omega)
        have z0 := hrg.frozen (j * 2)
        have z1 := hrg.frozen (j * 2 + 1)
        have hbW := Lib.hid hM.out.bel
        generalize cs[j * 2]'(by omega) = v0 at y0
        generalize cs[j * 2 + 1]'(by omega) = v1 at y1
        generalize Wh.nm L (16 + 12 * j + 4) = na at *
        generalize Wh.nm L (16 + 12 * j + 8) = nb at *
        have hpI : (p : Int) ≤ (L.length : Int) := by omega
        have hpN : p ≤ L.length := by omega
        have hpc : ¬ cap = p := by omega
        have hpc2 : p ≤ cap := by omega
        clear hp HN hrg hcs2
        go_wp2_with (go_at_call 16; go_must (refine (HHj.out _).mono ?_; rintro e w' ⟨rfl, rfl⟩))
        generalize hn1 : L.length - p = n1
        generalize hc1 : cap - p = c1
        have hq1 : 12 ≤ n1 := by omega
        have hq2 : n1 ≤ c1 := by omega
        have hq4 : (4 : Int) ≤ (n1 : Int) := by omega
        have hq8 : (8 : Int) ≤ (n1 : Int) := by omega
        have hqc : (n1 : Int) ≤ (c1 : Int) := by omega
        have hr4 : ¬ c1 = 4 := by omega
        have hr8 : ¬ c1 = 8 := by omega
        have hs4 : 4 ≤ n1 := by omega
        have hs8 : 8 ≤ n1 := by omega
        have hs4c : 4 ≤ c1 := by omega
        have hs8c : 8 ≤ c1 := by omega
        have hjk : (j : Int) < (k : Int) := by omega
        clear hn1 hc1 hpl hpI hpN hpc hpc2 hlI hI8 hIc hN8 hN8c hc8 hc12 hc hl
        go_region_held3 (fun W => W.cell? ⟨h, 2, none⟩ = some (.slice (some ⟨g, 0, none⟩) k k)) (first | exact x2 | exact (HST.out _).rh.cell 2 | go_keep) (first
          | (go_at_call 19; (with_reducible refine (HNa.out _ _ _ (by omega) (hbW.out.trans (Below.mono (by repeat (first | exact Below.refl _ _ | refine Below.drew ?_ | refine bel_drewN ?_ _)) (hbW.out.size)))).mono ?_); rintro e w1 ⟨rfl, m2, rfl⟩)
          | (go_at_call 19; (with_reducible refine (HNb.out _ _ _ (by omega) (hbW.out.trans (Below.mono (by repeat (first | exact Below.refl _ _ | refine Below.drew ?_ | refine bel_drewN ?_ _)) (hbW.out.size)))).mono ?_); rintro e w1 ⟨rfl, m2, rfl⟩)
          | fail)
        go_wp2_with fail
        go_roundw
        case rel => exact ⟨j + 1, by omega, by go_num, Lib.hid (HST.out _)⟩
        case measure => simp [intOf]; omega
      · obtain rfl : j = k := by omega
        have HFI := Lib.hid (hM.out.fin (.int .i64 (Wh.nm L 0)) (.int .i64 (Wh.nm L 8)) (.slice (some ⟨g, 0, none⟩) j j))
        have hg0 := hM.out.g0
        have hh0 := hM.out.h0
        have r0 : wr.cell? ⟨w.heap.size, 0, none⟩ = some (.int .i64 0) := hM.out.rr.cell 0
        have r1 : wr.cell? ⟨w.heap.size, 1, none⟩ = some (.int .i64 0) := hM.out.rr.cell 1
        have r2 : wr.cell? ⟨w.heap.size, 2, none⟩ = some (.slice none 0 0) := hM.out.rr.cell 2
        have s0 := hM.out.rr.frozen 0
        have s1 := hM.out.rr.frozen 1
        have s2 := hM.out.rr.frozen 2
        clear hM hrg hcs2 HN HH2 HH HM0 hlI hI8 hIc hN8 hN8c hc8 hc12 hc hl
        go_wp2_with fail
        refine bodyPost_ret (v := .tuple #[.agg #[.int .i64 (Wh.nm L 0), .int .i64 (Wh.nm L 8), .slice (some ⟨g, 0, none⟩) j j], .bool true]) (by simp [results, Try.results9, go_sem, r0, r1, r2]) rfl ⟨g, rfl, Nat.le_of_lt hg0, HFI.out.1, HFI.out.2⟩
end Go.Proofs.Ythjpodjfiajhaaa
