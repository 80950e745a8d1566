/-
  CONTRACT: whead's Decode, every row of bytes.
-/
import Derived.Test.YthjpodjfiajhaaaWhDec
namespace Go.Proofs.Ythjpodjfiajhaaa
open Go.RowKit Go.Sort
open Wh (At)
open Me

/-- A row that reads as bytes, at its address. -/
theorem Reads.by_ {w : World} {A : Option Addr} {L : List UInt8} {c : Nat} (h : Reads w (.slice A L.length c) L) (h0 : 0 < L.length) : ∃ b off, A = some ⟨b, off, none⟩ ∧ By w b off L ∧ L.length ≤ c := by
  obtain ⟨A', c', e, hc, hr⟩ := h
  injection e with e1 e2 e3
  subst e1 e3
  obtain ⟨b, o, e, hl, _, hcell⟩ := hr.lit 0 (by rw [by8_len]; exact h0)
  refine ⟨b, o, e, ⟨hl, fun j hj => ?_⟩, hc⟩
  have := hcell j _ (by8_get L j hj)
  rw [this]
  unfold Wh.byt
  rw [List.getD_eq_getElem?_getD, List.getElem?_eq_getElem hj]
  rfl

theorem res_cells {w w1 w2 : World} {o : Obj} {T : TypeId} {x y z : Value} (h1 : Below (w.alloc (.cells #[x, y, z] T)).heap.size (w.alloc (.cells #[x, y, z] T)) w1) (h2 : Below (w1.alloc o).heap.size (w1.alloc o) w2) :
    w2.cell? ⟨w.heap.size, 0, none⟩ = some x ∧ w2.cell? ⟨w.heap.size, 1, none⟩ = some y ∧ w2.cell? ⟨w.heap.size, 2, none⟩ = some z ∧ Below w.heap.size w w2 := by
  have e1 : (w.alloc (.cells #[x, y, z] T)).heap.size = w.heap.size + 1 := by simp
  have e2 : w.heap.size + 1 ≤ w1.heap.size := by have := h1.size; omega
  have hb : Below (w.heap.size + 1) (w.alloc (.cells #[x, y, z] T)) w2 := ((h1.mono (by omega)).alloc e2 o).trans (h2.mono (by simp; omega))
  exact ⟨(hb.cell (p := ⟨w.heap.size, 0, none⟩) (Nat.lt_succ_self _)).trans (by simp [go_sem]), (hb.cell (p := ⟨w.heap.size, 1, none⟩) (Nat.lt_succ_self _)).trans (by simp [go_sem]), (hb.cell (p := ⟨w.heap.size, 2, none⟩) (Nat.lt_succ_self _)).trans (by simp [go_sem]), ((Below.refl _ _).alloc (Nat.le_refl _) _).trans (hb.mono (Nat.le_succ _))⟩
theorem back_cells {w w2 : World} (hb : Below w.heap.size w w2) (x y z : Value) : Below w.heap.size w (((w2.setCell ⟨w.heap.size, 0, none⟩ x).setCell ⟨w.heap.size, 1, none⟩ y).setCell ⟨w.heap.size, 2, none⟩ z) :=
  ((hb.setCell (Nat.le_refl _) _).setCell (Nat.le_refl _) _).setCell (Nat.le_refl _) _
theorem back_ars {w w2 : World} {g : Nat} {l : List (Int × Int)} (h : Ars w2 g 0 l) (hg : w.heap.size < g) (x y z : Value) : Ars (((w2.setCell ⟨w.heap.size, 0, none⟩ x).setCell ⟨w.heap.size, 1, none⟩ y).setCell ⟨w.heap.size, 2, none⟩ z) g 0 l := by
  have k : (((w2.setCell ⟨w.heap.size, 0, none⟩ x).setCell ⟨w.heap.size, 1, none⟩ y).setCell ⟨w.heap.size, 2, none⟩ z).heap[g]? = w2.heap[g]? :=
    ((Below.heap_setCell _ ⟨w.heap.size, 2, none⟩ z g (by show g ≠ w.heap.size; omega)).trans (Below.heap_setCell _ ⟨w.heap.size, 1, none⟩ y g (by show g ≠ w.heap.size; omega))).trans (Below.heap_setCell _ ⟨w.heap.size, 0, none⟩ x g (by show g ≠ w.heap.size; omega))
  refine ⟨by simpa [World.setCell] using h.lt, fun i hi => ?_, fun i hi => ?_⟩
  · exact (World.cell?_of_block (a := ⟨g, 0 + i * 2, none⟩) k).trans (h.st i hi)
  · exact (World.cell?_of_block (a := ⟨g, 0 + i * 2 + 1, none⟩) k).trans (h.ct i hi)

set_option maxHeartbeats 2000000 in
theorem decode_mid (L E : List UInt8) (b off cap : Nat) (l : List (Int × Int)) (a0 a8 : Int) (v r : Bool) (w : World) (hd : Hid (Wh.dok L = (v && r)))
    (HR : Hid (∀ W, Below w.heap.size w W → Calls Try.prog 9 #[.slice (some ⟨b, off, none⟩) L.length cap] W fun e w' => ∃ g, e = .returned (.tuple #[.agg #[.int .i64 a0, .int .i64 a8, .slice (some ⟨g, 0, none⟩) l.length l.length], .bool true]) ∧ W.heap.size ≤ g ∧ Ars w' g 0 l ∧ Below W.heap.size W w'))
    (HE : Hid (∀ W g, Ars W g 0 l → Calls Try.prog 8 #[.agg #[.int .i64 a0, .int .i64 a8, .slice (some ⟨g, 0, none⟩) l.length l.length]] W (Coded W E (if v = true then 0 else 1))))
    (HP : Hid (∀ W A' c', Below w.heap.size w W → Reads W (.slice A' E.length c') E → Calls Try.prog 10 #[.slice (some ⟨b, off, none⟩) L.length cap, .slice A' E.length c'] W fun e w' => e = .returned (.bool r) ∧ W = w'))
    (HY : Hid (v = true → r = true → Wh.nm L 0 = a0 ∧ Wh.nm L 8 = a8 ∧ Wh.cand L = l)) :
    Calls Try.prog 4 #[.slice (some ⟨b, off, none⟩) L.length cap] w (Decoded w L) := by
  have HB0 : Hid (Below w.heap.size w (w.alloc (.cells #[.int .i64 0, .int .i64 0, .slice none 0 0] 25))) := Lib.hid ((Below.refl _ _).alloc (Nat.le_refl _) _)
  cases v with
  | false =>
    have HD : Hid (Wh.dok L = false) := Lib.hid (by rw [hd.out]; rfl)
    simp only [Bool.false_eq_true, if_false] at HE
    clear hd HY HP
    go_enter Try.func4, Try.ntmps4
    go_wp2_with first
      | (go_at_call 9; (with_reducible refine (HR.out _ HB0.out).mono ?_); rintro e w1 ⟨g, rfl, hg1, har, hb1⟩; obtain ⟨hc1, hf1⟩ := bcell hb1; have hq1 : w.heap.size < w1.heap.size := Nat.lt_of_lt_of_le (by simp) hb1.size; have HAR := Lib.hid har; clear har)
      | (go_at_call 8; (with_reducible refine (HE.out _ g (HAR.out.alloc _)).mono ?_); rintro e w2 ⟨v2, rfl, ho2, hb2⟩; obtain ⟨hc2, hf2⟩ := bcell hb2; have hq2 : w1.heap.size < w2.heap.size := Nat.lt_of_lt_of_le (by simp) hb2.size; have hq3 : w.heap.size < w2.heap.size := Nat.lt_trans hq1 hq2; obtain ⟨r0, r1, r2, hbw⟩ := res_cells hb1 hb2; have HBW := Lib.hid hbw)
    refine bodyPost_ret (v := .tuple #[.agg #[.int .i64 0, .int .i64 0, .slice none 0 0], .int .i64 2]) ?_ rfl (Decoded.no HD.out rfl ?_)
    · simp [results, Try.results4, go_sem, r0, r1, r2]
    · exact back_cells HBW.out _ _ _
  | true =>
    simp only [if_true] at HE
    cases r with
    | false =>
      have HD : Hid (Wh.dok L = false) := Lib.hid (by rw [hd.out]; rfl)
      clear hd HY
      go_enter Try.func4, Try.ntmps4
      go_wp2_with first
      | (go_at_call 9; (with_reducible refine (HR.out _ HB0.out).mono ?_); rintro e w1 ⟨g, rfl, hg1, har, hb1⟩; obtain ⟨hc1, hf1⟩ := bcell hb1; have hq1 : w.heap.size < w1.heap.size := Nat.lt_of_lt_of_le (by simp) hb1.size; have HAR := Lib.hid har; clear har)
      | (go_at_call 8; (with_reducible refine (HE.out _ g (HAR.out.alloc _)).mono ?_); rintro e w2 ⟨v2, rfl, ho2, hb2⟩; obtain ⟨hc2, hf2⟩ := bcell hb2; have hq2 : w1.heap.size < w2.heap.size := Nat.lt_of_lt_of_le (by simp) hb2.size; have hq3 : w.heap.size < w2.heap.size := Nat.lt_trans hq1 hq2; obtain ⟨r0, r1, r2, hbw⟩ := res_cells hb1 hb2; have HB2 := Lib.hid hb2; have HBW := Lib.hid hbw; have hr2 := Reads.own ho2; have HO2 := Lib.hid hr2; obtain ⟨A2, c2, rfl, hcc2, _⟩ := hr2; clear ho2)
      | (go_at_call 10; (with_reducible refine (HP.out _ A2 c2 HBW.out HO2.out).mono ?_); rintro e w3 ⟨rfl, rfl⟩)
      refine bodyPost_ret (v := .tuple #[.agg #[.int .i64 0, .int .i64 0, .slice none 0 0], .int .i64 2]) ?_ rfl (Decoded.no HD.out rfl ?_)
      · simp [results, Try.results4, go_sem, r0, r1, r2]
      · exact back_cells HBW.out _ _ _
    | true =>
      have HD : Hid (Wh.dok L = true) := Lib.hid (by rw [hd.out]; rfl)
      obtain ⟨y1, y2, y3⟩ := HY.out rfl rfl
      subst y1 y2 y3
      clear hd HY
      go_enter Try.func4, Try.ntmps4
      go_wp2_with first
      | (go_at_call 9; (with_reducible refine (HR.out _ HB0.out).mono ?_); rintro e w1 ⟨g, rfl, hg1, har, hb1⟩; obtain ⟨hc1, hf1⟩ := bcell hb1; have hq1 : w.heap.size < w1.heap.size := Nat.lt_of_lt_of_le (by simp) hb1.size; have HAR := Lib.hid har; clear har)
      | (go_at_call 8; (with_reducible refine (HE.out _ g (HAR.out.alloc _)).mono ?_); rintro e w2 ⟨v2, rfl, ho2, hb2⟩; obtain ⟨hc2, hf2⟩ := bcell hb2; have hq2 : w1.heap.size < w2.heap.size := Nat.lt_of_lt_of_le (by simp) hb2.size; have hq3 : w.heap.size < w2.heap.size := Nat.lt_trans hq1 hq2; obtain ⟨r0, r1, r2, hbw⟩ := res_cells hb1 hb2; have HB2 := Lib.hid hb2; have HBW := Lib.hid hbw; have hr2 := Reads.own ho2; have HO2 := Lib.hid hr2; obtain ⟨A2, c2, rfl, hcc2, _⟩ := hr2; clear ho2)
      | (go_at_call 10; (with_reducible refine (HP.out _ A2 c2 HBW.out HO2.out).mono ?_); rintro e w3 ⟨rfl, rfl⟩)
      refine bodyPost_ret (v := .tuple #[.agg #[.int .i64 (Wh.nm L 0), .int .i64 (Wh.nm L 8), .slice (some ⟨g, 0, none⟩) (Wh.cand L).length (Wh.cand L).length], .int .i64 0]) ?_ rfl (Decoded.yes HD.out rfl ?_ ?_)
      · simp [results, Try.results4, go_sem, r0, r1, r2]
      · exact ⟨Nat.le_refl _, fun _ => ⟨g, 0, rfl, back_ars ((HAR.out.alloc _).below HB2.out) (by simp at hg1; omega) _ _ _⟩⟩
      · exact back_cells HBW.out _ _ _

/-- Decode of every row of bytes that reads. -/
theorem decode_any (A : Option Addr) (L : List UInt8) (cap : Nat) (w : World) (h : Reads w (.slice A L.length cap) L) :
    Calls Try.prog 4 #[.slice A L.length cap] w (Decoded w L) := by
  cases hr : Wh.rok L
  · refine decode_bad A L cap w (Wh.dok_r hr) (Lib.hid fun W hb => ?_)
    rcases Wh.rok_f hr with h1 | ⟨h1, h2⟩
    · exact read_short A L.length cap h1 W
    · obtain ⟨b, off, rfl, hB, hc⟩ := h.by_ (by omega)
      exact read_no L b off cap W (hB.below hb) h1 hc h2
  · obtain ⟨r1, r2, r3⟩ := Wh.rok_t hr
    obtain ⟨b, off, rfl, hB, hc⟩ := h.by_ (by omega)
    have hn := Wh.nm_bd L 12
    have hkk : Wh.nm L 12 = (((Wh.cand L).length : Nat) : Int) := by unfold Wh.cand; rw [Wh.archs_len]; omega
    have har : Wh.archs L (Wh.cand L).length = Wh.cand L := by unfold Wh.cand; rw [Wh.archs_len]
    refine decode_mid L (Wh.encL L) b off cap (Wh.cand L) (Wh.nm L 0) (Wh.nm L 8) (Wh.val (Wh.nm L 0) (Wh.nm L 8) (Wh.cand L)) (decide ((Wh.encL L).length ≤ L.length ∧ L.take (Wh.encL L).length = Wh.encL L)) w (Lib.hid ?_) (Lib.hid fun W hb => ?_) (Lib.hid fun W g ha => ?_) (Lib.hid fun W A' c' hb hR => ?_) (Lib.hid fun _ _ => ⟨rfl, rfl, rfl⟩)
    · unfold Wh.dok; rw [hr, Bool.true_and]
    · refine (read_yes L b off cap (Wh.cand L).length W (hB.below hb) hc hkk (by omega) (by omega)).mono fun e w' hh => ?_
      obtain ⟨g, he, hg, ha, hb'⟩ := hh
      rw [har] at ha
      exact ⟨g, he, hg, ha, hb'⟩
    · exact encode_any (Wh.nm L 0) (Wh.nm L 8) (Wh.cand L) (some ⟨g, 0, none⟩) (Wh.cand L).length W ⟨Nat.le_refl _, fun _ => ⟨g, 0, rfl, ha⟩⟩
    · exact hasPrefix_any (some ⟨b, off, none⟩) A' L (Wh.encL L) cap c' W (h.below hb) hR
end Go.Proofs.Ythjpodjfiajhaaa
