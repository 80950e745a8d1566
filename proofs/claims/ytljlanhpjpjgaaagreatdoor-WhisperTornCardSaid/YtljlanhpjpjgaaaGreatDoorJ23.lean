/- WhDecY WhREnc WhRDec -/
import Derived.Test.YtljlanhpjpjgaaaGreatDoorJ1
import Derived.Test.YtljlanhpjpjgaaaGreatDoorJ8
import Derived.Test.YtljlanhpjpjgaaaGreatDoorJ7
import Derived.Test.YtljlanhpjpjgaaaGreatDoorJ14
namespace Go.Proofs.YtljlanhpjpjgaaaGreatDoor
set_option maxRecDepth 100000
set_option maxHeartbeats 8000000
section
open Go.RowKit Go.Sort
open Wh (At)
open Me
theorem Reads.by_ {w : World} {A : Option Addr} {L : List UInt8} {c : Nat} (h : Reads w (.slice A L.length c) L) (h0 : 0 < L.length) : ∃ b off, A = some ⟨b, off, none⟩ ∧ By w b off L ∧ L.length ≤ c := by
 obtain ⟨A', c', e, hc, hr⟩ := h
 injection e with e1 e2 e3
 subst e1 e3
 obtain ⟨b, o, e, hl, _, hcell⟩ := hr.lit 0 (by rw [by8_len]; exact h0)
 refine ⟨b, o, e, ⟨hl, fun j hj => ?_⟩, hc⟩
 have := hcell j _ (by8_get L j hj)
 rw [this]
 unfold Wh.byt
 rw [List.getD_eq_getElem?_getD, List.getElem?_eq_getElem hj]
 rfl
theorem res_cells {w w1 w2 : World} {o : Obj} {T : TypeId} {x y z : Value} (h1 : Below (w.alloc (.cells #[x, y, z] T)).heap.size (w.alloc (.cells #[x, y, z] T)) w1) (h2 : Below (w1.alloc o).heap.size (w1.alloc o) w2) :
 w2.cell? ⟨w.heap.size, 0, none⟩ = some x ∧ w2.cell? ⟨w.heap.size, 1, none⟩ = some y ∧ w2.cell? ⟨w.heap.size, 2, none⟩ = some z ∧ Below w.heap.size w w2 := by
 have e1 : (w.alloc (.cells #[x, y, z] T)).heap.size = w.heap.size + 1 := by simp
 have e2 : w.heap.size + 1 ≤ w1.heap.size := by have := h1.size; omega
 have hb : Below (w.heap.size + 1) (w.alloc (.cells #[x, y, z] T)) w2 := ((h1.mono (by omega)).alloc e2 o).trans (h2.mono (by simp; omega))
 exact ⟨(hb.cell (p := ⟨w.heap.size, 0, none⟩) (Nat.lt_succ_self _)).trans (by simp [go_sem]), (hb.cell (p := ⟨w.heap.size, 1, none⟩) (Nat.lt_succ_self _)).trans (by simp [go_sem]), (hb.cell (p := ⟨w.heap.size, 2, none⟩) (Nat.lt_succ_self _)).trans (by simp [go_sem]), ((Below.refl _ _).alloc (Nat.le_refl _) _).trans (hb.mono (Nat.le_succ _))⟩
theorem back_cells {w w2 : World} (hb : Below w.heap.size w w2) (x y z : Value) : Below w.heap.size w (((w2.setCell ⟨w.heap.size, 0, none⟩ x).setCell ⟨w.heap.size, 1, none⟩ y).setCell ⟨w.heap.size, 2, none⟩ z) :=
 ((hb.setCell (Nat.le_refl _) _).setCell (Nat.le_refl _) _).setCell (Nat.le_refl _) _
theorem back_ars {w w2 : World} {g : Nat} {l : List (Int × Int)} (h : Ars w2 g 0 l) (hg : w.heap.size < g) (x y z : Value) : Ars (((w2.setCell ⟨w.heap.size, 0, none⟩ x).setCell ⟨w.heap.size, 1, none⟩ y).setCell ⟨w.heap.size, 2, none⟩ z) g 0 l := by
 have k : (((w2.setCell ⟨w.heap.size, 0, none⟩ x).setCell ⟨w.heap.size, 1, none⟩ y).setCell ⟨w.heap.size, 2, none⟩ z).heap[g]? = w2.heap[g]? :=
  ((Below.heap_setCell _ ⟨w.heap.size, 2, none⟩ z g (by show g ≠ w.heap.size; omega)).trans (Below.heap_setCell _ ⟨w.heap.size, 1, none⟩ y g (by show g ≠ w.heap.size; omega))).trans (Below.heap_setCell _ ⟨w.heap.size, 0, none⟩ x g (by show g ≠ w.heap.size; omega))
 refine ⟨by simpa [World.setCell] using h.lt, fun i hi => ?_, fun i hi => ?_⟩
 ·exact (World.cell?_of_block (a := ⟨g, 0 + i * 2, none⟩) k).trans (h.st i hi)
 ·exact (World.cell?_of_block (a := ⟨g, 0 + i * 2 + 1, none⟩) k).trans (h.ct i hi)
theorem decode_mid (L E : List UInt8) (b off cap : Nat) (l : List (Int × Int)) (a0 a8 : Int) (v r : Bool) (w : World) (hd : Hid (Wh.dok L = (v && r)))
 (HR : Hid (∀ W, Below w.heap.size w W → Calls Tryz.prog 98 #[.slice (some ⟨b, off, none⟩) L.length cap] W fun e w' => ∃ g, e = .returned (.tuple #[.agg #[.int .i64 a0, .int .i64 a8, .slice (some ⟨g, 0, none⟩) l.length l.length], .bool true]) ∧ W.heap.size ≤ g ∧ Ars w' g 0 l ∧ Below W.heap.size W w'))
 (HE : Hid (∀ W g, Ars W g 0 l → Calls Tryz.prog 28 #[.agg #[.int .i64 a0, .int .i64 a8, .slice (some ⟨g, 0, none⟩) l.length l.length]] W (Coded W E (if v = true then 0 else 1))))
 (HP : Hid (∀ W A' c', Below w.heap.size w W → Reads W (.slice A' E.length c') E → Calls Tryz.prog 99 #[.slice (some ⟨b, off, none⟩) L.length cap, .slice A' E.length c'] W fun e w' => e = .returned (.bool r) ∧ W = w'))
 (HY : Hid (v = true → r = true → Wh.nm L 0 = a0 ∧ Wh.nm L 8 = a8 ∧ Wh.cand L = l)) :
 Calls Tryz.prog 71 #[.slice (some ⟨b, off, none⟩) L.length cap] w (DecodedF w L) := by
 have HB0 : Hid (Below w.heap.size w (w.alloc (.cells #[.int .i64 0, .int .i64 0, .slice none 0 0] 24))) := Lib.hid ((Below.refl _ _).alloc (Nat.le_refl _) _)
 cases v with
 | false =>
   have HD : Hid (Wh.dok L = false) := Lib.hid (by rw [hd.out]; rfl)
   simp only [Bool.false_eq_true, if_false] at HE
   clear hd HY HP
   go_enter Tryz.func71, Tryz.ntmps71
   go_wp2_with first
    | (go_at_call 98; (with_reducible refine (HR.out _ HB0.out).mono ?_); rintro e w1 ⟨g, rfl, hg1, har, hb1⟩; obtain ⟨hc1, hf1⟩ := bcell hb1; have hq1 : w.heap.size < w1.heap.size := Nat.lt_of_lt_of_le (by simp) hb1.size; have HAR := Lib.hid har; clear har)
    | (go_at_call 28; (with_reducible refine (HE.out _ g (HAR.out.alloc _)).mono ?_); rintro e w2 ⟨v2, rfl, ho2, hb2⟩; obtain ⟨hc2, hf2⟩ := bcell hb2; have hq2 : w1.heap.size < w2.heap.size := Nat.lt_of_lt_of_le (by simp) hb2.size; have hq3 : w.heap.size < w2.heap.size := Nat.lt_trans hq1 hq2; obtain ⟨r0, r1, r2, hbw⟩ := res_cells hb1 hb2; have HBW := Lib.hid hbw)
   refine bodyPost_ret (v := .tuple #[.agg #[.int .i64 0, .int .i64 0, .slice none 0 0], .int .i64 2]) ?_ rfl (DecodedF.no HD.out rfl ?_)
   ·simp [results, Tryz.results71, go_sem, r0, r1, r2]
   ·exact back_cells HBW.out _ _ _
 | true =>
   simp only [if_true] at HE
   cases r with
   | false =>
     have HD : Hid (Wh.dok L = false) := Lib.hid (by rw [hd.out]; rfl)
     clear hd HY
     go_enter Tryz.func71, Tryz.ntmps71
     go_wp2_with first
     | (go_at_call 98; (with_reducible refine (HR.out _ HB0.out).mono ?_); rintro e w1 ⟨g, rfl, hg1, har, hb1⟩; obtain ⟨hc1, hf1⟩ := bcell hb1; have hq1 : w.heap.size < w1.heap.size := Nat.lt_of_lt_of_le (by simp) hb1.size; have HAR := Lib.hid har; clear har)
     | (go_at_call 28; (with_reducible refine (HE.out _ g (HAR.out.alloc _)).mono ?_); rintro e w2 ⟨v2, rfl, ho2, hb2⟩; obtain ⟨hc2, hf2⟩ := bcell hb2; have hq2 : w1.heap.size < w2.heap.size := Nat.lt_of_lt_of_le (by simp) hb2.size; have hq3 : w.heap.size < w2.heap.size := Nat.lt_trans hq1 hq2; obtain ⟨r0, r1, r2, hbw⟩ := res_cells hb1 hb2; have HB2 := Lib.hid hb2; have HBW := Lib.hid hbw; have hr2 := Reads.own ho2; have HO2 := Lib.hid hr2; obtain ⟨A2, c2, rfl, hcc2, _⟩ := hr2; clear ho2)
     | (go_at_call 99; (with_reducible refine (HP.out _ A2 c2 HBW.out HO2.out).mono ?_); rintro e w3 ⟨rfl, rfl⟩)
     refine bodyPost_ret (v := .tuple #[.agg #[.int .i64 0, .int .i64 0, .slice none 0 0], .int .i64 2]) ?_ rfl (DecodedF.no HD.out rfl ?_)
     ·simp [results, Tryz.results71, go_sem, r0, r1, r2]
     ·exact back_cells HBW.out _ _ _
   | true =>
     have HD : Hid (Wh.dok L = true) := Lib.hid (by rw [hd.out]; rfl)
     obtain ⟨y1, y2, y3⟩ := HY.out rfl rfl
     subst y1 y2 y3
     clear hd HY
     go_enter Tryz.func71, Tryz.ntmps71
     go_wp2_with first
     | (go_at_call 98; (with_reducible refine (HR.out _ HB0.out).mono ?_); rintro e w1 ⟨g, rfl, hg1, har, hb1⟩; obtain ⟨hc1, hf1⟩ := bcell hb1; have hq1 : w.heap.size < w1.heap.size := Nat.lt_of_lt_of_le (by simp) hb1.size; have HAR := Lib.hid har; clear har)
     | (go_at_call 28; (with_reducible refine (HE.out _ g (HAR.out.alloc _)).mono ?_); rintro e w2 ⟨v2, rfl, ho2, hb2⟩; obtain ⟨hc2, hf2⟩ := bcell hb2; have hq2 : w1.heap.size < w2.heap.size := Nat.lt_of_lt_of_le (by simp) hb2.size; have hq3 : w.heap.size < w2.heap.size := Nat.lt_trans hq1 hq2; obtain ⟨r0, r1, r2, hbw⟩ := res_cells hb1 hb2; have HB2 := Lib.hid hb2; have HBW := Lib.hid hbw; have hr2 := Reads.own ho2; have HO2 := Lib.hid hr2; obtain ⟨A2, c2, rfl, hcc2, _⟩ := hr2; clear ho2)
     | (go_at_call 99; (with_reducible refine (HP.out _ A2 c2 HBW.out HO2.out).mono ?_); rintro e w3 ⟨rfl, rfl⟩)
     refine bodyPost_ret (v := .tuple #[.agg #[.int .i64 (Wh.nm L 0), .int .i64 (Wh.nm L 8), .slice (some ⟨g, 0, none⟩) (Wh.cand L).length (Wh.cand L).length], .int .i64 0]) ?_ rfl (DecodedF.yes HD.out rfl ?_ ?_ (by simp at hg1; omega))
     ·simp [results, Tryz.results71, go_sem, r0, r1, r2]
     ·exact ⟨Nat.le_refl _, fun _ => ⟨g, 0, rfl, back_ars ((HAR.out.alloc _).below HB2.out) (by simp at hg1; omega) _ _ _⟩⟩
     ·exact back_cells HBW.out _ _ _
theorem decode_anyF (A : Option Addr) (L : List UInt8) (cap : Nat) (w : World) (h : Reads w (.slice A L.length cap) L) :
 Calls Tryz.prog 71 #[.slice A L.length cap] w (DecodedF w L) := by
 cases hr : Wh.rok L
 ·refine decode_bad A L cap w (Wh.dok_r hr) (Lib.hid fun W hb => ?_)
  rcases Wh.rok_f hr with h1 | ⟨h1, h2⟩
  ·exact read_short A L.length cap h1 W
  ·obtain ⟨b, off, rfl, hB, hc⟩ := h.by_ (by omega)
   exact read_no L b off cap W (hB.below hb) h1 hc h2
 ·obtain ⟨r1, r2, r3⟩ := Wh.rok_t hr
  obtain ⟨b, off, rfl, hB, hc⟩ := h.by_ (by omega)
  have hn := Wh.nm_bd L 12
  have hkk : Wh.nm L 12 = (((Wh.cand L).length : Nat) : Int) := by unfold Wh.cand; rw [Wh.archs_len]; omega
  have har : Wh.archs L (Wh.cand L).length = Wh.cand L := by unfold Wh.cand; rw [Wh.archs_len]
  refine decode_mid L (Wh.encL L) b off cap (Wh.cand L) (Wh.nm L 0) (Wh.nm L 8) (Wh.val (Wh.nm L 0) (Wh.nm L 8) (Wh.cand L)) (decide ((Wh.encL L).length ≤ L.length ∧ L.take (Wh.encL L).length = Wh.encL L)) w (Lib.hid ?_) (Lib.hid fun W hb => ?_) (Lib.hid fun W g ha => ?_) (Lib.hid fun W A' c' hb hR => ?_) (Lib.hid fun _ _ => ⟨rfl, rfl, rfl⟩)
  ·unfold Wh.dok; rw [hr, Bool.true_and]
  ·refine (read_yes L b off cap (Wh.cand L).length W (hB.below hb) hc hkk (by omega) (by omega)).mono fun e w' hh => ?_
   obtain ⟨g, he, hg, ha, hb'⟩ := hh
   rw [har] at ha
   exact ⟨g, he, hg, ha, hb'⟩
  ·exact encode_any (Wh.nm L 0) (Wh.nm L 8) (Wh.cand L) (some ⟨g, 0, none⟩) (Wh.cand L).length W ⟨Nat.le_refl _, fun _ => ⟨g, 0, rfl, ha⟩⟩
  ·exact hasPrefix_any (some ⟨b, off, none⟩) A' L (Wh.encL L) cap c' W (h.below hb) hR
end
section
open Go.RowKit Go.Sort
open Wh (At)
open Me
theorem intinfo : (Tryz.prog.info? 3).map (fun i => (i.zero, i.size, i.bytes)) = some (some (.int .i64 0), 1, 8) := by kernel_rfl
def OwnI (base : Nat) (w : World) (v : Value) (ns : List Int) : Prop := w.ownsRow base 3 1 v ns.length (ns.map fun n => .int .i64 n)
theorem OwnI.below {a : Nat} {w w' : World} {v : Value} {l : List Int} (h : OwnI a w v l) (k : Below w.heap.size w w') : OwnI a w' v l :=
 owns_keep h fun g hg => by
  rcases h.2 with ⟨rfl, _⟩ | ⟨g', cap, cur, rfl, hb, hh, _⟩
  ·cases hg
  ·have : g' = g := by simpa [Value.ownBlock] using hg
   subst this
   exact k.block _ (Array.getElem?_eq_some_iff.1 hh).1
theorem OwnI.lt {base : Nat} {w : World} {v : Value} {l : List Int} (h : OwnI base w v l) : ∀ g, v.ownBlock = some g → base ≤ g ∧ g < w.heap.size := by
 intro g hg
 rcases h.2 with ⟨rfl, _⟩ | ⟨g', cap, cur, rfl, hb, hh, _⟩
 ·cases hg
 ·have : g' = g := by simpa [Value.ownBlock] using hg
  subst this
  exact ⟨hb, (Array.getElem?_eq_some_iff.1 hh).1⟩
theorem OwnI.form {base : Nat} {w : World} {v : Value} {l : List Int} (h : OwnI base w v l) (hne : l ≠ []) :
 ∃ g cap, v = .slice (some ⟨g, 0, none⟩) l.length cap ∧ base ≤ g ∧ g < w.heap.size ∧ ∀ j (hj : j < l.length), w.cell? ⟨g, j, none⟩ = some (.int .i64 l[j]) := by
 obtain ⟨hlen, hn | ⟨g, cap, cur, rfl, hb, hg, hle, hm, hs, hx⟩⟩ := h
 ·exact absurd (List.eq_nil_of_length_eq_zero hn.2) hne
 ·refine ⟨g, cap, rfl, hb, (Array.getElem?_eq_some_iff.1 hg).1, fun j hj => ?_⟩
  rw [cell_of_row w g j cur _ (0, 0) hg]
  have e : (l.map fun n => (.int .i64 n : Value))[j]? = some (.int .i64 l[j]) := by simp [hj]
  rw [← e, ← hx, List.getElem?_take, if_pos (by simp; omega)]
  simp
theorem OwnI.fresh (w : World) (ns : List Int) (base : Nat) (hb : base ≤ w.heap.size) (hm : ns.length ≤ 1048576) : OwnI base (w.alloc (.cells (ns.map fun n => (.int .i64 n : Value)).toArray 3)) (.slice (some ⟨w.heap.size, 0, none⟩) ns.length ns.length) ns := by
 refine ⟨by simp, .inr ⟨w.heap.size, ns.length, _, rfl, hb, heap_alloc_new w _, Nat.le_refl _, by unfold maxLen; omega, by simp, ?_⟩⟩
 rw [Nat.mul_one]
 exact List.take_of_length_le (by simp)
theorem box_cells {w W : World} {x y z : Value} {T : TypeId} (hb : Below (w.heap.size + 1) (w.alloc (.cells #[x, y, z] T)) W) :
 W.cell? ⟨w.heap.size, 0, none⟩ = some x ∧ W.cell? ⟨w.heap.size, 1, none⟩ = some y ∧ W.cell? ⟨w.heap.size, 2, none⟩ = some z :=
 ⟨(hb.cell (p := ⟨w.heap.size, 0, none⟩) (Nat.lt_succ_self _)).trans (by simp [go_sem]), (hb.cell (p := ⟨w.heap.size, 1, none⟩) (Nat.lt_succ_self _)).trans (by simp [go_sem]), (hb.cell (p := ⟨w.heap.size, 2, none⟩) (Nat.lt_succ_self _)).trans (by simp [go_sem])⟩
theorem OwnI.more {base : Nat} {w : World} {v : Value} {X Y : List Int} {m : Nat} {ys : List Value} (hm : Y.length = m) (hy : ys = Y.map fun n => .int .i64 n) (h : w.ownsRow base 3 1 v (X.length + m) ((X.map fun n => (.int .i64 n : Value)) ++ ys)) : OwnI base w v (X ++ Y) := by
 unfold OwnI
 rw [List.length_append, List.map_append, hm, ← hy]
 exact h
theorem Wh.ints_bd {ag xf : Int} {l : List (Int × Int)} (g1 : 0 ≤ ag) (g2 : ag ≤ 4294967295) (x1 : 0 ≤ xf) (x2 : xf ≤ 4294967295) (s1 : 0 ≤ Wh.lsp l) (s2 : Wh.lsp l ≤ 4294967295) (hl : l.length ≤ 1000)
 (h : ∀ i, i < l.length → (0 ≤ Wh.ends l i ∧ Wh.ends l i ≤ 4294967295) ∧ (0 ≤ (At l i).1 ∧ (At l i).1 ≤ 4294967295) ∧ (0 ≤ (At l i).2 ∧ (At l i).2 ≤ 4294967295)) : ∀ k, k ≤ l.length → ∀ n ∈ Wh.ints ag xf l k, 0 ≤ n ∧ n ≤ 4294967295
 | 0, _, n, hn => by
   simp [Wh.ints] at hn
   rcases hn with rfl | rfl | rfl | rfl <;> omega
 | k + 1, hk, n, hn => by
   unfold Wh.ints at hn
   rw [List.mem_append] at hn
   rcases hn with hn | hn
   ·exact Wh.ints_bd g1 g2 x1 x2 s1 s2 hl h k (by omega) n hn
   ·have := h k (by omega)
    simp at hn
    rcases hn with rfl | rfl | rfl <;> omega
theorem rencode_any (ag xf : Int) (l : List (Int × Int)) (A : Option Addr) (cap : Nat) (w : World) (h : Row w A l cap) :
 Calls Tryz.prog 22 #[.agg #[.int .i64 ag, .int .i64 xf, .slice A l.length cap]] w (Coded w (Wh.enc ag xf l) (if Wh.val ag xf l = true then 0 else 1)) := by
 have HV : Hid (∀ W, Below w.heap.size w W → Calls Tryz.prog 20 #[.agg #[.int .i64 ag, .int .i64 xf, .slice A l.length cap]] W fun e w' => e = .returned (.bool (Wh.val ag xf l)) ∧ Below W.heap.size W w') := Lib.hid fun W hb => may_any ag xf l A cap W (h.below hb)
 cases hv : Wh.val ag xf l
 ·have HQ : Hid (Wh.enc ag xf l = []) := Lib.hid (by unfold Wh.enc; rw [hv]; rfl)
  rw [hv] at HV
  clear hv h
  go_enter Tryz.func22, Tryz.ntmps22
  go_wp2_with (go_at_call 20; go_must (refine (HV.out _ ((Below.refl _ _).alloc (Nat.le_refl _) _)).mono ?_; rintro e w' ⟨rfl, hb⟩; obtain ⟨hc, hf⟩ := bcell hb; (try have hz0 : w.heap.size < w'.heap.size := Bz hb); (try have hz1 : w.heap.size + 1 < w'.heap.size := Bz hb); (try have hz2 : w.heap.size + 1 + 1 < w'.heap.size := Bz hb); have hz := hb.size; (try simp at hz)))
  ((try simp only [Exit.inBlock, Exit.then]); refine bodyPost_ret (results_tmp2 rfl _ _ _) rfl ?_)
  exact ⟨_, rfl, by rw [HQ.out]; exact OwnB.nil _ _, Bq⟩
 ·have HQ : Hid (Wh.enc ag xf l = Wh.fours (Wh.ints ag xf l l.length)) := Lib.hid (by unfold Wh.enc; rw [hv]; rfl)
  rw [hv] at HV
  have HSP : Hid (∀ W, Below w.heap.size w W → Calls Tryz.prog 47 #[.agg #[.int .i64 ag, .int .i64 xf, .slice A l.length cap]] W fun e w' => e = .returned (.int .i64 (Wh.lsp l)) ∧ Below W.heap.size W w') := Lib.hid fun W hb => by
   have := rspn_any ag xf l A cap W (h.below hb)
   have e : Wh.spn ag xf l = Wh.lsp l := by unfold Wh.spn; rw [hv]; rfl
   rw [e] at this
   exact this
  have HO : Hid (∀ (i : Nat) W, i < l.length → Below w.heap.size w W → Calls Tryz.prog 37 #[.agg #[.int .i64 ag, .int .i64 xf, .slice A l.length cap], .int .i64 i] W fun e w' => e = .returned (.int .i64 (Wh.ends l i)) ∧ Below W.heap.size W w') := Lib.hid fun i W hi hb => by
   have := roffs_any ag xf l A cap (i : Int) W (h.below hb)
   have e : Wh.offs ag xf l i = Wh.ends l i := by unfold Wh.offs; rw [if_pos ⟨hv, by omega, by omega⟩]; rfl
   rw [e] at this
   exact this
  obtain ⟨b, off, rfl, hA, hcap, a1, a2, a3, a4, a5, a6⟩ := row_val h hv
  obtain ⟨⟨g1, g2⟩, x1, x2, _⟩ := Wh.val_t hv
  have HA := Lib.hid hA
  clear hv h hA
  go_enter Tryz.func22, Tryz.ntmps22
  go_wp2_with (go_at_call 20; (((with_reducible refine (HV.out _ ((Below.refl _ _).alloc (Nat.le_refl _) _)).mono ?_)); rintro e w1 ⟨rfl, hb1⟩; obtain ⟨hc1, hf1⟩ := bcell hb1; (try have hq1w : w.heap.size < w1.heap.size := Bz hb1); have hs1 := hb1.size; (try simp at hs1)))
  have HXB : Hid (Below (w.heap.size + 1) (w.alloc (.cells #[.int .i64 ag, .int .i64 xf, .slice (some ⟨b, off, none⟩) l.length cap] 24)) w1) := Lib.hid (hb1.mono (by simp))
  clear hb1 hc1 hf1 hq1w hs1 HV
  have HF : Hid (∀ W, Below (w.heap.size + 1) (w.alloc (.cells #[.int .i64 ag, .int .i64 xf, .slice (some ⟨b, off, none⟩) l.length cap] 24)) W → W.cell? ⟨w.heap.size, 0, none⟩ = some (.int .i64 ag) ∧ W.cell? ⟨w.heap.size, 1, none⟩ = some (.int .i64 xf) ∧ W.cell? ⟨w.heap.size, 2, none⟩ = some (.slice (some ⟨b, off, none⟩) l.length cap)) := Lib.hid fun W hb => box_cells hb
  obtain ⟨d0, d1, d2⟩ := HF.out w1 HXB.out
  have hx0 : w.heap.size < w1.heap.size := by have := HXB.out.size; simp at this; omega
  have HS1 : Hid (∀ W, Below w1.heap.size w1 W → Calls Tryz.prog 47 #[.agg #[.int .i64 ag, .int .i64 xf, .slice (some ⟨b, off, none⟩) l.length cap]] W fun e w' => e = .returned (.int .i64 (Wh.lsp l)) ∧ Below W.heap.size W w') := Lib.hid fun W hb => HSP.out W (lowBox' (HXB.out.trans (hb.mono (by omega))))
  generalize hls2 : Wh.lsp l = ls at *
  have HLS := Lib.hid hls2
  clear hls2
  go_region_held3 (fun W => W.cell? ⟨w.heap.size, 0, none⟩ = some (.int .i64 ag) ∧ W.cell? ⟨w.heap.size, 1, none⟩ = some (.int .i64 xf) ∧ W.cell? ⟨w.heap.size, 2, none⟩ = some (.slice (some ⟨b, off, none⟩) l.length cap)) (first | exact ⟨d0, d1, d2⟩ | exact ⟨e0, e1, e2⟩ | go_keep)
   (first
    | (go_at_call 47; (with_reducible refine (HS1.out _ Bqn).mono ?_); rintro e w2 ⟨rfl, hb2⟩; have hbb : Below w1.heap.size w1 w2 := Bqn; have hXB2 := HXB.out.trans (hbb.mono hx0); obtain ⟨e0, e1, e2⟩ := HF.out w2 hXB2; have HXB2 := Lib.hid hXB2; clear hb2 hbb hXB2))
  have hsz2 : w.heap.size + 1 ≤ w2.heap.size := by have := HXB2.out.size; simp at this; omega
  have HO1 : Hid (OwnI (w.heap.size + 1) (w2.alloc (.cells #[.int .i64 ag, .int .i64 ls, .int .i64 xf, .int .i64 (l.length : Int)] 3)) (.slice (some ⟨w2.heap.size, 0, none⟩) 4 4) (Wh.ints ag xf l 0)) := Lib.hid (by
   have := OwnI.fresh w2 (Wh.ints ag xf l 0) (w.heap.size + 1) hsz2 (by simp [Wh.ints])
   unfold Wh.ints at this ⊢
   rw [HLS.out] at this ⊢
   exact this)
  have HXB3 : Hid (Below (w.heap.size + 1) (w.alloc (.cells #[.int .i64 ag, .int .i64 xf, .slice (some ⟨b, off, none⟩) l.length cap] 24)) (w2.alloc (.cells #[.int .i64 ag, .int .i64 ls, .int .i64 xf, .int .i64 (l.length : Int)] 3))) := Lib.hid (HXB2.out.alloc hsz2 _)
  clear d0 d1 d2 e0 e1 e2 HS1 HXB HXB2
  go_wp2_with fail
  have HS := Lib.hid (Wh.ends_succ l)
  have HB : Hid (∀ i, i ≤ l.length → 16 ≤ Wh.ends l i ∧ Wh.ends l i ≤ 1048576) := Lib.hid fun i hi => ⟨(Wh.ends_bd a2 (Wh.alls_cnt a3) i hi).1, by
   have h1 := Wh.sm_le (k := i) (Wh.alls_cnt a3) l.length hi (Nat.le_refl _)
   have h2 : Wh.ends l i + 12 * ((l.length : Int) - i) ≤ Wh.ends l l.length := by unfold Wh.ends; omega
   omega⟩
  have HN : Hid (∀ i, i < l.length → (1 ≤ (At l i).1 ∧ (At l i).1 ≤ 16777216) ∧ (1 ≤ (At l i).2 ∧ (At l i).2 ≤ 16777216)) := Lib.hid fun i hi => Wh.alls_num hi a3
  obtain ⟨k0, hk0, hz0, hz1, hz2⟩ := info_parts intinfo
  have HI := Lib.hid hk0
  have HIZ := Lib.hid (And.intro hz0 (And.intro hz1 hz2))
  clear hk0 hz0 hz1 hz2 a3 a4 HSP
  go_loopw [4, 5] (fun v i wr => ∃ j : Nat, j ≤ l.length ∧ i = .int .i64 j ∧ Hid (OwnI (w.heap.size + 1) wr v (Wh.ints ag xf l j)) ∧ Hid (Below (w.heap.size + 1) (w.alloc (.cells #[.int .i64 ag, .int .i64 xf, .slice (some ⟨b, off, none⟩) l.length cap] 24)) wr)) (fun _ i _ => l.length - (intOf i).toNat)
  case atStart => exact ⟨0, Nat.zero_le _, rfl, HO1, HXB3⟩
  case round =>
   obtain ⟨j, hj, rfl, ho, hR⟩ := hrel
   have hsz : w.heap.size < wr.heap.size := by have := hR.out.size; simp at this; omega
   have hAr := HA.out.below (lowBox' hR.out)
   have hbl := hAr.lt
   obtain ⟨x0, x1', x2'⟩ := HF.out wr hR.out
   by_cases hlt : j < l.length
   ·have c0 := hAr.st j hlt
    have c1 := hAr.ct j hlt
    obtain ⟨⟨p1, p2⟩, p3, p4⟩ := HN.out j hlt
    obtain ⟨q1, q2⟩ := HB.out j (by omega)
    have HALL : Hid (∀ W, Below (w.heap.size + 1) (w.alloc (.cells #[.int .i64 ag, .int .i64 xf, .slice (some ⟨b, off, none⟩) l.length cap] 24)) W → W.cell? ⟨w.heap.size, 0, none⟩ = some (.int .i64 ag) ∧ W.cell? ⟨w.heap.size, 1, none⟩ = some (.int .i64 xf) ∧ W.cell? ⟨w.heap.size, 2, none⟩ = some (.slice (some ⟨b, off, none⟩) l.length cap) ∧ W.cell? ⟨b, off + j * 2, none⟩ = some (.int .i64 (At l j).1) ∧ W.cell? ⟨b, off + j * 2 + 1, none⟩ = some (.int .i64 (At l j).2)) := Lib.hid fun W hb =>
     ⟨(HF.out W hb).1, (HF.out W hb).2.1, (HF.out W hb).2.2, (HA.out.below (lowBox' hb)).st j hlt, (HA.out.below (lowBox' hb)).ct j hlt⟩
    have HOF : Hid (∀ W, Below wr.heap.size wr W → Calls Tryz.prog 37 #[.agg #[.int .i64 ag, .int .i64 xf, .slice (some ⟨b, off, none⟩) l.length cap], .int .i64 j] W fun e w' => e = .returned (.int .i64 (Wh.ends l j)) ∧ Below W.heap.size W w') := Lib.hid fun W hb => HO.out j W hlt (lowBox' (hR.out.trans (hb.mono (by omega))))
    have HOW : Hid (∀ W, Below wr.heap.size wr W → OwnI (w.heap.size + 1) (W.alloc (.cells #[.int .i64 (Wh.ends l j), .int .i64 (At l j).1, .int .i64 (At l j).2] 3)) u4 (Wh.ints ag xf l j)) := Lib.hid fun W hb => (ho.out.below hb).below ((Below.refl _ _).alloc (Nat.le_refl _) _)
    have HGR : Hid (∀ W w4, Below wr.heap.size wr W → (W.alloc (.cells #[.int .i64 (Wh.ends l j), .int .i64 (At l j).1, .int .i64 (At l j).2] 3)).grownBy w4 u4.ownBlock → Below (w.heap.size + 1) (w.alloc (.cells #[.int .i64 ag, .int .i64 xf, .slice (some ⟨b, off, none⟩) l.length cap] 24)) w4) := Lib.hid fun W w4 hb hg =>
     ((hR.out.trans (hb.mono (by omega))).alloc (by have := hb.size; omega) _).grown hg (by have := hb.size; simp; omega) fun g hg => by have := (OwnI.lt ho.out g hg).1; omega
    have hNl : (Wh.ints ag xf l j).length ≤ 100 := by rw [Wh.ints_len]; omega
    have HIN : Hid (Wh.ints ag xf l (j + 1) = Wh.ints ag xf l j ++ [Wh.ends l j, (At l j).1, (At l j).2]) := Lib.hid rfl
    clear hAr HB HS HN HF HO HO1 HXB3 ho
    generalize hin : Wh.ints ag xf l j = ns at *
    have HNS := Lib.hid hin
    clear hin
    generalize Wh.ends l j = q at *
    generalize At l j = a at *
    obtain ⟨s, c⟩ := a
    dsimp only at *
    go_wp2_with fail
    go_region_held3 (fun W => W.cell? ⟨w.heap.size, 0, none⟩ = some (.int .i64 ag) ∧ W.cell? ⟨w.heap.size, 1, none⟩ = some (.int .i64 xf) ∧ W.cell? ⟨w.heap.size, 2, none⟩ = some (.slice (some ⟨b, off, none⟩) l.length cap) ∧ W.cell? ⟨b, off + j * 2, none⟩ = some (.int .i64 s) ∧ W.cell? ⟨b, off + j * 2 + 1, none⟩ = some (.int .i64 c))
     (first | exact ⟨x0, x1', x2', c0, c1⟩ | exact ⟨e0, e1, e2, e3, e4⟩ | exact ⟨f0, f1, f2, f3, f4⟩ | go_keep)
     (first
      | (go_at_call 37; (with_reducible refine (HOF.out _ Bqn).mono ?_); rintro e w3 ⟨rfl, hb3⟩; have hbb : Below wr.heap.size wr w3 := Bqn; obtain ⟨e0, e1, e2, e3, e4⟩ := HALL.out w3 (hR.out.trans (hbb.mono hsz)); have HW3 := Lib.hid hbb; clear hb3 hbb)
      | (refine step_app _ (by rfl) (.tmp 28) (.tmp 44) 112 (by rfl) (w.heap.size + 1) 3 k0 (.int .i64 0) 1 8 Tryz.underlying112 HI.out HIZ.out.1 HIZ.out.2.1 HIZ.out.2.2 rfl (by decide) u4 ns.length (ns.map fun n => .int .i64 n) (by rfl) (HOW.out w3 HW3.out) (fun b => b = w3.heap.size) (some ⟨w3.heap.size, 0, none⟩) 3 3 [.int .i64 q, .int .i64 s, .int .i64 c] (by rfl) rfl (Rd.fresh w3 [.int .i64 q, .int .i64 s, .int .i64 c] _ _ rfl) (by simp [Value.oneCell']) (by unfold maxLen; omega) (by omega) (by have := HW3.out.size; simp; omega) ?_; intro v4 w4 hown4 hg4 hat4 hnil4; have hB4 := HGR.out w3 w4 HW3.out hg4; obtain ⟨f0, f1, f2, f3, f4⟩ := HALL.out w4 hB4; have HO4 := Lib.hid (OwnI.more (Y := [q, s, c]) rfl rfl hown4); have HB4 := Lib.hid hB4; clear hown4 hg4 hat4 hnil4 hB4)
      | fail)
    go_wp2_with fail
    go_roundw
    case rel => exact ⟨j + 1, by omega, by go_num, by rw [HIN.out]; exact HO4, HB4⟩
    case measure => simp [intOf]; omega
   ·obtain rfl : j = l.length := by omega
    have hNl : (Wh.ints ag xf l l.length).length ≤ 100 := by rw [Wh.ints_len]; omega
    have hbd : ∀ k (hk : k < (Wh.ints ag xf l l.length).length), 0 ≤ (Wh.ints ag xf l l.length)[k] ∧ (Wh.ints ag xf l l.length)[k] ≤ 4294967295 := by
     intro k hk
     refine Wh.ints_bd (ag := ag) (xf := xf) (by omega) (by omega) (by omega) (by omega) (by rw [HLS.out]; omega) (by rw [HLS.out]; omega) (by omega) (fun i hi => ?_) l.length (Nat.le_refl _) _ (List.getElem_mem hk)
     have h1 := HB.out i (by omega)
     have h2 := HN.out i hi
     omega
    obtain ⟨g, cap2, rfl, hg1, hg2, hgc⟩ := ho.out.form (by intro e; have := Wh.ints_len ag xf l l.length; rw [e] at this; simp at this; omega)
    have HGC := Lib.hid hgc
    have HBD := Lib.hid hbd
    have hlow := lowBox' hR.out
    have HLOW := Lib.hid hlow
    obtain ⟨j0, hj0, hy0, hy1, hy2⟩ := info_parts u8info
    have HJ := Lib.hid hj0
    have HY := Lib.hid (And.intro hy0 (And.intro hy1 hy2))
    clear hj0 hy0 hy1 hy2 hgc hbd hAr HB HS HN HF HO HO1 HXB3 ho x0 x1' hlow HA HI HIZ hbl
    generalize Wh.ints ag xf l l.length = ns at *
    have hnl2 : (ns.length : Int) ≤ 100 := by omega
    obtain ⟨wo, hwo⟩ : ∃ x, x = wr := ⟨wr, rfl⟩
    subst hwo
    go_wp2_with fail
    go_loopw [6, 7] (fun v i wr => ∃ k : Nat, k ≤ ns.length ∧ i = .int .i64 k ∧ Hid (OwnB wo.heap.size wr v (Wh.fours (ns.take k))) ∧ Hid (Below wo.heap.size wo wr)) (fun _ i _ => ns.length - (intOf i).toNat)
    case atStart => exact ⟨0, Nat.zero_le _, rfl, Lib.hid (OwnB.nil _ _), Lib.hid (Below.refl _ _)⟩
    case round =>
     obtain ⟨k, hk, rfl, ho, hT⟩ := hrel
     by_cases hlt : k < ns.length
     ·have hcl : wr.cell? ⟨g, k, none⟩ = some (.int .i64 ns[k]) := (hT.out.cell (p := ⟨g, k, none⟩) hg2).trans (HGC.out k hlt)
      obtain ⟨b1, b2⟩ := HBD.out k hlt
      have HF := Lib.hid (Wh.fours_take ns k hlt)
      have hXl : (Wh.fours (ns.take k)).length ≤ 1000 := by rw [Wh.fours_len, List.length_take]; omega
      have hsz := hT.out.size
      have HRF : Hid (Rd (wr.alloc (.cells (by8 (Wh.four ns[k])).toArray 5)) (fun b => b = wr.heap.size) (some ⟨wr.heap.size, 0, none⟩) (by8 (Wh.four ns[k]))) := Lib.hid (Rd.fresh wr _ _ _ rfl)
      have HOW : Hid ((wr.alloc (.cells (by8 (Wh.four ns[k])).toArray 5)).ownsRow wo.heap.size 5 1 u6 (Wh.fours (ns.take k)).length (by8 (Wh.fours (ns.take k)))) := Lib.hid (ho.out.below ((Below.refl _ _).alloc (Nat.le_refl _) _))
      have HFO := Lib.hid (four_any ns[k] b1 b2)
      have HGR : Hid (∀ w1, (wr.alloc (.cells (by8 (Wh.four ns[k])).toArray 5)).grownBy w1 u6.ownBlock → Below wo.heap.size wo w1) := Lib.hid fun w1 hg => (hT.out.alloc hsz _).grown hg (by simp; omega) fun g hg => by have := (own_lt ho.out g hg).1; omega
      generalize ns[k] = n at *
      have hfl : (Wh.four n).length = 4 := rfl
      have HFL := Lib.hid hfl
      clear hfl HGC HBD
      generalize hX : Wh.fours (ns.take k) = X at *
      have HX := Lib.hid hX
      clear hX
      go_wp2_with first
       | (go_at_call 48; (with_reducible refine (HFO.out _).mono ?_); rintro e w5 ⟨rfl, rfl⟩)
       | (at_builtin; refine wpList_app _ rfl (.tmp 52) (.tmp 57) 45 rfl wo.heap.size 5 j0 (.int .u8 0) 1 1 Tryz.underlying45 HJ.out HY.out.1 HY.out.2.1 HY.out.2.2 rfl (by decide) u6 X.length (by8 X) rfl HOW.out (fun b => b = wr.heap.size) (some ⟨wr.heap.size, 0, none⟩) 4 4 (by8 (Wh.four n)) rfl (by rw [by8_len, HFL.out]) HRF.out (by8_one _) (by unfold maxLen; omega) (by omega) (by simp; omega) ?_; intro v1 w1 hown1 hg1 hat1 hnil1; have HO1 := Lib.hid (own_more HFL.out hown1); have HB1 := Lib.hid (HGR.out w1 hg1); clear hown1 hg1 hat1 hnil1)
      go_roundw
      case rel => exact ⟨k + 1, by omega, by go_num, Lib.hid (by rw [HF.out]; exact HO1.out), HB1⟩
      case measure => simp [intOf]; omega
     ·obtain rfl : k = ns.length := by omega
      rw [List.take_length] at ho
      go_wp2_with fail
      ((try simp only [Exit.inBlock, Exit.then]); refine bodyPost_ret (results_tmp2 rfl _ _ _) rfl ?_)
      exact ⟨_, rfl, by rw [HQ.out]; exact ho.out.base HLOW.out.size, HLOW.out.trans (hT.out.mono HLOW.out.size)⟩
end
section
open Go.RowKit Go.Sort
open Wh (At)
open Me
namespace Wh
def cellsA (l : List (Int × Int)) : List Value := l.flatMap fun a => [.int .i64 a.1, .int .i64 a.2]
theorem cellsA_at (l : List (Int × Int)) : ∀ i, i < l.length → (cellsA l)[i * 2]? = some (.int .i64 (At l i).1) ∧ (cellsA l)[i * 2 + 1]? = some (.int .i64 (At l i).2) := by
 induction l with
 | nil => intro i h; cases h
 | cons v l ih =>
   intro i h
   cases i with
   | zero => exact ⟨rfl, rfl⟩
   | succ i =>
     obtain ⟨e1, e2⟩ := ih i (by simpa using h)
     have e : (i + 1) * 2 = i * 2 + 1 + 1 := by omega
     rw [e]
     exact ⟨e1, e2⟩
theorem archs_succ (L : List UInt8) (j : Nat) : archs L (j + 1) = archs L j ++ [(nm L (16 + 12 * j + 4), nm L (16 + 12 * j + 8))] := by
 unfold archs
 rw [List.range_succ, List.map_append]
 rfl
theorem dok_none {L : List UInt8} (h : nm L 12 < 1) : dok L = false := by
 refine dok_v (val_head (.inr (.inr (.inr (.inr (av_nil ?_))))))
 unfold cand
 rw [archs_len]
 omega
end Wh
def OwnAr (base : Nat) (w : World) (v : Value) (l : List (Int × Int)) : Prop := w.ownsRow base 56 2 v l.length (Wh.cellsA l)
theorem OwnAr.lt {base : Nat} {w : World} {v : Value} {l : List (Int × Int)} (h : OwnAr base w v l) : ∀ g, v.ownBlock = some g → base ≤ g ∧ g < w.heap.size := by
 intro g hg
 rcases h.2 with ⟨rfl, _⟩ | ⟨g', cap, cur, rfl, hb, hh, _⟩
 ·cases hg
 ·have : g' = g := by simpa [Value.ownBlock] using hg
  subst this
  exact ⟨hb, (Array.getElem?_eq_some_iff.1 hh).1⟩
theorem OwnAr.keep {base : Nat} {w w' : World} {v : Value} {l : List (Int × Int)} (h : OwnAr base w v l) (hk : ∀ g, base ≤ g → g < w.heap.size → w'.heap[g]? = w.heap[g]?) : OwnAr base w' v l :=
 owns_keep h fun g hg => hk g (h.lt g hg).1 (h.lt g hg).2
theorem OwnAr.row {base : Nat} {w : World} {v : Value} {l : List (Int × Int)} (h : OwnAr base w v l) : ∃ A c, v = .slice A l.length c ∧ Row w A l c := by
 obtain ⟨hlen, ⟨rfl, h0⟩ | ⟨g, cap, cur, rfl, hb, hg, hle, hm, hs, hx⟩⟩ := h
 ·exact ⟨none, 0, by rw [h0], by omega, fun h => by omega⟩
 ·refine ⟨some ⟨g, 0, none⟩, cap, rfl, hle, fun h0 => ⟨g, 0, rfl, (Array.getElem?_eq_some_iff.1 hg).1, fun i hi => ?_, fun i hi => ?_⟩⟩
  ·rw [Nat.zero_add, ← (Wh.cellsA_at l i hi).1, ← hx, List.getElem?_take, if_pos (by omega)]
   simp [World.cell?, hg]
  ·rw [Nat.zero_add, ← (Wh.cellsA_at l i hi).2, ← hx, List.getElem?_take, if_pos (by omega)]
   simp [World.cell?, hg]
structure RfMade (w wr : World) (L : List UInt8) (j : Nat) (v : Value) : Prop where
 sz : w.heap.size + 2 ≤ wr.heap.size
 bel : Below w.heap.size w wr
 rr : RowAt wr w.heap.size 24 #[.int .i64 0, .int .i64 0, .slice none 0 0]
 rh : RowAt wr (w.heap.size + 1) 24 #[.int .i64 (Wh.nm L 0), .int .i64 (Wh.nm L 8), v]
 own : OwnAr (w.heap.size + 2) wr v (Wh.archs L j)
theorem rdecode_short (A : Option Addr) (L : List UInt8) (cap : Nat) (w : World) (hn : L.length < 16) :
 Calls Tryz.prog 52 #[.slice A L.length cap] w (DecodedF w L) := by
 have HD : Hid (Wh.dok L = false) := Lib.hid (Wh.dok_r (by unfold Wh.rok; rw [decide_eq_false (by omega : ¬ 16 ≤ L.length), Bool.false_and, Bool.false_and]))
 generalize hl : L.length = n at *
 have HL := Lib.hid hl
 clear hl
 go_enter Tryz.func52, Tryz.ntmps52
 go_wp2_with fail
 refine bodyPost_ret (v := .tuple #[.agg #[.int .i64 0, .int .i64 0, .slice none 0 0], .int .i64 2]) ?_ rfl (DecodedF.no HD.out rfl ?_)
 ·simp [results, Tryz.results52, go_sem]
 ·exact Bq
end
end Go.Proofs.YtljlanhpjpjgaaaGreatDoor
