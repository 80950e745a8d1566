/- WhRDecL -/
import Derived.Test.YtljlanhpjpjgaaaGreatDoorJ1
import Derived.Test.YtljlanhpjpjgaaaGreatDoorJ23
import Derived.Deep.RegionLaw
import Derived.Test.YtljlanhpjpjgaaaGreatDoorJ24
namespace Go.Proofs.YtljlanhpjpjgaaaGreatDoor
set_option maxRecDepth 100000
set_option maxHeartbeats 8000000
section
open Go.RowKit Go.Sort
open Wh (At)
open Me
theorem arinfo2 : (Tryz.prog.info? 56).map (fun i => (i.zero, i.size, i.bytes)) = some (some (.agg #[.int .i64 0, .int .i64 0]), 2, 16) := by kernel_rfl
theorem by_reads {w : World} {b off cap : Nat} {L : List UInt8} (h : By w b off L) (hc : L.length ≤ cap) : Reads w (.slice (some ⟨b, off, none⟩) L.length cap) L :=
 ⟨_, _, rfl, hc, fun _ => ⟨_, rfl, h.lt, trivial, fun j u hu => by
  rw [Addr.add_lit]
  have hj : j < L.length := by
   rcases Nat.lt_or_ge j (by8 L).length with h1 | h1
   ·rwa [by8_len] at h1
   ·rw [List.getElem?_eq_none h1] at hu; cases hu
  rw [by8_get L j hj] at hu
  have := h.at_ j hj
  rw [this, ← hu]
  unfold Wh.byt
  rw [List.getD_eq_getElem?_getD, List.getElem?_eq_getElem hj]
  rfl⟩⟩
theorem DecodedF.yes' {w w' : World} {L : List UInt8} {e : Ending} {A : Option Addr} {c : Nat} (h : Wh.dok L = true) (he : e = .returned (.tuple #[.agg #[.int .i64 (Wh.nm L 0), .int .i64 (Wh.nm L 8), .slice A (Wh.cand L).length c], .int .i64 0])) (hr : Row w' A (Wh.cand L) c) (hb : Below w.heap.size w w') (hf : ∀ a, A = some a → w.heap.size ≤ a.block) : DecodedF w L e w' := by
 obtain ⟨e1, e2, e3, e4⟩ := Wh.dok_t h
 refine ⟨A, c, ?_, ?_, hb, hf⟩
 ·rw [he, e1, e2, e3, e4]
 ·rw [e3]; exact hr
theorem own_fresh {base b0 : Nat} {W : World} {A : Option Addr} {n c : Nat} {l : List (Int × Int)} (h : OwnAr base W (.slice A n c) l) (hb : b0 ≤ base) : ∀ a, A = some a → b0 ≤ a.block := fun a e => by
 subst e
 rcases h.2 with ⟨e, _⟩ | ⟨g, cap, cur, e, hg, _⟩
 ·cases e
 ·injection e with e1 _ _
  injection e1 with e1
  rw [e1]
  exact Nat.le_trans hb hg
theorem rf_of {w X wx : World} {L : List UInt8} (hX : X.heap.size = w.heap.size + 1) (hB : Below w.heap.size w X) (hR : RowAt X w.heap.size 24 #[.int .i64 0, .int .i64 0, .slice none 0 0])
 (hb : Below X.heap.size X wx) (h1 : RowAt wx X.heap.size 24 #[.int .i64 (Wh.nm L 0), .int .i64 (Wh.nm L 8), .slice none 0 0]) : RfMade w wx L 0 (.slice none 0 0) := by
 rw [hX] at h1
 have := h1.lt
 exact ⟨by omega, hB.trans (hb.mono (by omega)), hR.below hb (by omega), h1, rfl, .inl ⟨rfl, rfl⟩⟩
theorem RfMade.below {w wr W : World} {L : List UInt8} {j : Nat} {v : Value} (h : RfMade w wr L j v) (hb : Below wr.heap.size wr W) : RfMade w W L j v := by
 obtain ⟨sz, bel, rr, rh, own⟩ := h
 exact ⟨Nat.le_trans sz hb.size, bel.trans (hb.mono bel.size), rr.below hb rr.lt, rh.below hb rh.lt, own.keep fun g _ hg => hb.block g hg⟩
theorem RfMade.step2 {w wr w4 : World} {L : List UInt8} {j : Nat} {v v4 : Value} (hM : RfMade w wr L j v) (hg : wr.grownBy w4 v.ownBlock)
 (ho : w4.ownsRow (w.heap.size + 2) 56 2 v4 ((Wh.archs L j).length + 1) (Wh.cellsA (Wh.archs L j) ++ [.int .i64 (Wh.nm L (16 + 12 * j + 4)), .int .i64 (Wh.nm L (16 + 12 * j + 8))])) :
 w4.cell? ⟨w.heap.size + 1, 2, none⟩ = some v ∧ w4.frozen? ⟨w.heap.size + 1, 2, none⟩ = false ∧ RfMade w (w4.setCell ⟨w.heap.size + 1, 2, none⟩ v4) L (j + 1) v4 := by
 obtain ⟨sz, bel, rr, rh, own⟩ := hM
 have hlt := own.lt
 have hs4 : wr.heap.size ≤ w4.heap.size := hg.size
 have key : ∀ i, i < w.heap.size + 2 → w4.heap[i]? = wr.heap[i]? := fun i hi => hg.block i (by omega) (fun e => by have := (hlt i e.symm).1; omega)
 have rr4 : RowAt w4 w.heap.size 24 #[.int .i64 0, .int .i64 0, .slice none 0 0] := (key _ (by omega)).trans rr
 have rh4 : RowAt w4 (w.heap.size + 1) 24 #[.int .i64 (Wh.nm L 0), .int .i64 (Wh.nm L 8), v] := (key _ (by omega)).trans rh
 refine ⟨rh4.cell 2, rh4.frozen 2, by simpa [World.setCell] using (by omega : w.heap.size + 2 ≤ w4.heap.size), ?_, rr4.far (by show w.heap.size ≠ w.heap.size + 1; omega) _, ?_, ?_⟩
 ·have b1 : Below w.heap.size w w4 := bel.grown hg bel.size (fun g e => by have := (hlt g e).1; omega)
  exact b1.setCell (by show _ ≤ w.heap.size + 1; omega) _
 ·have := rh4.set_ 2 v4
  simpa using this
 ·rw [Wh.archs_succ]
  have ho' : OwnAr (w.heap.size + 2) w4 v4 (Wh.archs L j ++ [(Wh.nm L (16 + 12 * j + 4), Wh.nm L (16 + 12 * j + 8))]) := by
   unfold OwnAr
   rw [List.length_append]
   unfold Wh.cellsA at ho ⊢
   rw [List.flatMap_append]
   exact ho
  exact ho'.keep fun g hg1 _ => Below.heap_setCell _ ⟨w.heap.size + 1, 2, none⟩ v4 g (by show g ≠ w.heap.size + 1; omega)
theorem rd_row {w : World} {g : Nat} {t : TypeId} {cs : List Value} (h : RowAt w g t cs.toArray) : Rd w (fun _ => True) (some ⟨g, 0, none⟩) cs := fun _ => by
 refine ⟨_, rfl, h.lt, trivial, fun j u hu => ?_⟩
 rw [Addr.add_lit, Nat.zero_add, h.cell]
 simpa using hu
theorem row_back {w W : World} {A : Option Addr} {l : List (Int × Int)} {c : Nat} (h : OwnAr (w.heap.size + 2) W (.slice A l.length c) l) (x y z : Value) : Row (((W.setCell ⟨w.heap.size, 0, none⟩ x).setCell ⟨w.heap.size, 1, none⟩ y).setCell ⟨w.heap.size, 2, none⟩ z) A l c := by
 have h2 : OwnAr (w.heap.size + 2) (((W.setCell ⟨w.heap.size, 0, none⟩ x).setCell ⟨w.heap.size, 1, none⟩ y).setCell ⟨w.heap.size, 2, none⟩ z) (.slice A l.length c) l := h.keep fun g hg _ =>
  (Below.heap_setCell _ ⟨w.heap.size, 2, none⟩ z g (by show g ≠ w.heap.size; omega)).trans ((Below.heap_setCell _ ⟨w.heap.size, 1, none⟩ y g (by show g ≠ w.heap.size; omega)).trans (Below.heap_setCell _ ⟨w.heap.size, 0, none⟩ x g (by show g ≠ w.heap.size; omega)))
 obtain ⟨A', c', e, hr⟩ := OwnAr.row h2
 injection e with e1 e2 e3
 subst e1 e3
 exact hr
theorem rdecode_long (L : List UInt8) (b off cap : Nat) (w : World) (h : By w b off L) (hc : L.length ≤ cap) (h16 : 16 ≤ L.length) :
 Calls Tryz.prog 52 #[.slice (some ⟨b, off, none⟩) L.length cap] w (DecodedF w L) := by
 have HN : Hid (∀ W i n c, 4 ≤ n → i + 4 ≤ L.length → Below w.heap.size w W → Calls Tryz.prog 76 #[.slice (some ⟨b, off + i, none⟩) n c] W fun e w' => e = .returned (.int .i64 (Wh.nm L i)) ∧ ∃ m, w' = W.drewN m) := Lib.hid fun W i n c hn hi hb => fromFour_dr L i b off n c W (h.below hb) hi hn
 have HN0 : Hid (∀ W n c, 4 ≤ n → Below w.heap.size w W → Calls Tryz.prog 76 #[.slice (some ⟨b, off, none⟩) n c] W fun e w' => e = .returned (.int .i64 (Wh.nm L 0)) ∧ ∃ m, w' = W.drewN m) := Lib.hid fun W n c hn hb => fromFour_dr L 0 b off n c W (h.below hb) (by omega) hn
 have hA1 : ∀ (W : World) (n : Nat) (cs : Array Value) (t : TypeId) (i : Nat), ((W.drewN n).alloc (.cells cs t)).cell? ⟨W.heap.size, i, none⟩ = cs[i]? := fun W n cs t i => by rw [show W.heap.size = (W.drewN n).heap.size from rfl]; exact World.cell?_alloc_new _ _ _ _
 have hA2 : ∀ (W : World) (n : Nat) (cs : Array Value) (t : TypeId) (i : Nat), ((W.drewN n).alloc (.cells cs t)).frozen? ⟨W.heap.size, i, none⟩ = false := fun W n cs t i => by
  have h := RowAt.frozen (RowAt.new (W.drewN n) cs t) i
  exact h
 have HBY := Lib.hid h
 have hI8 : (8 : Int) ≤ (L.length : Int) := by omega
 have hI12 : (12 : Int) ≤ (L.length : Int) := by omega
 have hI16 : (16 : Int) ≤ (L.length : Int) := by omega
 have hIc : (L.length : Int) ≤ (cap : Int) := by omega
 have hN8 : 8 ≤ L.length := by omega
 have hN12 : 12 ≤ L.length := by omega
 have hN8c : 8 ≤ cap := by omega
 have hN12c : 12 ≤ cap := by omega
 have hc8 : ¬ cap = 8 := by omega
 have hc12 : ¬ cap = 12 := by omega
 clear h
 go_enter Tryz.func52, Tryz.ntmps52
 go_upto_region 3 with (fail)
 have hB0 : Below w.heap.size w (w.alloc (.cells #[.int .i64 0, .int .i64 0, .slice none 0 0] 24)) := (Below.refl _ _).alloc (Nat.le_refl _) _
 have hR0 : RowAt (w.alloc (.cells #[.int .i64 0, .int .i64 0, .slice none 0 0] 24)) w.heap.size 24 #[.int .i64 0, .int .i64 0, .slice none 0 0] := RowAt.new w _ _
 have hX0 : (w.alloc (.cells #[.int .i64 0, .int .i64 0, .slice none 0 0] 24)).heap.size = w.heap.size + 1 := by simp
 generalize w.alloc (.cells #[.int .i64 0, .int .i64 0, .slice none 0 0] 24) = X at *
 have HB0 := Lib.hid hB0
 have HR0 := Lib.hid hR0
 have HX0 := Lib.hid hX0
 have hX1 : w.heap.size < X.heap.size := by omega
 clear hB0 hR0 hX0
 go_cut [4] (fun s4 wx => s4 = .pointer (some ⟨w.heap.size + 1, 0, none⟩) ∧ Hid (RfMade w wx L 0 (.slice none 0 0)))
 case first =>
  go_region_held3 (fun _ => True) (trivial) (first
   | (go_at_call 76; (with_reducible refine (HN0.out _ _ _ (by omega) (HB0.out.trans (Below.mono (by repeat (first | exact Below.refl _ _ | refine Below.setCell ?_ (by simp) _ | refine Below.alloc ?_ (by simp) _ | refine Below.drew ?_ | refine bel_drewN ?_ _)) (Nat.le_of_lt hX1)))).mono ?_); rintro e w1 ⟨rfl, m2, rfl⟩)
   | (go_at_call 76; (with_reducible refine (HN.out _ 8 _ _ (by omega) (by omega) (HB0.out.trans (Below.mono (by repeat (first | exact Below.refl _ _ | refine Below.setCell ?_ (by simp) _ | refine Below.alloc ?_ (by simp) _ | refine Below.drew ?_ | refine bel_drewN ?_ _)) (Nat.le_of_lt hX1)))).mono ?_); rintro e w1 ⟨rfl, m2, rfl⟩)
   | fail)
  all_goals go_wp2_with fail
  all_goals go_meet
  all_goals refine ⟨by rw [HX0.out], Lib.hid (rf_of HX0.out HB0.out HR0.out (by repeat (first | exact Below.refl _ _ | refine Below.setCell ?_ (by simp) _ | refine Below.alloc ?_ (by simp) _ | refine Below.drew ?_ | refine bel_drewN ?_ _)) ?_)⟩
  all_goals repeat (first | (with_reducible refine RowAt.new' ?_; simp; done) | with_reducible refine RowAt.set3 (a := .int .i64 0) (b := .int .i64 0) (c := .slice none 0 0) ?_ | with_reducible refine RowAt.far ?_ (by simp) _ | with_reducible refine RowAt.alloc ?_ _ | with_reducible refine RowAt.drewN ?_ _)
 case rest =>
  obtain ⟨rfl, hM⟩ := hcut
  have hs0 := hM.out.sz
  have hs1 : w.heap.size + 1 < wc.heap.size := by omega
  have hs2 : w.heap.size < wc.heap.size := by omega
  have r0 : wc.cell? ⟨w.heap.size, 0, none⟩ = some (.int .i64 0) := hM.out.rr.cell 0
  have r1 : wc.cell? ⟨w.heap.size, 1, none⟩ = some (.int .i64 0) := hM.out.rr.cell 1
  have r2 : wc.cell? ⟨w.heap.size, 2, none⟩ = some (.slice none 0 0) := hM.out.rr.cell 2
  have s0 := hM.out.rr.frozen 0
  have s1 := hM.out.rr.frozen 1
  have s2 := hM.out.rr.frozen 2
  have HN12 : Hid (∀ n c, 4 ≤ n → Calls Tryz.prog 76 #[.slice (some ⟨b, off + 12, none⟩) n c] wc fun e w' => e = .returned (.int .i64 (Wh.nm L 12)) ∧ ∃ m, w' = wc.drewN m) := Lib.hid fun n c hn => HN.out wc 12 n c hn (by omega) hM.out.bel
  clear hA1 hA2 HB0 HR0 HX0 hX1 HN0
  by_cases n1 : Wh.nm L 12 < 1
  ·have HD : Hid (Wh.dok L = false) := Lib.hid (Wh.dok_none n1)
   clear HN HBY
   generalize Wh.nm L 12 = N at *
   go_wp2_with (go_at_call 76; (with_reducible refine (HN12.out _ _ (by omega)).mono ?_); rintro e w1 ⟨rfl, m2, rfl⟩)
   refine bodyPost_ret (v := .tuple #[.agg #[.int .i64 0, .int .i64 0, .slice none 0 0], .int .i64 2]) ?_ rfl (DecodedF.no HD.out rfl ?_)
   ·simp [results, Tryz.results52, go_sem, r0, r1, r2]
   ·exact back_cells (bel_drewN hM.out.bel _) _ _ _
  obtain ⟨k, hk⟩ : ∃ k : Nat, Wh.nm L 12 = (k : Int) := ⟨(Wh.nm L 12).toNat, by have := Wh.nm_bd L 12; omega⟩
  rw [hk] at HN12 n1
  have n1k : 1 ≤ k := by omega
  have n1I : (1 : Int) ≤ (k : Int) := by omega
  clear n1
  by_cases n2 : 8 < k
  ·have HD : Hid (Wh.dok L = false) := Lib.hid (Wh.dok_r (by unfold Wh.rok; rw [decide_eq_false (by omega : ¬ Wh.nm L 12 ≤ 8), Bool.and_false, Bool.false_and]))
   have n2I : (8 : Int) < (k : Int) := by omega
   clear HN HBY hk
   go_wp2_with (go_at_call 76; (with_reducible refine (HN12.out _ _ (by omega)).mono ?_); rintro e w1 ⟨rfl, m2, rfl⟩)
   refine bodyPost_ret (v := .tuple #[.agg #[.int .i64 0, .int .i64 0, .slice none 0 0], .int .i64 2]) ?_ rfl (DecodedF.no HD.out rfl ?_)
   ·simp [results, Tryz.results52, go_sem, r0, r1, r2]
   ·exact back_cells (bel_drewN hM.out.bel _) _ _ _
  have n2I : (k : Int) ≤ 8 := by omega
  by_cases n3 : L.length < 16 + 12 * k
  ·have HD : Hid (Wh.dok L = false) := Lib.hid (Wh.dok_r (by unfold Wh.rok; rw [decide_eq_false (by omega : ¬ 16 + 12 * Wh.nm L 12 ≤ (L.length : Int)), Bool.and_false]))
   have n3I : (L.length : Int) < 16 + 12 * (k : Int) := by omega
   clear HN HBY hk
   go_wp2_with (go_at_call 76; (with_reducible refine (HN12.out _ _ (by omega)).mono ?_); rintro e w1 ⟨rfl, m2, rfl⟩)
   refine bodyPost_ret (v := .tuple #[.agg #[.int .i64 0, .int .i64 0, .slice none 0 0], .int .i64 2]) ?_ rfl (DecodedF.no HD.out rfl ?_)
   ·simp [results, Tryz.results52, go_sem, r0, r1, r2]
   ·exact back_cells (bel_drewN hM.out.bel _) _ _ _
  have hck : Wh.archs L k = Wh.cand L := by unfold Wh.cand; rw [hk, Int.toNat_natCast]
  have HCK := Lib.hid hck
  have hcl : (Wh.cand L).length = k := by rw [← hck, Wh.archs_len]
  have n3I : 16 + 12 * (k : Int) ≤ (L.length : Int) := by omega
  have HROK : Hid (Wh.rok L = true) := Lib.hid (by
   unfold Wh.rok
   simp only [Bool.and_eq_true, decide_eq_true_eq]
   exact ⟨⟨by omega, by omega⟩, by omega⟩)
  clear hk
  go_wp2_with (go_at_call 76; (with_reducible refine (HN12.out _ _ (by omega)).mono ?_); rintro e w1 ⟨rfl, m2, rfl⟩)
  have HE : Hid (∀ W A c, Row W A (Wh.cand L) c → Calls Tryz.prog 22 #[.agg #[.int .i64 (Wh.nm L 0), .int .i64 (Wh.nm L 8), .slice A (Wh.cand L).length c]] W (Coded W (Wh.encL L) (if Wh.val (Wh.nm L 0) (Wh.nm L 8) (Wh.cand L) = true then 0 else 1))) := Lib.hid fun W A c hr => rencode_any (Wh.nm L 0) (Wh.nm L 8) (Wh.cand L) A c W hr
  have HM1 : Hid (RfMade w (wc.drewN m2) L 0 (.slice none 0 0)) := Lib.hid ⟨hM.out.sz, bel_drewN hM.out.bel _, hM.out.rr, hM.out.rh, hM.out.own⟩
  obtain ⟨j0, hj0, hy0, hy1, hy2⟩ := info_parts arinfo2
  have HJ := Lib.hid hj0
  have HY := Lib.hid (And.intro hy0 (And.intro hy1 hy2))
  clear hj0 hy0 hy1 hy2 hck r0 r1 r2 s0 s1 s2 hs0 hs1 hs2 HN12 hM
  go_loopw [6] (fun i wr => ∃ (j : Nat) (A : Option Addr) (n c : Nat), j ≤ k ∧ i = .int .i64 j ∧ Hid (RfMade w wr L j (.slice A n c))) (fun i _ => k - (intOf i).toNat)
  case atStart => exact ⟨0, none, 0, 0, Nat.zero_le _, rfl, HM1⟩
  case round =>
   obtain ⟨j, A, n, c, hj, rfl, hM⟩ := hrel
   have hsz := hM.out.sz
   have hs1 : w.heap.size + 1 < wr.heap.size := by omega
   have hs2 : w.heap.size < wr.heap.size := by omega
   have x0 : wr.cell? ⟨w.heap.size + 1, 0, none⟩ = some (.int .i64 (Wh.nm L 0)) := hM.out.rh.cell 0
   have x1 : wr.cell? ⟨w.heap.size + 1, 1, none⟩ = some (.int .i64 (Wh.nm L 8)) := hM.out.rh.cell 1
   have x2 : wr.cell? ⟨w.heap.size + 1, 2, none⟩ = some (.slice A n c) := hM.out.rh.cell 2
   by_cases hlt : j < k
   ·obtain ⟨p4, hp4⟩ : ∃ p, 20 + 12 * j = p := ⟨_, rfl⟩
    obtain ⟨p8, hp8⟩ : ∃ p, 24 + 12 * j = p := ⟨_, rfl⟩
    obtain ⟨q, hq⟩ : ∃ q : Int, 12 * (j : Int) = q := ⟨_, rfl⟩
    have hqw : IntKind.i64.wrap (12 * (j : Int)) = q := by rw [IntWalk.i64_in _ (by omega)]; exact hq
    have hw4 : IntKind.i64.wrap (20 + q) = (p4 : Int) := by rw [IntWalk.i64_in _ (by omega)]; omega
    have hw8 : IntKind.i64.wrap (24 + q) = (p8 : Int) := by rw [IntWalk.i64_in _ (by omega)]; omega
    have hwq : IntKind.i64.wrap q = q := IntWalk.i64_in _ (by omega)
    have hwp4 : IntKind.i64.wrap (p4 : Int) = (p4 : Int) := IntWalk.i64_in _ (by omega)
    have hwp8 : IntKind.i64.wrap (p8 : Int) = (p8 : Int) := IntWalk.i64_in _ (by omega)
    have hv4 : 20 + q = (p4 : Int) := by omega
    have hv8 : 24 + q = (p8 : Int) := by omega
    have HNa : Hid (∀ W n c, 4 ≤ n → Below w.heap.size w W → Calls Tryz.prog 76 #[.slice (some ⟨b, off + p4, none⟩) n c] W fun e w' => e = .returned (.int .i64 (Wh.nm L (16 + 12 * j + 4))) ∧ ∃ m, w' = W.drewN m) := Lib.hid fun W n c hn hb => by
     have := HN.out W (16 + 12 * j + 4) n c hn (by omega) hb
     rw [show 16 + 12 * j + 4 = p4 by omega] at this ⊢
     exact this
    have HNb : Hid (∀ W n c, 4 ≤ n → Below w.heap.size w W → Calls Tryz.prog 76 #[.slice (some ⟨b, off + p8, none⟩) n c] W fun e w' => e = .returned (.int .i64 (Wh.nm L (16 + 12 * j + 8))) ∧ ∃ m, w' = W.drewN m) := Lib.hid fun W n c hn hb => by
     have := HN.out W (16 + 12 * j + 8) n c hn (by omega) hb
     rw [show 16 + 12 * j + 8 = p8 by omega] at this ⊢
     exact this
    have hM0 := hM
    have HOX0 : Hid (∀ W, RfMade w W L j (.slice A n c) → W.ownsRow (w.heap.size + 2) 56 2 (.slice A n c) (Wh.archs L j).length (Wh.cellsA (Wh.archs L j))) := Lib.hid fun W h => h.own
    have HSX0 : Hid (∀ W, RfMade w W L j (.slice A n c) → ∀ w4 v4, W.grownBy w4 (Value.slice A n c).ownBlock → w4.ownsRow (w.heap.size + 2) 56 2 v4 ((Wh.archs L j).length + 1) (Wh.cellsA (Wh.archs L j) ++ [.int .i64 (Wh.nm L (16 + 12 * j + 4)), .int .i64 (Wh.nm L (16 + 12 * j + 8))]) →
     w4.cell? ⟨w.heap.size + 1, 2, none⟩ = some (.slice A n c) ∧ w4.frozen? ⟨w.heap.size + 1, 2, none⟩ = false ∧ RfMade w (w4.setCell ⟨w.heap.size + 1, 2, none⟩ v4) L (j + 1) v4) := Lib.hid fun W h w4 v4 hg ho => h.step2 hg ho
    have hbW := Lib.hid hM.out.bel
    have hlj : (Wh.archs L j).length ≤ 8 := by rw [Wh.archs_len]; omega
    have hg4I : (p4 : Int) ≤ (L.length : Int) := by omega
    have hg8I : (p8 : Int) ≤ (L.length : Int) := by omega
    have hg4 : p4 ≤ L.length := by omega
    have hg8 : p8 ≤ L.length := by omega
    have hg4' : p4 + 4 ≤ L.length := by omega
    have hg8' : p8 + 4 ≤ L.length := by omega
    have hc4 : ¬ cap = p4 := by omega
    have hc8' : ¬ cap = p8 := by omega
    have hc4c : p4 ≤ cap := by omega
    have hc8c : p8 ≤ cap := by omega
    have x2a : ∀ (m : Nat) (o : Obj), ((wr.drewN m).alloc o).cell? ⟨w.heap.size + 1, 2, none⟩ = some (.slice A n c) := fun m o => (World.cell?_of_block (a := ⟨w.heap.size + 1, 2, none⟩) (Below.heap_alloc (wr.drewN m) o (w.heap.size + 1) hs1)).trans x2
    generalize Wh.nm L (16 + 12 * j + 4) = na at *
    generalize Wh.nm L (16 + 12 * j + 8) = nb at *
    generalize (Wh.archs L j).length = N at *
    generalize Wh.cellsA (Wh.archs L j) = cs at *
    clear hp4 hp8 HN HM1 HE HCK hcl HROK hM n3 n3I
    go_wp2_with fail
    clear x2a
    refine Inv.region_tail 16 12 (fun W W' => Below W.heap.size W W') (fun i v W => match i with
     | 0 => v = .pointer (some ⟨w.heap.size + 1, 2, none⟩)
     | 1 => v = .slice A n c
     | 2 => v = .slice (some ⟨b, off, none⟩) L.length cap
     | 3 => v = .int .i64 j
     | 4 => v = .int .i64 q
     | 5 => v = .int .i64 (p4 : Int)
     | 6 => v = .slice (some ⟨b, off + p4, none⟩) (L.length - p4) (cap - p4)
     | 7 => v = .int .i64 na
     | 8 => v = .slice (some ⟨b, off, none⟩) L.length cap
     | 9 => v = .int .i64 j
     | 10 => v = .int .i64 q
     | 11 => v = .int .i64 (p8 : Int)
     | 12 => v = .slice (some ⟨b, off + p8, none⟩) (L.length - p8) (cap - p8)
     | 13 => v = .int .i64 nb
     | 14 => v = (.agg #[.int .i64 na, .int .i64 nb])
     | 15 => ∃ g : Nat, v = .slice (some ⟨g, 0, none⟩) 1 1 ∧ RowAt W g 56 #[.int .i64 na, .int .i64 nb]
     | _ => True) (by kernel_rfl) (by kernel_rfl) (by kernel_rfl) (by kernel_rfl) (fun W => Below.refl _ _) (fun a b c h k => h.trans (k.mono h.size)) (fun i v W W' h he => ?stab) ?obls ?fin
    case stab =>
     match i, h with
     | 0, h => exact h
     | 1, h => exact h
     | 2, h => exact h
     | 3, h => exact h
     | 4, h => exact h
     | 5, h => exact h
     | 6, h => exact h
     | 7, h => exact h
     | 8, h => exact h
     | 9, h => exact h
     | 10, h => exact h
     | 11, h => exact h
     | 12, h => exact h
     | 13, h => exact h
     | 14, h => exact h
     | 15, h => exact (by obtain ⟨g, e, hr⟩ := h; exact ⟨g, e, hr.below he hr.lt⟩)
     | _ + 16, h => exact h
    case obls =>
     refine .cons ?_ (.cons ?_ (.cons ?_ (.cons ?_ (.cons ?_ (.cons ?_ (.cons ?_ (.cons ?_ (.cons ?_ (.cons ?_ (.cons ?_ (.cons ?_ (.cons ?_ (.cons ?_ (.cons ?_ (.cons ?_ .nil)))))))))))))))
     ·intro ac wx hE hf hd
      have hB : Below wr.heap.size wr wx := ⟨hE.1,hE.2,hE.3,hE.4,hE.5⟩
      rw [if_pos (Inv.want0 rfl _)]
      have h4 : ac.eval (.tmp 4) = .pointer (some ⟨w.heap.size + 1, 0, none⟩) := hf 4 (by kernel_rfl)
      clear hf hd
      refine Inv.val (.pointer (some ⟨w.heap.size + 1, 2, none⟩)) ?_ rfl rfl (Below.refl _ _)
      clear hE hB
      generalize ac.eval = ev at *
      simp [execOp, go_sem, *]
     ·intro ac wx hE hf hd
      have hB : Below wr.heap.size wr wx := ⟨hE.1,hE.2,hE.3,hE.4,hE.5⟩
      rw [if_pos (Inv.want0 rfl _)]
      have h42 := hd 0 _ (by kernel_rfl) rfl
      change ac.eval (.tmp 42) = .pointer (some ⟨w.heap.size + 1, 2, none⟩) at h42
      clear hf hd
      have xw : wx.cell? ⟨w.heap.size + 1, 2, none⟩ = some (.slice A n c) := (hB.cell (p := ⟨w.heap.size + 1, 2, none⟩) hs1).trans x2
      refine Inv.val (.slice A n c) ?_ rfl rfl (Below.refl _ _)
      clear hE hB
      have hcst : ∀ v, ac.eval (.const v) = v := fun _ => rfl
      generalize ac.eval = ev at *
      simp [execOp, go_sem, *]
     ·intro ac wx hE hf hd
      have hB : Below wr.heap.size wr wx := ⟨hE.1,hE.2,hE.3,hE.4,hE.5⟩
      rw [if_pos (Inv.want0 rfl _)]
      have h0 : ac.eval (.tmp 0) = .slice (some ⟨b, off, none⟩) L.length cap := hf 0 (by kernel_rfl)
      clear hf hd
      refine Inv.val (.slice (some ⟨b, off, none⟩) L.length cap) ?_ rfl rfl (Below.refl _ _)
      clear hE hB
      generalize ac.eval = ev at *
      simp [execOp, go_sem, *]
     ·intro ac wx hE hf hd
      have hB : Below wr.heap.size wr wx := ⟨hE.1,hE.2,hE.3,hE.4,hE.5⟩
      rw [if_pos (Inv.want0 rfl _)]
      have h6 : ac.eval (.tmp 6) = .int .i64 j := hf 6 (by kernel_rfl)
      clear hf hd
      refine Inv.val (.int .i64 j) ?_ rfl rfl (Below.refl _ _)
      clear hE hB
      generalize ac.eval = ev at *
      simp [execOp, go_sem, *]
     ·intro ac wx hE hf hd
      have hB : Below wr.heap.size wr wx := ⟨hE.1,hE.2,hE.3,hE.4,hE.5⟩
      rw [if_pos (Inv.want0 rfl _)]
      have h45 := hd 3 _ (by kernel_rfl) rfl
      change ac.eval (.tmp 45) = .int .i64 j at h45
      clear hf hd
      refine Inv.val (.int .i64 q) ?_ rfl rfl (Below.refl _ _)
      clear hE hB
      have hcst : ∀ v, ac.eval (.const v) = v := fun _ => rfl
      generalize ac.eval = ev at *
      simp [execOp, go_sem, *]
     ·intro ac wx hE hf hd
      have hB : Below wr.heap.size wr wx := ⟨hE.1,hE.2,hE.3,hE.4,hE.5⟩
      rw [if_pos (Inv.want0 rfl _)]
      have h46 := hd 4 _ (by kernel_rfl) rfl
      change ac.eval (.tmp 46) = .int .i64 q at h46
      clear hf hd
      refine Inv.val (.int .i64 (p4 : Int)) ?_ rfl rfl (Below.refl _ _)
      clear hE hB
      have hcst : ∀ v, ac.eval (.const v) = v := fun _ => rfl
      generalize ac.eval = ev at *
      simp [execOp, go_sem, *]
     ·intro ac wx hE hf hd
      have hB : Below wr.heap.size wr wx := ⟨hE.1,hE.2,hE.3,hE.4,hE.5⟩
      rw [if_pos (Inv.want0 rfl _)]
      have h44 := hd 2 _ (by kernel_rfl) rfl
      change ac.eval (.tmp 44) = .slice (some ⟨b, off, none⟩) L.length cap at h44
      have h47 := hd 5 _ (by kernel_rfl) rfl
      change ac.eval (.tmp 47) = .int .i64 (p4 : Int) at h47
      clear hf hd
      refine Inv.val (.slice (some ⟨b, off + p4, none⟩) (L.length - p4) (cap - p4)) ?_ rfl rfl (Below.refl _ _)
      clear hE hB
      generalize ac.eval = ev at *
      simp [execOp, go_sem, *]
     ·intro ac wx hE hf hd
      have hB : Below wr.heap.size wr wx := ⟨hE.1,hE.2,hE.3,hE.4,hE.5⟩
      rw [if_pos (Inv.want0 rfl _)]
      have h48 := hd 6 _ (by kernel_rfl) rfl
      change ac.eval (.tmp 48) = .slice (some ⟨b, off + p4, none⟩) (L.length - p4) (cap - p4) at h48
      clear hf hd
      refine Inv.go (f := 76) (xs := #[.slice (some ⟨b, off + p4, none⟩) (L.length - p4) (cap - p4)]) ?_ rfl ?_
      ·clear hE hB
       have hfn : ac.eval (.func 76) = .func (.func 76) #[] #[] := rfl
       generalize ac.eval = ev at *
       simp [execOp, go_sem, *]
      ·exact (HNa.out wx _ _ (by omega) (hbW.out.trans (hB.mono hbW.out.size))).mono fun e w' ⟨he, m, hm⟩ => ⟨_, he, rfl, hm ▸ ⟨rfl, rfl, rfl, Nat.le_refl _, fun _ _ => rfl⟩⟩
     ·intro ac wx hE hf hd
      have hB : Below wr.heap.size wr wx := ⟨hE.1,hE.2,hE.3,hE.4,hE.5⟩
      rw [if_pos (Inv.want0 rfl _)]
      have h0 : ac.eval (.tmp 0) = .slice (some ⟨b, off, none⟩) L.length cap := hf 0 (by kernel_rfl)
      clear hf hd
      refine Inv.val (.slice (some ⟨b, off, none⟩) L.length cap) ?_ rfl rfl (Below.refl _ _)
      clear hE hB
      generalize ac.eval = ev at *
      simp [execOp, go_sem, *]
     ·intro ac wx hE hf hd
      have hB : Below wr.heap.size wr wx := ⟨hE.1,hE.2,hE.3,hE.4,hE.5⟩
      rw [if_pos (Inv.want0 rfl _)]
      have h6 : ac.eval (.tmp 6) = .int .i64 j := hf 6 (by kernel_rfl)
      clear hf hd
      refine Inv.val (.int .i64 j) ?_ rfl rfl (Below.refl _ _)
      clear hE hB
      generalize ac.eval = ev at *
      simp [execOp, go_sem, *]
     ·intro ac wx hE hf hd
      have hB : Below wr.heap.size wr wx := ⟨hE.1,hE.2,hE.3,hE.4,hE.5⟩
      rw [if_pos (Inv.want0 rfl _)]
      have h51 := hd 9 _ (by kernel_rfl) rfl
      change ac.eval (.tmp 51) = .int .i64 j at h51
      clear hf hd
      refine Inv.val (.int .i64 q) ?_ rfl rfl (Below.refl _ _)
      clear hE hB
      have hcst : ∀ v, ac.eval (.const v) = v := fun _ => rfl
      generalize ac.eval = ev at *
      simp [execOp, go_sem, *]
     ·intro ac wx hE hf hd
      have hB : Below wr.heap.size wr wx := ⟨hE.1,hE.2,hE.3,hE.4,hE.5⟩
      rw [if_pos (Inv.want0 rfl _)]
      have h52 := hd 10 _ (by kernel_rfl) rfl
      change ac.eval (.tmp 52) = .int .i64 q at h52
      clear hf hd
      refine Inv.val (.int .i64 (p8 : Int)) ?_ rfl rfl (Below.refl _ _)
      clear hE hB
      have hcst : ∀ v, ac.eval (.const v) = v := fun _ => rfl
      generalize ac.eval = ev at *
      simp [execOp, go_sem, *]
     ·intro ac wx hE hf hd
      have hB : Below wr.heap.size wr wx := ⟨hE.1,hE.2,hE.3,hE.4,hE.5⟩
      rw [if_pos (Inv.want0 rfl _)]
      have h50 := hd 8 _ (by kernel_rfl) rfl
      change ac.eval (.tmp 50) = .slice (some ⟨b, off, none⟩) L.length cap at h50
      have h53 := hd 11 _ (by kernel_rfl) rfl
      change ac.eval (.tmp 53) = .int .i64 (p8 : Int) at h53
      clear hf hd
      refine Inv.val (.slice (some ⟨b, off + p8, none⟩) (L.length - p8) (cap - p8)) ?_ rfl rfl (Below.refl _ _)
      clear hE hB
      generalize ac.eval = ev at *
      simp [execOp, go_sem, *]
     ·intro ac wx hE hf hd
      have hB : Below wr.heap.size wr wx := ⟨hE.1,hE.2,hE.3,hE.4,hE.5⟩
      rw [if_pos (Inv.want0 rfl _)]
      have h54 := hd 12 _ (by kernel_rfl) rfl
      change ac.eval (.tmp 54) = .slice (some ⟨b, off + p8, none⟩) (L.length - p8) (cap - p8) at h54
      clear hf hd
      refine Inv.go (f := 76) (xs := #[.slice (some ⟨b, off + p8, none⟩) (L.length - p8) (cap - p8)]) ?_ rfl ?_
      ·clear hE hB
       have hfn : ac.eval (.func 76) = .func (.func 76) #[] #[] := rfl
       generalize ac.eval = ev at *
       simp [execOp, go_sem, *]
      ·exact (HNb.out wx _ _ (by omega) (hbW.out.trans (hB.mono hbW.out.size))).mono fun e w' ⟨he, m, hm⟩ => ⟨_, he, rfl, hm ▸ ⟨rfl, rfl, rfl, Nat.le_refl _, fun _ _ => rfl⟩⟩
     ·intro ac wx hE hf hd
      have hB : Below wr.heap.size wr wx := ⟨hE.1,hE.2,hE.3,hE.4,hE.5⟩
      rw [if_pos (Inv.want0 rfl _)]
      have h49 := hd 7 _ (by kernel_rfl) rfl
      change ac.eval (.tmp 49) = .int .i64 na at h49
      have h55 := hd 13 _ (by kernel_rfl) rfl
      change ac.eval (.tmp 55) = .int .i64 nb at h55
      clear hf hd
      refine Inv.val ((.agg #[.int .i64 na, .int .i64 nb])) ?_ rfl rfl (Below.refl _ _)
      clear hE hB
      generalize ac.eval = ev at *
      simp [execOp, go_sem, *]
     ·intro ac wx hE hf hd
      have hB : Below wr.heap.size wr wx := ⟨hE.1,hE.2,hE.3,hE.4,hE.5⟩
      rw [if_pos (Inv.want0 rfl _)]
      have h56 := hd 14 _ (by kernel_rfl) rfl
      change ac.eval (.tmp 56) = (.agg #[.int .i64 na, .int .i64 nb]) at h56
      clear hf hd
      refine Inv.val (.slice (some ⟨wx.heap.size, 0, none⟩) 1 1) (w' := wx.alloc (.cells #[.int .i64 na, .int .i64 nb] 56)) ?_ rfl ⟨_, rfl, RowAt.new wx _ _⟩ ((Below.refl _ _).alloc (Nat.le_refl _) _)
      clear hE hB
      generalize ac.eval = ev at *
      simp [execOp, go_sem, *]
    case fin =>
     intro ac wx hE ha hall
     have hB : Below wr.heap.size wr wx := ⟨hE.1,hE.2,hE.3,hE.4,hE.5⟩
     have h42 := hall 0 _ (by decide) rfl
     change ac.eval (.tmp 42) = .pointer (some ⟨w.heap.size + 1, 2, none⟩) at h42
     have h43 := hall 1 _ (by decide) rfl
     change ac.eval (.tmp 43) = .slice A n c at h43
     have h44 := hall 2 _ (by decide) rfl
     change ac.eval (.tmp 44) = .slice (some ⟨b, off, none⟩) L.length cap at h44
     have h45 := hall 3 _ (by decide) rfl
     change ac.eval (.tmp 45) = .int .i64 j at h45
     have h46 := hall 4 _ (by decide) rfl
     change ac.eval (.tmp 46) = .int .i64 q at h46
     have h47 := hall 5 _ (by decide) rfl
     change ac.eval (.tmp 47) = .int .i64 (p4 : Int) at h47
     have h48 := hall 6 _ (by decide) rfl
     change ac.eval (.tmp 48) = .slice (some ⟨b, off + p4, none⟩) (L.length - p4) (cap - p4) at h48
     have h49 := hall 7 _ (by decide) rfl
     change ac.eval (.tmp 49) = .int .i64 na at h49
     have h50 := hall 8 _ (by decide) rfl
     change ac.eval (.tmp 50) = .slice (some ⟨b, off, none⟩) L.length cap at h50
     have h51 := hall 9 _ (by decide) rfl
     change ac.eval (.tmp 51) = .int .i64 j at h51
     have h52 := hall 10 _ (by decide) rfl
     change ac.eval (.tmp 52) = .int .i64 q at h52
     have h53 := hall 11 _ (by decide) rfl
     change ac.eval (.tmp 53) = .int .i64 (p8 : Int) at h53
     have h54 := hall 12 _ (by decide) rfl
     change ac.eval (.tmp 54) = .slice (some ⟨b, off + p8, none⟩) (L.length - p8) (cap - p8) at h54
     have h55 := hall 13 _ (by decide) rfl
     change ac.eval (.tmp 55) = .int .i64 nb at h55
     have h56 := hall 14 _ (by decide) rfl
     change ac.eval (.tmp 56) = (.agg #[.int .i64 na, .int .i64 nb]) at h56
     have h57 := hall 15 _ (by decide) rfl
     change (fun v W => ∃ g : Nat, v = .slice (some ⟨g, 0, none⟩) 1 1 ∧ RowAt W g 56 #[.int .i64 na, .int .i64 nb]) (ac.eval (.tmp 57)) wx at h57
     try dsimp only at h57
     generalize hv57 : ac.eval (.tmp 57) = v57 at *
     simp only [List.take_succ_cons, List.take_zero, List.foldl, Inv.slot, Act.put] at ha
     change ac.tmps.getD 42 undef = _ at h42
     change ac.tmps.getD 43 undef = _ at h43
     change ac.tmps.getD 44 undef = _ at h44
     change ac.tmps.getD 45 undef = _ at h45
     change ac.tmps.getD 46 undef = _ at h46
     change ac.tmps.getD 47 undef = _ at h47
     change ac.tmps.getD 48 undef = _ at h48
     change ac.tmps.getD 49 undef = _ at h49
     change ac.tmps.getD 50 undef = _ at h50
     change ac.tmps.getD 51 undef = _ at h51
     change ac.tmps.getD 52 undef = _ at h52
     change ac.tmps.getD 53 undef = _ at h53
     change ac.tmps.getD 54 undef = _ at h54
     change ac.tmps.getD 55 undef = _ at h55
     change ac.tmps.getD 56 undef = _ at h56
     change ac.tmps.getD 57 undef = _ at hv57
     simp only [h42, h43, h44, h45, h46, h47, h48, h49, h50, h51, h52, h53, h54, h55, h56, hv57, List.setIfInBounds_toArray, List.set_cons_zero, List.set_cons_succ] at ha
     clear h42 h43 h44 h45 h46 h47 h48 h49 h50 h51 h52 h53 h54 h55 h56 hv57 hall hE
     subst ha
     simp only [List.drop_succ_cons, List.drop_zero]
     obtain ⟨g, rfl, hrow⟩ := h57
     have hMx := hM0.out.below hB
     have HMX := Lib.hid hMx
     have HRX : Hid (Rd wx (fun _ => True) (some ⟨g, 0, none⟩) [.int .i64 na, .int .i64 nb]) := Lib.hid (rd_row hrow)
     have hsx := hMx.sz
     have HOX := Lib.hid (HOX0.out wx hMx)
     have HSX := Lib.hid (HSX0.out wx hMx)
     have y2 : wx.cell? ⟨w.heap.size + 1, 2, none⟩ = some (.slice A n c) := hMx.rh.cell 2
     have hgx := hrow.lt
     clear hMx hB hrow
     go_wp2_with (at_builtin; refine wpList_app _ rfl (.tmp 43) (.tmp 57) 22 rfl (w.heap.size + 2) 56 j0 (.agg #[.int .i64 0, .int .i64 0]) 2 16 Tryz.underlying22 HJ.out HY.out.1 HY.out.2.1 HY.out.2.2 rfl (by decide) (.slice A n c) N cs rfl HOX.out (fun _ => True) (some ⟨g, 0, none⟩) 1 1 [.int .i64 na, .int .i64 nb] rfl rfl HRX.out (by simp [Value.oneCell']) (by unfold maxLen; omega) (by omega) hsx ?_; intro v4 w4 hown4 hg4w hat4 hnil4; obtain ⟨A4, n4, c4, rfl⟩ := own_slice hown4; obtain ⟨z2, z3, hM4⟩ := HSX.out w4 _ hg4w hown4; have HM4 := Lib.hid hM4; have hs4 : w.heap.size + 1 < w4.heap.size := Nat.lt_of_lt_of_le (by omega) hg4w.size; clear hown4 hg4w hat4 hnil4 hM4)
     go_roundw
     case rel => exact ⟨j + 1, A4, n4, c4, by omega, by go_num, HM4⟩
     case measure => simp [intOf]; omega
   ·obtain rfl : j = k := by omega
    have own := hM.out.own
    rw [HCK.out] at own
    obtain ⟨A', c', e, hrow⟩ := OwnAr.row own
    injection e with e1 e2 e3
    subst e1 e2 e3
    have HROW := Lib.hid hrow
    have HBW := Lib.hid hM.out.bel
    have r0 : wr.cell? ⟨w.heap.size, 0, none⟩ = some (.int .i64 0) := hM.out.rr.cell 0
    have r1 : wr.cell? ⟨w.heap.size, 1, none⟩ = some (.int .i64 0) := hM.out.rr.cell 1
    have r2 : wr.cell? ⟨w.heap.size, 2, none⟩ = some (.slice none 0 0) := hM.out.rr.cell 2
    have s0 := hM.out.rr.frozen 0
    have s1 := hM.out.rr.frozen 1
    have s2 := hM.out.rr.frozen 2
    have HEE := Lib.hid (HE.out wr A c hrow)
    have HHB := Lib.hid hM.out.rh
    have HRR := Lib.hid hM.out.rr
    have HOWN := Lib.hid own
    clear hM own hrow HN HE HJ HY HM1 HCK
    cases hv : Wh.val (Wh.nm L 0) (Wh.nm L 8) (Wh.cand L)
    ·have HD : Hid (Wh.dok L = false) := Lib.hid (Wh.dok_v hv)
     rw [hv] at HEE
     simp only [Bool.false_eq_true, if_false] at HEE
     clear hv hcl
     go_wp2_with (go_at_call 22; (with_reducible refine HEE.out.mono ?_); rintro e w2 ⟨v2, rfl, ho2, hb2⟩; obtain ⟨hc2, hf2⟩ := bcell hb2; have hs3 : w.heap.size < w2.heap.size := Nat.lt_of_lt_of_le hs2 hb2.size; have hs4 : w.heap.size + 1 < w2.heap.size := Nat.lt_of_lt_of_le hs1 hb2.size; have hr2 := Reads.own ho2; have HR2 := Lib.hid hr2; have HB2 := Lib.hid hb2; obtain ⟨A2, c2, rfl, hcc2, _⟩ := hr2; have q0 := (hc2 w.heap.size 0 hs2).trans r0; have q1 := (hc2 w.heap.size 1 hs2).trans r1; have q2 := (hc2 w.heap.size 2 hs2).trans r2; have z0 := (hc2 (w.heap.size + 1) 0 hs1).trans x0; have z1 := (hc2 (w.heap.size + 1) 1 hs1).trans x1; have z2 := (hc2 (w.heap.size + 1) 2 hs1).trans x2; clear ho2 hb2 hc2)
     go_quiet (fail)
     go_wp2_with fail
     refine bodyPost_ret (v := .tuple #[.agg #[.int .i64 0, .int .i64 0, .slice none 0 0], .int .i64 2]) ?_ rfl (DecodedF.no HD.out rfl ?_)
     ·simp [results, Tryz.results52, go_sem, q0, q1, q2]
     ·exact back_cells (bel_drewN (HBW.out.trans (HB2.out.mono HBW.out.size)) _) _ _ _
    ·have hEl : (Wh.encL L).length = 16 + 12 * j := by unfold Wh.encL Wh.enc; rw [if_pos hv, Wh.fours_len, Wh.ints_len, hcl]; omega
     have HDP := Lib.hid (Wh.dok_p HROK.out hv)
     rw [hv] at HEE
     simp only [if_true] at HEE
     clear hv hcl
     have hE1 : (Wh.encL L).length ≤ L.length := by omega
     have hE2 : ((Wh.encL L).length : Int) ≤ (L.length : Int) := by omega
     have hE3 : (Wh.encL L).length ≤ cap := by omega
     have hE4 : ((Wh.encL L).length : Int) ≤ (cap : Int) := by omega
     have HBR : Hid (∀ W, Below w.heap.size w W → Reads W (.slice (some ⟨b, off, none⟩) (Wh.encL L).length cap) (L.take (Wh.encL L).length)) := Lib.hid fun W hb => Reads.take (by_reads (HBY.out.below hb) hc) hE1
     by_cases hp : L.take (Wh.encL L).length = Wh.encL L
     ·have HD : Hid (Wh.dok L = true) := Lib.hid (by rw [HDP.out]; exact decide_eq_true ⟨hE1, hp⟩)
      rw [hp] at HBR
      clear HDP hp hEl HROK
      generalize hEq : Wh.encL L = E at *
      clear hEq
      go_wp2_with (go_at_call 22; (with_reducible refine HEE.out.mono ?_); rintro e w2 ⟨v2, rfl, ho2, hb2⟩; obtain ⟨hc2, hf2⟩ := bcell hb2; have hs3 : w.heap.size < w2.heap.size := Nat.lt_of_lt_of_le hs2 hb2.size; have hs4 : w.heap.size + 1 < w2.heap.size := Nat.lt_of_lt_of_le hs1 hb2.size; have hr2 := Reads.own ho2; have HR2 := Lib.hid hr2; have HB2 := Lib.hid hb2; obtain ⟨A2, c2, rfl, hcc2, _⟩ := hr2; have q0 := (hc2 w.heap.size 0 hs2).trans r0; have q1 := (hc2 w.heap.size 1 hs2).trans r1; have q2 := (hc2 w.heap.size 2 hs2).trans r2; have z0 := (hc2 (w.heap.size + 1) 0 hs1).trans x0; have z1 := (hc2 (w.heap.size + 1) 1 hs1).trans x1; have z2 := (hc2 (w.heap.size + 1) 2 hs1).trans x2; clear ho2 hb2 hc2)
      have HCV : Hid (∀ W, Below w2.heap.size w2 W → (convert 45 9 (.slice A2 E.length c2)).run Tryz.prog W = .ok (.string ⟨E.toArray⟩) W ∧ (convert 45 9 (.slice (some ⟨b, off, none⟩) E.length cap)).run Tryz.prog W = .ok (.string ⟨E.toArray⟩) W) := Lib.hid fun W hb => ⟨(HR2.out.below hb).conv, (HBR.out W ((HBW.out.trans (HB2.out.mono HBW.out.size)).trans (hb.mono (Nat.le_trans HBW.out.size HB2.out.size)))).conv⟩
      clear q0 q1 q2 z0 z1 z2 hf2
      refine Inv.region (fun W W' => Below W.heap.size W W') (fun i v W => match i with
       | 0 => v = .int .i64 0
       | 1 => v = .bool false
       | 2 => v = .bool false
       | 3 => v = .slice A2 E.length c2
       | 4 => v = (.string ⟨E.toArray⟩)
       | 5 => v = .slice (some ⟨b, off, none⟩) L.length cap
       | 6 => v = .slice A2 E.length c2
       | 7 => v = .int .i64 (E.length : Int)
       | 8 => v = .slice (some ⟨b, off, none⟩) E.length cap
       | 9 => v = (.string ⟨E.toArray⟩)
       | 10 => v = .bool false
       | 11 => v = .bool false
       | _ => True) (by kernel_rfl) (by kernel_rfl) (by kernel_rfl) (fun W => Below.refl _ _) (fun a b c h k => h.trans (k.mono h.size)) (fun i v W W' h he => ?stab) ?obls ?fin
      case stab =>
       match i, h with
       | 0, h => exact h
       | 1, h => exact h
       | 2, h => exact h
       | 3, h => exact h
       | 4, h => exact h
       | 5, h => exact h
       | 6, h => exact h
       | 7, h => exact h
       | 8, h => exact h
       | 9, h => exact h
       | 10, h => exact h
       | 11, h => exact h
       | _ + 12, h => exact h
      case obls =>
       refine .cons ?_ (.cons ?_ (.cons ?_ (.cons ?_ (.cons ?_ (.cons ?_ (.cons ?_ (.cons ?_ (.cons ?_ (.cons ?_ (.cons ?_ (.cons ?_ .nil)))))))))))
       ·intro ac wx hE hf hd
        have hB : Below w2.heap.size w2 wx := ⟨hE.1,hE.2,hE.3,hE.4,hE.5⟩
        rw [if_pos (Inv.want0 rfl _)]
        have h8 : ac.eval (.tmp 8) = .int .i64 0 := hf 8 (by kernel_rfl)
        clear hf hd
        refine Inv.val (.int .i64 0) ?_ rfl rfl (Below.refl _ _)
        clear hE hB
        generalize ac.eval = ev at *
        simp [execOp, go_sem, *]
       ·intro ac wx hE hf hd
        have hB : Below w2.heap.size w2 wx := ⟨hE.1,hE.2,hE.3,hE.4,hE.5⟩
        rw [if_pos (Inv.want0 rfl _)]
        have h65 := hd 0 _ (by kernel_rfl) rfl
        change ac.eval (.tmp 65) = .int .i64 0 at h65
        clear hf hd
        refine Inv.val (.bool false) ?_ rfl rfl (Below.refl _ _)
        clear hE hB
        have hcst : ∀ v, ac.eval (.const v) = v := fun _ => rfl
        generalize ac.eval = ev at *
        simp [execOp, go_sem, *]
       ·intro ac wx hE hf hd
        have hB : Below w2.heap.size w2 wx := ⟨hE.1,hE.2,hE.3,hE.4,hE.5⟩
        rw [if_pos (Inv.want0 rfl _)]
        have h66 := hd 1 _ (by kernel_rfl) rfl
        change ac.eval (.tmp 66) = .bool false at h66
        clear hf hd
        refine Inv.val (.bool false) ?_ rfl rfl (Below.refl _ _)
        clear hE hB
        generalize ac.eval = ev at *
        simp [execOp, go_sem, *]
       ·intro ac wx hE hf hd
        have hB : Below w2.heap.size w2 wx := ⟨hE.1,hE.2,hE.3,hE.4,hE.5⟩
        have hg := hd 2 _ (by kernel_rfl) rfl
        change ac.eval (.tmp 67) = .bool false at hg
        rw [if_pos (Inv.want (j := 2) (b := false) (d := 67) rfl rfl rfl hg)]
        have h7 : ac.eval (.tmp 7) = .slice A2 E.length c2 := hf 7 (by kernel_rfl)
        clear hf hd
        refine Inv.val (.slice A2 E.length c2) ?_ rfl rfl (Below.refl _ _)
        clear hE hB
        generalize ac.eval = ev at *
        simp [execOp, go_sem, *]
       ·intro ac wx hE hf hd
        have hB : Below w2.heap.size w2 wx := ⟨hE.1,hE.2,hE.3,hE.4,hE.5⟩
        have hg := hd 2 _ (by kernel_rfl) rfl
        change ac.eval (.tmp 67) = .bool false at hg
        rw [if_pos (Inv.want (j := 2) (b := false) (d := 67) rfl rfl rfl hg)]
        have h68 := hd 3 _ (by kernel_rfl) rfl
        change ac.eval (.tmp 68) = .slice A2 E.length c2 at h68
        clear hf hd
        obtain ⟨kc1, kc2⟩ := HCV.out wx hB
        refine Inv.val ((.string ⟨E.toArray⟩)) ?_ rfl rfl (Below.refl _ _)
        clear hE hB
        have hcst : ∀ v, ac.eval (.const v) = v := fun _ => rfl
        generalize ac.eval = ev at *
        simp [execOp, go_sem, *]
       ·intro ac wx hE hf hd
        have hB : Below w2.heap.size w2 wx := ⟨hE.1,hE.2,hE.3,hE.4,hE.5⟩
        have hg := hd 2 _ (by kernel_rfl) rfl
        change ac.eval (.tmp 67) = .bool false at hg
        rw [if_pos (Inv.want (j := 2) (b := false) (d := 67) rfl rfl rfl hg)]
        have h0 : ac.eval (.tmp 0) = .slice (some ⟨b, off, none⟩) L.length cap := hf 0 (by kernel_rfl)
        clear hf hd
        refine Inv.val (.slice (some ⟨b, off, none⟩) L.length cap) ?_ rfl rfl (Below.refl _ _)
        clear hE hB
        generalize ac.eval = ev at *
        simp [execOp, go_sem, *]
       ·intro ac wx hE hf hd
        have hB : Below w2.heap.size w2 wx := ⟨hE.1,hE.2,hE.3,hE.4,hE.5⟩
        have hg := hd 2 _ (by kernel_rfl) rfl
        change ac.eval (.tmp 67) = .bool false at hg
        rw [if_pos (Inv.want (j := 2) (b := false) (d := 67) rfl rfl rfl hg)]
        have h7 : ac.eval (.tmp 7) = .slice A2 E.length c2 := hf 7 (by kernel_rfl)
        clear hf hd
        refine Inv.val (.slice A2 E.length c2) ?_ rfl rfl (Below.refl _ _)
        clear hE hB
        generalize ac.eval = ev at *
        simp [execOp, go_sem, *]
       ·intro ac wx hE hf hd
        have hB : Below w2.heap.size w2 wx := ⟨hE.1,hE.2,hE.3,hE.4,hE.5⟩
        have hg := hd 2 _ (by kernel_rfl) rfl
        change ac.eval (.tmp 67) = .bool false at hg
        rw [if_pos (Inv.want (j := 2) (b := false) (d := 67) rfl rfl rfl hg)]
        have h71 := hd 6 _ (by kernel_rfl) rfl
        change ac.eval (.tmp 71) = .slice A2 E.length c2 at h71
        clear hf hd
        refine Inv.val (.int .i64 (E.length : Int)) ?_ rfl rfl (Below.refl _ _)
        clear hE hB
        generalize ac.eval = ev at *
        simp [go_sem, *]
       ·intro ac wx hE hf hd
        have hB : Below w2.heap.size w2 wx := ⟨hE.1,hE.2,hE.3,hE.4,hE.5⟩
        have hg := hd 2 _ (by kernel_rfl) rfl
        change ac.eval (.tmp 67) = .bool false at hg
        rw [if_pos (Inv.want (j := 2) (b := false) (d := 67) rfl rfl rfl hg)]
        have h70 := hd 5 _ (by kernel_rfl) rfl
        change ac.eval (.tmp 70) = .slice (some ⟨b, off, none⟩) L.length cap at h70
        have h72 := hd 7 _ (by kernel_rfl) rfl
        change ac.eval (.tmp 72) = .int .i64 (E.length : Int) at h72
        clear hf hd
        have hsl := slice_to wx b off L.length E.length cap hE1 hc
        refine Inv.val (.slice (some ⟨b, off, none⟩) E.length cap) ?_ rfl rfl (Below.refl _ _)
        clear hE hB hE1 hE2 hE3 hE4
        generalize ac.eval = ev at *
        simp [execOp, go_sem, h70, h72, hsl]
       ·intro ac wx hE hf hd
        have hB : Below w2.heap.size w2 wx := ⟨hE.1,hE.2,hE.3,hE.4,hE.5⟩
        have hg := hd 2 _ (by kernel_rfl) rfl
        change ac.eval (.tmp 67) = .bool false at hg
        rw [if_pos (Inv.want (j := 2) (b := false) (d := 67) rfl rfl rfl hg)]
        have h73 := hd 8 _ (by kernel_rfl) rfl
        change ac.eval (.tmp 73) = .slice (some ⟨b, off, none⟩) E.length cap at h73
        clear hf hd
        obtain ⟨kc1, kc2⟩ := HCV.out wx hB
        refine Inv.val ((.string ⟨E.toArray⟩)) ?_ rfl rfl (Below.refl _ _)
        clear hE hB
        have hcst : ∀ v, ac.eval (.const v) = v := fun _ => rfl
        generalize ac.eval = ev at *
        simp [execOp, go_sem, *]
       ·intro ac wx hE hf hd
        have hB : Below w2.heap.size w2 wx := ⟨hE.1,hE.2,hE.3,hE.4,hE.5⟩
        have hg := hd 2 _ (by kernel_rfl) rfl
        change ac.eval (.tmp 67) = .bool false at hg
        rw [if_pos (Inv.want (j := 2) (b := false) (d := 67) rfl rfl rfl hg)]
        have h69 := hd 4 _ (by kernel_rfl) rfl
        change ac.eval (.tmp 69) = (.string ⟨E.toArray⟩) at h69
        have h74 := hd 9 _ (by kernel_rfl) rfl
        change ac.eval (.tmp 74) = (.string ⟨E.toArray⟩) at h74
        clear hf hd
        refine Inv.val (.bool false) ?_ rfl rfl (Below.refl _ _)
        clear hE hB
        generalize ac.eval = ev at *
        simp [execOp, go_sem, *]
       ·intro ac wx hE hf hd
        have hB : Below w2.heap.size w2 wx := ⟨hE.1,hE.2,hE.3,hE.4,hE.5⟩
        rw [if_pos (Inv.want0 rfl _)]
        have h67 := hd 2 _ (by kernel_rfl) rfl
        change ac.eval (.tmp 67) = .bool false at h67
        have h75 := hd 10 _ (by kernel_rfl) rfl
        change ac.eval (.tmp 75) = .bool false at h75
        clear hf hd
        refine Inv.val (.bool false) ?_ rfl rfl (Below.refl _ _)
        clear hE hB
        have hcst : ∀ v, ac.eval (.const v) = v := fun _ => rfl
        generalize ac.eval = ev at *
        simp [execOp, go_sem, *]
      case fin =>
       intro ac wx hE ha hall
       have hB : Below w2.heap.size w2 wx := ⟨hE.1,hE.2,hE.3,hE.4,hE.5⟩
       have h65 := hall 0 _ rfl
       change ac.eval (.tmp 65) = .int .i64 0 at h65
       have h66 := hall 1 _ rfl
       change ac.eval (.tmp 66) = .bool false at h66
       have h67 := hall 2 _ rfl
       change ac.eval (.tmp 67) = .bool false at h67
       have h68 := hall 3 _ rfl
       change ac.eval (.tmp 68) = .slice A2 E.length c2 at h68
       have h69 := hall 4 _ rfl
       change ac.eval (.tmp 69) = (.string ⟨E.toArray⟩) at h69
       have h70 := hall 5 _ rfl
       change ac.eval (.tmp 70) = .slice (some ⟨b, off, none⟩) L.length cap at h70
       have h71 := hall 6 _ rfl
       change ac.eval (.tmp 71) = .slice A2 E.length c2 at h71
       have h72 := hall 7 _ rfl
       change ac.eval (.tmp 72) = .int .i64 (E.length : Int) at h72
       have h73 := hall 8 _ rfl
       change ac.eval (.tmp 73) = .slice (some ⟨b, off, none⟩) E.length cap at h73
       have h74 := hall 9 _ rfl
       change ac.eval (.tmp 74) = (.string ⟨E.toArray⟩) at h74
       have h75 := hall 10 _ rfl
       change ac.eval (.tmp 75) = .bool false at h75
       have h76 := hall 11 _ rfl
       change ac.eval (.tmp 76) = .bool false at h76
       simp only [List.foldl, Inv.slot, Act.put] at ha
       change ac.tmps.getD 65 undef = _ at h65
       change ac.tmps.getD 66 undef = _ at h66
       change ac.tmps.getD 67 undef = _ at h67
       change ac.tmps.getD 68 undef = _ at h68
       change ac.tmps.getD 69 undef = _ at h69
       change ac.tmps.getD 70 undef = _ at h70
       change ac.tmps.getD 71 undef = _ at h71
       change ac.tmps.getD 72 undef = _ at h72
       change ac.tmps.getD 73 undef = _ at h73
       change ac.tmps.getD 74 undef = _ at h74
       change ac.tmps.getD 75 undef = _ at h75
       change ac.tmps.getD 76 undef = _ at h76
       simp only [h65, h66, h67, h68, h69, h70, h71, h72, h73, h74, h75, h76, List.setIfInBounds_toArray, List.set_cons_zero, List.set_cons_succ] at ha
       clear h65 h66 h67 h68 h69 h70 h71 h72 h73 h74 h75 h76 hall hE
       subst ha
       have RR := ((HRR.out.below HB2.out hs2).below hB hs3)
       have RH := ((HHB.out.below HB2.out hs1).below hB hs4)
       have q0 : wx.cell? ⟨w.heap.size, 0, none⟩ = some (.int .i64 0) := RR.cell 0
       have q1 : wx.cell? ⟨w.heap.size, 1, none⟩ = some (.int .i64 0) := RR.cell 1
       have q2 : wx.cell? ⟨w.heap.size, 2, none⟩ = some (.slice none 0 0) := RR.cell 2
       have q3 := RR.frozen 0
       have q4 := RR.frozen 1
       have q5 := RR.frozen 2
       have z0 : wx.cell? ⟨w.heap.size + 1, 0, none⟩ = some (.int .i64 (Wh.nm L 0)) := RH.cell 0
       have z1 : wx.cell? ⟨w.heap.size + 1, 1, none⟩ = some (.int .i64 (Wh.nm L 8)) := RH.cell 1
       have z2 : wx.cell? ⟨w.heap.size + 1, 2, none⟩ = some (.slice A (Wh.cand L).length c) := RH.cell 2
       have hxz : w.heap.size < wx.heap.size := Nat.lt_of_lt_of_le hs3 hB.size
       have hxz1 : w.heap.size + 1 < wx.heap.size := Nat.lt_of_lt_of_le hs4 hB.size
       have HBX := Lib.hid ((HBW.out.trans (HB2.out.mono HBW.out.size)).trans (hB.mono (Nat.le_trans HBW.out.size HB2.out.size)))
       have HROX := Lib.hid ((HOWN.out.keep fun g _ hg => HB2.out.block g hg).keep fun g _ hg => hB.block g hg)
       clear RR RH hB
       go_wp2_with fail
       refine bodyPost_ret (v := .tuple #[.agg #[.int .i64 (Wh.nm L 0), .int .i64 (Wh.nm L 8), .slice A (Wh.cand L).length c], .int .i64 0]) ?_ rfl (DecodedF.yes' HD.out rfl ?_ ?_ (own_fresh HROX.out (by omega)))
       ·simp [results, Tryz.results52, go_sem, q0, q1, q2]
       ·exact row_back HROX.out _ _ _
       ·exact back_cells HBX.out _ _ _
     ·have HD : Hid (Wh.dok L = false) := Lib.hid (by rw [HDP.out]; exact decide_eq_false fun h => hp h.2)
      have hbe : (Wh.encL L == L.take (Wh.encL L).length) = false := by simpa using fun e => hp e.symm
      clear HDP hp hEl HROK
      generalize L.take (Wh.encL L).length = F at *
      generalize hEq : Wh.encL L = E at *
      clear hEq
      go_wp2_with (go_at_call 22; (with_reducible refine HEE.out.mono ?_); rintro e w2 ⟨v2, rfl, ho2, hb2⟩; obtain ⟨hc2, hf2⟩ := bcell hb2; have hs3 : w.heap.size < w2.heap.size := Nat.lt_of_lt_of_le hs2 hb2.size; have hs4 : w.heap.size + 1 < w2.heap.size := Nat.lt_of_lt_of_le hs1 hb2.size; have hr2 := Reads.own ho2; have HR2 := Lib.hid hr2; have HB2 := Lib.hid hb2; obtain ⟨A2, c2, rfl, hcc2, _⟩ := hr2; have q0 := (hc2 w.heap.size 0 hs2).trans r0; have q1 := (hc2 w.heap.size 1 hs2).trans r1; have q2 := (hc2 w.heap.size 2 hs2).trans r2; have z0 := (hc2 (w.heap.size + 1) 0 hs1).trans x0; have z1 := (hc2 (w.heap.size + 1) 1 hs1).trans x1; have z2 := (hc2 (w.heap.size + 1) 2 hs1).trans x2; clear ho2 hb2 hc2)
      have HCV : Hid (∀ W, Below w2.heap.size w2 W → (convert 45 9 (.slice A2 E.length c2)).run Tryz.prog W = .ok (.string ⟨E.toArray⟩) W ∧ (convert 45 9 (.slice (some ⟨b, off, none⟩) E.length cap)).run Tryz.prog W = .ok (.string ⟨F.toArray⟩) W) := Lib.hid fun W hb => ⟨(HR2.out.below hb).conv, (HBR.out W ((HBW.out.trans (HB2.out.mono HBW.out.size)).trans (hb.mono (Nat.le_trans HBW.out.size HB2.out.size)))).conv⟩
      clear q0 q1 q2 z0 z1 z2 hf2
      refine Inv.region (fun W W' => Below W.heap.size W W') (fun i v W => match i with
       | 0 => v = .int .i64 0
       | 1 => v = .bool false
       | 2 => v = .bool false
       | 3 => v = .slice A2 E.length c2
       | 4 => v = (.string ⟨E.toArray⟩)
       | 5 => v = .slice (some ⟨b, off, none⟩) L.length cap
       | 6 => v = .slice A2 E.length c2
       | 7 => v = .int .i64 (E.length : Int)
       | 8 => v = .slice (some ⟨b, off, none⟩) E.length cap
       | 9 => v = (.string ⟨F.toArray⟩)
       | 10 => v = .bool true
       | 11 => v = .bool true
       | _ => True) (by kernel_rfl) (by kernel_rfl) (by kernel_rfl) (fun W => Below.refl _ _) (fun a b c h k => h.trans (k.mono h.size)) (fun i v W W' h he => ?stab) ?obls ?fin
      case stab =>
       match i, h with
       | 0, h => exact h
       | 1, h => exact h
       | 2, h => exact h
       | 3, h => exact h
       | 4, h => exact h
       | 5, h => exact h
       | 6, h => exact h
       | 7, h => exact h
       | 8, h => exact h
       | 9, h => exact h
       | 10, h => exact h
       | 11, h => exact h
       | _ + 12, h => exact h
      case obls =>
       refine .cons ?_ (.cons ?_ (.cons ?_ (.cons ?_ (.cons ?_ (.cons ?_ (.cons ?_ (.cons ?_ (.cons ?_ (.cons ?_ (.cons ?_ (.cons ?_ .nil)))))))))))
       ·intro ac wx hE hf hd
        have hB : Below w2.heap.size w2 wx := ⟨hE.1,hE.2,hE.3,hE.4,hE.5⟩
        rw [if_pos (Inv.want0 rfl _)]
        have h8 : ac.eval (.tmp 8) = .int .i64 0 := hf 8 (by kernel_rfl)
        clear hf hd
        refine Inv.val (.int .i64 0) ?_ rfl rfl (Below.refl _ _)
        clear hE hB
        generalize ac.eval = ev at *
        simp [execOp, go_sem, *]
       ·intro ac wx hE hf hd
        have hB : Below w2.heap.size w2 wx := ⟨hE.1,hE.2,hE.3,hE.4,hE.5⟩
        rw [if_pos (Inv.want0 rfl _)]
        have h65 := hd 0 _ (by kernel_rfl) rfl
        change ac.eval (.tmp 65) = .int .i64 0 at h65
        clear hf hd
        refine Inv.val (.bool false) ?_ rfl rfl (Below.refl _ _)
        clear hE hB
        have hcst : ∀ v, ac.eval (.const v) = v := fun _ => rfl
        generalize ac.eval = ev at *
        simp [execOp, go_sem, *]
       ·intro ac wx hE hf hd
        have hB : Below w2.heap.size w2 wx := ⟨hE.1,hE.2,hE.3,hE.4,hE.5⟩
        rw [if_pos (Inv.want0 rfl _)]
        have h66 := hd 1 _ (by kernel_rfl) rfl
        change ac.eval (.tmp 66) = .bool false at h66
        clear hf hd
        refine Inv.val (.bool false) ?_ rfl rfl (Below.refl _ _)
        clear hE hB
        generalize ac.eval = ev at *
        simp [execOp, go_sem, *]
       ·intro ac wx hE hf hd
        have hB : Below w2.heap.size w2 wx := ⟨hE.1,hE.2,hE.3,hE.4,hE.5⟩
        have hg := hd 2 _ (by kernel_rfl) rfl
        change ac.eval (.tmp 67) = .bool false at hg
        rw [if_pos (Inv.want (j := 2) (b := false) (d := 67) rfl rfl rfl hg)]
        have h7 : ac.eval (.tmp 7) = .slice A2 E.length c2 := hf 7 (by kernel_rfl)
        clear hf hd
        refine Inv.val (.slice A2 E.length c2) ?_ rfl rfl (Below.refl _ _)
        clear hE hB
        generalize ac.eval = ev at *
        simp [execOp, go_sem, *]
       ·intro ac wx hE hf hd
        have hB : Below w2.heap.size w2 wx := ⟨hE.1,hE.2,hE.3,hE.4,hE.5⟩
        have hg := hd 2 _ (by kernel_rfl) rfl
        change ac.eval (.tmp 67) = .bool false at hg
        rw [if_pos (Inv.want (j := 2) (b := false) (d := 67) rfl rfl rfl hg)]
        have h68 := hd 3 _ (by kernel_rfl) rfl
        change ac.eval (.tmp 68) = .slice A2 E.length c2 at h68
        clear hf hd
        obtain ⟨kc1, kc2⟩ := HCV.out wx hB
        refine Inv.val ((.string ⟨E.toArray⟩)) ?_ rfl rfl (Below.refl _ _)
        clear hE hB
        have hcst : ∀ v, ac.eval (.const v) = v := fun _ => rfl
        generalize ac.eval = ev at *
        simp [execOp, go_sem, *]
       ·intro ac wx hE hf hd
        have hB : Below w2.heap.size w2 wx := ⟨hE.1,hE.2,hE.3,hE.4,hE.5⟩
        have hg := hd 2 _ (by kernel_rfl) rfl
        change ac.eval (.tmp 67) = .bool false at hg
        rw [if_pos (Inv.want (j := 2) (b := false) (d := 67) rfl rfl rfl hg)]
        have h0 : ac.eval (.tmp 0) = .slice (some ⟨b, off, none⟩) L.length cap := hf 0 (by kernel_rfl)
        clear hf hd
        refine Inv.val (.slice (some ⟨b, off, none⟩) L.length cap) ?_ rfl rfl (Below.refl _ _)
        clear hE hB
        generalize ac.eval = ev at *
        simp [execOp, go_sem, *]
       ·intro ac wx hE hf hd
        have hB : Below w2.heap.size w2 wx := ⟨hE.1,hE.2,hE.3,hE.4,hE.5⟩
        have hg := hd 2 _ (by kernel_rfl) rfl
        change ac.eval (.tmp 67) = .bool false at hg
        rw [if_pos (Inv.want (j := 2) (b := false) (d := 67) rfl rfl rfl hg)]
        have h7 : ac.eval (.tmp 7) = .slice A2 E.length c2 := hf 7 (by kernel_rfl)
        clear hf hd
        refine Inv.val (.slice A2 E.length c2) ?_ rfl rfl (Below.refl _ _)
        clear hE hB
        generalize ac.eval = ev at *
        simp [execOp, go_sem, *]
       ·intro ac wx hE hf hd
        have hB : Below w2.heap.size w2 wx := ⟨hE.1,hE.2,hE.3,hE.4,hE.5⟩
        have hg := hd 2 _ (by kernel_rfl) rfl
        change ac.eval (.tmp 67) = .bool false at hg
        rw [if_pos (Inv.want (j := 2) (b := false) (d := 67) rfl rfl rfl hg)]
        have h71 := hd 6 _ (by kernel_rfl) rfl
        change ac.eval (.tmp 71) = .slice A2 E.length c2 at h71
        clear hf hd
        refine Inv.val (.int .i64 (E.length : Int)) ?_ rfl rfl (Below.refl _ _)
        clear hE hB
        generalize ac.eval = ev at *
        simp [go_sem, *]
       ·intro ac wx hE hf hd
        have hB : Below w2.heap.size w2 wx := ⟨hE.1,hE.2,hE.3,hE.4,hE.5⟩
        have hg := hd 2 _ (by kernel_rfl) rfl
        change ac.eval (.tmp 67) = .bool false at hg
        rw [if_pos (Inv.want (j := 2) (b := false) (d := 67) rfl rfl rfl hg)]
        have h70 := hd 5 _ (by kernel_rfl) rfl
        change ac.eval (.tmp 70) = .slice (some ⟨b, off, none⟩) L.length cap at h70
        have h72 := hd 7 _ (by kernel_rfl) rfl
        change ac.eval (.tmp 72) = .int .i64 (E.length : Int) at h72
        clear hf hd
        have hsl := slice_to wx b off L.length E.length cap hE1 hc
        refine Inv.val (.slice (some ⟨b, off, none⟩) E.length cap) ?_ rfl rfl (Below.refl _ _)
        clear hE hB hE1 hE2 hE3 hE4
        generalize ac.eval = ev at *
        simp [execOp, go_sem, h70, h72, hsl]
       ·intro ac wx hE hf hd
        have hB : Below w2.heap.size w2 wx := ⟨hE.1,hE.2,hE.3,hE.4,hE.5⟩
        have hg := hd 2 _ (by kernel_rfl) rfl
        change ac.eval (.tmp 67) = .bool false at hg
        rw [if_pos (Inv.want (j := 2) (b := false) (d := 67) rfl rfl rfl hg)]
        have h73 := hd 8 _ (by kernel_rfl) rfl
        change ac.eval (.tmp 73) = .slice (some ⟨b, off, none⟩) E.length cap at h73
        clear hf hd
        obtain ⟨kc1, kc2⟩ := HCV.out wx hB
        refine Inv.val ((.string ⟨F.toArray⟩)) ?_ rfl rfl (Below.refl _ _)
        clear hE hB
        have hcst : ∀ v, ac.eval (.const v) = v := fun _ => rfl
        generalize ac.eval = ev at *
        simp [execOp, go_sem, *]
       ·intro ac wx hE hf hd
        have hB : Below w2.heap.size w2 wx := ⟨hE.1,hE.2,hE.3,hE.4,hE.5⟩
        have hg := hd 2 _ (by kernel_rfl) rfl
        change ac.eval (.tmp 67) = .bool false at hg
        rw [if_pos (Inv.want (j := 2) (b := false) (d := 67) rfl rfl rfl hg)]
        have h69 := hd 4 _ (by kernel_rfl) rfl
        change ac.eval (.tmp 69) = (.string ⟨E.toArray⟩) at h69
        have h74 := hd 9 _ (by kernel_rfl) rfl
        change ac.eval (.tmp 74) = (.string ⟨F.toArray⟩) at h74
        clear hf hd
        refine Inv.val (.bool true) ?_ rfl rfl (Below.refl _ _)
        clear hE hB
        generalize ac.eval = ev at *
        simp [execOp, go_sem, *]
       ·intro ac wx hE hf hd
        have hB : Below w2.heap.size w2 wx := ⟨hE.1,hE.2,hE.3,hE.4,hE.5⟩
        rw [if_pos (Inv.want0 rfl _)]
        have h67 := hd 2 _ (by kernel_rfl) rfl
        change ac.eval (.tmp 67) = .bool false at h67
        have h75 := hd 10 _ (by kernel_rfl) rfl
        change ac.eval (.tmp 75) = .bool true at h75
        clear hf hd
        refine Inv.val (.bool true) ?_ rfl rfl (Below.refl _ _)
        clear hE hB
        have hcst : ∀ v, ac.eval (.const v) = v := fun _ => rfl
        generalize ac.eval = ev at *
        simp [execOp, go_sem, *]
      case fin =>
       intro ac wx hE ha hall
       have hB : Below w2.heap.size w2 wx := ⟨hE.1,hE.2,hE.3,hE.4,hE.5⟩
       have h65 := hall 0 _ rfl
       change ac.eval (.tmp 65) = .int .i64 0 at h65
       have h66 := hall 1 _ rfl
       change ac.eval (.tmp 66) = .bool false at h66
       have h67 := hall 2 _ rfl
       change ac.eval (.tmp 67) = .bool false at h67
       have h68 := hall 3 _ rfl
       change ac.eval (.tmp 68) = .slice A2 E.length c2 at h68
       have h69 := hall 4 _ rfl
       change ac.eval (.tmp 69) = (.string ⟨E.toArray⟩) at h69
       have h70 := hall 5 _ rfl
       change ac.eval (.tmp 70) = .slice (some ⟨b, off, none⟩) L.length cap at h70
       have h71 := hall 6 _ rfl
       change ac.eval (.tmp 71) = .slice A2 E.length c2 at h71
       have h72 := hall 7 _ rfl
       change ac.eval (.tmp 72) = .int .i64 (E.length : Int) at h72
       have h73 := hall 8 _ rfl
       change ac.eval (.tmp 73) = .slice (some ⟨b, off, none⟩) E.length cap at h73
       have h74 := hall 9 _ rfl
       change ac.eval (.tmp 74) = (.string ⟨F.toArray⟩) at h74
       have h75 := hall 10 _ rfl
       change ac.eval (.tmp 75) = .bool true at h75
       have h76 := hall 11 _ rfl
       change ac.eval (.tmp 76) = .bool true at h76
       simp only [List.foldl, Inv.slot, Act.put] at ha
       change ac.tmps.getD 65 undef = _ at h65
       change ac.tmps.getD 66 undef = _ at h66
       change ac.tmps.getD 67 undef = _ at h67
       change ac.tmps.getD 68 undef = _ at h68
       change ac.tmps.getD 69 undef = _ at h69
       change ac.tmps.getD 70 undef = _ at h70
       change ac.tmps.getD 71 undef = _ at h71
       change ac.tmps.getD 72 undef = _ at h72
       change ac.tmps.getD 73 undef = _ at h73
       change ac.tmps.getD 74 undef = _ at h74
       change ac.tmps.getD 75 undef = _ at h75
       change ac.tmps.getD 76 undef = _ at h76
       simp only [h65, h66, h67, h68, h69, h70, h71, h72, h73, h74, h75, h76, List.setIfInBounds_toArray, List.set_cons_zero, List.set_cons_succ] at ha
       clear h65 h66 h67 h68 h69 h70 h71 h72 h73 h74 h75 h76 hall hE
       subst ha
       have RR := ((HRR.out.below HB2.out hs2).below hB hs3)
       have RH := ((HHB.out.below HB2.out hs1).below hB hs4)
       have q0 : wx.cell? ⟨w.heap.size, 0, none⟩ = some (.int .i64 0) := RR.cell 0
       have q1 : wx.cell? ⟨w.heap.size, 1, none⟩ = some (.int .i64 0) := RR.cell 1
       have q2 : wx.cell? ⟨w.heap.size, 2, none⟩ = some (.slice none 0 0) := RR.cell 2
       have q3 := RR.frozen 0
       have q4 := RR.frozen 1
       have q5 := RR.frozen 2
       have z0 : wx.cell? ⟨w.heap.size + 1, 0, none⟩ = some (.int .i64 (Wh.nm L 0)) := RH.cell 0
       have z1 : wx.cell? ⟨w.heap.size + 1, 1, none⟩ = some (.int .i64 (Wh.nm L 8)) := RH.cell 1
       have z2 : wx.cell? ⟨w.heap.size + 1, 2, none⟩ = some (.slice A (Wh.cand L).length c) := RH.cell 2
       have hxz : w.heap.size < wx.heap.size := Nat.lt_of_lt_of_le hs3 hB.size
       have hxz1 : w.heap.size + 1 < wx.heap.size := Nat.lt_of_lt_of_le hs4 hB.size
       have HBX := Lib.hid ((HBW.out.trans (HB2.out.mono HBW.out.size)).trans (hB.mono (Nat.le_trans HBW.out.size HB2.out.size)))
       have HROX := Lib.hid ((HOWN.out.keep fun g _ hg => HB2.out.block g hg).keep fun g _ hg => hB.block g hg)
       clear RR RH hB
       go_wp2_with fail
       refine bodyPost_ret (v := .tuple #[.agg #[.int .i64 0, .int .i64 0, .slice none 0 0], .int .i64 2]) ?_ rfl (DecodedF.no HD.out rfl ?_)
       ·simp [results, Tryz.results52, go_sem, q0, q1, q2]
       ·exact back_cells HBX.out _ _ _
end
end Go.Proofs.YtljlanhpjpjgaaaGreatDoor
