/-
  CHAPTER 12, LAWS: the document's program of an expression (of).
-/
import Derived.Test.YtedppnejkjcplaaRcCom
import Derived.RegionTactic
import Derived.Deep.RegionLaw
namespace Go.Proofs.Ytedppnejkjcplaa
open Go.RowKit Go.Sort
open Me
open Pk

namespace Rc
open Rx (In)
/-- What of hands back. -/
def ofP (s : List UInt8) : Nat × List In × Bool := match compile s with
  | .error _ => (0, [], false)
  | .ok (g, L) => (g, L, true)
structure Fine (g : Nat) (L : List In) : Prop where
  len : L.length ≤ 1024
  g : g ≤ 4096
  p : ∀ x ∈ L, x.p.length ≤ 512
def ComU (s : List UInt8) (W : World) (e : Ending) (W' : World) : Prop := ∃ (g : Nat) (L : List In) (A : Option Addr) (c : Nat) (er : Int), e = .returned (.tuple #[.agg #[.int .i64 (g : Int), .slice A L.length c], .int .i64 er]) ∧ Below W.heap.size W W' ∧ Rd W' (fun i => W.heap.size ≤ i) A (icells L) ∧ Fine g L ∧ (Sm s → ofP s = (g, L, decide (er = 0)))
theorem ComR.uni {s : List UInt8} {W W' : World} {e : Ending} (h : ComR s W e W') : ComU s W e W' := by
  obtain ⟨res, h1, h2, h3⟩ := h
  cases res with
  | error er =>
    obtain ⟨h4, rfl⟩ := h3
    refine ⟨0, [], none, 0, er, rfl, h2, Rd.none_ _ _ _, ⟨Nat.zero_le _, Nat.zero_le _, fun x hx => by cases hx⟩, fun hs => ?_⟩
    unfold ofP
    rw [← h1 hs]
    simp [h4]
  | ok y =>
    obtain ⟨g, L⟩ := y
    obtain ⟨A, c, rfl, h4, h5, h6, h7⟩ := h3
    refine ⟨g, L, A, c, 0, rfl, h2, h4, ⟨h5, h6, h7⟩, fun hs => ?_⟩
    unfold ofP
    rw [← h1 hs]
    simp
def OfR (s : List UInt8) (W : World) (e : Ending) (W' : World) : Prop := ∃ (g : Nat) (L : List In) (A : Option Addr) (c : Nat) (ok : Bool), e = .returned (.tuple #[.agg #[.int .i64 (g : Int), .slice A L.length c], .bool ok]) ∧ Below W.heap.size W W' ∧ Rd W' (fun i => W.heap.size ≤ i) A (icells L) ∧ Fine g L ∧ (Sm s → ofP s = (g, L, ok))
theorem rinst_info : (Try.prog.info? 41).map (fun i => (i.zero, i.size, i.bytes)) = some (some (.agg #[.int .i64 0, .int .i64 0, .int .i64 0, .string ⟨#[]⟩]), 4, 40) := by kernel_rfl
end Rc

set_option maxRecDepth 100000 in
set_option maxHeartbeats 8000000 in
theorem of_any {S : List UInt8 → Prop} (hSC : Rc.SetC S) {W : World} {s : List UInt8} (hS : S s) (hl : s.length ≤ 4096) :
    Calls Try.prog 11 #[.string ⟨s.toArray⟩] W (Rc.OfR s W) := by
  obtain ⟨i0, hi0, hz0, hz1, hz2⟩ := info_parts Rc.rinst_info
  have HI := Lib.hid hi0
  have HZ := Lib.hid (And.intro hz0 (And.intro hz1 hz2))
  clear hi0 hz0 hz1 hz2
  obtain ⟨rb, hrb⟩ : ∃ rb, rb = W.heap.size := ⟨_, rfl⟩
  obtain ⟨W0, hW0⟩ : ∃ W0, W0 = W.alloc (.cells #[.int .i64 0, .slice none 0 0] 24) := ⟨_, rfl⟩
  have HB0 : Hid (Below W.heap.size W W0) := Lib.hid (by rw [hW0]; exact (Below.refl _ _).alloc (Nat.le_refl _) _)
  have HRR : Hid (RowAt W0 rb 24 #[.int .i64 0, .slice none 0 0]) := Lib.hid (by rw [hW0, hrb]; exact RowAt.new W _ _)
  have HC := Lib.hid ((refCompile_any hSC (W := W0) hS hl).mono fun e W' h => Rc.ComR.uni h)
  have HRB := Lib.hid hrb
  have hs0 : W0.heap.size = rb + 1 := by rw [hW0, hrb]; simp
  clear hSC hS hl
  go_enter Try.func11, Try.ntmps11
  go_wp2_with fail
  rw [← hW0, ← hrb]
  clear hW0 hrb
  go_at_call 29
  refine HC.out.mono ?_
  rintro e w1 ⟨g, L, A, c, er, rfl, hb1, hr1, hf1, hq1⟩
  obtain ⟨q, hq⟩ : ∃ q, q = w1.heap.size := ⟨_, rfl⟩
  have hqb : rb < q := by have := hb1.size; omega
  have HF := Lib.hid hf1
  have HQ := Lib.hid hq1
  have hL : L.length ≤ 1024 := hf1.len
  have HRW : Hid (RowAt w1 rb 24 #[.int .i64 0, .slice none 0 0]) := Lib.hid (HRR.out.below hb1 (by omega))
  have HB1 : Hid (Below W.heap.size W w1) := Lib.hid (HB0.out.trans (hb1.mono HB0.out.size))
  obtain ⟨wb, hwb⟩ : ∃ wb, wb = (w1.alloc (.cells #[.int .i64 (g : Int), .slice A L.length c] 34)).alloc (.cells #[.int .i64 (g : Int), .slice none 0 0] 24) := ⟨_, rfl⟩
  have HP : Hid (Rd wb (fun i => W0.heap.size ≤ i ∧ i < q) A (icells L)) := Lib.hid fun hn => by
    obtain ⟨ad, e, h1, h2, h3⟩ := hr1 hn
    rw [hwb]
    refine ⟨ad, e, by simp; omega, ⟨h2, by omega⟩, fun j u hu => ?_⟩
    exact (World.cell?_of_block (by rw [Me.block_add]; exact (Below.heap_alloc _ _ _ (by simp; omega)).trans (Below.heap_alloc _ _ _ h1))).trans (h3 j u hu)
  have HW1 : Hid (RowAt wb q 34 #[.int .i64 (g : Int), .slice A L.length c]) := Lib.hid (by rw [hwb, hq]; exact (RowAt.new w1 _ _).alloc _)
  have HW2 : Hid (RowAt wb (q + 1) 24 #[.int .i64 (g : Int), .slice none 0 0]) := Lib.hid (by rw [hwb, hq]; exact RowAt.new' (by simp))
  have HRX : Hid (RowAt wb rb 24 #[.int .i64 0, .slice none 0 0]) := Lib.hid (by rw [hwb]; exact (HRW.out.alloc _).alloc _)
  have HBW : Hid (Below W.heap.size W wb) := Lib.hid (by rw [hwb]; exact (HB1.out.alloc (by have := HB1.out.size; omega) _).alloc (by have := HB1.out.size; simp; omega) _)
  have hws : wb.heap.size = q + 2 := by rw [hwb, hq]; simp
  have HWS := Lib.hid hws
  clear hb1 hr1 hf1 hq1
  go_wp2_with fail
  rw [← hwb, ← hq]
  clear hwb hq
  go_loopw [7] (fun x wr => ∃ i : Nat, x = .int .i64 (i : Int) ∧ i ≤ L.length ∧ Hid (Below (q + 1) wb wr) ∧ Hid (∃ A2 c2, RowAt wr (q + 1) 24 #[.int .i64 (g : Int), .slice A2 i c2] ∧ wr.ownsRow (q + 2) 41 4 (.slice A2 i c2) i (icells (L.take i)))) (fun x _ => L.length - (intOf x).toNat)
  case atStart => exact ⟨0, rfl, Nat.zero_le _, Lib.hid (Below.refl _ _), Lib.hid ⟨none, 0, HW2.out, by simp [icells], .inl ⟨rfl, rfl⟩⟩⟩
  case round =>
    obtain ⟨i, rfl, hi, HB, H1⟩ := hrel
    obtain ⟨A2, c2, hq, ho⟩ := H1.out
    clear H1
    have hw2 := HW2.out.lt
    have hsr := HB.out.size
    have e1 : wr.cell? ⟨q, 1, none⟩ = some (.slice A L.length c) := (HB.out.cell (p := ⟨q, 1, none⟩) (by show q < q + 1; omega)).trans ((HW1.out.cell 1).trans rfl)
    have q1 : wr.cell? ⟨q + 1, 1, none⟩ = some (.slice A2 i c2) := (hq.cell 1).trans rfl
    have q0 : wr.cell? ⟨q + 1, 0, none⟩ = some (.int .i64 (g : Int)) := (hq.cell 0).trans rfl
    have qf := hq.frozen 1
    have ql := hq.lt
    have HQW := Lib.hid hq
    have HO := Lib.hid ho
    by_cases hlt : i < L.length
    · have hltI : (i : Int) < (L.length : Int) := by omega
      have hi0 : (0 : Int) ≤ (i : Int) := by omega
      obtain ⟨x, hx⟩ : ∃ x, L[i] = x := ⟨_, rfl⟩
      have hfx : Pk.fetch L (i : Int) = some x := by unfold Pk.fetch; rw [if_pos hi0, Int.toNat_natCast, List.getElem?_eq_getElem hlt, hx]
      have hpw : Rd wr (fun j => j < q) A (icells L) := (HP.out.mono fun i _ hi => hi.2).keep HB.out.size fun j _ hj => HB.out.block j (by have hj : j < q := hj; omega)
      obtain ⟨ib, io, hA, hil, j0, j1, j2, j3, hib⟩ := Pk.prog_cells2 hpw hfx
      have hib : ib < q := hib
      have hibq : ¬ q + 1 = ib := by omega
      rw [Int.toNat_natCast] at j0 j1 j2 j3
      clear hpw
      subst hA
      obtain ⟨xop, xx, xy, xp⟩ := x
      have hlen : i + 1 ≤ maxLen := by unfold maxLen; omega
      have HOA : Hid ((wr.alloc (.cells #[.int .i64 xop, .int .i64 xx, .int .i64 xy, .string ⟨xp.toArray⟩] 41)).ownsRow (q + 2) 41 4 (.slice A2 i c2) i (icells (L.take i))) := Lib.hid (ho.alloc _)
      have HRD : Hid (Rd (wr.alloc (.cells #[.int .i64 xop, .int .i64 xx, .int .i64 xy, .string ⟨xp.toArray⟩] 41)) (fun b => b = wr.heap.size) (some ⟨wr.heap.size, 0, none⟩) [.int .i64 xop, .int .i64 xx, .int .i64 xy, .string ⟨xp.toArray⟩]) := Lib.hid (Rd.fresh wr [.int .i64 xop, .int .i64 xx, .int .i64 xy, .string ⟨xp.toArray⟩] 41 _ rfl)
      have HNE : Hid (∀ b, (Value.slice A2 i c2).ownBlock = some b → q + 2 ≤ b ∧ b < wr.heap.size) := Lib.hid fun b hb => World.ownsRow.lt ho b hb
      have HTK : Hid (icells (L.take (i + 1)) = icells (L.take i) ++ [.int .i64 xop, .int .i64 xx, .int .i64 xy, .string ⟨xp.toArray⟩]) := Lib.hid (by
        rw [List.take_add_one, List.getElem?_eq_getElem hlt, hx]
        unfold icells
        rw [List.flatMap_append]
        rfl)
      clear hq ho hx hfx
      go_wp2_with fail
      go_region_law (refine step_app _ rfl (.tmp 24) (.tmp 30) 22 rfl (q + 2) 41 i0 _ 4 40 Try.underlying22 HI.out HZ.out.1 HZ.out.2.1 HZ.out.2.2 rfl (by decide) (.slice A2 i c2) i (icells (L.take i)) (by simp [Act.eval]) HOA.out (fun b => b = wr.heap.size) (some ⟨wr.heap.size, 0, none⟩) 1 1 [.int .i64 xop, .int .i64 xx, .int .i64 xy, .string ⟨xp.toArray⟩] (by simp [Act.eval]) (by simp) HRD.out (by intro u hu; simp at hu; rcases hu with rfl | rfl | rfl | rfl <;> rfl) hlen (by omega) (by simp; omega) ?_; intro v2 w2 hown2 hg2 hat2 hnil2; have d0' : w2.cell? ⟨q + 1, 1, none⟩ = some (.slice A2 i c2) := (hg2.cell_far ⟨q + 1, 1, none⟩ (by show q + 1 < _; simp; omega) (fun e => by have := (HNE.out (q + 1) e.symm).1; omega)).trans ((World.cell?_alloc_lt _ _ _ ql).trans q1); have df' : w2.frozen? ⟨q + 1, 1, none⟩ = false := (hg2.frozen_far ⟨q + 1, 1, none⟩ (by show q + 1 < _; simp; omega) (fun e => by have := (HNE.out (q + 1) e.symm).1; omega)).trans ((World.frozen?_of_block (Below.heap_alloc _ _ (q + 1) ql)).trans qf); have HO2 := Lib.hid hown2; have HG2 : Hid (World.grownBy (wr.alloc (.cells #[.int .i64 xop, .int .i64 xx, .int .i64 xy, .string ⟨xp.toArray⟩] 41)) w2 (Value.slice A2 i c2).ownBlock) := Lib.hid ⟨hg2.os, hg2.tape, hg2.output, hg2.size, hg2.block⟩; obtain ⟨A3, c3, rfl⟩ := own_form hown2; clear hown2 hg2 hat2 hnil2)
      all_goals
        try go_simp
        have hrow2 : RowAt (w2.setCell ⟨q + 1, 1, none⟩ (.slice A3 (i + 1) c3)) (q + 1) 24 #[.int .i64 (g : Int), .slice A3 (i + 1) c3] := by
          have h1 : RowAt w2 (q + 1) 24 #[.int .i64 (g : Int), .slice A2 i c2] := (HG2.out.block (q + 1) (by simp; omega) (fun e => by have := (HNE.out (q + 1) e.symm).1; omega)).trans ((Below.heap_alloc _ _ (q + 1) ql).trans HQW.out)
          exact h1.set_ 1 _
        have hown3 : (w2.setCell ⟨q + 1, 1, none⟩ (.slice A3 (i + 1) c3)).ownsRow (q + 2) 41 4 (.slice A3 (i + 1) c3) (i + 1) (icells (L.take (i + 1))) := by
          rw [HTK.out]
          exact owns_keep HO2.out fun b hb => Below.heap_setCell _ _ _ b (by have := (World.ownsRow.lt HO2.out b hb).1; show b ≠ q + 1; omega)
        have hbel : Below (q + 1) wb (w2.setCell ⟨q + 1, 1, none⟩ (.slice A3 (i + 1) c3)) := by
          refine Below.setCell ?_ (by show q + 1 ≤ q + 1; omega) _
          refine (HB.out.alloc (by omega) (.cells #[.int .i64 xop, .int .i64 xx, .int .i64 xy, .string ⟨xp.toArray⟩] 41)).trans ⟨HG2.out.os, HG2.out.tape, HG2.out.output, HG2.out.size, fun b hb => HG2.out.block b (by simp; omega) (fun e => by have := (HNE.out b e.symm).1; omega)⟩
        have HBL := Lib.hid hbel
        have HEX : Hid (∃ A2 c2, RowAt (w2.setCell ⟨q + 1, 1, none⟩ (.slice A3 (i + 1) c3)) (q + 1) 24 #[.int .i64 (g : Int), .slice A2 (i + 1) c2] ∧ (w2.setCell ⟨q + 1, 1, none⟩ (.slice A3 (i + 1) c3)).ownsRow (q + 2) 41 4 (.slice A2 (i + 1) c2) (i + 1) (icells (L.take (i + 1)))) := Lib.hid ⟨A3, c3, hrow2, hown3⟩
        clear hrow2 hown3 hbel d0' df' HO2 HG2
        try go_wp2_with fail
        go_roundw
        case rel => exact ⟨i + 1, by go_num, by omega, Lib.hid HBL.out, Lib.hid HEX.out⟩
        case measure => simp [intOf]; omega
    · have hltI : ¬ (i : Int) < (L.length : Int) := by omega
      obtain rfl : i = L.length := by omega
      have hrr : RowAt wr rb 24 #[.int .i64 0, .slice none 0 0] := HRX.out.below HB.out (by omega)
      have r0 : wr.cell? ⟨rb, 0, none⟩ = some (.int .i64 0) := (hrr.cell 0).trans rfl
      have r1 : wr.cell? ⟨rb, 1, none⟩ = some (.slice none 0 0) := (hrr.cell 1).trans rfl
      have rf0 := hrr.frozen 0
      have rf1 := hrr.frozen 1
      have rl := hrr.lt
      obtain ⟨ok, hok⟩ : ∃ ok, ok = (er == 0) := ⟨_, rfl⟩
      have HOK : Hid (ok = decide (er = 0)) := Lib.hid (by rw [hok]; rfl)
      have hok2 : (er == 0) = ok := hok.symm
      clear hq ho hok hrr
      go_wp2_with fail
      (try simp only [Exit.inBlock, Exit.then])
      refine bodyPost_ret ((results_cell_tmp rfl _ _ _).trans (by simp [go_sem, *]; rfl)) rfl ?_
      have hO := HO.out
      rw [List.take_length] at hO
      refine ⟨g, L, A2, c2, ok, rfl, ?_, ?_, HF.out, fun hs => by rw [HQ.out hs, HOK.out]⟩
      · refine HBW.out.trans (Below.trans (b := wr) (HB.out.mono (by have := HRB.out; omega)) ?_)
        exact ((Below.refl _ _).setCell (by have := HRB.out; show W.heap.size ≤ rb; omega) _).setCell (by have := HRB.out; show W.heap.size ≤ rb; omega) _
      · refine (Rd.own hO).keep (by simp [World.setCell]) (fun j _ hj => ?_) |>.mono fun j _ hj => ?_
        · have h2 := (World.ownsRow.lt hO j hj).1
          rw [Below.heap_setCell _ _ _ j (by show j ≠ rb; omega), Below.heap_setCell _ _ _ j (by show j ≠ rb; omega)]
        · have h2 := (World.ownsRow.lt hO j hj).1
          have := HRB.out
          show W.heap.size ≤ j
          omega
end Go.Proofs.Ytedppnejkjcplaa
