/-
  CHAPTER 12, LAWS: a program as the document's (like).
-/
import Derived.Test.YtedppnejkjcplaaPkWayP
import Derived.Laws.ResultCell
import Derived.RegionTactic
import Derived.Deep.RegionLaw
namespace Go.Proofs.Ytedppnejkjcplaa
open Go.RowKit Go.Sort
open Me
open Pk

namespace Pk
theorem results_cell1 {fn : Func} {p : Tmp} {ty : TypeId} (h : fn.results = #[.cell p ty]) (tmps : Array Value) (P : Program) (w : World) :
    (results fn tmps).run P w = ((asAddr (tmps.getD p undef)).run P w).andThen fun a w₁ => ((loadVar ty a).run P w₁).andThen fun v w₂ => .ok v w₂ := by
  simp only [results, h]
  simp [Sem.run_bind, Result.andThen]
  cases Sem.run P (asAddr (tmps[p]?.getD undef)) w with
  | ok a w1 => cases h2 : Sem.run P (loadVar ty a) w1 <;> simp [h2]
  | halt h w1 => rfl
theorem inst_info : (Try.prog.info? 61).map (fun i => (i.zero, i.size, i.bytes)) = some (some (.agg #[.int .i64 0, .int .i64 0, .int .i64 0, .string ⟨#[]⟩]), 4, 40) := by kernel_rfl
end Pk

set_option maxRecDepth 100000 in
set_option maxHeartbeats 4000000 in
theorem like_any {W : World} {A : Option Addr} {cp : Nat} {L : List Rx.In} {G : Int} (hp : Rd W (fun _ => True) A (icells L)) (hL : L.length ≤ 4096) :
    Calls Try.prog 15 #[.agg #[.int .i64 G, .slice A L.length cp]] W fun e W' => ∃ A2 c2, e = .returned (.agg #[.int .i64 G, .slice A2 L.length c2]) ∧ Below W.heap.size W W' ∧ Rd W' (fun i => W.heap.size ≤ i) A2 (icells L) := by
  obtain ⟨i0, hi0, hz0, hz1, hz2⟩ := info_parts Pk.inst_info
  have HI := Lib.hid hi0
  have HZ := Lib.hid (And.intro hz0 (And.intro hz1 hz2))
  clear hi0 hz0 hz1 hz2
  have HP := Lib.hid hp
  clear hp
  obtain ⟨pb, hpb⟩ : ∃ pb, pb = W.heap.size := ⟨_, rfl⟩
  have hW0 : RowAt (((W.alloc (.cells #[.int .i64 G, .slice A L.length cp] 24)).alloc (.cells #[.int .i64 0, .slice none 0 0] 34)).alloc (.cells #[.int .i64 G, .slice none 0 0] 34)) (pb + 2) 34 #[.int .i64 G, .slice none 0 0] := RowAt.new' (by simp; omega)
  have hW1 : RowAt (((W.alloc (.cells #[.int .i64 G, .slice A L.length cp] 24)).alloc (.cells #[.int .i64 0, .slice none 0 0] 34)).alloc (.cells #[.int .i64 G, .slice none 0 0] 34)) (pb + 1) 34 #[.int .i64 0, .slice none 0 0] := (RowAt.new' (by simp; omega)).alloc _
  have hW2 : RowAt (((W.alloc (.cells #[.int .i64 G, .slice A L.length cp] 24)).alloc (.cells #[.int .i64 0, .slice none 0 0] 34)).alloc (.cells #[.int .i64 G, .slice none 0 0] 34)) pb 24 #[.int .i64 G, .slice A L.length cp] := ((RowAt.new' hpb).alloc _).alloc _
  have hB0 : Below W.heap.size W (((W.alloc (.cells #[.int .i64 G, .slice A L.length cp] 24)).alloc (.cells #[.int .i64 0, .slice none 0 0] 34)).alloc (.cells #[.int .i64 G, .slice none 0 0] 34)) := (((Below.refl _ _).alloc (Nat.le_refl _) _).alloc (by simp) _).alloc (by simp; omega) _
  have HW0 := Lib.hid hW0
  have HW1 := Lib.hid hW1
  have HW2 := Lib.hid hW2
  have HB0 := Lib.hid hB0
  have HPB := Lib.hid hpb
  clear hW0 hW1 hW2 hB0
  go_enter Try.func15, Try.ntmps15
  go_wp2_with fail
  rw [← hpb]
  clear hpb
  generalize ((W.alloc (.cells #[.int .i64 G, .slice A L.length cp] 24)).alloc (.cells #[.int .i64 0, .slice none 0 0] 34)).alloc (.cells #[.int .i64 G, .slice none 0 0] 34) = wb at *
  go_loopw [4] (fun x wr => ∃ i : Nat, x = .int .i64 (i : Int) ∧ i ≤ L.length ∧ Hid (Below (pb + 2) wb wr) ∧ Hid (∃ A2 c2, RowAt wr (pb + 2) 34 #[.int .i64 G, .slice A2 i c2] ∧ wr.ownsRow (pb + 3) 61 4 (.slice A2 i c2) i (icells (L.take i)))) (fun x _ => L.length - (intOf x).toNat)
  case atStart => exact ⟨0, rfl, Nat.zero_le _, Lib.hid (Below.refl _ _), Lib.hid ⟨none, 0, HW0.out, by simp [icells], .inl ⟨rfl, rfl⟩⟩⟩
  case round =>
    obtain ⟨i, rfl, hi, HB, H1⟩ := hrel
    obtain ⟨A2, c2, hq, ho⟩ := H1.out
    clear H1
    have hw2 := HW0.out.lt
    have hsr := HB.out.size
    have e1 : wr.cell? ⟨pb, 1, none⟩ = some (.slice A L.length cp) := (HB.out.cell (p := ⟨pb, 1, none⟩) (by show pb < pb + 2; omega)).trans ((HW2.out.cell 1).trans rfl)
    have q1 : wr.cell? ⟨pb + 2, 1, none⟩ = some (.slice A2 i c2) := (hq.cell 1).trans rfl
    have q0 : wr.cell? ⟨pb + 2, 0, none⟩ = some (.int .i64 G) := (hq.cell 0).trans rfl
    have qf := hq.frozen 1
    have ql := hq.lt
    have HQ := Lib.hid hq
    have HO := Lib.hid ho
    by_cases hlt : i < L.length
    · have hltI : (i : Int) < (L.length : Int) := by omega
      have hi0 : (0 : Int) ≤ (i : Int) := by omega
      obtain ⟨x, hx⟩ : ∃ x, L[i] = x := ⟨_, rfl⟩
      have hfx : Pk.fetch L (i : Int) = some x := by unfold Pk.fetch; rw [if_pos hi0, Int.toNat_natCast, List.getElem?_eq_getElem hlt, hx]
      have hpb2 : Rd wb (fun j => j < W.heap.size) A (icells L) := fun h => by
        obtain ⟨ad, e, h1, _, h3⟩ := HP.out h
        exact ⟨ad, e, Nat.lt_of_lt_of_le h1 HB0.out.size, h1, fun j u hu => (World.cell?_of_block (by rw [Me.block_add]; exact HB0.out.block _ h1)).trans (h3 j u hu)⟩
      have hpw : Rd wr (fun j => j < W.heap.size) A (icells L) := hpb2.keep HB.out.size fun j _ hj => HB.out.block j (by have := HPB.out; have hj : j < W.heap.size := hj; omega)
      obtain ⟨ib, io, hA, hil, j0, j1, j2, j3, hib⟩ := Pk.prog_cells2 hpw hfx
      have hib : ib < W.heap.size := hib
      have hibq : ¬ pb + 2 = ib := by have := HPB.out; omega
      rw [Int.toNat_natCast] at j0 j1 j2 j3
      clear hpb2 hpw
      subst hA
      obtain ⟨xop, xx, xy, xp⟩ := x
      have hlen : i + 1 ≤ maxLen := by unfold maxLen; omega
      have HOA : Hid ((wr.alloc (.cells #[.int .i64 xop, .int .i64 xx, .int .i64 xy, .string ⟨xp.toArray⟩] 61)).ownsRow (pb + 3) 61 4 (.slice A2 i c2) i (icells (L.take i))) := Lib.hid (ho.alloc _)
      have HRD : Hid (Rd (wr.alloc (.cells #[.int .i64 xop, .int .i64 xx, .int .i64 xy, .string ⟨xp.toArray⟩] 61)) (fun b => b = wr.heap.size) (some ⟨wr.heap.size, 0, none⟩) [.int .i64 xop, .int .i64 xx, .int .i64 xy, .string ⟨xp.toArray⟩]) := Lib.hid (Rd.fresh wr [.int .i64 xop, .int .i64 xx, .int .i64 xy, .string ⟨xp.toArray⟩] 61 _ rfl)
      have HNE : Hid (∀ b, (Value.slice A2 i c2).ownBlock = some b → pb + 3 ≤ b ∧ b < wr.heap.size) := Lib.hid fun b hb => World.ownsRow.lt ho b hb
      have HTK : Hid (icells (L.take (i + 1)) = icells (L.take i) ++ [.int .i64 xop, .int .i64 xx, .int .i64 xy, .string ⟨xp.toArray⟩]) := Lib.hid (by
        rw [List.take_add_one, List.getElem?_eq_getElem hlt, hx]
        unfold icells
        rw [List.flatMap_append]
        rfl)
      clear hq ho hx hfx
      go_wp2_with fail
      go_region_law (refine step_app _ rfl (.tmp 16) (.tmp 22) 32 rfl (pb + 3) 61 i0 _ 4 40 Try.underlying32 HI.out HZ.out.1 HZ.out.2.1 HZ.out.2.2 rfl (by decide) (.slice A2 i c2) i (icells (L.take i)) (by simp [Act.eval]) HOA.out (fun b => b = wr.heap.size) (some ⟨wr.heap.size, 0, none⟩) 1 1 [.int .i64 xop, .int .i64 xx, .int .i64 xy, .string ⟨xp.toArray⟩] (by simp [Act.eval]) (by simp) HRD.out (by intro u hu; simp at hu; rcases hu with rfl | rfl | rfl | rfl <;> rfl) hlen (by omega) (by simp; omega) ?_; intro v2 w2 hown2 hg2 hat2 hnil2; have d0' : w2.cell? ⟨pb + 2, 1, none⟩ = some (.slice A2 i c2) := (hg2.cell_far ⟨pb + 2, 1, none⟩ (by show pb + 2 < _; simp; omega) (fun e => by have := (HNE.out (pb + 2) e.symm).1; omega)).trans ((World.cell?_alloc_lt _ _ _ ql).trans q1); have df' : w2.frozen? ⟨pb + 2, 1, none⟩ = false := (hg2.frozen_far ⟨pb + 2, 1, none⟩ (by show pb + 2 < _; simp; omega) (fun e => by have := (HNE.out (pb + 2) e.symm).1; omega)).trans ((World.frozen?_of_block (Below.heap_alloc _ _ (pb + 2) ql)).trans qf); have HO2 := Lib.hid hown2; have HG2 : Hid (World.grownBy (wr.alloc (.cells #[.int .i64 xop, .int .i64 xx, .int .i64 xy, .string ⟨xp.toArray⟩] 61)) w2 (Value.slice A2 i c2).ownBlock) := Lib.hid ⟨hg2.os, hg2.tape, hg2.output, hg2.size, hg2.block⟩; obtain ⟨A3, c3, rfl⟩ := own_form hown2; clear hown2 hg2 hat2 hnil2)
      all_goals
        try go_simp
        have hrow2 : RowAt (w2.setCell ⟨pb + 2, 1, none⟩ (.slice A3 (i + 1) c3)) (pb + 2) 34 #[.int .i64 G, .slice A3 (i + 1) c3] := by
          have h1 : RowAt w2 (pb + 2) 34 #[.int .i64 G, .slice A2 i c2] := (HG2.out.block (pb + 2) (by simp; omega) (fun e => by have := (HNE.out (pb + 2) e.symm).1; omega)).trans ((Below.heap_alloc _ _ (pb + 2) ql).trans HQ.out)
          exact h1.set_ 1 _
        have hown3 : (w2.setCell ⟨pb + 2, 1, none⟩ (.slice A3 (i + 1) c3)).ownsRow (pb + 3) 61 4 (.slice A3 (i + 1) c3) (i + 1) (icells (L.take (i + 1))) := by
          rw [HTK.out]
          exact owns_keep HO2.out fun b hb => Below.heap_setCell _ _ _ b (by have := (World.ownsRow.lt HO2.out b hb).1; show b ≠ pb + 2; omega)
        have hbel : Below (pb + 2) wb (w2.setCell ⟨pb + 2, 1, none⟩ (.slice A3 (i + 1) c3)) := by
          refine Below.setCell ?_ (by show pb + 2 ≤ pb + 2; omega) _
          refine (HB.out.alloc (by omega) (.cells #[.int .i64 xop, .int .i64 xx, .int .i64 xy, .string ⟨xp.toArray⟩] 61)).trans ⟨HG2.out.os, HG2.out.tape, HG2.out.output, HG2.out.size, fun b hb => HG2.out.block b (by simp; omega) (fun e => by have := (HNE.out b e.symm).1; omega)⟩
        have HBL := Lib.hid hbel
        have HEX : Hid (∃ A2 c2, RowAt (w2.setCell ⟨pb + 2, 1, none⟩ (.slice A3 (i + 1) c3)) (pb + 2) 34 #[.int .i64 G, .slice A2 (i + 1) c2] ∧ (w2.setCell ⟨pb + 2, 1, none⟩ (.slice A3 (i + 1) c3)).ownsRow (pb + 3) 61 4 (.slice A2 (i + 1) c2) (i + 1) (icells (L.take (i + 1)))) := Lib.hid ⟨A3, c3, hrow2, hown3⟩
        clear hrow2 hown3 hbel d0' df' HO2 HG2
        try go_wp2_with fail
        go_roundw
        case rel => exact ⟨i + 1, by go_num, by omega, Lib.hid HBL.out, Lib.hid HEX.out⟩
        case measure => simp [intOf]; omega
    · have hltI : ¬ (i : Int) < (L.length : Int) := by omega
      obtain rfl : i = L.length := by omega
      have r0 : wr.cell? ⟨pb + 1, 0, none⟩ = some (.int .i64 0) := (HB.out.cell (p := ⟨pb + 1, 0, none⟩) (by show pb + 1 < pb + 2; omega)).trans ((HW1.out.cell 0).trans rfl)
      have r1 : wr.cell? ⟨pb + 1, 1, none⟩ = some (.slice none 0 0) := (HB.out.cell (p := ⟨pb + 1, 1, none⟩) (by show pb + 1 < pb + 2; omega)).trans ((HW1.out.cell 1).trans rfl)
      have rf0 : wr.frozen? ⟨pb + 1, 0, none⟩ = false := (HB.out.frozen (p := ⟨pb + 1, 0, none⟩) (by show pb + 1 < pb + 2; omega)).trans (HW1.out.frozen 0)
      have rf1 : wr.frozen? ⟨pb + 1, 1, none⟩ = false := (HB.out.frozen (p := ⟨pb + 1, 1, none⟩) (by show pb + 1 < pb + 2; omega)).trans (HW1.out.frozen 1)
      have rl : pb + 1 < wr.heap.size := by omega
      clear hq ho
      go_wp2_with fail
      refine bodyPost_ret ((Pk.results_cell1 rfl _ _ _).trans (by simp [go_sem, *]; rfl)) rfl ?_
      have hO := HO.out
      rw [List.take_length] at hO
      refine ⟨A2, ⟨c2, rfl⟩, ?_, ?_⟩
      · refine HB0.out.trans (Below.trans (b := wr) (HB.out.mono (by have := HPB.out; omega)) ?_)
        exact ((Below.refl _ _).setCell (by have := HPB.out; show W.heap.size ≤ pb + 1; omega) _).setCell (by have := HPB.out; show W.heap.size ≤ pb + 1; omega) _
      · refine (Rd.own hO).keep (by simp [World.setCell]) (fun g _ hg => ?_) |>.mono fun g _ hg => ?_
        · have h2 := (World.ownsRow.lt hO g hg).1
          rw [Below.heap_setCell _ _ _ g (by show g ≠ pb + 1; omega), Below.heap_setCell _ _ _ g (by show g ≠ pb + 1; omega)]
        · have h2 := (World.ownsRow.lt hO g hg).1
          have := HPB.out
          show W.heap.size ≤ g
          omega
end Go.Proofs.Ytedppnejkjcplaa
