/-
  CONTRACTS: chapter 11: instructions in a box: emit.
-/
import Derived.Test.YtajijcnfhijanaaRxApp
import Derived.Test.YtajijcnfhijanaaRxSt
namespace Go.Proofs.Ytajijcnfhijanaa
open Go.RowKit
open Me

theorem instinfo : (Try.prog.info? 36).map (fun i => (i.zero, i.size, i.bytes)) = some (some (.agg #[.int .i64 0, .int .i64 0, .int .i64 0, .string ⟨#[]⟩]), 4, 40) := by kernel_rfl

namespace Rx
/-- Instructions as cells. -/
def cellI (x : In) : List Value := [.int .i64 x.op, .int .i64 x.x, .int .i64 x.y, .string ⟨x.p.toArray⟩]
def cellsI (l : List In) : List Value := l.flatMap cellI
theorem cellsI_len (l : List In) : (cellsI l).length = l.length * 4 := by
  induction l with
  | nil => rfl
  | cons x l ih => unfold cellsI at *; rw [List.flatMap_cons, List.length_append, ih]; simp [cellI]; omega
theorem cellsI_append (l m : List In) : cellsI (l ++ m) = cellsI l ++ cellsI m := by unfold cellsI; rw [List.flatMap_append]
theorem cellsI_single (x : In) : cellsI [x] = cellI x := by unfold cellsI; simp
theorem cellsI_one (l : List In) : ∀ u ∈ cellsI l, u.oneCell' = true := by
  intro u hu
  unfold cellsI at hu
  obtain ⟨x, _, hx⟩ := List.mem_flatMap.1 hu
  unfold cellI at hx
  simp at hx
  rcases hx with rfl | rfl | rfl | rfl <;> rfl
/-- A row of instructions of one's own. -/
def OwnC (base : Nat) (w : World) (v : Value) (l : List In) : Prop := w.ownsRow base 36 4 v l.length (cellsI l)
theorem OwnC.lt {base : Nat} {w : World} {v : Value} {l : List In} (h : OwnC base w v l) : ∀ g, v.ownBlock = some g → base ≤ g ∧ g < w.heap.size := fun g hg => World.ownsRow.lt h g hg
theorem OwnC.nil (a : Nat) (w : World) : OwnC a w (.slice none 0 0) [] := ⟨rfl, .inl ⟨rfl, rfl⟩⟩
theorem OwnC.kp {a : Nat} {w w' : World} {v : Value} {l : List In} {O : Nat → Prop} (h : OwnC a w v l) (k : Kp O w w') (hO : ∀ g, v.ownBlock = some g → ¬ O g) : OwnC a w' v l :=
  owns_keep h fun g hg => k.block g (h.lt g hg).2 (hO g hg)
theorem OwnC.below {a : Nat} {w w' : World} {v : Value} {l : List In} (h : OwnC a w v l) (k : Below w.heap.size w w') : OwnC a w' v l :=
  owns_keep h fun g hg => k.block g (h.lt g hg).2
theorem OwnC.base {a b : Nat} {w : World} {v : Value} {l : List In} (h : OwnC b w v l) (hab : a ≤ b) : OwnC a w v l := by
  refine ⟨h.1, ?_⟩
  rcases h.2 with hn | ⟨g, cap, cur, hv, hb, rest⟩
  · exact .inl hn
  · exact .inr ⟨g, cap, cur, hv, by omega, rest⟩
theorem OwnC.form {base : Nat} {w : World} {v : Value} {l : List In} (h : OwnC base w v l) : ∃ A c, v = .slice A l.length c := by
  rcases h.2 with ⟨rfl, h0⟩ | ⟨g', cap, cur, rfl, _⟩
  · exact ⟨none, 0, by rw [h0]⟩
  · exact ⟨_, _, rfl⟩
/-- A slice that reads as instructions, in blocks from a place on. -/
def RdC (w : World) (base : Nat) (v : Value) (l : List In) : Prop := ∃ A c, v = .slice A l.length c ∧ Rd w (fun i => base ≤ i) A (cellsI l)
theorem OwnC.rd {base : Nat} {w : World} {v : Value} {l : List In} (h : OwnC base w v l) : RdC w base v l := by
  obtain ⟨A, c, rfl⟩ := h.form
  exact ⟨A, c, rfl, (Rd.own h).mono fun i _ hi => (h.lt i hi).1⟩
theorem RdC.kp {base : Nat} {w w' : World} {v : Value} {l : List In} {O : Nat → Prop} (h : RdC w base v l) (k : Kp O w w') (hO : ∀ g, base ≤ g → g < w.heap.size → ¬ O g) : RdC w' base v l := by
  obtain ⟨A, c, e, hr⟩ := h
  exact ⟨A, c, e, hr.kp k fun i hi hg => hO i hg hi⟩
theorem RdC.below {base : Nat} {w w' : World} {v : Value} {l : List In} (h : RdC w base v l) (k : Below w.heap.size w w') : RdC w' base v l := by
  obtain ⟨A, c, e, hr⟩ := h
  exact ⟨A, c, e, hr.below k⟩
/-- Instructions in a box. -/
structure EmAt (W : World) (cb : Nat) (v : Value) (c : List In) : Prop where
  row : RowAt W cb 45 #[v]
  own : OwnC (cb + 1) W v c
theorem EmAt.kp {W W' : World} {cb : Nat} {v : Value} {c : List In} {O : Nat → Prop} (h : EmAt W cb v c) (k : Kp O W W') (hO : ∀ g, cb ≤ g → g < W.heap.size → ¬ O g) : EmAt W' cb v c :=
  ⟨(k.block cb h.row.lt (hO cb (Nat.le_refl _) h.row.lt)).trans h.row, h.own.kp k fun g hg => hO g (by have := (h.own.lt g hg).1; omega) (h.own.lt g hg).2⟩
theorem EmAt.below {W W' : World} {cb : Nat} {v : Value} {c : List In} (h : EmAt W cb v c) (k : Below W.heap.size W W') : EmAt W' cb v c :=
  h.kp (Kp.of_below (O := fun _ => False) k) fun _ _ _ h => h
theorem EmAt.new (W : World) : EmAt (W.alloc (.cells #[.slice none 0 0] 45)) W.heap.size (.slice none 0 0) [] := ⟨RowAt.new W _ _, OwnC.nil _ _⟩
/-- What emit leaves. -/
def Emitted (W : World) (cb : Nat) (c : List In) (e : Ending) (W' : World) : Prop := e = .returned (.tuple #[]) ∧ ∃ v, EmAt W' cb v c ∧ Kp (fun i => cb ≤ i) W W'
end Rx

set_option maxHeartbeats 2000000 in
theorem emit_any {W : World} {cb : Nat} {v x : Value} {c l : List Rx.In} {base : Nat} (h : Rx.EmAt W cb v c) (hx : Rx.RdC W base x l) (hlen : c.length + l.length ≤ 1048576) :
    Calls Try.prog 13 #[.pointer (some ⟨cb, 0, none⟩), x] W (Rx.Emitted W cb (c ++ l)) := by
  obtain ⟨i0, hi0, hz0, hz1, hz2⟩ := info_parts instinfo
  have HI := Lib.hid hi0
  have HZ := Lib.hid (And.intro hz0 (And.intro hz1 hz2))
  clear hi0 hz0 hz1 hz2
  have HH := Lib.hid h
  have hcl := h.row.lt
  have c0 : W.cell? ⟨cb, 0, none⟩ = some v := (h.row.cell 0).trans rfl
  have f0 := h.row.frozen 0
  obtain ⟨Av, cv, rfl⟩ := h.own.form
  obtain ⟨A, cx, rfl, hr⟩ := hx
  have HR := Lib.hid hr
  clear h hr
  go_enter Try.func13, Try.ntmps13
  go_wp2_with (at_builtin; refine wpList_app2 _ rfl (.tmp 7) (.tmp 8) 45 24 36 rfl (cb + 1) 36 i0 _ 4 40 Try.underlying45 Try.underlying24 HI.out HZ.out.1 HZ.out.2.1 HZ.out.2.2 rfl (by decide) (.slice Av c.length cv) c.length (Rx.cellsI c) rfl HH.out.own _ A l.length cx (Rx.cellsI l) rfl (Rx.cellsI_len l) HR.out (Rx.cellsI_one l) (by unfold maxLen; omega) (by omega) (by omega) ?_; intro v2 w2 hown2 hg2 hat2; have hR2 : RowAt w2 cb 45 #[.slice Av c.length cv] := (hg2.block cb hcl (fun e => by have := (HH.out.own.lt _ e.symm).1; omega)).trans HH.out.row; have d0 := (hR2.cell 0).trans rfl; have df := hR2.frozen 0; have HR2 := Lib.hid hR2; have hOw : Rx.OwnC (cb + 1) w2 v2 (c ++ l) := by { unfold Rx.OwnC; rw [List.length_append, Rx.cellsI_append]; exact hown2 }; have HO2 := Lib.hid hOw; have HG2 := Lib.hid hg2; clear hown2 hg2 hat2 hOw hR2; obtain ⟨A2, c2, rfl⟩ := HO2.out.form)
  ((try simp only [Exit.inBlock, Exit.then]); first | (refine bodyPost_ret (results_none rfl _ _ _) rfl ?_) | (refine bodyPost_end (results_none rfl _ _ _) rfl ?_))
  have HO3 := HO2.out
  rw [List.length_append] at HO3
  refine ⟨rfl, _, ⟨HR2.out.set_ 0 _, ?_⟩, ?_⟩
  · exact owns_keep HO3 fun g hg => Below.heap_setCell w2 _ _ g (by have := (HO3.lt g hg).1; show g ≠ cb; omega)
  · refine Kp.setCell (O := fun i => cb ≤ i) ((Kp.refl _ W).grown HG2.out fun g hg => .inr ?_) ⟨cb, 0, none⟩ (.inr (Nat.le_refl cb)) _
    have := (HH.out.own.lt g hg).1
    show cb ≤ g
    omega

/-- One instruction that was just laid. -/
theorem emit_one {W : World} {cb : Nat} {v : Value} {c : List Rx.In} (h : Rx.EmAt W cb v c) (x : Rx.In) (N : Nat) (hN : N = W.heap.size) (hlen : c.length + 1 ≤ 1048576) :
    Calls Try.prog 13 #[.pointer (some ⟨cb, 0, none⟩), .slice (some ⟨N, 0, none⟩) 1 1] (W.alloc (.cells #[.int .i64 x.op, .int .i64 x.x, .int .i64 x.y, .string ⟨x.p.toArray⟩] 36)) (Rx.Emitted W cb (c ++ [x])) := by
  subst hN
  have hb : Below W.heap.size W (W.alloc (.cells #[.int .i64 x.op, .int .i64 x.x, .int .i64 x.y, .string ⟨x.p.toArray⟩] 36)) := (Below.refl _ _).alloc (Nat.le_refl _) _
  have hr := Rd.fresh W (Rx.cellI x) 36 W.heap.size rfl
  refine (emit_any (base := W.heap.size) (l := [x]) (h.below hb) ⟨_, 1, rfl, ?_⟩ hlen).mono ?_
  · rw [Rx.cellsI_single]
    exact hr.mono fun i _ hi => by have hi : i = W.heap.size := hi; show W.heap.size ≤ i; omega
  · rintro e W' ⟨h1, v', h2, h3⟩
    exact ⟨h1, v', h2, (Kp.of_below (O := fun i => cb ≤ i) hb).trans h3 fun _ _ h => h⟩
end Go.Proofs.Ytajijcnfhijanaa
