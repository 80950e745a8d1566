/- VrDo VrTell VrActs VrWrite -/
import Derived.Test.YtljlanhpjpjgaaaGreatDoorJ1
import Derived.Test.YtljlanhpjpjgaaaGreatDoorJ2
import Derived.Deep.RegionWith
import Derived.Deep.RegionLaw
namespace Go.Proofs.YtljlanhpjpjgaaaGreatDoor
set_option maxRecDepth 100000
set_option maxHeartbeats 8000000
section
open Go.RowKit
open Me
theorem owns_form {w : World} {base : Nat} {e : TypeId} {size n : Nat} {v : Value} {xs : List Value} (h : w.ownsRow base e size v n xs) (hn : 0 < n) : ∃ g cap, v = .slice (some ⟨g, 0, none⟩) n cap := by
 rcases h.2 with ⟨_, h0⟩ | ⟨g, cap, cur, hv, _⟩
 ·omega
 ·exact ⟨g, cap, hv⟩
theorem heap_put {w : World} {g i : Nat} {cs : Array Value} {t : TypeId} {fr : Nat × Nat} (h : w.heap[g]? = some (.cells cs t fr)) (u : Value) : (w.setCell ⟨g, i, none⟩ u).heap[g]? = some (.cells (cs.setIfInBounds i u) t fr) := by
 simp [World.setCell, Array.getElem?_modify, h]
theorem size_put (w : World) (p : Addr) (u : Value) : (w.setCell p u).heap.size = w.heap.size := by simp [World.setCell]
theorem frozen_old (w : World) (o : Obj) (a : Addr) (h : a.block < w.heap.size) : (w.alloc o).frozen? a = w.frozen? a := World.frozen?_of_block (Below.heap_alloc w o a.block h)
theorem acinfo : (Tryz.prog.info? 118).map (fun i => (i.zero, i.size, i.bytes)) = some (some (.agg #[.int .i64 0, .string ⟨#[]⟩, .int .i64 0, .slice none 0 0]), 4, 56) := by kernel_rfl
namespace Vf
def Done (w : World) (G Gp : Nat → Prop) (fs : Nat) (lr : Option Nat) (S : Sv) (a : Ac) (e : Ending) (w' : World) : Prop :=
 e = .returned (.int .i64 0) ∧ ∃ G' lr' nv' wv' lv' ys', At w' G' fs lr' { S with now := does S.now a, l := S.l ++ [a] } nv' wv' lv' ys' ∧ Kp (fun b => b = fs ∨ lr = some b) w w' ∧
  (∀ b, G' b → G b ∨ Gp b ∨ w.heap.size ≤ b) ∧ (∀ g, lr' = some g → lr = some g ∨ w.heap.size ≤ g)
end Vf
theorem do_end {w w1 W1 w2 : World} {G Gp : Nat → Prop} {fs g2 cap2 cp : Nat} {lr : Option Nat} {S : Vf.Sv} {nv wv lv v1 : Value} {ys : List Value} {a : Vf.Ac} {Ap : Option Addr} {o : Obj}
 (h : Vf.At w G fs lr S nv wv lv ys) (hp : Bs w Gp (.slice Ap a.p.length cp) a.p) (hGp : ∀ b, Gp b → b < w.heap.size ∧ b ≠ fs ∧ lr ≠ some b)
 (hnow : Vf.Fs w1 (fun b => (G b ∨ Gp b) ∨ w.heap.size + 1 ≤ b) v1 (Vf.does S.now a)) (hsz : W1.heap.size = w1.heap.size) (hs1 : w.heap.size + 1 ≤ w1.heap.size)
 (hfsW : W1.heap[fs]? = some (.cells #[.int .i64 S.room, v1, wv, lv] 63 (0, 0))) (hold : ∀ b, b < w.heap.size → b ≠ fs → W1.heap[b]? = w.heap[b]?) (hnew : ∀ b, w.heap.size ≤ b → W1.heap[b]? = w1.heap[b]?)
 (hw1 : ∀ b, b < w.heap.size → w1.heap[b]? = w.heap[b]?) (hos : W1.os = w.os ∧ W1.tape = w.tape ∧ W1.output = w.output)
 (hown2 : w2.ownsRow 0 118 4 (.slice (some ⟨g2, 0, none⟩) (S.l.length + 1) cap2) (S.l.length + 1) (ys ++ [.int .i64 a.kind, .string ⟨a.name.toArray⟩, .int .i64 (a.off : Int), .slice Ap a.p.length cp]))
 (hg2 : (W1.alloc o).grownBy w2 lv.ownBlock) (hat2 : (Value.slice (some ⟨g2, 0, none⟩) (S.l.length + 1) cap2).ownBlock = lv.ownBlock ∨ (Value.slice (some ⟨g2, 0, none⟩) (S.l.length + 1) cap2).ownBlock = some (W1.alloc o).heap.size) :
 Vf.Done w G Gp fs lr S a (.returned (.int .i64 0)) (w2.setCell ⟨fs, 3, none⟩ (.slice (some ⟨g2, 0, none⟩) (S.l.length + 1) cap2)) := by
 have hfl := h.fsLt
 have hob : (Value.slice (some ⟨g2, 0, none⟩) (S.l.length + 1) cap2).ownBlock = some g2 := rfl
 rw [hob] at hat2
 have hasz : (W1.alloc o).heap.size = w1.heap.size + 1 := by simp [hsz]
 rw [hasz] at hat2
 have hs2 := hg2.size
 rw [hasz] at hs2
 have hrow : ∀ g, lv.ownBlock = some g → lr = some g ∧ g < w.heap.size := fun g hg => ⟨h.row ▸ hg, (h.own.lt g hg).2⟩
 have hg2c : (lr = some g2 ∧ g2 < w.heap.size) ∨ g2 = w1.heap.size + 1 := by
  rcases hat2 with e | e
  ·exact .inl (hrow g2 e.symm)
  ·exact .inr (Option.some.inj e)
 have hg2f : g2 ≠ fs := by
  rcases hg2c with ⟨e, _⟩ | e
  ·exact (h.glr g2 e).2
  ·omega
 have K2 : ∀ b, b < (W1.alloc o).heap.size → lv.ownBlock ≠ some b → w2.heap[b]? = (W1.alloc o).heap[b]? := fun b hb hn => hg2.block b hb (fun e => hn e.symm)
 have K : ∀ b, b < w1.heap.size → b ≠ fs → lv.ownBlock ≠ some b → (w2.setCell ⟨fs, 3, none⟩ (.slice (some ⟨g2, 0, none⟩) (S.l.length + 1) cap2)).heap[b]? = w1.heap[b]? := fun b hb hn hr => by
  rw [Below.heap_setCell w2 ⟨fs, 3, none⟩ _ b hn, K2 b (by rw [hasz]; omega) hr, Below.heap_alloc W1 o b (by omega)]
  by_cases hbw : b < w.heap.size
  ·rw [hold b hbw hn, hw1 b hbw]
  ·exact hnew b (by omega)
 have hlvfs : lv.ownBlock ≠ some fs := fun e => (h.glr fs (hrow fs e).1).2 rfl
 have hGr : ∀ b, G b → lv.ownBlock ≠ some b := fun b hb e => (h.glr b (hrow b e).1).1 hb
 have hGf : ∀ b, G b → b ≠ fs := fun b hb e => h.gfs (e ▸ hb)
 have hG2 : ∀ b, G b → b ≠ g2 := fun b hb e => by
  rcases hg2c with ⟨e2, _⟩ | e2
  ·exact (h.glr g2 e2).1 (e ▸ hb)
  ·have := h.lt b hb; omega
 have hP2 : ∀ b, Gp b → b ≠ g2 := fun b hb e => by
  rcases hg2c with ⟨e2, _⟩ | e2
  ·exact (hGp b hb).2.2 (e ▸ e2)
  ·have := (hGp b hb).1; omega
 have hsz3 : (w2.setCell ⟨fs, 3, none⟩ (.slice (some ⟨g2, 0, none⟩) (S.l.length + 1) cap2)).heap.size = w2.heap.size := size_put _ _ _
 have KG : ∀ b, b < w.heap.size → G b → (w2.setCell ⟨fs, 3, none⟩ (.slice (some ⟨g2, 0, none⟩) (S.l.length + 1) cap2)).heap[b]? = w.heap[b]? := fun b hb hg => (K b (by omega) (hGf b hg) (hGr b hg)).trans (hw1 b hb)
 have KP : ∀ b, b < w.heap.size → Gp b → (w2.setCell ⟨fs, 3, none⟩ (.slice (some ⟨g2, 0, none⟩) (S.l.length + 1) cap2)).heap[b]? = w.heap[b]? := fun b hb hg => (K b (by omega) (hGp b hg).2.1 (fun e => (hGp b hg).2.2 (hrow b e).1)).trans (hw1 b hb)
 refine ⟨rfl, fun b => (G b ∨ Gp b ∨ w.heap.size ≤ b) ∧ b < w2.heap.size ∧ b ≠ g2, some g2, v1, wv, .slice (some ⟨g2, 0, none⟩) (S.l.length + 1) cap2, ys ++ [.int .i64 a.kind, .string ⟨a.name.toArray⟩, .int .i64 (a.off : Int), .slice Ap a.p.length cp], ?_, ?_, fun b hb => hb.1, ?_⟩
 ·refine ⟨?_, ?_, ?_, ?_, ?_, rfl, ?_, ?_, ?_⟩
  ·have e1 : w2.heap[fs]? = some (.cells #[.int .i64 S.room, v1, wv, lv] 63 (0, 0)) := by
    rw [K2 fs (by rw [hasz]; omega) hlvfs, Below.heap_alloc W1 o fs (by omega)]
    exact hfsW
   rw [heap_put e1]
   rfl
  ·refine (hnow.wide (fun b hb hg => ?_)).keep (by omega) (fun b hb hg => ?_)
   ·refine ⟨?_, by omega, ?_⟩
    ·rcases hg with (hg | hg) | hg
     ·exact .inl hg
     ·exact .inr (.inl hg)
     ·exact .inr (.inr (by omega))
    ·rcases hg with (hg | hg) | hg
     ·exact hG2 b hg
     ·exact hP2 b hg
     ·rcases hg2c with ⟨_, e2⟩ | e2 <;> omega
   ·obtain ⟨hg, _, _⟩ := hg
    refine K b hb ?_ ?_
    ·rcases hg with hg | hg | hg
     ·exact hGf b hg
     ·exact (hGp b hg).2.1
     ·omega
    ·rcases hg with hg | hg | hg
     ·exact hGr b hg
     ·exact fun e => (hGp b hg).2.2 (hrow b e).1
     ·exact fun e => by have := (hrow b e).2; omega
  ·exact (h.was.keep (by omega) KG).wide (fun b hb hg => ⟨.inl hg, by rw [hsz3] at hb; exact hb, hG2 b hg⟩)
  ·have e : (S.l ++ [a]).length = S.l.length + 1 := by simp
   show World.ownsRow _ 0 _ 4 _ (S.l ++ [a]).length _
   rw [e]
   exact owns_keep hown2 (fun g hg => by
    have : g2 = g := by simpa [Value.ownBlock] using hg
    subst this
    exact Below.heap_setCell w2 ⟨fs, 3, none⟩ _ g2 hg2f)
  ·refine Els.append (h.acts.mono fun x cs hx => (hx.keep (by omega) KG).wide (fun b hb hg => ⟨.inl hg, by rw [hsz3] at hb; exact hb, hG2 b hg⟩)) (Els.one ⟨_, rfl, ?_⟩)
   exact (hp.keep (by omega) KP).mono (fun b hb hg => ⟨.inr (.inl hg), by rw [hsz3] at hb; exact hb, hP2 b hg⟩)
  ·rintro ⟨hg | hg | hg, _, _⟩
   ·exact h.gfs hg
   ·exact (hGp fs hg).2.1 rfl
   ·omega
  ·intro g hg
   have : g2 = g := Option.some.inj hg
   subst this
   exact ⟨fun hx => hx.2.2 rfl, hg2f⟩
  ·intro b hb
   rw [hsz3]
   exact hb.2.1
 ·refine ⟨?_, ?_, ?_, by omega, fun b hb hn => ?_⟩
  ·exact hg2.os.trans hos.1
  ·exact hg2.tape.trans hos.2.1
  ·exact hg2.output.trans hos.2.2
  ·exact (K b (by omega) (fun e => hn (.inl e)) (fun e => hn (.inr (hrow b e).1))).trans (hw1 b hb)
 ·intro g hg
  have : g2 = g := Option.some.inj hg
  subst this
  rcases hg2c with ⟨e, _⟩ | e
  ·exact .inl e
  ·exact .inr (by omega)
theorem do_any {w : World} {G Gp : Nat → Prop} {fs : Nat} {lr : Option Nat} {S : Vf.Sv} {nv wv lv pv : Value} {ys : List Value} (h : Vf.At w G fs lr S nv wv lv ys) (a : Vf.Ac) (hp : Bs w Gp pv a.p)
 (hGp : ∀ b, Gp b → b < w.heap.size ∧ b ≠ fs ∧ lr ≠ some b) (hl : S.now.length ≤ 1048576) (hll : S.l.length ≤ 1048576) (hfit : Hid (Vf.fits S.now a)) (hb : Hid (∀ f ∈ S.now, f.b.length ≤ 4294967296)) (ho : a.off ≤ 4294967296) :
 Calls Tryz.prog 51 #[.pointer (some ⟨fs, 0, none⟩), .agg #[.int .i64 a.kind, .string ⟨a.name.toArray⟩, .int .i64 (a.off : Int), pv]] w (Vf.Done w G Gp fs lr S a) := by
 obtain ⟨i0, hi0, hz0, hz1, hz2⟩ := info_parts acinfo
 have HI := Lib.hid hi0
 have HZ := Lib.hid (And.intro hz0 (And.intro hz1 hz2))
 clear hi0 hz0 hz1 hz2
 obtain ⟨c0, c1, c2, c3, hf⟩ := h.cells
 have hfl := h.fsLt
 have H := Lib.hid h
 have HP := Lib.hid hp
 have HGp := Lib.hid hGp
 obtain ⟨Ap, cp, rfl, hcp, hcpm, hrdp⟩ := hp
 have hf0 := hf 0
 have hf1 := hf 1
 have hf3 := hf 3
 have HD : Hid (∀ (W : World) (_ : Vf.Fs W (fun b => G b ∨ Gp b) nv S.now) (_ : Bs W (fun b => G b ∨ Gp b) (.slice Ap a.p.length cp) a.p), Calls Tryz.prog 89 #[nv, .agg #[.int .i64 a.kind, .string ⟨a.name.toArray⟩, .int .i64 (a.off : Int), .slice Ap a.p.length cp]] W (Vf.MadeF (fun b => G b ∨ Gp b) W (Vf.does S.now a))) :=
  Lib.hid fun W h1 h2 => does_any S.now a nv _ _ W h1 h2 hl hfit hb ho
 have HF : Hid (∀ W : World, w.heap.size ≤ W.heap.size → (∀ b, b < w.heap.size → W.heap[b]? = w.heap[b]?) → Vf.Fs W (fun b => G b ∨ Gp b) nv S.now ∧ Bs W (fun b => G b ∨ Gp b) (.slice Ap a.p.length cp) a.p) :=
  Lib.hid fun W h1 h2 => ⟨(H.out.now.wide (fun _ _ h => .inl h)).keep h1 (fun b hb _ => h2 b hb), (HP.out.mono (fun _ _ h => .inr h)).keep h1 (fun b hb _ => h2 b hb)⟩
 have HFW := HF.out (w.alloc (.cells #[.int .i64 a.kind, .string ⟨a.name.toArray⟩, .int .i64 (a.off : Int), .slice Ap a.p.length cp] 118)).drew (by show w.heap.size ≤ (w.alloc (.cells #[.int .i64 a.kind, .string ⟨a.name.toArray⟩, .int .i64 (a.off : Int), .slice Ap a.p.length cp] 118)).heap.size; simp) (fun b hb => Below.heap_alloc w _ b hb)
 have HC := Lib.hid (HD.out _ HFW.1 HFW.2)
 have hfl2 : fs < (w.alloc (.cells #[.int .i64 a.kind, .string ⟨a.name.toArray⟩, .int .i64 (a.off : Int), .slice Ap a.p.length cp] 118)).drew.heap.size := by show fs < (w.alloc (.cells #[.int .i64 a.kind, .string ⟨a.name.toArray⟩, .int .i64 (a.off : Int), .slice Ap a.p.length cp] 118)).heap.size; simp; omega
 clear h hf hrdp hGp hfit HFW HD HF
 go_enter Tryz.func51, Tryz.ntmps51
 go_wp2_with fail
 go_region_with (go_at_call 89; refine HC.out.mono ?_; rintro e w1 ⟨v1, rfl, hnow, hb1⟩; have HN := Lib.hid hnow; obtain ⟨A1, cc1, xs1, rfl, _, _, _, _⟩ := hnow; have cf1 := (hb1.cell (p := ⟨fs, 1, none⟩) (hfl2)).trans ((World.cell?_alloc_lt _ _ _ hfl).trans c1); have ff1 := (hb1.frozen (p := ⟨fs, 1, none⟩) (hfl2)).trans ((frozen_old _ _ _ hfl).trans hf1))
 all_goals
  obtain ⟨W1, hW1⟩ : ∃ W1, W1 = w1.setCell ⟨fs, 1, none⟩ (.slice A1 (Vf.does S.now a).length cc1) := ⟨_, rfl⟩
  have hs0 : (w.alloc (.cells #[.int .i64 a.kind, .string ⟨a.name.toArray⟩, .int .i64 (a.off : Int), .slice Ap a.p.length cp] 118)).drew.heap.size = w.heap.size + 1 := by
   show (w.alloc (.cells #[.int .i64 a.kind, .string ⟨a.name.toArray⟩, .int .i64 (a.off : Int), .slice Ap a.p.length cp] 118)).heap.size = _
   simp
  have hs1 : w.heap.size + 1 ≤ w1.heap.size := by
   have hh := hb1.size
   omega
  have hsz : W1.heap.size = w1.heap.size := by rw [hW1, size_put]
  have hfsW : W1.heap[fs]? = some (.cells #[.int .i64 S.room, .slice A1 (Vf.does S.now a).length cc1, wv, lv] 63 (0, 0)) := by
   rw [hW1]
   have h1 : w1.heap[fs]? = w.heap[fs]? := (hb1.block fs hfl2).trans (Below.heap_alloc w _ fs hfl)
   rw [heap_put (h1.trans H.out.heap)]
   rfl
  have holdW : ∀ b, b < w.heap.size → b ≠ fs → W1.heap[b]? = w.heap[b]? := fun b hb' hne => by
   rw [hW1, Below.heap_setCell w1 ⟨fs, 1, none⟩ _ b (by exact hne)]
   exact (hb1.block b (by show b < (w.alloc (.cells #[.int .i64 a.kind, .string ⟨a.name.toArray⟩, .int .i64 (a.off : Int), .slice Ap a.p.length cp] 118)).heap.size; simp; omega)).trans (Below.heap_alloc w _ b hb')
  have hboxW : W1.heap[w.heap.size]? = some (.cells #[.int .i64 a.kind, .string ⟨a.name.toArray⟩, .int .i64 (a.off : Int), .slice Ap a.p.length cp] 118 (0, 0)) := by
   rw [hW1, Below.heap_setCell w1 ⟨fs, 1, none⟩ _ w.heap.size (by show w.heap.size ≠ fs; omega)]
   exact (hb1.block w.heap.size (by show w.heap.size < (w.alloc (.cells #[.int .i64 a.kind, .string ⟨a.name.toArray⟩, .int .i64 (a.off : Int), .slice Ap a.p.length cp] 118)).heap.size; simp)).trans (heap_alloc_new w _)
  have hnewW : ∀ b, w.heap.size ≤ b → W1.heap[b]? = w1.heap[b]? := fun b hb' => by
   rw [hW1, Below.heap_setCell w1 ⟨fs, 1, none⟩ _ b (by show b ≠ fs; omega)]
  have hosW : W1.os = w.os ∧ W1.tape = w.tape ∧ W1.output = w.output := by rw [hW1]; exact ⟨hb1.os, hb1.tape, hb1.output⟩
  have d0 : W1.cell? ⟨w.heap.size, 0, none⟩ = some (.int .i64 a.kind) := by rw [cell_of_row W1 _ 0 _ _ _ hboxW]; rfl
  have d1 : W1.cell? ⟨w.heap.size, 1, none⟩ = some (.string ⟨a.name.toArray⟩) := by rw [cell_of_row W1 _ 1 _ _ _ hboxW]; rfl
  have d2 : W1.cell? ⟨w.heap.size, 2, none⟩ = some (.int .i64 (a.off : Int)) := by rw [cell_of_row W1 _ 2 _ _ _ hboxW]; rfl
  have d3 : W1.cell? ⟨w.heap.size, 3, none⟩ = some (.slice Ap a.p.length cp) := by rw [cell_of_row W1 _ 3 _ _ _ hboxW]; rfl
  have e3 : W1.cell? ⟨fs, 3, none⟩ = some lv := by rw [cell_of_row W1 _ 3 _ _ _ hfsW]; rfl
  have hfsl : fs < W1.heap.size := by omega
  have e3f : W1.frozen? ⟨fs, 3, none⟩ = false := by simp [World.frozen?, hfsW]
  have hfsA : ∀ o : Obj, fs < (W1.alloc o).heap.size := fun o => by simp; omega
  have hbxl : w.heap.size < W1.heap.size := by omega
  have hrl : ∀ g, lv.ownBlock = some g → g < w.heap.size ∧ g ≠ fs := fun g hg => ⟨(H.out.own.lt g hg).2, (H.out.glr g (H.out.row ▸ hg)).2⟩
  have HOW : Hid ((W1.alloc (.cells #[.int .i64 a.kind, .string ⟨a.name.toArray⟩, .int .i64 (a.off : Int), .slice Ap a.p.length cp] 118)).ownsRow 0 118 4 lv S.l.length ys) := Lib.hid (owns_keep H.out.own (fun g hg => by
   obtain ⟨h1, h2⟩ := hrl g hg
   rw [Below.heap_alloc W1 _ g (by omega)]
   exact holdW g h1 h2))
  have HRL := Lib.hid hrl
  have HFS := Lib.hid hfsW
  have HOLD := Lib.hid holdW
  have HNEW := Lib.hid hnewW
  have HSZ := Lib.hid hsz
  have HOS := Lib.hid hosW
  have HW1 : Hid (∀ b, b < w.heap.size → w1.heap[b]? = w.heap[b]?) := Lib.hid (fun b hb' => (hb1.block b (by rw [hs0]; omega)).trans (Below.heap_alloc w _ b hb'))
  have HNW : Hid (Vf.Fs w1 (fun b => (G b ∨ Gp b) ∨ w.heap.size + 1 ≤ b) (.slice A1 (Vf.does S.now a).length cc1) (Vf.does S.now a)) := Lib.hid (by have := HN.out; rw [hs0] at this; exact this)
  rw [← hW1]
  clear hrl hfsW holdW hnewW hboxW hosW cf1 ff1 hW1 hsz
  go_wp2_with fail
  go_region_law (refine step_app _ rfl (.tmp 18) (.tmp 20) 61 rfl 0 118 i0 _ 4 56 Tryz.underlying61 HI.out HZ.out.1 HZ.out.2.1 HZ.out.2.2 rfl (by decide) lv S.l.length ys (by simp [Act.eval]) HOW.out (fun b => b = W1.heap.size) (some ⟨W1.heap.size, 0, none⟩) 1 1 [.int .i64 a.kind, .string ⟨a.name.toArray⟩, .int .i64 (a.off : Int), .slice Ap a.p.length cp] (by simp [Act.eval]) (by simp) (Rd.fresh W1 _ _ _ rfl) (by intro u hu; simp at hu; rcases hu with rfl | rfl | rfl | rfl <;> rfl) (by unfold maxLen; omega) (by omega) (Nat.zero_le _) ?_; intro v2 w2 hown2 hg2 hat2 hnil2; obtain ⟨g2, cap2, rfl⟩ := owns_form hown2 (by omega); have cf3 : w2.cell? ⟨fs, 3, none⟩ = some lv := (hg2.cell_far ⟨fs, 3, none⟩ (hfsA _) (fun e => (HRL.out fs e.symm).2 rfl)).trans ((World.cell?_alloc_lt _ _ _ hfsl).trans e3); have ff3 : w2.frozen? ⟨fs, 3, none⟩ = false := (hg2.frozen_far ⟨fs, 3, none⟩ (hfsA _) (fun e => (HRL.out fs e.symm).2 rfl)).trans ((frozen_old _ _ _ hfsl).trans e3f))
  all_goals
   go_wp2_with fail
   go_ret
   exact do_end (o := .cells #[.int .i64 a.kind, .string ⟨a.name.toArray⟩, .int .i64 (a.off : Int), .slice Ap a.p.length cp] 118) H.out HP.out HGp.out HNW.out HSZ.out hs1 HFS.out HOLD.out HNEW.out HW1.out HOS.out hown2 ⟨hg2.os, hg2.tape, hg2.output, hg2.size, hg2.block⟩ hat2
end
section
open Go.RowKit
open Me
namespace Vf
theorem Fs.nth {w : World} {G : Nat → Prop} {v : Value} {l : List Fl} (h : Fs w G v l) (k : Nat) (hk : k < l.length) :
 ∃ rb ro c A2 c2, v = .slice (some ⟨rb, ro, none⟩) l.length c ∧ l.length ≤ c ∧ c ≤ maxLen ∧ w.cell? ⟨rb, ro + k * 2, none⟩ = some (.string ⟨(l[k].name).toArray⟩) ∧ w.cell? ⟨rb, ro + k * 2 + 1, none⟩ = some (.slice A2 (l[k].b).length c2) ∧
  Bs w G (.slice A2 (l[k].b).length c2) l[k].b ∧ rb < w.heap.size ∧ G rb := by
 obtain ⟨A, c, xs, rfl, hc, hcm, hrd, hels⟩ := h
 obtain ⟨cs, hcs, hx⟩ := hels.get FlC.two k hk
 have hxl := hels.length FlC.two
 obtain ⟨rb, ro, rfl, hlt, hg, hcell⟩ := hrd.lit (k * 2) (by omega)
 obtain ⟨bv, rfl, hbs⟩ := hcs
 have hb := hbs
 obtain ⟨A2, c2, rfl, _, _, _⟩ := hbs
 refine ⟨rb, ro, c, A2, c2, rfl, hc, hcm, hcell _ _ (hx 0 (by omega)), ?_, hb, hlt, hg⟩
 have := hcell _ _ (hx 1 (by omega))
 rwa [← Nat.add_assoc] at this
theorem ix_at {l : List Fl} {n : List UInt8} (h : ¬ ix l n < 0) : ∃ k : Nat, ix l n = (k : Int) ∧ k < l.length := by
 obtain ⟨h1, h2⟩ := ix_bd l n
 exact ⟨(ix l n).toNat, by omega, by omega⟩
def size (l : List Fl) (n : List UInt8) : Int × Int := if is n = false then (0, 1) else if ix l n < 0 then (0, 5) else (((l.getD (ix l n).toNat ⟨[], []⟩).b.length : Int), 0)
end Vf
theorem ret_two {a b c d : Int} (h : (a, b) = (c, d)) : Ending.returned (.tuple #[.int .i64 a, .int .i64 b]) = .returned (.tuple #[.int .i64 c, .int .i64 d]) := by
 injection h with h1 h2
 rw [h1, h2]
theorem size_any {w : World} {G : Nat → Prop} {fs : Nat} {lr : Option Nat} {S : Vf.Sv} {nv wv lv : Value} {ys : List Value} (h : Vf.At w G fs lr S nv wv lv ys) (n : List UInt8) (hl : S.now.length ≤ 1048576) :
 Calls Tryz.prog 12 #[.pointer (some ⟨fs, 0, none⟩), .string ⟨n.toArray⟩] w fun e w' => e = .returned (.tuple #[.int .i64 (Vf.size S.now n).1, .int .i64 (Vf.size S.now n).2]) ∧ w = w' := by
 obtain ⟨c0, c1, c2, c3, hf⟩ := h.cells
 have HFD := Lib.hid (find_any S.now n nv G w h.now hl)
 have HIS := Lib.hid (is_any n w)
 have HS : Hid (Vf.size S.now n = if Vf.is n = false then (0, 1) else if Vf.ix S.now n < 0 then (0, 5) else (((S.now.getD (Vf.ix S.now n).toNat ⟨[], []⟩).b.length : Int), 0)) := Lib.hid rfl
 cases hi : Vf.is n
 ·rw [hi] at HIS HS
  have HR : Hid (Vf.size S.now n = (0, 1)) := Lib.hid (by rw [HS.out]; rfl)
  obtain ⟨i1, i2⟩ := Vf.ix_bd S.now n
  clear HS hf h
  generalize Vf.size S.now n = r at *
  generalize Vf.ix S.now n = i at *
  go_enter Tryz.func12, Tryz.ntmps12
  go_wp2_with (first | (go_at_call 35; ((with_reducible refine (HFD.out).mono ?_); rintro e w' ⟨rfl, rfl⟩)) | (go_at_call 36; ((with_reducible refine (HIS.out).mono ?_); rintro e w' ⟨rfl, rfl⟩)))
  ((try simp only [Exit.inBlock, Exit.then]); refine bodyPost_ret (results_tmp2 rfl _ _ _) rfl ?_)
  exact ⟨ret_two HR.out.symm, rfl⟩
 ·rw [hi] at HIS HS
  by_cases hx : Vf.ix S.now n < 0
  ·have HR : Hid (Vf.size S.now n = (0, 5)) := Lib.hid (by rw [HS.out]; simp [hx])
   obtain ⟨i1, i2⟩ := Vf.ix_bd S.now n
   clear HS hf h
   generalize Vf.size S.now n = r at *
   generalize Vf.ix S.now n = i at *
   go_enter Tryz.func12, Tryz.ntmps12
   go_wp2_with (first | (go_at_call 35; ((with_reducible refine (HFD.out).mono ?_); rintro e w' ⟨rfl, rfl⟩)) | (go_at_call 36; ((with_reducible refine (HIS.out).mono ?_); rintro e w' ⟨rfl, rfl⟩)))
   ((try simp only [Exit.inBlock, Exit.then]); refine bodyPost_ret (results_tmp2 rfl _ _ _) rfl ?_)
   exact ⟨ret_two HR.out.symm, rfl⟩
  ·obtain ⟨k, hk, hkl⟩ := Vf.ix_at hx
   have HR : Hid (Vf.size S.now n = (((S.now[k].b).length : Int), 0)) := Lib.hid (by rw [HS.out, hk]; simp [hkl])
   obtain ⟨rb, ro, c, A2, cc, rfl, hc, hcm, d0, d1, hbs, _, _⟩ := h.now.nth k hkl
   obtain ⟨A3, c3', he, hc2, hcm2, _⟩ := hbs
   injection he with he1 he2 he3
   subst he1 he3
   unfold maxLen at hcm hcm2
   rw [hk] at HFD
   clear HS hf h hx
   generalize Vf.size S.now n = r at *
   go_enter Tryz.func12, Tryz.ntmps12
   go_wp2_with (first | (go_at_call 35; ((with_reducible refine (HFD.out).mono ?_); rintro e w' ⟨rfl, rfl⟩)) | (go_at_call 36; ((with_reducible refine (HIS.out).mono ?_); rintro e w' ⟨rfl, rfl⟩)))
   ((try simp only [Exit.inBlock, Exit.then]); refine bodyPost_ret (results_tmp2 rfl _ _ _) rfl ?_)
   exact ⟨ret_two HR.out.symm, rfl⟩
theorem new_any (room : Int) (w : World) (hr : 0 ≤ room) (hr2 : room ≤ 1073741824) :
 Calls Tryz.prog 5 #[.int .i64 room] w fun e w' => e = .returned (.tuple #[.pointer (some ⟨w.heap.size, 0, none⟩), .int .i64 0]) ∧ Vf.At w' (fun _ => False) w.heap.size none ⟨room, [], [], []⟩ (.slice none 0 0) (.slice none 0 0) (.slice none 0 0) [] ∧ Below w.heap.size w w' := by
 go_enter Tryz.func5, Tryz.ntmps5
 go_wp2_with fail
 ((try simp only [Exit.inBlock, Exit.then]); refine bodyPost_ret (results_tmp2 rfl _ _ _) rfl ?_)
 refine ⟨rfl, ⟨heap_alloc_new w _, ⟨none, 0, [], rfl, Nat.le_refl _, Nat.zero_le _, Rd.none_ _ _ _, rfl⟩, ⟨none, 0, [], rfl, Nat.le_refl _, Nat.zero_le _, Rd.none_ _ _ _, rfl⟩, World.ownsRow_nil _ _ _ _, rfl, rfl, id, (fun g h => nomatch h), fun _ h => h.elim⟩, (Below.refl _ _).alloc (Nat.le_refl _) _⟩
theorem put_heap {w : World} {g i : Nat} {cs : Array Value} {t : TypeId} {fr : Nat × Nat} (h : w.heap[g]? = some (.cells cs t fr)) (u : Value) : (w.setCell ⟨g, i, none⟩ u).heap[g]? = some (.cells (cs.setIfInBounds i u) t fr) := by
 simp [World.setCell, Array.getElem?_modify, h]
theorem put_size (w : World) (p : Addr) (u : Value) : (w.setCell p u).heap.size = w.heap.size := by simp [World.setCell]
theorem sync_end {w : World} {G : Nat → Prop} {fs : Nat} {lr : Option Nat} {S : Vf.Sv} {nv wv lv : Value} {ys : List Value} (h : Vf.At w G fs lr S nv wv lv ys) :
 Vf.At ((w.setCell ⟨fs, 2, none⟩ nv).setCell ⟨fs, 3, none⟩ (.slice none 0 0)) G fs none { S with was := S.now, l := [] } nv nv (.slice none 0 0) [] := by
 have hs : ((w.setCell ⟨fs, 2, none⟩ nv).setCell ⟨fs, 3, none⟩ (.slice none 0 0)).heap.size = w.heap.size := by rw [put_size, put_size]
 have hk : ∀ b, b < w.heap.size → G b → ((w.setCell ⟨fs, 2, none⟩ nv).setCell ⟨fs, 3, none⟩ (.slice none 0 0)).heap[b]? = w.heap[b]? := fun b _ hg => by
  have hne : b ≠ fs := fun e => h.gfs (e ▸ hg)
  rw [Below.heap_setCell _ ⟨fs, 3, none⟩ _ b hne, Below.heap_setCell _ ⟨fs, 2, none⟩ _ b hne]
 refine ⟨?_, h.now.keep (by omega) hk, h.now.keep (by omega) hk, World.ownsRow_nil _ _ _ _, rfl, rfl, h.gfs, (fun g h => nomatch h), fun b hb => by rw [hs]; exact h.lt b hb⟩
 rw [put_heap (put_heap h.heap _)]
 rfl
theorem sync_any {w : World} {G : Nat → Prop} {fs : Nat} {lr : Option Nat} {S : Vf.Sv} {nv wv lv : Value} {ys : List Value} (h : Vf.At w G fs lr S nv wv lv ys) :
 Calls Tryz.prog 24 #[.pointer (some ⟨fs, 0, none⟩)] w fun e w' => e = .returned (.tuple #[]) ∧ Vf.At w' G fs none { S with was := S.now, l := [] } nv nv (.slice none 0 0) [] ∧ Kp (fun b => b = fs) w w' := by
 obtain ⟨c0, c1, c2, c3, hf⟩ := h.cells
 have H := Lib.hid h
 obtain ⟨A, c, xs, hnv, _⟩ := h.now
 subst hnv
 have hf1 := hf 1
 have hf2 := hf 2
 have hf3 := hf 3
 clear h hf
 go_enter Tryz.func24, Tryz.ntmps24
 go_wp2_with fail
 ((try simp only [Exit.inBlock, Exit.then]); first | (refine bodyPost_ret (results_none rfl _ _ _) rfl ?_) | (refine bodyPost_end (results_none rfl _ _ _) rfl ?_))
 refine ⟨rfl, sync_end H.out, ((Kp.refl (fun b => b = fs) w).setCell ⟨fs, 2, none⟩ (.inr rfl) _).setCell ⟨fs, 3, none⟩ (.inr rfl) _⟩
end
section
open Go.RowKit
open Me
namespace Vf
theorem At.kp {w w' : World} {G O : Nat → Prop} {fs : Nat} {lr : Option Nat} {S : Sv} {nv wv lv : Value} {ys : List Value} (h : At w G fs lr S nv wv lv ys) (k : Kp O w w') (hO : ∀ b, O b → ¬ G b ∧ b ≠ fs ∧ lr ≠ some b) : At w' G fs lr S nv wv lv ys := by
 have hk : ∀ b, b < w.heap.size → G b → w'.heap[b]? = w.heap[b]? := fun b hb hg => k.block b hb (fun o => (hO b o).1 hg)
 refine ⟨(k.block fs h.fsLt (fun o => (hO fs o).2.1 rfl)).trans h.heap, h.now.keep k.size hk, h.was.keep k.size hk, owns_keep h.own (fun g hg => k.block g (h.own.lt g hg).2 (fun o => (hO g o).2.2 (h.row ▸ hg))), h.acts.mono fun x cs hx => hx.keep k.size hk, h.row, h.gfs, h.glr, fun b hb => Nat.lt_of_lt_of_le (h.lt b hb) k.size⟩
theorem At.below {w w' : World} {G : Nat → Prop} {fs : Nat} {lr : Option Nat} {S : Sv} {nv wv lv : Value} {ys : List Value} (h : At w G fs lr S nv wv lv ys) (b : Below w.heap.size w w') : At w' G fs lr S nv wv lv ys :=
 h.kp (O := fun _ => False) (Kp.of_below b) (fun _ o => o.elim)
theorem At.drew {w : World} {G : Nat → Prop} {fs : Nat} {lr : Option Nat} {S : Sv} {nv wv lv : Value} {ys : List Value} (h : At w G fs lr S nv wv lv ys) : At w.drew G fs lr S nv wv lv ys :=
 h.kp (O := fun _ => False) (Kp.refl _ _).drew (fun _ o => o.elim)
def Sv.act (S : Sv) (a : Ac) : Sv := { S with now := does S.now a, l := S.l ++ [a] }
def Next (w : World) (G : Nat → Prop) (fs : Nat) (lr : Option Nat) (R : Sv × Int) (e : Ending) (w' : World) : Prop :=
 e = .returned (.int .i64 R.2) ∧ ∃ G' lr' nv' wv' lv' ys', At w' G' fs lr' R.1 nv' wv' lv' ys' ∧ Kp (fun b => b = fs ∨ lr = some b) w w' ∧
  (∀ b, G' b → G b ∨ w.heap.size ≤ b) ∧ (∀ g, lr' = some g → lr = some g ∨ w.heap.size ≤ g)
theorem Next.no {w w' : World} {G : Nat → Prop} {fs : Nat} {lr : Option Nat} {S : Sv} {nv wv lv : Value} {ys : List Value} (h : At w' G fs lr S nv wv lv ys) (b : Below w.heap.size w w') {R : Sv × Int} {i : Int} (hR : R = (S, i)) : Next w G fs lr R (.returned (.int .i64 i)) w' := by
 subst hR
 exact ⟨rfl, G, lr, nv, wv, lv, ys, h, Kp.of_below b, fun _ hb => .inl hb, fun _ hg => .inl hg⟩
theorem Next.done {w w1 w2 : World} {G Gp : Nat → Prop} {fs : Nat} {lr : Option Nat} {S : Sv} {a : Ac} {e : Ending} (b : Below w.heap.size w w1) (hGp : ∀ i, Gp i → w.heap.size ≤ i) (hd : Done w1 G Gp fs lr S a e w2) {R : Sv × Int} (hR : R = (S.act a, 0)) : Next w G fs lr R e w2 := by
 subst hR
 obtain ⟨rfl, G', lr', nv', wv', lv', ys', h1, h2, h3, h4⟩ := hd
 refine ⟨rfl, G', lr', nv', wv', lv', ys', h1, (Kp.of_below b).trans h2 (fun _ _ o => o), fun i hi => ?_, fun g hg => ?_⟩
 ·rcases h3 i hi with h | h | h
  ·exact .inl h
  ·exact .inr (hGp i h)
  ·exact .inr (Nat.le_trans b.size h)
 ·rcases h4 g hg with h | h
  ·exact .inl h
  ·exact .inr (Nat.le_trans b.size h)
def create (S : Sv) (n b : List UInt8) : Sv × Int := if is n = false then (S, 1) else if 0 ≤ ix S.now n then (S, 6) else if S.room - used S.now < b.length then (S, 4) else (S.act ⟨1, n, 0, b⟩, 0)
theorem used_mem {l : List Fl} {f : Fl} (h : f ∈ l) : f.b.length ≤ used l := by
 unfold used
 induction l with
 | nil => cases h
 | cons x r ih =>
   rw [List.map_cons, List.sum_cons]
   rcases List.mem_cons.1 h with rfl | h
   ·omega
   ·have := ih h; omega
end Vf
end
section
open Go.RowKit
open Me
namespace Vf
def lenAt (l : List Fl) (n : List UInt8) : Nat := (l.getD (ix l n).toNat ⟨[], []⟩).b.length
def write (S : Sv) (n : List UInt8) (t : Int) (b : List UInt8) : Sv × Int :=
 if is n = false then (S, 1) else if ix S.now n < 0 then (S, 5) else if t < 0 ∨ (lenAt S.now n : Int) < t ∨ (lenAt S.now n : Int) - t < b.length then (S, 1) else (S.act ⟨2, n, t.toNat, b⟩, 0)
theorem write_one {S : Sv} {n : List UInt8} {t : Int} {b : List UInt8} {k : Nat} (hi : is n = true) (hk : ix S.now n = (k : Int)) (hkl : k < S.now.length) (h : t < 0 ∨ (((S.now[k].b).length : Nat) : Int) < t ∨ (((S.now[k].b).length : Nat) : Int) - t < b.length) : write S n t b = (S, 1) := by
 have hl : lenAt S.now n = (S.now[k].b).length := by unfold lenAt; rw [hk]; simp [hkl]
 unfold write
 rw [if_neg (by simp [hi]), if_neg (by omega), if_pos (by rw [hl]; exact h)]
theorem write_done {S : Sv} {n : List UInt8} {m : Nat} {b : List UInt8} {k : Nat} (hi : is n = true) (hk : ix S.now n = (k : Int)) (hkl : k < S.now.length) (h : m + b.length ≤ (S.now[k].b).length) : write S n (m : Int) b = (S.act ⟨2, n, m, b⟩, 0) := by
 have hl : lenAt S.now n = (S.now[k].b).length := by unfold lenAt; rw [hk]; simp [hkl]
 unfold write
 rw [if_neg (by simp [hi]), if_neg (by omega), if_neg (by rw [hl]; omega)]
 simp
end Vf
theorem write_any {w : World} {G Gq : Nat → Prop} {fs : Nat} {lr : Option Nat} {S : Vf.Sv} {nv wv lv : Value} {ys : List Value} (h : Vf.At w G fs lr S nv wv lv ys) (n : List UInt8) (t : Int) (ps : List (List UInt8)) (pv : Value) (hp : Vf.Ps w Gq pv ps)
 (hl : S.now.length ≤ 1048576) (hll : S.l.length ≤ 1048576) (hu : Vf.used S.now ≤ 4294967296) (hpl : ps.length ≤ 1048576) (hpt : ps.flatten.length ≤ 4294967296) :
 Calls Tryz.prog 91 #[.pointer (some ⟨fs, 0, none⟩), .string ⟨n.toArray⟩, .int .i64 t, pv] w (Vf.Next w G fs lr (Vf.write S n t ps.flatten)) := by
 have HRO := Lib.hid (rows_any ps pv Gq w hp hpl hpt)
 obtain ⟨Aq, cq, xq, rfl, _⟩ := hp
 have HFD : Hid (∀ W, Vf.At W G fs lr S nv wv lv ys → Calls Tryz.prog 35 #[nv, .string ⟨n.toArray⟩] W fun e w' => e = .returned (.int .i64 (Vf.ix S.now n)) ∧ W = w') := Lib.hid fun W hW => find_any S.now n nv G W hW.now hl
 have HIS := Lib.hid (is_any n)
 have HD : Hid (∀ (W : World) (Gp : Nat → Prop) (bv : Value) (m : Nat), Vf.At W G fs lr S nv wv lv ys → Bs W Gp bv ps.flatten → (∀ b, Gp b → b < W.heap.size ∧ b ≠ fs ∧ lr ≠ some b) → Hid (Vf.fits S.now ⟨2, n, m, ps.flatten⟩) → m ≤ 4294967296 → Calls Tryz.prog 51 #[.pointer (some ⟨fs, 0, none⟩), .agg #[.int .i64 2, .string ⟨n.toArray⟩, .int .i64 (m : Int), bv]] W (Vf.Done W G Gp fs lr S ⟨2, n, m, ps.flatten⟩)) :=
  Lib.hid fun W Gp bv m hW hb hGp hft hm => do_any hW ⟨2, n, m, ps.flatten⟩ hb hGp hl hll hft (Lib.hid fun f hf => Nat.le_trans (Vf.used_mem hf) hu) hm
 have H := Lib.hid h
 have hfl := h.fsLt
 have HRW : Hid (∀ g, lr = some g → g < w.heap.size) := Lib.hid fun g hg => (h.own.lt g (h.row.trans hg)).2
 obtain ⟨i1, i2⟩ := Vf.ix_bd S.now n
 cases hi : Vf.is n
 ·rw [hi] at HIS
  have HR : Hid (Vf.write S n t ps.flatten = (S, 1)) := Lib.hid (by unfold Vf.write; rw [if_pos hi])
  obtain ⟨A0, c00, xs0, hnv, _⟩ := h.now
  subst hnv
  clear HD h
  generalize ps.flatten = b at *
  generalize Vf.ix S.now n = i at *
  go_enter Tryz.func91, Tryz.ntmps91
  go_wp2_with (first | (go_at_call 49; (with_reducible refine (HRO.out).mono ?_); rintro e w' ⟨bv, rfl, ⟨A1, cc1, rfl, hc1, hcm1, hrd1⟩, hb⟩; have HW := Lib.hid (H.out.below hb); obtain ⟨d0, d1, d2, d3, df⟩ := HW.out.cells; clear df) | (go_at_call 36; ((with_reducible refine (HIS.out _).mono ?_); rintro e w' ⟨rfl, rfl⟩)) | (go_at_call 35; ((with_reducible refine (HFD.out _ HW.out).mono ?_); rintro e w' ⟨rfl, rfl⟩)))
  go_ret
  exact Vf.Next.no HW.out hb HR.out
 ·rw [hi] at HIS
  by_cases hx : Vf.ix S.now n < 0
  ·have HR : Hid (Vf.write S n t ps.flatten = (S, 5)) := Lib.hid (by unfold Vf.write; rw [if_neg (by simp [hi]), if_pos hx])
   obtain ⟨A0, c00, xs0, hnv, _⟩ := h.now
   subst hnv
   clear HD h
   generalize ps.flatten = b at *
   generalize Vf.ix S.now n = i at *
   go_enter Tryz.func91, Tryz.ntmps91
   go_wp2_with (first | (go_at_call 49; (with_reducible refine (HRO.out).mono ?_); rintro e w' ⟨bv, rfl, ⟨A1, cc1, rfl, hc1, hcm1, hrd1⟩, hb⟩; have HW := Lib.hid (H.out.below hb); obtain ⟨d0, d1, d2, d3, df⟩ := HW.out.cells; clear df) | (go_at_call 36; ((with_reducible refine (HIS.out _).mono ?_); rintro e w' ⟨rfl, rfl⟩)) | (go_at_call 35; ((with_reducible refine (HFD.out _ HW.out).mono ?_); rintro e w' ⟨rfl, rfl⟩)))
   go_ret
   exact Vf.Next.no HW.out hb HR.out
  ·obtain ⟨k, hk, hkl⟩ := Vf.ix_at hx
   have HIX := Lib.hid hk
   have hft : ∀ m : Nat, m + ps.flatten.length ≤ (S.now[k].b).length → Hid (Vf.fits S.now ⟨2, n, m, ps.flatten⟩) := fun m hm => Lib.hid (fun _ j hj e => by
    have e2 : (j : Int) = (k : Int) := e.trans hk
    obtain rfl : j = k := by omega
    exact hm)
   have HFT := Lib.hid hft
   have HM := Lib.hid (Vf.used_mem (List.getElem_mem hkl))
   have hlk : (S.now[k].b).length ≤ 4294967296 := Nat.le_trans HM.out hu
   have HW1 : Hid (∀ b : List UInt8, t < 0 ∨ (((S.now[k].b).length : Nat) : Int) < t ∨ (((S.now[k].b).length : Nat) : Int) - t < b.length → Vf.write S n t b = (S, 1)) := Lib.hid fun b hb => Vf.write_one hi hk hkl hb
   have HW2 : Hid (∀ (b : List UInt8) (m : Nat), m + b.length ≤ (S.now[k].b).length → Vf.write S n (m : Int) b = (S.act ⟨2, n, m, b⟩, 0)) := Lib.hid fun b m hb => Vf.write_done hi hk hkl hb
   obtain ⟨rb, ro, c, A2, cc, rfl, hc, hcm, g0, g1, hbs, hrb, _⟩ := h.now.nth k hkl
   obtain ⟨A3, c3', he, hc2, hcm2, _⟩ := hbs
   injection he with he1 he2 he3
   subst he1 he3
   unfold maxLen at hcm hcm2
   rw [hk] at HFD
   clear h hx hft i1 i2 hk
   generalize ps.flatten = b at *
   generalize hlen : (S.now[k].b).length = len at *
   clear hlen
   by_cases ht : t < 0
   ·have HR := Lib.hid (HW1.out b (.inl ht))
    clear HW1 HW2 HD HFT
    go_enter Tryz.func91, Tryz.ntmps91
    go_wp2_with (first | (go_at_call 49; (with_reducible refine (HRO.out).mono ?_); rintro e w' ⟨bv, rfl, ⟨A1, cc1, rfl, hc1, hcm1, hrd1⟩, hb⟩; have HW := Lib.hid (H.out.below hb); obtain ⟨d0, d1, d2, d3, df⟩ := HW.out.cells; clear df; have e1 := (hb.cell (p := ⟨rb, ro + k * 2 + 1, none⟩) hrb).trans g1) | (go_at_call 36; ((with_reducible refine (HIS.out _).mono ?_); rintro e w' ⟨rfl, rfl⟩)) | (go_at_call 35; ((with_reducible refine (HFD.out _ HW.out).mono ?_); rintro e w' ⟨rfl, rfl⟩)))
    go_ret
    exact Vf.Next.no HW.out hb HR.out
   ·obtain ⟨m, rfl⟩ : ∃ m : Nat, t = (m : Int) := ⟨t.toNat, by omega⟩
    clear ht
    by_cases h1 : (len : Int) < (m : Int)
    ·have HR := Lib.hid (HW1.out b (.inr (.inl h1)))
     clear HW1 HW2 HD HFT
     go_enter Tryz.func91, Tryz.ntmps91
     go_wp2_with (first | (go_at_call 49; (with_reducible refine (HRO.out).mono ?_); rintro e w' ⟨bv, rfl, ⟨A1, cc1, rfl, hc1, hcm1, hrd1⟩, hb⟩; have HW := Lib.hid (H.out.below hb); obtain ⟨d0, d1, d2, d3, df⟩ := HW.out.cells; clear df; have e1 := (hb.cell (p := ⟨rb, ro + k * 2 + 1, none⟩) hrb).trans g1) | (go_at_call 36; ((with_reducible refine (HIS.out _).mono ?_); rintro e w' ⟨rfl, rfl⟩)) | (go_at_call 35; ((with_reducible refine (HFD.out _ HW.out).mono ?_); rintro e w' ⟨rfl, rfl⟩)))
     go_ret
     exact Vf.Next.no HW.out hb HR.out
    ·have hwr : IntKind.i64.wrap ((len : Int) - (m : Int)) = (len : Int) - (m : Int) := IntWalk.i64_in _ (by omega)
     by_cases h2 : (len : Int) - (m : Int) < (b.length : Int)
     ·have HR := Lib.hid (HW1.out b (.inr (.inr h2)))
      clear HW1 HW2 HD HFT
      go_enter Tryz.func91, Tryz.ntmps91
      go_wp2_with (first | (go_at_call 49; (with_reducible refine (HRO.out).mono ?_); rintro e w' ⟨bv, rfl, ⟨A1, cc1, rfl, hc1, hcm1, hrd1⟩, hb⟩; have HW := Lib.hid (H.out.below hb); obtain ⟨d0, d1, d2, d3, df⟩ := HW.out.cells; clear df; have e1 := (hb.cell (p := ⟨rb, ro + k * 2 + 1, none⟩) hrb).trans g1) | (go_at_call 36; ((with_reducible refine (HIS.out _).mono ?_); rintro e w' ⟨rfl, rfl⟩)) | (go_at_call 35; ((with_reducible refine (HFD.out _ HW.out).mono ?_); rintro e w' ⟨rfl, rfl⟩)))
      go_ret
      exact Vf.Next.no HW.out hb HR.out
     ·have HR := Lib.hid (HW2.out b m (by omega))
      have HFM := HFT.out m (by omega)
      clear HW1 HW2 HFT
      go_enter Tryz.func91, Tryz.ntmps91
      go_wp2_with (first | (go_at_call 49; (with_reducible refine (HRO.out).mono ?_); rintro e w' ⟨bv, rfl, ⟨A1, cc1, rfl, hc1, hcm1, hrd1⟩, hb⟩; have HW := Lib.hid (H.out.below hb); obtain ⟨d0, d1, d2, d3, df⟩ := HW.out.cells; clear df; have e1 := (hb.cell (p := ⟨rb, ro + k * 2 + 1, none⟩) hrb).trans g1; have HDW := Lib.hid (HD.out w' (fun i => w.heap.size ≤ i ∧ i < w'.heap.size) (.slice A1 b.length cc1) m HW.out ⟨A1, cc1, rfl, hc1, hcm1, hrd1.mono (fun i hi hg => ⟨hg, hi⟩)⟩ (fun i hi => ⟨hi.2, by omega, fun e => by have := HRW.out i e; omega⟩) HFM (by omega))) | (go_at_call 36; ((with_reducible refine (HIS.out _).mono ?_); rintro e w' ⟨rfl, rfl⟩)) | (go_at_call 35; ((with_reducible refine (HFD.out _ HW.out).mono ?_); rintro e w' ⟨rfl, rfl⟩)) | (go_at_call 51; (with_reducible refine (HDW.out).mono ?_); rintro e w' hd; obtain rfl := hd.1; have HDN := Lib.hid hd; clear hd))
      go_ret
      exact Vf.Next.done hb (fun i hi => hi.1) HDN.out HR.out
end
end Go.Proofs.YtljlanhpjpjgaaaGreatDoor
