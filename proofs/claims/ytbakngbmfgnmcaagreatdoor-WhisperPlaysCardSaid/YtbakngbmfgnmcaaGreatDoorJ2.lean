/- VrDo VrTell VrActs VrWrite VrCrash VrSound VrRead FxPure FxBase WhPure -/
import Derived.Test.YtbakngbmfgnmcaaGreatDoorJ1
import Derived.Deep.RegionWith
import Derived.Deep.RegionLaw
import Derived.WalkKit
import Derived.Test.YtbakngbmfgnmcaaGreatDoorRows
import Derived.WalkSpells
import Derived.WalkLawsBesides
import Derived.Deep.QuietTactic
import Derived.BigQuiet
import Derived.Lib.QuietBelow
import Derived.Lib.Hide
namespace Go.Proofs.YtbakngbmfgnmcaaGreatDoor
set_option maxRecDepth 100000
set_option maxHeartbeats 8000000
section
open Go.RowKit
open Me
theorem owns_form {w : World} {base : Nat} {e : TypeId} {size n : Nat} {v : Value} {xs : List Value} (h : w.ownsRow base e size v n xs) (hn : 0 < n) : ∃ g cap, v = .slice (some ⟨g, 0, none⟩) n cap := by
 rcases h.2 with ⟨_, h0⟩ | ⟨g, cap, cur, hv, _⟩
 ·omega
 ·exact ⟨g, cap, hv⟩
theorem heap_put {w : World} {g i : Nat} {cs : Array Value} {t : TypeId} {fr : Nat × Nat} (h : w.heap[g]? = some (.cells cs t fr)) (u : Value) : (w.setCell ⟨g, i, none⟩ u).heap[g]? = some (.cells (cs.setIfInBounds i u) t fr) := by
 simp [World.setCell, Array.getElem?_modify, h]
theorem size_put (w : World) (p : Addr) (u : Value) : (w.setCell p u).heap.size = w.heap.size := by simp [World.setCell]
theorem frozen_old (w : World) (o : Obj) (a : Addr) (h : a.block < w.heap.size) : (w.alloc o).frozen? a = w.frozen? a := World.frozen?_of_block (Below.heap_alloc w o a.block h)
theorem acinfo : (Tryz.prog.info? 122).map (fun i => (i.zero, i.size, i.bytes)) = some (some (.agg #[.int .i64 0, .string ⟨#[]⟩, .int .i64 0, .slice none 0 0]), 4, 56) := by kernel_rfl
namespace Vf
def Done (w : World) (G Gp : Nat → Prop) (fs : Nat) (lr : Option Nat) (S : Sv) (a : Ac) (e : Ending) (w' : World) : Prop :=
 e = .returned (.int .i64 0) ∧ ∃ G' lr' nv' wv' lv' ys', At w' G' fs lr' { S with now := does S.now a, l := S.l ++ [a] } nv' wv' lv' ys' ∧ Kp (fun b => b = fs ∨ lr = some b) w w' ∧
  (∀ b, G' b → G b ∨ Gp b ∨ w.heap.size ≤ b) ∧ (∀ g, lr' = some g → lr = some g ∨ w.heap.size ≤ g)
end Vf
theorem do_end {w w1 W1 w2 : World} {G Gp : Nat → Prop} {fs g2 cap2 cp : Nat} {lr : Option Nat} {S : Vf.Sv} {nv wv lv v1 : Value} {ys : List Value} {a : Vf.Ac} {Ap : Option Addr} {o : Obj}
 (h : Vf.At w G fs lr S nv wv lv ys) (hp : Bs w Gp (.slice Ap a.p.length cp) a.p) (hGp : ∀ b, Gp b → b < w.heap.size ∧ b ≠ fs ∧ lr ≠ some b)
 (hnow : Vf.Fs w1 (fun b => (G b ∨ Gp b) ∨ w.heap.size + 1 ≤ b) v1 (Vf.does S.now a)) (hsz : W1.heap.size = w1.heap.size) (hs1 : w.heap.size + 1 ≤ w1.heap.size)
 (hfsW : W1.heap[fs]? = some (.cells #[.int .i64 S.room, v1, wv, lv] 82 (0, 0))) (hold : ∀ b, b < w.heap.size → b ≠ fs → W1.heap[b]? = w.heap[b]?) (hnew : ∀ b, w.heap.size ≤ b → W1.heap[b]? = w1.heap[b]?)
 (hw1 : ∀ b, b < w.heap.size → w1.heap[b]? = w.heap[b]?) (hos : W1.os = w.os ∧ W1.tape = w.tape ∧ W1.output = w.output)
 (hown2 : w2.ownsRow 0 122 4 (.slice (some ⟨g2, 0, none⟩) (S.l.length + 1) cap2) (S.l.length + 1) (ys ++ [.int .i64 a.kind, .string ⟨a.name.toArray⟩, .int .i64 (a.off : Int), .slice Ap a.p.length cp]))
 (hg2 : (W1.alloc o).grownBy w2 lv.ownBlock) (hat2 : (Value.slice (some ⟨g2, 0, none⟩) (S.l.length + 1) cap2).ownBlock = lv.ownBlock ∨ (Value.slice (some ⟨g2, 0, none⟩) (S.l.length + 1) cap2).ownBlock = some (W1.alloc o).heap.size) :
 Vf.Done w G Gp fs lr S a (.returned (.int .i64 0)) (w2.setCell ⟨fs, 3, none⟩ (.slice (some ⟨g2, 0, none⟩) (S.l.length + 1) cap2)) := by
 have hfl := h.fsLt
 have hob : (Value.slice (some ⟨g2, 0, none⟩) (S.l.length + 1) cap2).ownBlock = some g2 := rfl
 rw [hob] at hat2
 have hasz : (W1.alloc o).heap.size = w1.heap.size + 1 := by simp [hsz]
 rw [hasz] at hat2
 have hs2 := hg2.size
 rw [hasz] at hs2
 have hrow : ∀ g, lv.ownBlock = some g → lr = some g ∧ g < w.heap.size := fun g hg => ⟨h.row ▸ hg, (h.own.lt g hg).2⟩
 have hg2c : (lr = some g2 ∧ g2 < w.heap.size) ∨ g2 = w1.heap.size + 1 := by
  rcases hat2 with e | e
  ·exact .inl (hrow g2 e.symm)
  ·exact .inr (Option.some.inj e)
 have hg2f : g2 ≠ fs := by
  rcases hg2c with ⟨e, _⟩ | e
  ·exact (h.glr g2 e).2
  ·omega
 have K2 : ∀ b, b < (W1.alloc o).heap.size → lv.ownBlock ≠ some b → w2.heap[b]? = (W1.alloc o).heap[b]? := fun b hb hn => hg2.block b hb (fun e => hn e.symm)
 have K : ∀ b, b < w1.heap.size → b ≠ fs → lv.ownBlock ≠ some b → (w2.setCell ⟨fs, 3, none⟩ (.slice (some ⟨g2, 0, none⟩) (S.l.length + 1) cap2)).heap[b]? = w1.heap[b]? := fun b hb hn hr => by
  rw [Below.heap_setCell w2 ⟨fs, 3, none⟩ _ b hn, K2 b (by rw [hasz]; omega) hr, Below.heap_alloc W1 o b (by omega)]
  by_cases hbw : b < w.heap.size
  ·rw [hold b hbw hn, hw1 b hbw]
  ·exact hnew b (by omega)
 have hlvfs : lv.ownBlock ≠ some fs := fun e => (h.glr fs (hrow fs e).1).2 rfl
 have hGr : ∀ b, G b → lv.ownBlock ≠ some b := fun b hb e => (h.glr b (hrow b e).1).1 hb
 have hGf : ∀ b, G b → b ≠ fs := fun b hb e => h.gfs (e ▸ hb)
 have hG2 : ∀ b, G b → b ≠ g2 := fun b hb e => by
  rcases hg2c with ⟨e2, _⟩ | e2
  ·exact (h.glr g2 e2).1 (e ▸ hb)
  ·have := h.lt b hb; omega
 have hP2 : ∀ b, Gp b → b ≠ g2 := fun b hb e => by
  rcases hg2c with ⟨e2, _⟩ | e2
  ·exact (hGp b hb).2.2 (e ▸ e2)
  ·have := (hGp b hb).1; omega
 have hsz3 : (w2.setCell ⟨fs, 3, none⟩ (.slice (some ⟨g2, 0, none⟩) (S.l.length + 1) cap2)).heap.size = w2.heap.size := size_put _ _ _
 have KG : ∀ b, b < w.heap.size → G b → (w2.setCell ⟨fs, 3, none⟩ (.slice (some ⟨g2, 0, none⟩) (S.l.length + 1) cap2)).heap[b]? = w.heap[b]? := fun b hb hg => (K b (by omega) (hGf b hg) (hGr b hg)).trans (hw1 b hb)
 have KP : ∀ b, b < w.heap.size → Gp b → (w2.setCell ⟨fs, 3, none⟩ (.slice (some ⟨g2, 0, none⟩) (S.l.length + 1) cap2)).heap[b]? = w.heap[b]? := fun b hb hg => (K b (by omega) (hGp b hg).2.1 (fun e => (hGp b hg).2.2 (hrow b e).1)).trans (hw1 b hb)
 refine ⟨rfl, fun b => (G b ∨ Gp b ∨ w.heap.size ≤ b) ∧ b < w2.heap.size ∧ b ≠ g2, some g2, v1, wv, .slice (some ⟨g2, 0, none⟩) (S.l.length + 1) cap2, ys ++ [.int .i64 a.kind, .string ⟨a.name.toArray⟩, .int .i64 (a.off : Int), .slice Ap a.p.length cp], ?_, ?_, fun b hb => hb.1, ?_⟩
 ·refine ⟨?_, ?_, ?_, ?_, ?_, rfl, ?_, ?_, ?_⟩
  ·have e1 : w2.heap[fs]? = some (.cells #[.int .i64 S.room, v1, wv, lv] 82 (0, 0)) := by
    rw [K2 fs (by rw [hasz]; omega) hlvfs, Below.heap_alloc W1 o fs (by omega)]
    exact hfsW
   rw [heap_put e1]
   rfl
  ·refine (hnow.wide (fun b hb hg => ?_)).keep (by omega) (fun b hb hg => ?_)
   ·refine ⟨?_, by omega, ?_⟩
    ·rcases hg with (hg | hg) | hg
     ·exact .inl hg
     ·exact .inr (.inl hg)
     ·exact .inr (.inr (by omega))
    ·rcases hg with (hg | hg) | hg
     ·exact hG2 b hg
     ·exact hP2 b hg
     ·rcases hg2c with ⟨_, e2⟩ | e2 <;> omega
   ·obtain ⟨hg, _, _⟩ := hg
    refine K b hb ?_ ?_
    ·rcases hg with hg | hg | hg
     ·exact hGf b hg
     ·exact (hGp b hg).2.1
     ·omega
    ·rcases hg with hg | hg | hg
     ·exact hGr b hg
     ·exact fun e => (hGp b hg).2.2 (hrow b e).1
     ·exact fun e => by have := (hrow b e).2; omega
  ·exact (h.was.keep (by omega) KG).wide (fun b hb hg => ⟨.inl hg, by rw [hsz3] at hb; exact hb, hG2 b hg⟩)
  ·have e : (S.l ++ [a]).length = S.l.length + 1 := by simp
   show World.ownsRow _ 0 _ 4 _ (S.l ++ [a]).length _
   rw [e]
   exact owns_keep hown2 (fun g hg => by
    have : g2 = g := by simpa [Value.ownBlock] using hg
    subst this
    exact Below.heap_setCell w2 ⟨fs, 3, none⟩ _ g2 hg2f)
  ·refine Els.append (h.acts.mono fun x cs hx => (hx.keep (by omega) KG).wide (fun b hb hg => ⟨.inl hg, by rw [hsz3] at hb; exact hb, hG2 b hg⟩)) (Els.one ⟨_, rfl, ?_⟩)
   exact (hp.keep (by omega) KP).mono (fun b hb hg => ⟨.inr (.inl hg), by rw [hsz3] at hb; exact hb, hP2 b hg⟩)
  ·rintro ⟨hg | hg | hg, _, _⟩
   ·exact h.gfs hg
   ·exact (hGp fs hg).2.1 rfl
   ·omega
  ·intro g hg
   have : g2 = g := Option.some.inj hg
   subst this
   exact ⟨fun hx => hx.2.2 rfl, hg2f⟩
  ·intro b hb
   rw [hsz3]
   exact hb.2.1
 ·refine ⟨?_, ?_, ?_, by omega, fun b hb hn => ?_⟩
  ·exact hg2.os.trans hos.1
  ·exact hg2.tape.trans hos.2.1
  ·exact hg2.output.trans hos.2.2
  ·exact (K b (by omega) (fun e => hn (.inl e)) (fun e => hn (.inr (hrow b e).1))).trans (hw1 b hb)
 ·intro g hg
  have : g2 = g := Option.some.inj hg
  subst this
  rcases hg2c with ⟨e, _⟩ | e
  ·exact .inl e
  ·exact .inr (by omega)
theorem do_any {w : World} {G Gp : Nat → Prop} {fs : Nat} {lr : Option Nat} {S : Vf.Sv} {nv wv lv pv : Value} {ys : List Value} (h : Vf.At w G fs lr S nv wv lv ys) (a : Vf.Ac) (hp : Bs w Gp pv a.p)
 (hGp : ∀ b, Gp b → b < w.heap.size ∧ b ≠ fs ∧ lr ≠ some b) (hl : S.now.length ≤ 1048576) (hll : S.l.length ≤ 1048576) (hfit : Hid (Vf.fits S.now a)) (hb : Hid (∀ f ∈ S.now, f.b.length ≤ 4294967296)) (ho : a.off ≤ 4294967296) :
 Calls Tryz.prog 56 #[.pointer (some ⟨fs, 0, none⟩), .agg #[.int .i64 a.kind, .string ⟨a.name.toArray⟩, .int .i64 (a.off : Int), pv]] w (Vf.Done w G Gp fs lr S a) := by
 obtain ⟨i0, hi0, hz0, hz1, hz2⟩ := info_parts acinfo
 have HI := Lib.hid hi0
 have HZ := Lib.hid (And.intro hz0 (And.intro hz1 hz2))
 clear hi0 hz0 hz1 hz2
 obtain ⟨c0, c1, c2, c3, hf⟩ := h.cells
 have hfl := h.fsLt
 have H := Lib.hid h
 have HP := Lib.hid hp
 have HGp := Lib.hid hGp
 obtain ⟨Ap, cp, rfl, hcp, hcpm, hrdp⟩ := hp
 have hf0 := hf 0
 have hf1 := hf 1
 have hf3 := hf 3
 have HD : Hid (∀ (W : World) (_ : Vf.Fs W (fun b => G b ∨ Gp b) nv S.now) (_ : Bs W (fun b => G b ∨ Gp b) (.slice Ap a.p.length cp) a.p), Calls Tryz.prog 87 #[nv, .agg #[.int .i64 a.kind, .string ⟨a.name.toArray⟩, .int .i64 (a.off : Int), .slice Ap a.p.length cp]] W (Vf.MadeF (fun b => G b ∨ Gp b) W (Vf.does S.now a))) :=
  Lib.hid fun W h1 h2 => does_any S.now a nv _ _ W h1 h2 hl hfit hb ho
 have HF : Hid (∀ W : World, w.heap.size ≤ W.heap.size → (∀ b, b < w.heap.size → W.heap[b]? = w.heap[b]?) → Vf.Fs W (fun b => G b ∨ Gp b) nv S.now ∧ Bs W (fun b => G b ∨ Gp b) (.slice Ap a.p.length cp) a.p) :=
  Lib.hid fun W h1 h2 => ⟨(H.out.now.wide (fun _ _ h => .inl h)).keep h1 (fun b hb _ => h2 b hb), (HP.out.mono (fun _ _ h => .inr h)).keep h1 (fun b hb _ => h2 b hb)⟩
 have HFW := HF.out (w.alloc (.cells #[.int .i64 a.kind, .string ⟨a.name.toArray⟩, .int .i64 (a.off : Int), .slice Ap a.p.length cp] 122)).drew (by show w.heap.size ≤ (w.alloc (.cells #[.int .i64 a.kind, .string ⟨a.name.toArray⟩, .int .i64 (a.off : Int), .slice Ap a.p.length cp] 122)).heap.size; simp) (fun b hb => Below.heap_alloc w _ b hb)
 have HC := Lib.hid (HD.out _ HFW.1 HFW.2)
 have hfl2 : fs < (w.alloc (.cells #[.int .i64 a.kind, .string ⟨a.name.toArray⟩, .int .i64 (a.off : Int), .slice Ap a.p.length cp] 122)).drew.heap.size := by show fs < (w.alloc (.cells #[.int .i64 a.kind, .string ⟨a.name.toArray⟩, .int .i64 (a.off : Int), .slice Ap a.p.length cp] 122)).heap.size; simp; omega
 clear h hf hrdp hGp hfit HFW HD HF
 go_enter Tryz.func56, Tryz.ntmps56
 go_wp2_with fail
 go_region_with (go_at_call 87; refine HC.out.mono ?_; rintro e w1 ⟨v1, rfl, hnow, hb1⟩; have HN := Lib.hid hnow; obtain ⟨A1, cc1, xs1, rfl, _, _, _, _⟩ := hnow; have cf1 := (hb1.cell (p := ⟨fs, 1, none⟩) (hfl2)).trans ((World.cell?_alloc_lt _ _ _ hfl).trans c1); have ff1 := (hb1.frozen (p := ⟨fs, 1, none⟩) (hfl2)).trans ((frozen_old _ _ _ hfl).trans hf1))
 all_goals
  obtain ⟨W1, hW1⟩ : ∃ W1, W1 = w1.setCell ⟨fs, 1, none⟩ (.slice A1 (Vf.does S.now a).length cc1) := ⟨_, rfl⟩
  have hs0 : (w.alloc (.cells #[.int .i64 a.kind, .string ⟨a.name.toArray⟩, .int .i64 (a.off : Int), .slice Ap a.p.length cp] 122)).drew.heap.size = w.heap.size + 1 := by
   show (w.alloc (.cells #[.int .i64 a.kind, .string ⟨a.name.toArray⟩, .int .i64 (a.off : Int), .slice Ap a.p.length cp] 122)).heap.size = _
   simp
  have hs1 : w.heap.size + 1 ≤ w1.heap.size := by
   have hh := hb1.size
   omega
  have hsz : W1.heap.size = w1.heap.size := by rw [hW1, size_put]
  have hfsW : W1.heap[fs]? = some (.cells #[.int .i64 S.room, .slice A1 (Vf.does S.now a).length cc1, wv, lv] 82 (0, 0)) := by
   rw [hW1]
   have h1 : w1.heap[fs]? = w.heap[fs]? := (hb1.block fs hfl2).trans (Below.heap_alloc w _ fs hfl)
   rw [heap_put (h1.trans H.out.heap)]
   rfl
  have holdW : ∀ b, b < w.heap.size → b ≠ fs → W1.heap[b]? = w.heap[b]? := fun b hb' hne => by
   rw [hW1, Below.heap_setCell w1 ⟨fs, 1, none⟩ _ b (by exact hne)]
   exact (hb1.block b (by show b < (w.alloc (.cells #[.int .i64 a.kind, .string ⟨a.name.toArray⟩, .int .i64 (a.off : Int), .slice Ap a.p.length cp] 122)).heap.size; simp; omega)).trans (Below.heap_alloc w _ b hb')
  have hboxW : W1.heap[w.heap.size]? = some (.cells #[.int .i64 a.kind, .string ⟨a.name.toArray⟩, .int .i64 (a.off : Int), .slice Ap a.p.length cp] 122 (0, 0)) := by
   rw [hW1, Below.heap_setCell w1 ⟨fs, 1, none⟩ _ w.heap.size (by show w.heap.size ≠ fs; omega)]
   exact (hb1.block w.heap.size (by show w.heap.size < (w.alloc (.cells #[.int .i64 a.kind, .string ⟨a.name.toArray⟩, .int .i64 (a.off : Int), .slice Ap a.p.length cp] 122)).heap.size; simp)).trans (heap_alloc_new w _)
  have hnewW : ∀ b, w.heap.size ≤ b → W1.heap[b]? = w1.heap[b]? := fun b hb' => by
   rw [hW1, Below.heap_setCell w1 ⟨fs, 1, none⟩ _ b (by show b ≠ fs; omega)]
  have hosW : W1.os = w.os ∧ W1.tape = w.tape ∧ W1.output = w.output := by rw [hW1]; exact ⟨hb1.os, hb1.tape, hb1.output⟩
  have d0 : W1.cell? ⟨w.heap.size, 0, none⟩ = some (.int .i64 a.kind) := by rw [cell_of_row W1 _ 0 _ _ _ hboxW]; rfl
  have d1 : W1.cell? ⟨w.heap.size, 1, none⟩ = some (.string ⟨a.name.toArray⟩) := by rw [cell_of_row W1 _ 1 _ _ _ hboxW]; rfl
  have d2 : W1.cell? ⟨w.heap.size, 2, none⟩ = some (.int .i64 (a.off : Int)) := by rw [cell_of_row W1 _ 2 _ _ _ hboxW]; rfl
  have d3 : W1.cell? ⟨w.heap.size, 3, none⟩ = some (.slice Ap a.p.length cp) := by rw [cell_of_row W1 _ 3 _ _ _ hboxW]; rfl
  have e3 : W1.cell? ⟨fs, 3, none⟩ = some lv := by rw [cell_of_row W1 _ 3 _ _ _ hfsW]; rfl
  have hfsl : fs < W1.heap.size := by omega
  have e3f : W1.frozen? ⟨fs, 3, none⟩ = false := by simp [World.frozen?, hfsW]
  have hfsA : ∀ o : Obj, fs < (W1.alloc o).heap.size := fun o => by simp; omega
  have hbxl : w.heap.size < W1.heap.size := by omega
  have hrl : ∀ g, lv.ownBlock = some g → g < w.heap.size ∧ g ≠ fs := fun g hg => ⟨(H.out.own.lt g hg).2, (H.out.glr g (H.out.row ▸ hg)).2⟩
  have HOW : Hid ((W1.alloc (.cells #[.int .i64 a.kind, .string ⟨a.name.toArray⟩, .int .i64 (a.off : Int), .slice Ap a.p.length cp] 122)).ownsRow 0 122 4 lv S.l.length ys) := Lib.hid (owns_keep H.out.own (fun g hg => by
   obtain ⟨h1, h2⟩ := hrl g hg
   rw [Below.heap_alloc W1 _ g (by omega)]
   exact holdW g h1 h2))
  have HRL := Lib.hid hrl
  have HFS := Lib.hid hfsW
  have HOLD := Lib.hid holdW
  have HNEW := Lib.hid hnewW
  have HSZ := Lib.hid hsz
  have HOS := Lib.hid hosW
  have HW1 : Hid (∀ b, b < w.heap.size → w1.heap[b]? = w.heap[b]?) := Lib.hid (fun b hb' => (hb1.block b (by rw [hs0]; omega)).trans (Below.heap_alloc w _ b hb'))
  have HNW : Hid (Vf.Fs w1 (fun b => (G b ∨ Gp b) ∨ w.heap.size + 1 ≤ b) (.slice A1 (Vf.does S.now a).length cc1) (Vf.does S.now a)) := Lib.hid (by have := HN.out; rw [hs0] at this; exact this)
  rw [← hW1]
  clear hrl hfsW holdW hnewW hboxW hosW cf1 ff1 hW1 hsz
  go_wp2_with fail
  go_region_law (refine step_app _ rfl (.tmp 18) (.tmp 20) 80 rfl 0 122 i0 _ 4 56 Tryz.underlying80 HI.out HZ.out.1 HZ.out.2.1 HZ.out.2.2 rfl (by decide) lv S.l.length ys (by simp [Act.eval]) HOW.out (fun b => b = W1.heap.size) (some ⟨W1.heap.size, 0, none⟩) 1 1 [.int .i64 a.kind, .string ⟨a.name.toArray⟩, .int .i64 (a.off : Int), .slice Ap a.p.length cp] (by simp [Act.eval]) (by simp) (Rd.fresh W1 _ _ _ rfl) (by intro u hu; simp at hu; rcases hu with rfl | rfl | rfl | rfl <;> rfl) (by unfold maxLen; omega) (by omega) (Nat.zero_le _) ?_; intro v2 w2 hown2 hg2 hat2 hnil2; obtain ⟨g2, cap2, rfl⟩ := owns_form hown2 (by omega); have cf3 : w2.cell? ⟨fs, 3, none⟩ = some lv := (hg2.cell_far ⟨fs, 3, none⟩ (hfsA _) (fun e => (HRL.out fs e.symm).2 rfl)).trans ((World.cell?_alloc_lt _ _ _ hfsl).trans e3); have ff3 : w2.frozen? ⟨fs, 3, none⟩ = false := (hg2.frozen_far ⟨fs, 3, none⟩ (hfsA _) (fun e => (HRL.out fs e.symm).2 rfl)).trans ((frozen_old _ _ _ hfsl).trans e3f))
  all_goals
   go_wp2_with fail
   go_ret
   exact do_end (o := .cells #[.int .i64 a.kind, .string ⟨a.name.toArray⟩, .int .i64 (a.off : Int), .slice Ap a.p.length cp] 122) H.out HP.out HGp.out HNW.out HSZ.out hs1 HFS.out HOLD.out HNEW.out HW1.out HOS.out hown2 ⟨hg2.os, hg2.tape, hg2.output, hg2.size, hg2.block⟩ hat2
end
section
open Go.RowKit
open Me
namespace Vf
theorem Fs.nth {w : World} {G : Nat → Prop} {v : Value} {l : List Fl} (h : Fs w G v l) (k : Nat) (hk : k < l.length) :
 ∃ rb ro c A2 c2, v = .slice (some ⟨rb, ro, none⟩) l.length c ∧ l.length ≤ c ∧ c ≤ maxLen ∧ w.cell? ⟨rb, ro + k * 2, none⟩ = some (.string ⟨(l[k].name).toArray⟩) ∧ w.cell? ⟨rb, ro + k * 2 + 1, none⟩ = some (.slice A2 (l[k].b).length c2) ∧
  Bs w G (.slice A2 (l[k].b).length c2) l[k].b ∧ rb < w.heap.size ∧ G rb := by
 obtain ⟨A, c, xs, rfl, hc, hcm, hrd, hels⟩ := h
 obtain ⟨cs, hcs, hx⟩ := hels.get FlC.two k hk
 have hxl := hels.length FlC.two
 obtain ⟨rb, ro, rfl, hlt, hg, hcell⟩ := hrd.lit (k * 2) (by omega)
 obtain ⟨bv, rfl, hbs⟩ := hcs
 have hb := hbs
 obtain ⟨A2, c2, rfl, _, _, _⟩ := hbs
 refine ⟨rb, ro, c, A2, c2, rfl, hc, hcm, hcell _ _ (hx 0 (by omega)), ?_, hb, hlt, hg⟩
 have := hcell _ _ (hx 1 (by omega))
 rwa [← Nat.add_assoc] at this
theorem ix_at {l : List Fl} {n : List UInt8} (h : ¬ ix l n < 0) : ∃ k : Nat, ix l n = (k : Int) ∧ k < l.length := by
 obtain ⟨h1, h2⟩ := ix_bd l n
 exact ⟨(ix l n).toNat, by omega, by omega⟩
def size (l : List Fl) (n : List UInt8) : Int × Int := if is n = false then (0, 1) else if ix l n < 0 then (0, 5) else (((l.getD (ix l n).toNat ⟨[], []⟩).b.length : Int), 0)
end Vf
theorem ret_two {a b c d : Int} (h : (a, b) = (c, d)) : Ending.returned (.tuple #[.int .i64 a, .int .i64 b]) = .returned (.tuple #[.int .i64 c, .int .i64 d]) := by
 injection h with h1 h2
 rw [h1, h2]
theorem size_any {w : World} {G : Nat → Prop} {fs : Nat} {lr : Option Nat} {S : Vf.Sv} {nv wv lv : Value} {ys : List Value} (h : Vf.At w G fs lr S nv wv lv ys) (n : List UInt8) (hl : S.now.length ≤ 1048576) :
 Calls Tryz.prog 24 #[.pointer (some ⟨fs, 0, none⟩), .string ⟨n.toArray⟩] w fun e w' => e = .returned (.tuple #[.int .i64 (Vf.size S.now n).1, .int .i64 (Vf.size S.now n).2]) ∧ w = w' := by
 obtain ⟨c0, c1, c2, c3, hf⟩ := h.cells
 have HFD := Lib.hid (find_any S.now n nv G w h.now hl)
 have HIS := Lib.hid (is_any n w)
 have HS : Hid (Vf.size S.now n = if Vf.is n = false then (0, 1) else if Vf.ix S.now n < 0 then (0, 5) else (((S.now.getD (Vf.ix S.now n).toNat ⟨[], []⟩).b.length : Int), 0)) := Lib.hid rfl
 cases hi : Vf.is n
 ·rw [hi] at HIS HS
  have HR : Hid (Vf.size S.now n = (0, 1)) := Lib.hid (by rw [HS.out]; rfl)
  obtain ⟨i1, i2⟩ := Vf.ix_bd S.now n
  clear HS hf h
  generalize Vf.size S.now n = r at *
  generalize Vf.ix S.now n = i at *
  go_enter Tryz.func24, Tryz.ntmps24
  go_wp2_with (first | (go_at_call 54; ((with_reducible refine (HFD.out).mono ?_); rintro e w' ⟨rfl, rfl⟩)) | (go_at_call 53; ((with_reducible refine (HIS.out).mono ?_); rintro e w' ⟨rfl, rfl⟩)))
  ((try simp only [Exit.inBlock, Exit.then]); refine bodyPost_ret (results_tmp2 rfl _ _ _) rfl ?_)
  exact ⟨ret_two HR.out.symm, rfl⟩
 ·rw [hi] at HIS HS
  by_cases hx : Vf.ix S.now n < 0
  ·have HR : Hid (Vf.size S.now n = (0, 5)) := Lib.hid (by rw [HS.out]; simp [hx])
   obtain ⟨i1, i2⟩ := Vf.ix_bd S.now n
   clear HS hf h
   generalize Vf.size S.now n = r at *
   generalize Vf.ix S.now n = i at *
   go_enter Tryz.func24, Tryz.ntmps24
   go_wp2_with (first | (go_at_call 54; ((with_reducible refine (HFD.out).mono ?_); rintro e w' ⟨rfl, rfl⟩)) | (go_at_call 53; ((with_reducible refine (HIS.out).mono ?_); rintro e w' ⟨rfl, rfl⟩)))
   ((try simp only [Exit.inBlock, Exit.then]); refine bodyPost_ret (results_tmp2 rfl _ _ _) rfl ?_)
   exact ⟨ret_two HR.out.symm, rfl⟩
  ·obtain ⟨k, hk, hkl⟩ := Vf.ix_at hx
   have HR : Hid (Vf.size S.now n = (((S.now[k].b).length : Int), 0)) := Lib.hid (by rw [HS.out, hk]; simp [hkl])
   obtain ⟨rb, ro, c, A2, cc, rfl, hc, hcm, d0, d1, hbs, _, _⟩ := h.now.nth k hkl
   obtain ⟨A3, c3', he, hc2, hcm2, _⟩ := hbs
   injection he with he1 he2 he3
   subst he1 he3
   unfold maxLen at hcm hcm2
   rw [hk] at HFD
   clear HS hf h hx
   generalize Vf.size S.now n = r at *
   go_enter Tryz.func24, Tryz.ntmps24
   go_wp2_with (first | (go_at_call 54; ((with_reducible refine (HFD.out).mono ?_); rintro e w' ⟨rfl, rfl⟩)) | (go_at_call 53; ((with_reducible refine (HIS.out).mono ?_); rintro e w' ⟨rfl, rfl⟩)))
   ((try simp only [Exit.inBlock, Exit.then]); refine bodyPost_ret (results_tmp2 rfl _ _ _) rfl ?_)
   exact ⟨ret_two HR.out.symm, rfl⟩
theorem pending_any {w : World} {G : Nat → Prop} {fs : Nat} {lr : Option Nat} {S : Vf.Sv} {nv wv lv : Value} {ys : List Value} (h : Vf.At w G fs lr S nv wv lv ys) (hl : S.l.length ≤ 1048576) :
 Calls Tryz.prog 43 #[.pointer (some ⟨fs, 0, none⟩)] w fun e w' => e = .returned (.int .i64 (S.l.length : Int)) ∧ w = w' := by
 obtain ⟨c0, c1, c2, c3, hf⟩ := h.cells
 obtain ⟨A, c, rfl⟩ : ∃ A c, lv = .slice A S.l.length c := by
  rcases h.own.2 with ⟨e, e0⟩ | ⟨g, cap, cur, e, _⟩
  ·exact ⟨none, 0, by rw [e, e0]⟩
  ·exact ⟨_, cap, e⟩
 have hl' : (S.l.length : Int) ≤ 1048576 := by omega
 clear hf h
 go_enter Tryz.func43, Tryz.ntmps43
 go_wp2_with fail
 go_ret
 exact ⟨rfl, rfl⟩
theorem new_any (room : Int) (w : World) (hr : 0 ≤ room) (hr2 : room ≤ 1073741824) :
 Calls Tryz.prog 10 #[.int .i64 room] w fun e w' => e = .returned (.tuple #[.pointer (some ⟨w.heap.size, 0, none⟩), .int .i64 0]) ∧ Vf.At w' (fun _ => False) w.heap.size none ⟨room, [], [], []⟩ (.slice none 0 0) (.slice none 0 0) (.slice none 0 0) [] ∧ Below w.heap.size w w' := by
 go_enter Tryz.func10, Tryz.ntmps10
 go_wp2_with fail
 ((try simp only [Exit.inBlock, Exit.then]); refine bodyPost_ret (results_tmp2 rfl _ _ _) rfl ?_)
 refine ⟨rfl, ⟨heap_alloc_new w _, ⟨none, 0, [], rfl, Nat.le_refl _, Nat.zero_le _, Rd.none_ _ _ _, rfl⟩, ⟨none, 0, [], rfl, Nat.le_refl _, Nat.zero_le _, Rd.none_ _ _ _, rfl⟩, World.ownsRow_nil _ _ _ _, rfl, rfl, id, (fun g h => nomatch h), fun _ h => h.elim⟩, (Below.refl _ _).alloc (Nat.le_refl _) _⟩
theorem put_heap {w : World} {g i : Nat} {cs : Array Value} {t : TypeId} {fr : Nat × Nat} (h : w.heap[g]? = some (.cells cs t fr)) (u : Value) : (w.setCell ⟨g, i, none⟩ u).heap[g]? = some (.cells (cs.setIfInBounds i u) t fr) := by
 simp [World.setCell, Array.getElem?_modify, h]
theorem put_size (w : World) (p : Addr) (u : Value) : (w.setCell p u).heap.size = w.heap.size := by simp [World.setCell]
theorem sync_end {w : World} {G : Nat → Prop} {fs : Nat} {lr : Option Nat} {S : Vf.Sv} {nv wv lv : Value} {ys : List Value} (h : Vf.At w G fs lr S nv wv lv ys) :
 Vf.At ((w.setCell ⟨fs, 2, none⟩ nv).setCell ⟨fs, 3, none⟩ (.slice none 0 0)) G fs none { S with was := S.now, l := [] } nv nv (.slice none 0 0) [] := by
 have hs : ((w.setCell ⟨fs, 2, none⟩ nv).setCell ⟨fs, 3, none⟩ (.slice none 0 0)).heap.size = w.heap.size := by rw [put_size, put_size]
 have hk : ∀ b, b < w.heap.size → G b → ((w.setCell ⟨fs, 2, none⟩ nv).setCell ⟨fs, 3, none⟩ (.slice none 0 0)).heap[b]? = w.heap[b]? := fun b _ hg => by
  have hne : b ≠ fs := fun e => h.gfs (e ▸ hg)
  rw [Below.heap_setCell _ ⟨fs, 3, none⟩ _ b hne, Below.heap_setCell _ ⟨fs, 2, none⟩ _ b hne]
 refine ⟨?_, h.now.keep (by omega) hk, h.now.keep (by omega) hk, World.ownsRow_nil _ _ _ _, rfl, rfl, h.gfs, (fun g h => nomatch h), fun b hb => by rw [hs]; exact h.lt b hb⟩
 rw [put_heap (put_heap h.heap _)]
 rfl
theorem sync_any {w : World} {G : Nat → Prop} {fs : Nat} {lr : Option Nat} {S : Vf.Sv} {nv wv lv : Value} {ys : List Value} (h : Vf.At w G fs lr S nv wv lv ys) :
 Calls Tryz.prog 35 #[.pointer (some ⟨fs, 0, none⟩)] w fun e w' => e = .returned (.tuple #[]) ∧ Vf.At w' G fs none { S with was := S.now, l := [] } nv nv (.slice none 0 0) [] ∧ Kp (fun b => b = fs) w w' := by
 obtain ⟨c0, c1, c2, c3, hf⟩ := h.cells
 have H := Lib.hid h
 obtain ⟨A, c, xs, hnv, _⟩ := h.now
 subst hnv
 have hf1 := hf 1
 have hf2 := hf 2
 have hf3 := hf 3
 clear h hf
 go_enter Tryz.func35, Tryz.ntmps35
 go_wp2_with fail
 ((try simp only [Exit.inBlock, Exit.then]); first | (refine bodyPost_ret (results_none rfl _ _ _) rfl ?_) | (refine bodyPost_end (results_none rfl _ _ _) rfl ?_))
 refine ⟨rfl, sync_end H.out, ((Kp.refl (fun b => b = fs) w).setCell ⟨fs, 2, none⟩ (.inr rfl) _).setCell ⟨fs, 3, none⟩ (.inr rfl) _⟩
end
section
open Go.RowKit
open Me
namespace Vf
theorem At.kp {w w' : World} {G O : Nat → Prop} {fs : Nat} {lr : Option Nat} {S : Sv} {nv wv lv : Value} {ys : List Value} (h : At w G fs lr S nv wv lv ys) (k : Kp O w w') (hO : ∀ b, O b → ¬ G b ∧ b ≠ fs ∧ lr ≠ some b) : At w' G fs lr S nv wv lv ys := by
 have hk : ∀ b, b < w.heap.size → G b → w'.heap[b]? = w.heap[b]? := fun b hb hg => k.block b hb (fun o => (hO b o).1 hg)
 refine ⟨(k.block fs h.fsLt (fun o => (hO fs o).2.1 rfl)).trans h.heap, h.now.keep k.size hk, h.was.keep k.size hk, owns_keep h.own (fun g hg => k.block g (h.own.lt g hg).2 (fun o => (hO g o).2.2 (h.row ▸ hg))), h.acts.mono fun x cs hx => hx.keep k.size hk, h.row, h.gfs, h.glr, fun b hb => Nat.lt_of_lt_of_le (h.lt b hb) k.size⟩
theorem At.below {w w' : World} {G : Nat → Prop} {fs : Nat} {lr : Option Nat} {S : Sv} {nv wv lv : Value} {ys : List Value} (h : At w G fs lr S nv wv lv ys) (b : Below w.heap.size w w') : At w' G fs lr S nv wv lv ys :=
 h.kp (O := fun _ => False) (Kp.of_below b) (fun _ o => o.elim)
theorem At.drew {w : World} {G : Nat → Prop} {fs : Nat} {lr : Option Nat} {S : Sv} {nv wv lv : Value} {ys : List Value} (h : At w G fs lr S nv wv lv ys) : At w.drew G fs lr S nv wv lv ys :=
 h.kp (O := fun _ => False) (Kp.refl _ _).drew (fun _ o => o.elim)
def Sv.act (S : Sv) (a : Ac) : Sv := { S with now := does S.now a, l := S.l ++ [a] }
def Next (w : World) (G : Nat → Prop) (fs : Nat) (lr : Option Nat) (R : Sv × Int) (e : Ending) (w' : World) : Prop :=
 e = .returned (.int .i64 R.2) ∧ ∃ G' lr' nv' wv' lv' ys', At w' G' fs lr' R.1 nv' wv' lv' ys' ∧ Kp (fun b => b = fs ∨ lr = some b) w w' ∧
  (∀ b, G' b → G b ∨ w.heap.size ≤ b) ∧ (∀ g, lr' = some g → lr = some g ∨ w.heap.size ≤ g)
theorem Next.no {w w' : World} {G : Nat → Prop} {fs : Nat} {lr : Option Nat} {S : Sv} {nv wv lv : Value} {ys : List Value} (h : At w' G fs lr S nv wv lv ys) (b : Below w.heap.size w w') {R : Sv × Int} {i : Int} (hR : R = (S, i)) : Next w G fs lr R (.returned (.int .i64 i)) w' := by
 subst hR
 exact ⟨rfl, G, lr, nv, wv, lv, ys, h, Kp.of_below b, fun _ hb => .inl hb, fun _ hg => .inl hg⟩
theorem Next.done {w w1 w2 : World} {G Gp : Nat → Prop} {fs : Nat} {lr : Option Nat} {S : Sv} {a : Ac} {e : Ending} (b : Below w.heap.size w w1) (hGp : ∀ i, Gp i → w.heap.size ≤ i) (hd : Done w1 G Gp fs lr S a e w2) {R : Sv × Int} (hR : R = (S.act a, 0)) : Next w G fs lr R e w2 := by
 subst hR
 obtain ⟨rfl, G', lr', nv', wv', lv', ys', h1, h2, h3, h4⟩ := hd
 refine ⟨rfl, G', lr', nv', wv', lv', ys', h1, (Kp.of_below b).trans h2 (fun _ _ o => o), fun i hi => ?_, fun g hg => ?_⟩
 ·rcases h3 i hi with h | h | h
  ·exact .inl h
  ·exact .inr (hGp i h)
  ·exact .inr (Nat.le_trans b.size h)
 ·rcases h4 g hg with h | h
  ·exact .inl h
  ·exact .inr (Nat.le_trans b.size h)
def create (S : Sv) (n b : List UInt8) : Sv × Int := if is n = false then (S, 1) else if 0 ≤ ix S.now n then (S, 6) else if S.room - used S.now < b.length then (S, 4) else (S.act ⟨1, n, 0, b⟩, 0)
theorem used_mem {l : List Fl} {f : Fl} (h : f ∈ l) : f.b.length ≤ used l := by
 unfold used
 induction l with
 | nil => cases h
 | cons x r ih =>
   rw [List.map_cons, List.sum_cons]
   rcases List.mem_cons.1 h with rfl | h
   ·omega
   ·have := ih h; omega
end Vf
end
section
open Go.RowKit
open Me
namespace Vf
def lenAt (l : List Fl) (n : List UInt8) : Nat := (l.getD (ix l n).toNat ⟨[], []⟩).b.length
def write (S : Sv) (n : List UInt8) (t : Int) (b : List UInt8) : Sv × Int :=
 if is n = false then (S, 1) else if ix S.now n < 0 then (S, 5) else if t < 0 ∨ (lenAt S.now n : Int) < t ∨ (lenAt S.now n : Int) - t < b.length then (S, 1) else (S.act ⟨2, n, t.toNat, b⟩, 0)
theorem write_one {S : Sv} {n : List UInt8} {t : Int} {b : List UInt8} {k : Nat} (hi : is n = true) (hk : ix S.now n = (k : Int)) (hkl : k < S.now.length) (h : t < 0 ∨ (((S.now[k].b).length : Nat) : Int) < t ∨ (((S.now[k].b).length : Nat) : Int) - t < b.length) : write S n t b = (S, 1) := by
 have hl : lenAt S.now n = (S.now[k].b).length := by unfold lenAt; rw [hk]; simp [hkl]
 unfold write
 rw [if_neg (by simp [hi]), if_neg (by omega), if_pos (by rw [hl]; exact h)]
theorem write_done {S : Sv} {n : List UInt8} {m : Nat} {b : List UInt8} {k : Nat} (hi : is n = true) (hk : ix S.now n = (k : Int)) (hkl : k < S.now.length) (h : m + b.length ≤ (S.now[k].b).length) : write S n (m : Int) b = (S.act ⟨2, n, m, b⟩, 0) := by
 have hl : lenAt S.now n = (S.now[k].b).length := by unfold lenAt; rw [hk]; simp [hkl]
 unfold write
 rw [if_neg (by simp [hi]), if_neg (by omega), if_neg (by rw [hl]; omega)]
 simp
end Vf
theorem write_any {w : World} {G Gq : Nat → Prop} {fs : Nat} {lr : Option Nat} {S : Vf.Sv} {nv wv lv : Value} {ys : List Value} (h : Vf.At w G fs lr S nv wv lv ys) (n : List UInt8) (t : Int) (ps : List (List UInt8)) (pv : Value) (hp : Vf.Ps w Gq pv ps)
 (hl : S.now.length ≤ 1048576) (hll : S.l.length ≤ 1048576) (hu : Vf.used S.now ≤ 4294967296) (hpl : ps.length ≤ 1048576) (hpt : ps.flatten.length ≤ 4294967296) :
 Calls Tryz.prog 112 #[.pointer (some ⟨fs, 0, none⟩), .string ⟨n.toArray⟩, .int .i64 t, pv] w (Vf.Next w G fs lr (Vf.write S n t ps.flatten)) := by
 have HRO := Lib.hid (rows_any ps pv Gq w hp hpl hpt)
 obtain ⟨Aq, cq, xq, rfl, _⟩ := hp
 have HFD : Hid (∀ W, Vf.At W G fs lr S nv wv lv ys → Calls Tryz.prog 54 #[nv, .string ⟨n.toArray⟩] W fun e w' => e = .returned (.int .i64 (Vf.ix S.now n)) ∧ W = w') := Lib.hid fun W hW => find_any S.now n nv G W hW.now hl
 have HIS := Lib.hid (is_any n)
 have HD : Hid (∀ (W : World) (Gp : Nat → Prop) (bv : Value) (m : Nat), Vf.At W G fs lr S nv wv lv ys → Bs W Gp bv ps.flatten → (∀ b, Gp b → b < W.heap.size ∧ b ≠ fs ∧ lr ≠ some b) → Hid (Vf.fits S.now ⟨2, n, m, ps.flatten⟩) → m ≤ 4294967296 → Calls Tryz.prog 56 #[.pointer (some ⟨fs, 0, none⟩), .agg #[.int .i64 2, .string ⟨n.toArray⟩, .int .i64 (m : Int), bv]] W (Vf.Done W G Gp fs lr S ⟨2, n, m, ps.flatten⟩)) :=
  Lib.hid fun W Gp bv m hW hb hGp hft hm => do_any hW ⟨2, n, m, ps.flatten⟩ hb hGp hl hll hft (Lib.hid fun f hf => Nat.le_trans (Vf.used_mem hf) hu) hm
 have H := Lib.hid h
 have hfl := h.fsLt
 have HRW : Hid (∀ g, lr = some g → g < w.heap.size) := Lib.hid fun g hg => (h.own.lt g (h.row.trans hg)).2
 obtain ⟨i1, i2⟩ := Vf.ix_bd S.now n
 cases hi : Vf.is n
 ·rw [hi] at HIS
  have HR : Hid (Vf.write S n t ps.flatten = (S, 1)) := Lib.hid (by unfold Vf.write; rw [if_pos hi])
  obtain ⟨A0, c00, xs0, hnv, _⟩ := h.now
  subst hnv
  clear HD h
  generalize ps.flatten = b at *
  generalize Vf.ix S.now n = i at *
  go_enter Tryz.func112, Tryz.ntmps112
  go_wp2_with (first | (go_at_call 52; (with_reducible refine (HRO.out).mono ?_); rintro e w' ⟨bv, rfl, ⟨A1, cc1, rfl, hc1, hcm1, hrd1⟩, hb⟩; have HW := Lib.hid (H.out.below hb); obtain ⟨d0, d1, d2, d3, df⟩ := HW.out.cells; clear df) | (go_at_call 53; ((with_reducible refine (HIS.out _).mono ?_); rintro e w' ⟨rfl, rfl⟩)) | (go_at_call 54; ((with_reducible refine (HFD.out _ HW.out).mono ?_); rintro e w' ⟨rfl, rfl⟩)))
  go_ret
  exact Vf.Next.no HW.out hb HR.out
 ·rw [hi] at HIS
  by_cases hx : Vf.ix S.now n < 0
  ·have HR : Hid (Vf.write S n t ps.flatten = (S, 5)) := Lib.hid (by unfold Vf.write; rw [if_neg (by simp [hi]), if_pos hx])
   obtain ⟨A0, c00, xs0, hnv, _⟩ := h.now
   subst hnv
   clear HD h
   generalize ps.flatten = b at *
   generalize Vf.ix S.now n = i at *
   go_enter Tryz.func112, Tryz.ntmps112
   go_wp2_with (first | (go_at_call 52; (with_reducible refine (HRO.out).mono ?_); rintro e w' ⟨bv, rfl, ⟨A1, cc1, rfl, hc1, hcm1, hrd1⟩, hb⟩; have HW := Lib.hid (H.out.below hb); obtain ⟨d0, d1, d2, d3, df⟩ := HW.out.cells; clear df) | (go_at_call 53; ((with_reducible refine (HIS.out _).mono ?_); rintro e w' ⟨rfl, rfl⟩)) | (go_at_call 54; ((with_reducible refine (HFD.out _ HW.out).mono ?_); rintro e w' ⟨rfl, rfl⟩)))
   go_ret
   exact Vf.Next.no HW.out hb HR.out
  ·obtain ⟨k, hk, hkl⟩ := Vf.ix_at hx
   have HIX := Lib.hid hk
   have hft : ∀ m : Nat, m + ps.flatten.length ≤ (S.now[k].b).length → Hid (Vf.fits S.now ⟨2, n, m, ps.flatten⟩) := fun m hm => Lib.hid (fun _ j hj e => by
    have e2 : (j : Int) = (k : Int) := e.trans hk
    obtain rfl : j = k := by omega
    exact hm)
   have HFT := Lib.hid hft
   have HM := Lib.hid (Vf.used_mem (List.getElem_mem hkl))
   have hlk : (S.now[k].b).length ≤ 4294967296 := Nat.le_trans HM.out hu
   have HW1 : Hid (∀ b : List UInt8, t < 0 ∨ (((S.now[k].b).length : Nat) : Int) < t ∨ (((S.now[k].b).length : Nat) : Int) - t < b.length → Vf.write S n t b = (S, 1)) := Lib.hid fun b hb => Vf.write_one hi hk hkl hb
   have HW2 : Hid (∀ (b : List UInt8) (m : Nat), m + b.length ≤ (S.now[k].b).length → Vf.write S n (m : Int) b = (S.act ⟨2, n, m, b⟩, 0)) := Lib.hid fun b m hb => Vf.write_done hi hk hkl hb
   obtain ⟨rb, ro, c, A2, cc, rfl, hc, hcm, g0, g1, hbs, hrb, _⟩ := h.now.nth k hkl
   obtain ⟨A3, c3', he, hc2, hcm2, _⟩ := hbs
   injection he with he1 he2 he3
   subst he1 he3
   unfold maxLen at hcm hcm2
   rw [hk] at HFD
   clear h hx hft i1 i2 hk
   generalize ps.flatten = b at *
   generalize hlen : (S.now[k].b).length = len at *
   clear hlen
   by_cases ht : t < 0
   ·have HR := Lib.hid (HW1.out b (.inl ht))
    clear HW1 HW2 HD HFT
    go_enter Tryz.func112, Tryz.ntmps112
    go_wp2_with (first | (go_at_call 52; (with_reducible refine (HRO.out).mono ?_); rintro e w' ⟨bv, rfl, ⟨A1, cc1, rfl, hc1, hcm1, hrd1⟩, hb⟩; have HW := Lib.hid (H.out.below hb); obtain ⟨d0, d1, d2, d3, df⟩ := HW.out.cells; clear df; have e1 := (hb.cell (p := ⟨rb, ro + k * 2 + 1, none⟩) hrb).trans g1) | (go_at_call 53; ((with_reducible refine (HIS.out _).mono ?_); rintro e w' ⟨rfl, rfl⟩)) | (go_at_call 54; ((with_reducible refine (HFD.out _ HW.out).mono ?_); rintro e w' ⟨rfl, rfl⟩)))
    go_ret
    exact Vf.Next.no HW.out hb HR.out
   ·obtain ⟨m, rfl⟩ : ∃ m : Nat, t = (m : Int) := ⟨t.toNat, by omega⟩
    clear ht
    by_cases h1 : (len : Int) < (m : Int)
    ·have HR := Lib.hid (HW1.out b (.inr (.inl h1)))
     clear HW1 HW2 HD HFT
     go_enter Tryz.func112, Tryz.ntmps112
     go_wp2_with (first | (go_at_call 52; (with_reducible refine (HRO.out).mono ?_); rintro e w' ⟨bv, rfl, ⟨A1, cc1, rfl, hc1, hcm1, hrd1⟩, hb⟩; have HW := Lib.hid (H.out.below hb); obtain ⟨d0, d1, d2, d3, df⟩ := HW.out.cells; clear df; have e1 := (hb.cell (p := ⟨rb, ro + k * 2 + 1, none⟩) hrb).trans g1) | (go_at_call 53; ((with_reducible refine (HIS.out _).mono ?_); rintro e w' ⟨rfl, rfl⟩)) | (go_at_call 54; ((with_reducible refine (HFD.out _ HW.out).mono ?_); rintro e w' ⟨rfl, rfl⟩)))
     go_ret
     exact Vf.Next.no HW.out hb HR.out
    ·have hwr : IntKind.i64.wrap ((len : Int) - (m : Int)) = (len : Int) - (m : Int) := IntWalk.i64_in _ (by omega)
     by_cases h2 : (len : Int) - (m : Int) < (b.length : Int)
     ·have HR := Lib.hid (HW1.out b (.inr (.inr h2)))
      clear HW1 HW2 HD HFT
      go_enter Tryz.func112, Tryz.ntmps112
      go_wp2_with (first | (go_at_call 52; (with_reducible refine (HRO.out).mono ?_); rintro e w' ⟨bv, rfl, ⟨A1, cc1, rfl, hc1, hcm1, hrd1⟩, hb⟩; have HW := Lib.hid (H.out.below hb); obtain ⟨d0, d1, d2, d3, df⟩ := HW.out.cells; clear df; have e1 := (hb.cell (p := ⟨rb, ro + k * 2 + 1, none⟩) hrb).trans g1) | (go_at_call 53; ((with_reducible refine (HIS.out _).mono ?_); rintro e w' ⟨rfl, rfl⟩)) | (go_at_call 54; ((with_reducible refine (HFD.out _ HW.out).mono ?_); rintro e w' ⟨rfl, rfl⟩)))
      go_ret
      exact Vf.Next.no HW.out hb HR.out
     ·have HR := Lib.hid (HW2.out b m (by omega))
      have HFM := HFT.out m (by omega)
      clear HW1 HW2 HFT
      go_enter Tryz.func112, Tryz.ntmps112
      go_wp2_with (first | (go_at_call 52; (with_reducible refine (HRO.out).mono ?_); rintro e w' ⟨bv, rfl, ⟨A1, cc1, rfl, hc1, hcm1, hrd1⟩, hb⟩; have HW := Lib.hid (H.out.below hb); obtain ⟨d0, d1, d2, d3, df⟩ := HW.out.cells; clear df; have e1 := (hb.cell (p := ⟨rb, ro + k * 2 + 1, none⟩) hrb).trans g1; have HDW := Lib.hid (HD.out w' (fun i => w.heap.size ≤ i ∧ i < w'.heap.size) (.slice A1 b.length cc1) m HW.out ⟨A1, cc1, rfl, hc1, hcm1, hrd1.mono (fun i hi hg => ⟨hg, hi⟩)⟩ (fun i hi => ⟨hi.2, by omega, fun e => by have := HRW.out i e; omega⟩) HFM (by omega))) | (go_at_call 53; ((with_reducible refine (HIS.out _).mono ?_); rintro e w' ⟨rfl, rfl⟩)) | (go_at_call 54; ((with_reducible refine (HFD.out _ HW.out).mono ?_); rintro e w' ⟨rfl, rfl⟩)) | (go_at_call 56; (with_reducible refine (HDW.out).mono ?_); rintro e w' hd; obtain rfl := hd.1; have HDN := Lib.hid hd; clear hd))
      go_ret
      exact Vf.Next.done hb (fun i hi => hi.1) HDN.out HR.out
end
section
open Go.RowKit
open Me
namespace Vf
def rep (was : List Fl) (l : List Ac) : List Fl := l.foldl does was
def torn (a : Ac) (m : Int) : Nat := (max 0 (min m (a.p.length : Int))).toNat
def cut (a : Ac) (m : Int) : Ac := { a with p := a.p.take (torn a m) }
end Vf
end
section
namespace Vf
theorem used_append (l m : List Fl) : used (l ++ m) = used l + used m := by unfold used; rw [List.map_append, List.sum_append]
theorem used_cons (f : Fl) (l : List Fl) : used (f :: l) = f.b.length + used l := by unfold used; rw [List.map_cons, List.sum_cons]
theorem used_one (a : Ac) (i : Int) (k : Nat) (x : Fl) (h : (k : Int) = i → a.kind = 2 → a.off + a.p.length ≤ x.b.length) : used (one a i k x) ≤ x.b.length := by
 unfold one
 split
 ·rename_i hc
  rw [used_cons]
  show (upd x.b a.off a.p).length + used [] ≤ _
  rw [upd_len (h hc.1 hc.2)]
  simp [used]
 ·split
  ·simp [used]
  ·simp [used]
theorem used_goes (a : Ac) (i : Int) : ∀ (l : List Fl) (k : Nat), (∀ (j : Nat) (hj : j < l.length), ((k + j : Nat) : Int) = i → a.kind = 2 → a.off + a.p.length ≤ l[j].b.length) → used (goes a i k l) ≤ used l
 | [], _, _ => by simp [goes]
 | x :: r, k, h => by
   rw [goes, used_append, used_cons]
   have h1 := used_one a i k x (fun e e2 => by have := h 0 (by simp) (by simpa using e) e2; simpa using this)
   have h2 := used_goes a i r (k + 1) (fun j hj e e2 => by
    have := h (j + 1) (by simpa using hj) (by rw [← e]; congr 1; omega) e2
    simpa using this)
   omega
theorem used_does (l : List Fl) (a : Ac) (h : fits l a) : used (does l a) ≤ used l + (if a.kind = 1 then a.p.length else 0) := by
 unfold does
 rw [used_append]
 have h1 := used_goes a (ix l a.name) l 0 (fun j hj e e2 => h e2 j hj (by simpa using e))
 split
 ·rw [used_cons]
  simp [used] at h1 ⊢
  omega
 ·simp [used] at h1 ⊢
  omega
structure Inv (c : Nat) (S : Sv) : Prop where
 room0 : 0 ≤ S.room
 room1 : S.room ≤ 1073741824
 now : S.now = rep S.was S.l
 len : S.l.length ≤ c
 all : ∀ k, k ≤ S.l.length → (rep S.was (S.l.take k)).length ≤ c ∧ (used (rep S.was (S.l.take k)) : Int) ≤ S.room ∧ ∀ h : k < S.l.length, fits (rep S.was (S.l.take k)) S.l[k] ∧ S.l[k].off ≤ 4294967296
theorem Inv.last {c : Nat} {S : Sv} (h : Inv c S) : S.now.length ≤ c ∧ (used S.now : Int) ≤ S.room := by
 have := h.all S.l.length (Nat.le_refl _)
 rw [List.take_length, ← h.now] at this
 exact ⟨this.1, this.2.1⟩
theorem Inv.new {room : Int} (h0 : 0 ≤ room) (h1 : room ≤ 1073741824) : Inv 0 ⟨room, [], [], []⟩ := by
 refine ⟨h0, h1, rfl, Nat.le_refl _, fun k hk => ?_⟩
 have hk0 : k = 0 := Nat.le_zero.1 hk
 subst hk0
 exact ⟨Nat.le_refl _, by simpa [rep, used] using h0, fun h => absurd h (Nat.lt_irrefl _)⟩
theorem Inv.mono {c d : Nat} {S : Sv} (h : Inv c S) (hd : c ≤ d) : Inv d S := ⟨h.room0, h.room1, h.now, Nat.le_trans h.len hd, fun k hk => ⟨Nat.le_trans (h.all k hk).1 hd, (h.all k hk).2⟩⟩
theorem Inv.plain {c : Nat} {room : Int} {r : List Fl} (h0 : 0 ≤ room) (h1 : room ≤ 1073741824) (hl : r.length ≤ c) (hu : (used r : Int) ≤ room) : Inv c ⟨room, r, r, []⟩ := by
 refine ⟨h0, h1, rfl, Nat.zero_le _, fun k hk => ?_⟩
 have hk0 : k = 0 := Nat.le_zero.1 hk
 subst hk0
 exact ⟨hl, hu, fun h => absurd h (Nat.lt_irrefl _)⟩
theorem Inv.sync {c : Nat} {S : Sv} (h : Inv c S) : Inv c { S with was := S.now, l := [] } := Inv.plain h.room0 h.room1 h.last.1 h.last.2
theorem rep_append (was : List Fl) (l : List Ac) (a : Ac) : rep was (l ++ [a]) = does (rep was l) a := by unfold rep; rw [List.foldl_append]; rfl
theorem Inv.act {c : Nat} {S : Sv} {a : Ac} (h : Inv c S) (hf : fits S.now a) (ho : a.off ≤ 4294967296) (hu : (used (does S.now a) : Int) ≤ S.room) : Inv (c + 1) (S.act a) := by
 have hlen : (S.l ++ [a]).length = S.l.length + 1 := by simp
 refine ⟨h.room0, h.room1, ?_, ?_, fun k hk => ?_⟩
 ·show does S.now a = rep S.was (S.l ++ [a])
  rw [rep_append, ← h.now]
 ·show (S.l ++ [a]).length ≤ c + 1
  have := h.len
  omega
 ·have hk : k ≤ (S.l ++ [a]).length := hk
  show (rep S.was ((S.l ++ [a]).take k)).length ≤ c + 1 ∧ (used (rep S.was ((S.l ++ [a]).take k)) : Int) ≤ S.room ∧ ∀ h : k < (S.l ++ [a]).length, fits (rep S.was ((S.l ++ [a]).take k)) (S.l ++ [a])[k] ∧ (S.l ++ [a])[k].off ≤ 4294967296
  rcases Nat.lt_or_ge k S.l.length with hlt | hge
  ·obtain ⟨h1, h2, h3⟩ := h.all k (by omega)
   rw [List.take_append_of_le_length (by omega)]
   refine ⟨by omega, h2, fun hk2 => ?_⟩
   rw [List.getElem_append_left hlt]
   exact h3 hlt
  ·rcases Nat.eq_or_lt_of_le hge with e | hgt
   ·subst e
    rw [List.take_append_of_le_length (Nat.le_refl _), List.take_length, ← h.now]
    refine ⟨by have := h.last.1; omega, h.last.2, fun hk2 => ?_⟩
    rw [List.getElem_append_right (Nat.le_refl _)]
    simpa using ⟨hf, ho⟩
   ·have e : k = (S.l ++ [a]).length := by omega
    subst e
    rw [List.take_length, rep_append, ← h.now]
    refine ⟨?_, hu, fun hk2 => absurd hk2 (Nat.lt_irrefl _)⟩
    have h1 := does_len S.now a
    have h2 := h.last.1
    omega
theorem Inv.create {c : Nat} {S : Sv} (h : Inv c S) (n b : List UInt8) : Inv (c + 1) (create S n b).1 := by
 unfold Vf.create
 split
 ·exact h.mono (Nat.le_succ _)
 ·split
  ·exact h.mono (Nat.le_succ _)
  ·split
   ·exact h.mono (Nat.le_succ _)
   ·rename_i hr
    have hf : fits S.now ⟨1, n, 0, b⟩ := fun e => by cases e
    refine h.act hf (Nat.zero_le _) ?_
    have h1 := used_does S.now ⟨1, n, 0, b⟩ hf
    simp at h1
    omega
theorem Inv.write {c : Nat} {S : Sv} (h : Inv c S) (n : List UInt8) (t : Int) (b : List UInt8) : Inv (c + 1) (write S n t b).1 := by
 unfold Vf.write
 split
 ·exact h.mono (Nat.le_succ _)
 ·split
  ·exact h.mono (Nat.le_succ _)
  ·split
   ·exact h.mono (Nat.le_succ _)
   ·rename_i hx hr
    obtain ⟨k, hk, hkl⟩ := ix_at hx
    have hl : lenAt S.now n = (S.now[k].b).length := by unfold lenAt; rw [hk]; simp [hkl]
    have hm := used_mem (List.getElem_mem hkl)
    have h2 := h.last.2
    have h3 := h.room1
    have hf : fits S.now ⟨2, n, t.toNat, b⟩ := fun _ j hj e => by
     have e2 : (j : Int) = (k : Int) := e.trans hk
     obtain rfl : j = k := by omega
     show t.toNat + b.length ≤ _
     omega
    refine h.act hf (show t.toNat ≤ 4294967296 by omega) ?_
    have h1 := used_does S.now ⟨2, n, t.toNat, b⟩ hf
    simp at h1
    omega
end Vf
end
section
open Go.RowKit
open Me
namespace Vf
def bytesAt (l : List Fl) (n : List UInt8) : List UInt8 := (l.getD (ix l n).toNat ⟨[], []⟩).b
def read (l : List Fl) (n : List UInt8) (t m : Int) : List UInt8 × Int :=
 if is n = false then ([], 1) else if ix l n < 0 then ([], 5) else if t < 0 ∨ m < 0 ∨ ((bytesAt l n).length : Int) < t ∨ ((bytesAt l n).length : Int) - t < m then ([], 1) else (((bytesAt l n).drop t.toNat).take m.toNat, 0)
theorem read_one {l : List Fl} {n : List UInt8} {t m : Int} {k : Nat} (hi : is n = true) (hk : ix l n = (k : Int)) (hkl : k < l.length) (h : t < 0 ∨ m < 0 ∨ (((l[k].b).length : Nat) : Int) < t ∨ (((l[k].b).length : Nat) : Int) - t < m) : read l n t m = ([], 1) := by
 have hl : bytesAt l n = l[k].b := by unfold bytesAt; rw [hk]; simp [hkl]
 unfold read
 rw [if_neg (by simp [hi]), if_neg (by omega), if_pos (by rw [hl]; exact h)]
theorem read_done {l : List Fl} {n : List UInt8} {t m : Nat} {k : Nat} (hi : is n = true) (hk : ix l n = (k : Int)) (hkl : k < l.length) (h : t + m ≤ (l[k].b).length) : read l n (t : Int) (m : Int) = (((l[k].b).drop t).take m, 0) := by
 have hl : bytesAt l n = l[k].b := by unfold bytesAt; rw [hk]; simp [hkl]
 unfold read
 rw [if_neg (by simp [hi]), if_neg (by omega), if_neg (by rw [hl]; omega), hl]
 simp
def Handed (w : World) (R : List UInt8 × Int) (e : Ending) (w' : World) : Prop := ∃ v, e = .returned (.tuple #[v, .int .i64 R.2]) ∧ Bs w' (fun i => w.heap.size ≤ i) v R.1 ∧ Below w.heap.size w w'
theorem Handed.no {w : World} {R : List UInt8 × Int} {i : Int} (h : R = ([], i)) : Vf.Handed w R (.returned (.tuple #[.slice none 0 0, .int .i64 i])) w := by
 subst h
 exact ⟨_, rfl, ⟨none, 0, rfl, Nat.le_refl _, Nat.zero_le _, Rd.none_ _ _ _⟩, Below.refl _ _⟩
end Vf
theorem rd_cut {w : World} {G : Nat → Prop} {ad : Addr} {bb : List UInt8} {t m cc : Nat} (h : Rd w G (some ad) (by8 bb)) (hc : bb.length ≤ cc) (ht : t + m ≤ bb.length) : Rd w G (if cc = t then some ad else some (ad.add t)) (by8 ((bb.drop t).take m)) := by
 by_cases hm : m = 0
 ·subst hm
  rw [List.take_zero]
  exact Rd.none_ _ _ _
 ·rw [if_neg (by omega), ← by8_take, ← by8_drop]
  exact h.sub t m
theorem read_end {w w1 : World} {v1 : Value} {l : List UInt8} {m : Nat} {e : TypeId} (hl : l.length = m) (hown : w1.ownsRow w.heap.size e 1 v1 (0 + m) ([] ++ by8 l)) (hg : (w.alloc (.cells #[] e)).grownBy w1 (Value.slice (some ⟨w.heap.size, 0, none⟩) 0 0).ownBlock) :
 Vf.Handed w (l, 0) (.returned (.tuple #[v1, .int .i64 0])) w1 := by
 rw [Nat.zero_add, List.nil_append, ← hl] at hown
 exact ⟨v1, rfl, Bs.own hown, ((Below.refl _ _).alloc (Nat.le_refl _) _).grown hg (by simp) (fun g hg => by simp [Value.ownBlock] at hg; omega)⟩
theorem read_any {w : World} {G : Nat → Prop} {fs : Nat} {lr : Option Nat} {S : Vf.Sv} {nv wv lv : Value} {ys : List Value} (h : Vf.At w G fs lr S nv wv lv ys) (n : List UInt8) (t m : Int)
 (hl : S.now.length ≤ 1048576) (hu : Vf.used S.now ≤ 4294967296) :
 Calls Tryz.prog 25 #[.pointer (some ⟨fs, 0, none⟩), .string ⟨n.toArray⟩, .int .i64 t, .int .i64 m] w (Vf.Handed w (Vf.read S.now n t m)) := by
 obtain ⟨j0, hj0, hy0, hy1, hy2⟩ := info_parts u8info
 have HJ := Lib.hid hj0
 have HY := Lib.hid (And.intro hy0 (And.intro hy1 hy2))
 clear hj0 hy0 hy1 hy2
 obtain ⟨c0, c1, c2, c3, hf⟩ := h.cells
 have hfl := h.fsLt
 have HFD := Lib.hid (find_any S.now n nv G w h.now hl)
 have HIS := Lib.hid (is_any n w)
 obtain ⟨i1, i2⟩ := Vf.ix_bd S.now n
 cases hi : Vf.is n
 ·rw [hi] at HIS
  have HR : Hid (Vf.read S.now n t m = ([], 1)) := Lib.hid (by unfold Vf.read; rw [if_pos hi])
  obtain ⟨A0, c00, xs0, hnv, _⟩ := h.now
  subst hnv
  clear h hf
  generalize Vf.ix S.now n = i at *
  go_enter Tryz.func25, Tryz.ntmps25
  go_wp2_with (first | (go_at_call 53; ((with_reducible refine (HIS.out).mono ?_); rintro e w' ⟨rfl, rfl⟩)) | (go_at_call 54; ((with_reducible refine (HFD.out).mono ?_); rintro e w' ⟨rfl, rfl⟩)))
  ((try simp only [Exit.inBlock, Exit.then]); refine bodyPost_ret (results_tmp2 rfl _ _ _) rfl ?_)
  exact Vf.Handed.no HR.out
 ·rw [hi] at HIS
  by_cases hx : Vf.ix S.now n < 0
  ·have HR : Hid (Vf.read S.now n t m = ([], 5)) := Lib.hid (by unfold Vf.read; rw [if_neg (by simp [hi]), if_pos hx])
   obtain ⟨A0, c00, xs0, hnv, _⟩ := h.now
   subst hnv
   clear h hf
   generalize Vf.ix S.now n = i at *
   go_enter Tryz.func25, Tryz.ntmps25
   go_wp2_with (first | (go_at_call 53; ((with_reducible refine (HIS.out).mono ?_); rintro e w' ⟨rfl, rfl⟩)) | (go_at_call 54; ((with_reducible refine (HFD.out).mono ?_); rintro e w' ⟨rfl, rfl⟩)))
   ((try simp only [Exit.inBlock, Exit.then]); refine bodyPost_ret (results_tmp2 rfl _ _ _) rfl ?_)
   exact Vf.Handed.no HR.out
  ·obtain ⟨k, hk, hkl⟩ := Vf.ix_at hx
   have HM := Lib.hid (Vf.used_mem (List.getElem_mem hkl))
   have hlk : (S.now[k].b).length ≤ 4294967296 := Nat.le_trans HM.out hu
   have HW1 : Hid (∀ t m : Int, t < 0 ∨ m < 0 ∨ (((S.now[k].b).length : Nat) : Int) < t ∨ (((S.now[k].b).length : Nat) : Int) - t < m → Vf.read S.now n t m = ([], 1)) := Lib.hid fun t m hb => Vf.read_one hi hk hkl hb
   have HW2 : Hid (∀ t m : Nat, t + m ≤ (S.now[k].b).length → Vf.read S.now n (t : Int) (m : Int) = (((S.now[k].b).drop t).take m, 0)) := Lib.hid fun t m hb => Vf.read_done hi hk hkl hb
   obtain ⟨rb, ro, c, A2, cc, rfl, hc, hcm, g0, g1, hbs, hrb, _⟩ := h.now.nth k hkl
   obtain ⟨A3, c3', he, hc2, hcm2, hrd2⟩ := hbs
   injection he with he1 he2 he3
   subst he1 he3
   have HRD := Lib.hid hrd2
   unfold maxLen at hcm hcm2
   rw [hk] at HFD
   clear h hf hx hk i1 i2 HM hrd2
   generalize Vf.read S.now n = rr at *
   generalize S.now[k].b = bb at *
   by_cases ht : t < 0
   ·have HR := Lib.hid (HW1.out t m (.inl ht))
    clear HW1 HW2
    go_enter Tryz.func25, Tryz.ntmps25
    go_wp2_with (first | (go_at_call 53; ((with_reducible refine (HIS.out).mono ?_); rintro e w' ⟨rfl, rfl⟩)) | (go_at_call 54; ((with_reducible refine (HFD.out).mono ?_); rintro e w' ⟨rfl, rfl⟩)))
    ((try simp only [Exit.inBlock, Exit.then]); refine bodyPost_ret (results_tmp2 rfl _ _ _) rfl ?_)
    exact Vf.Handed.no HR.out
   ·obtain ⟨t, rfl⟩ : ∃ t' : Nat, t = (t' : Int) := ⟨t.toNat, by omega⟩
    clear ht
    by_cases hm : m < 0
    ·have HR := Lib.hid (HW1.out t m (.inr (.inl hm)))
     clear HW1 HW2
     go_enter Tryz.func25, Tryz.ntmps25
     go_wp2_with (first | (go_at_call 53; ((with_reducible refine (HIS.out).mono ?_); rintro e w' ⟨rfl, rfl⟩)) | (go_at_call 54; ((with_reducible refine (HFD.out).mono ?_); rintro e w' ⟨rfl, rfl⟩)))
     ((try simp only [Exit.inBlock, Exit.then]); refine bodyPost_ret (results_tmp2 rfl _ _ _) rfl ?_)
     exact Vf.Handed.no HR.out
    ·obtain ⟨m, rfl⟩ : ∃ m' : Nat, m = (m' : Int) := ⟨m.toNat, by omega⟩
     clear hm
     by_cases h1 : (bb.length : Int) < (t : Int)
     ·have HR := Lib.hid (HW1.out t m (.inr (.inr (.inl h1))))
      clear HW1 HW2
      go_enter Tryz.func25, Tryz.ntmps25
      go_wp2_with (first | (go_at_call 53; ((with_reducible refine (HIS.out).mono ?_); rintro e w' ⟨rfl, rfl⟩)) | (go_at_call 54; ((with_reducible refine (HFD.out).mono ?_); rintro e w' ⟨rfl, rfl⟩)))
      ((try simp only [Exit.inBlock, Exit.then]); refine bodyPost_ret (results_tmp2 rfl _ _ _) rfl ?_)
      exact Vf.Handed.no HR.out
     ·have hwr : IntKind.i64.wrap ((bb.length : Int) - (t : Int)) = (bb.length : Int) - (t : Int) := IntWalk.i64_in _ (by omega)
      by_cases h2 : (bb.length : Int) - (t : Int) < (m : Int)
      ·have HR := Lib.hid (HW1.out t m (.inr (.inr (.inr h2))))
       clear HW1 HW2
       go_enter Tryz.func25, Tryz.ntmps25
       go_wp2_with (first | (go_at_call 53; ((with_reducible refine (HIS.out).mono ?_); rintro e w' ⟨rfl, rfl⟩)) | (go_at_call 54; ((with_reducible refine (HFD.out).mono ?_); rintro e w' ⟨rfl, rfl⟩)))
       ((try simp only [Exit.inBlock, Exit.then]); refine bodyPost_ret (results_tmp2 rfl _ _ _) rfl ?_)
       exact Vf.Handed.no HR.out
      ·have HR := Lib.hid (HW2.out t m (by omega))
       clear HW1 HW2
       have hw2 : IntKind.i64.wrap ((t : Int) + (m : Int)) = ((t + m : Nat) : Int) := by rw [IntWalk.i64_in _ (by omega)]; omega
       have hnl : ((bb.drop t).take m).length = m := by rw [List.length_take, List.length_drop]; omega
       cases A2 with
       | none =>
         have hr0 : Rd (w.alloc (.cells #[] 5)) G none (by8 ((bb.drop t).take m)) := by
          intro hne
          obtain ⟨ad, e, _⟩ := HRD.out (by rintro e; apply hne; rw [← by8_take, ← by8_drop, e]; simp)
          cases e
         have HR0 := Lib.hid hr0
         go_enter Tryz.func25, Tryz.ntmps25
         go_wp2_with (first | (go_at_call 53; ((with_reducible refine (HIS.out).mono ?_); rintro e w' ⟨rfl, rfl⟩)) | (go_at_call 54; ((with_reducible refine (HFD.out).mono ?_); rintro e w' ⟨rfl, rfl⟩)) | (at_builtin; refine wpList_app _ rfl (.tmp 59) (.tmp 72) 49 rfl w.heap.size 5 j0 (.int .u8 0) 1 1 Tryz.underlying49 HJ.out HY.out.1 HY.out.2.1 HY.out.2.2 rfl (by decide) (.slice (some ⟨w.heap.size, 0, none⟩) 0 0) 0 [] rfl (owns_empty _ _ _ rfl) G none m (cc - t) (by8 ((bb.drop t).take m)) (by simp [Act.eval]) (by rw [by8_len]; omega) HR0.out (by8_one _) (by unfold maxLen; omega) (by omega) (by simp) ?_; intro v1 w1 hown1 hg1 hat1 hnil1))
         all_goals
          ((try simp only [Exit.inBlock, Exit.then]); refine bodyPost_ret (results_tmp2 rfl _ _ _) rfl ?_)
          rw [HR.out]
          exact read_end hnl hown1 hg1
       | some ad =>
         have HR0 := Lib.hid (rd_cut (w := w.alloc (.cells #[] 5)) (t := t) (m := m) (cc := cc) (HRD.out.keep (by simp) (fun b hb _ => Below.heap_alloc w _ b hb)) hc2 (by omega))
         go_enter Tryz.func25, Tryz.ntmps25
         go_wp2_with (first | (go_at_call 53; ((with_reducible refine (HIS.out).mono ?_); rintro e w' ⟨rfl, rfl⟩)) | (go_at_call 54; ((with_reducible refine (HFD.out).mono ?_); rintro e w' ⟨rfl, rfl⟩)) | (at_builtin; refine wpList_app _ rfl (.tmp 59) (.tmp 72) 49 rfl w.heap.size 5 j0 (.int .u8 0) 1 1 Tryz.underlying49 HJ.out HY.out.1 HY.out.2.1 HY.out.2.2 rfl (by decide) (.slice (some ⟨w.heap.size, 0, none⟩) 0 0) 0 [] rfl (owns_empty _ _ _ rfl) G (if cc = t then some ad else some (ad.add t)) m (cc - t) (by8 ((bb.drop t).take m)) (by simp [Act.eval]) (by rw [by8_len]; omega) HR0.out (by8_one _) (by unfold maxLen; omega) (by omega) (by simp) ?_; intro v1 w1 hown1 hg1 hat1 hnil1))
         all_goals
          ((try simp only [Exit.inBlock, Exit.then]); refine bodyPost_ret (results_tmp2 rfl _ _ _) rfl ?_)
          rw [HR.out]
          exact read_end hnl hown1 hg1
end
section
namespace Fx
structure Vl where
 ok : Bool
 n : Int
def inR (n : Int) : Bool := decide (-4611686018427387904 ≤ n ∧ n ≤ 4611686018427387904)
def none : Vl := ⟨false, 0⟩
def of (n : Int) : Vl := if inR n then ⟨true, n⟩ else none
def num (v : Vl) : Bool := v.ok && inR v.n
def isV (v : Vl) : Bool := if v.ok then inR v.n else decide (v.n = 0)
def plus (a b : Vl) : Vl := if num a && num b then of (a.n + b.n) else none
def sub (a b : Vl) : Vl := if num a && num b then of (a.n - b.n) else none
def less (a b : Vl) : Bool := (num a && num b) && decide (a.n < b.n)
theorem inR_yes {n : Int} (h1 : -4611686018427387904 ≤ n) (h2 : n ≤ 4611686018427387904) : inR n = true := by unfold inR; simp; omega
theorem inR_low {n : Int} (h : n < -4611686018427387904) : inR n = false := by unfold inR; simp; omega
theorem inR_high {n : Int} (h : 4611686018427387904 < n) : inR n = false := by unfold inR; simp; omega
theorem inR_iff {n : Int} : inR n = true ↔ -4611686018427387904 ≤ n ∧ n ≤ 4611686018427387904 := by unfold inR; simp
theorem of_yes {n : Int} (h : inR n = true) : of n = ⟨true, n⟩ := by unfold of; rw [if_pos h]
theorem of_no {n : Int} (h : inR n = false) : of n = none := by unfold of; rw [if_neg (by simp [h])]
theorem num_iff {b : Bool} {n : Int} : num ⟨b, n⟩ = true ↔ b = true ∧ -4611686018427387904 ≤ n ∧ n ≤ 4611686018427387904 := by
 unfold num; simp [inR_iff]
theorem isV_on {n : Int} : isV ⟨true, n⟩ = inR n := rfl
theorem isV_off {n : Int} : isV ⟨false, n⟩ = decide (n = 0) := rfl
theorem plus_yes {a b : Vl} (h1 : num a = true) (h2 : num b = true) : plus a b = of (a.n + b.n) := by unfold plus; simp [h1, h2]
theorem plus_no1 {a b : Vl} (h1 : num a = false) : plus a b = none := by unfold plus; simp [h1]
theorem plus_no2 {a b : Vl} (h2 : num b = false) : plus a b = none := by unfold plus; simp [h2]
theorem of_wrap {n : Int} (h1 : -9223372036854775808 ≤ n) (h2 : n ≤ 9223372036854775808) : of (Go.RowKit.wrap64 n) = of n := by
 unfold Go.RowKit.wrap64
 by_cases h : n = 9223372036854775808
 ·subst h; rw [of_no (n := 9223372036854775808) (inR_high (by omega))]; exact of_no (inR_low (by omega))
 ·congr 1; omega
def mag (n : Int) : Nat := n.natAbs
end Fx
end
section
open Go.RowKit
open Fx (Vl)
theorem bcell {W w1 : World} (hb : Below W.heap.size W w1) : (∀ b o, b < W.heap.size → w1.cell? ⟨b, o, none⟩ = W.cell? ⟨b, o, none⟩) ∧ (∀ b o, b < W.heap.size → w1.frozen? ⟨b, o, none⟩ = W.frozen? ⟨b, o, none⟩) :=
 ⟨fun b o h => hb.cell (p := ⟨b, o, none⟩) h, fun b o h => hb.frozen (p := ⟨b, o, none⟩) h⟩
theorem kgrown (W : World) : (∀ d os b o, b < W.heap.size → (Go.Sort.grow (redrawn W d) os).cell? ⟨b, o, none⟩ = W.cell? ⟨b, o, none⟩) ∧ (∀ d os b o, b < W.heap.size → (Go.Sort.grow (redrawn W d) os).frozen? ⟨b, o, none⟩ = W.frozen? ⟨b, o, none⟩) :=
 ⟨fun d os b o h => (below_regrown W d os).cell (p := ⟨b, o, none⟩) h, fun d os b o h => (below_regrown W d os).frozen (p := ⟨b, o, none⟩) h⟩
theorem inRange_any (n : Int) (w : World) :
 Calls Tryz.prog 114 #[.int .i64 n] w fun e w' => e = .returned (.bool (Fx.inR n)) ∧ w = w' := by
 by_cases h1 : -4611686018427387904 ≤ n
 ·by_cases h2 : n ≤ 4611686018427387904
  ·have H := Lib.hid (Fx.inR_yes h1 h2)
   go_enter Tryz.func114, Tryz.ntmps114
   go_wp2
   go_ret
   exact ⟨by rw [H.out]; rfl, rfl⟩
  ·have H := Lib.hid (Fx.inR_high (by omega : 4611686018427387904 < n))
   go_enter Tryz.func114, Tryz.ntmps114
   go_wp2
   go_ret
   exact ⟨by rw [H.out]; rfl, rfl⟩
 ·have H := Lib.hid (Fx.inR_low (by omega : n < -4611686018427387904))
  go_enter Tryz.func114, Tryz.ntmps114
  go_wp2
  go_ret
  exact ⟨by rw [H.out]; rfl, rfl⟩
theorem of_any (n : Int) (w : World) :
 Calls Tryz.prog 91 #[.int .i64 n] w fun e w' => e = .returned (.agg #[.bool (Fx.of n).ok, .int .i64 (Fx.of n).n]) ∧ Below w.heap.size w w' := by
 cases h : Fx.inR n
 ·rw [Fx.of_no h]
  go_enter Tryz.func91, Tryz.ntmps91
  go_wp2_with (go_at_call 114; go_must (refine (inRange_any _ _).mono ?_; rintro e w' ⟨rfl, rfl⟩))
  exact bodyPost_ret (v := .agg #[.bool false, .int .i64 0]) (by simp [results, Tryz.results91, go_sem, *]) rfl ⟨rfl, Bq⟩
 ·rw [Fx.of_yes h]
  go_enter Tryz.func91, Tryz.ntmps91
  go_wp2_with (go_at_call 114; go_must (refine (inRange_any _ _).mono ?_; rintro e w' ⟨rfl, rfl⟩))
  exact bodyPost_ret (v := .agg #[.bool true, .int .i64 n]) (by simp [results, Tryz.results91, go_sem, *]) rfl ⟨rfl, Bq⟩
theorem refOf_any (n : Int) (w : World) :
 Calls Tryz.prog 109 #[.int .i64 n] w fun e w' => e = .returned (.agg #[.bool (Fx.of n).ok, .int .i64 (Fx.of n).n]) ∧ Below w.heap.size w w' := by
 by_cases h1 : -4611686018427387904 ≤ n
 ·by_cases h2 : n ≤ 4611686018427387904
  ·rw [Fx.of_yes (Fx.inR_yes h1 h2)]
   go_enter Tryz.func109, Tryz.ntmps109
   go_wp2
   exact bodyPost_ret (v := .agg #[.bool true, .int .i64 n]) (by simp [results, Tryz.results109, go_sem, *]) rfl ⟨rfl, Bq⟩
  ·rw [Fx.of_no (Fx.inR_high (by omega : 4611686018427387904 < n))]
   go_enter Tryz.func109, Tryz.ntmps109
   go_wp2
   exact bodyPost_ret (v := .agg #[.bool false, .int .i64 0]) (by simp [results, Tryz.results109, go_sem, *]) rfl ⟨rfl, Bq⟩
 ·rw [Fx.of_no (Fx.inR_low (by omega : n < -4611686018427387904))]
  go_enter Tryz.func109, Tryz.ntmps109
  go_wp2
  exact bodyPost_ret (v := .agg #[.bool false, .int .i64 0]) (by simp [results, Tryz.results109, go_sem, *]) rfl ⟨rfl, Bq⟩
theorem int_any (n : Int) (w : World) :
 Calls Tryz.prog 147 #[.int .i64 n] w fun e w' => e = .returned (.agg #[.bool (Fx.of (n * 1000000)).ok, .int .i64 (Fx.of (n * 1000000)).n]) ∧ Below w.heap.size w w' := by
 by_cases h1 : -4611686018427 ≤ n
 ·by_cases h2 : n ≤ 4611686018427
  ·go_enter Tryz.func147, Tryz.ntmps147
   go_wp2_with (go_at_call 91; go_must (refine (of_any _ _).mono ?_; rintro e w' ⟨rfl, hb⟩; obtain ⟨hc, hf⟩ := bcell hb; (try have hz0 : w.heap.size < w'.heap.size := Bz hb); (try have hz1 : w.heap.size + 1 < w'.heap.size := Bz hb); (try have hz2 : w.heap.size + 1 + 1 < w'.heap.size := Bz hb); have hz := hb.size; (try simp at hz)))
   exact bodyPost_ret (v := (.agg #[.bool (Fx.of (n * 1000000)).ok, .int .i64 (Fx.of (n * 1000000)).n])) (by simp [results, Tryz.results147, go_sem, *]) rfl ⟨rfl, Bq⟩
  ·rw [Fx.of_no (Fx.inR_high (by omega : 4611686018427387904 < n * 1000000))]
   go_enter Tryz.func147, Tryz.ntmps147
   go_wp2
   exact bodyPost_ret (v := .agg #[.bool false, .int .i64 0]) (by simp [results, Tryz.results147, go_sem, *]) rfl ⟨rfl, Bq⟩
 ·rw [Fx.of_no (Fx.inR_low (by omega : n * 1000000 < -4611686018427387904))]
  go_enter Tryz.func147, Tryz.ntmps147
  go_wp2
  exact bodyPost_ret (v := .agg #[.bool false, .int .i64 0]) (by simp [results, Tryz.results147, go_sem, *]) rfl ⟨rfl, Bq⟩
theorem refInt_any (n : Int) (w : World) :
 Calls Tryz.prog 142 #[.int .i64 n] w fun e w' => e = .returned (.agg #[.bool (Fx.of (n * 1000000)).ok, .int .i64 (Fx.of (n * 1000000)).n]) ∧ Below w.heap.size w w' := by
 by_cases h1 : -4611686018427 ≤ n
 ·by_cases h2 : n ≤ 4611686018427
  ·go_enter Tryz.func142, Tryz.ntmps142
   go_wp2_with (go_at_call 109; go_must (refine (refOf_any _ _).mono ?_; rintro e w' ⟨rfl, hb⟩; obtain ⟨hc, hf⟩ := bcell hb; (try have hz0 : w.heap.size < w'.heap.size := Bz hb); (try have hz1 : w.heap.size + 1 < w'.heap.size := Bz hb); (try have hz2 : w.heap.size + 1 + 1 < w'.heap.size := Bz hb); have hz := hb.size; (try simp at hz)))
   exact bodyPost_ret (v := (.agg #[.bool (Fx.of (n * 1000000)).ok, .int .i64 (Fx.of (n * 1000000)).n])) (by simp [results, Tryz.results142, go_sem, *]) rfl ⟨rfl, Bq⟩
  ·rw [Fx.of_no (Fx.inR_high (by omega : 4611686018427387904 < n * 1000000))]
   go_enter Tryz.func142, Tryz.ntmps142
   go_wp2
   exact bodyPost_ret (v := .agg #[.bool false, .int .i64 0]) (by simp [results, Tryz.results142, go_sem, *]) rfl ⟨rfl, Bq⟩
 ·rw [Fx.of_no (Fx.inR_low (by omega : n * 1000000 < -4611686018427387904))]
  go_enter Tryz.func142, Tryz.ntmps142
  go_wp2
  exact bodyPost_ret (v := .agg #[.bool false, .int .i64 0]) (by simp [results, Tryz.results142, go_sem, *]) rfl ⟨rfl, Bq⟩
theorem isV_any (b : Bool) (n : Int) (w : World) :
 Calls Tryz.prog 143 #[.agg #[.bool b, .int .i64 n]] w fun e w' => e = .returned (.bool (Fx.isV ⟨b, n⟩)) ∧ Below w.heap.size w w' := by
 cases b
 ·rw [Fx.isV_off]
  go_enter Tryz.func143, Tryz.ntmps143
  go_wp2
  go_ret
  exact ⟨by first | rfl | simp, Bq⟩
 ·rw [Fx.isV_on]
  go_enter Tryz.func143, Tryz.ntmps143
  go_wp2_with (go_at_call 114; go_must (refine (inRange_any _ _).mono ?_; rintro e w' ⟨rfl, rfl⟩))
  go_ret
  exact ⟨rfl, Bq⟩
theorem refIsV_any (b : Bool) (n : Int) (w : World) :
 Calls Tryz.prog 88 #[.agg #[.bool b, .int .i64 n]] w fun e w' => e = .returned (.bool (Fx.isV ⟨b, n⟩)) ∧ Below w.heap.size w w' := by
 cases b
 ·rw [Fx.isV_off]
  go_enter Tryz.func88, Tryz.ntmps88
  go_wp2
  go_ret
  exact ⟨by first | rfl | simp, Bq⟩
 ·rw [Fx.isV_on]
  by_cases h1 : -4611686018427387904 ≤ n
  ·by_cases h2 : n ≤ 4611686018427387904
   ·have H := Lib.hid (Fx.inR_yes h1 h2)
    go_enter Tryz.func88, Tryz.ntmps88
    go_wp2
    go_ret
    exact ⟨by rw [H.out]; rfl, Bq⟩
   ·have H := Lib.hid (Fx.inR_high (by omega : 4611686018427387904 < n))
    go_enter Tryz.func88, Tryz.ntmps88
    go_wp2
    go_ret
    exact ⟨by rw [H.out]; rfl, Bq⟩
  ·have H := Lib.hid (Fx.inR_low (by omega : n < -4611686018427387904))
   go_enter Tryz.func88, Tryz.ntmps88
   go_wp2
   go_ret
   exact ⟨by rw [H.out]; rfl, Bq⟩
theorem isNumber_any (b : Bool) (n : Int) (w : World) :
 Calls Tryz.prog 154 #[.agg #[.bool b, .int .i64 n]] w fun e w' => e = .returned (.bool (Fx.num ⟨b, n⟩)) ∧ Below w.heap.size w w' := by
 cases b
 ·go_enter Tryz.func154, Tryz.ntmps154
  go_wp2
  go_ret
  exact ⟨rfl, Bq⟩
 ·go_enter Tryz.func154, Tryz.ntmps154
  go_wp2_with (go_at_call 114; go_must (refine (inRange_any _ _).mono ?_; rintro e w' ⟨rfl, rfl⟩))
  go_ret
  exact ⟨rfl, Bq⟩
theorem known1_any (b : Bool) (n : Int) (w : World) :
 Calls Tryz.prog 139 #[.agg #[.bool b, .int .i64 n]] w fun e w' => e = .returned (.bool (Fx.num ⟨b, n⟩)) ∧ Below w.heap.size w w' := by
 cases b
 ·go_enter Tryz.func139, Tryz.ntmps139
  go_wp2
  go_ret
  exact ⟨rfl, Bq⟩
 ·go_enter Tryz.func139, Tryz.ntmps139
  go_wp2_with (go_at_call 88; go_must (refine (refIsV_any _ _ _).mono ?_; rintro e w' ⟨rfl, hb⟩; obtain ⟨hc, hf⟩ := bcell hb; (try have hz0 : w.heap.size < w'.heap.size := Bz hb); (try have hz1 : w.heap.size + 1 < w'.heap.size := Bz hb); (try have hz2 : w.heap.size + 1 + 1 < w'.heap.size := Bz hb); have hz := hb.size; (try simp at hz)))
  go_ret
  exact ⟨rfl, Bq⟩
theorem two_any (a : Bool) (m : Int) (b : Bool) (n : Int) (w : World) :
 Calls Tryz.prog 152 #[.agg #[.bool a, .int .i64 m], .agg #[.bool b, .int .i64 n]] w fun e w' => e = .returned (.bool (Fx.num ⟨a, m⟩ && Fx.num ⟨b, n⟩)) ∧ Below w.heap.size w w' := by
 cases h : Fx.num ⟨a, m⟩
 ·go_enter Tryz.func152, Tryz.ntmps152
  go_wp2_with (go_at_call 139; go_must (refine (known1_any _ _ _).mono ?_; rintro e w' ⟨rfl, hb⟩; obtain ⟨hc, hf⟩ := bcell hb; (try have hz0 : w.heap.size < w'.heap.size := Bz hb); (try have hz1 : w.heap.size + 1 < w'.heap.size := Bz hb); (try have hz2 : w.heap.size + 1 + 1 < w'.heap.size := Bz hb); have hz := hb.size; (try simp at hz)))
  go_ret
  exact ⟨rfl, Bq⟩
 ·go_enter Tryz.func152, Tryz.ntmps152
  go_wp2_with (go_at_call 139; go_must (refine (known1_any _ _ _).mono ?_; rintro e w' ⟨rfl, hb⟩; obtain ⟨hc, hf⟩ := bcell hb; (try have hz0 : w.heap.size < w'.heap.size := Bz hb); (try have hz1 : w.heap.size + 1 < w'.heap.size := Bz hb); (try have hz2 : w.heap.size + 1 + 1 < w'.heap.size := Bz hb); have hz := hb.size; (try simp at hz)))
  go_ret
  exact ⟨rfl, Bq⟩
end
section
namespace Wh
def At (l : List (Int × Int)) (i : Nat) : Int × Int := l.getD i (0, 0)
def num (n : Int) : Bool := decide (1 ≤ n) && decide (n ≤ 16777216)
def fol (a b : Int × Int) : Bool := decide (a.1 < b.1) && decide (b.1 % a.1 = 0) && decide (a.1 * a.2 < b.1 * b.2) && decide (b.1 / a.1 ≤ a.2)
def stp (l : List (Int × Int)) (i : Nat) : Bool := num (At l i).1 && num (At l i).2 && (decide (i = 0) || fol (At l (i - 1)) (At l i))
def alls (l : List (Int × Int)) : Nat → Bool
 | 0 => true
 | k + 1 => alls l k && stp l k
def sm (l : List (Int × Int)) : Nat → Int
 | 0 => 0
 | k + 1 => sm l k + 12 * (At l k).2
def ends (l : List (Int × Int)) (k : Nat) : Int := 16 + 12 * (l.length : Int) + sm l k
def lsp (l : List (Int × Int)) : Int := (At l (l.length - 1)).1 * (At l (l.length - 1)).2
def kind (ag : Int) : Bool := decide (1 ≤ ag) && decide (ag ≤ 5)
def av (l : List (Int × Int)) : Bool := decide (1 ≤ l.length) && decide (l.length ≤ 8) && alls l l.length && decide (ends l l.length ≤ 1048576) && decide (lsp l ≤ 4294967295)
def val (ag xf : Int) (l : List (Int × Int)) : Bool := kind ag && decide (0 ≤ xf) && decide (xf ≤ 1000000) && av l
theorem num_t {n : Int} (h1 : 1 ≤ n) (h2 : n ≤ 16777216) : num n = true := by unfold num; simp [h1, h2]
theorem num_bd {n : Int} (h : num n = true) : 1 ≤ n ∧ n ≤ 16777216 := by unfold num at h; simpa using h
theorem kind_f {n : Int} (h : n < 1 ∨ 5 < n) : kind n = false := by
 unfold kind
 simp
 omega
theorem kind_bd {n : Int} (h : kind n = true) : 1 ≤ n ∧ n ≤ 5 := by unfold kind at h; simpa using h
theorem alls_less {l : List (Int × Int)} {k n : Nat} (hkn : k ≤ n) (h : alls l n = true) : alls l k = true := by
 induction n with
 | zero => obtain rfl : k = 0 := by omega
           exact h
 | succ n ih =>
   by_cases e : k = n + 1
   ·subst e; exact h
   ·exact ih (by omega) (by unfold alls at h; simp at h; exact h.1)
theorem alls_stp {l : List (Int × Int)} {k n : Nat} (hkn : k < n) (h : alls l n = true) : stp l k = true := by
 have := alls_less (Nat.succ_le_of_lt hkn) h
 unfold alls at this
 simp at this
 exact this.2
theorem alls_f {l : List (Int × Int)} {k n : Nat} (hkn : k < n) (h : stp l k = false) : alls l n = false := by
 cases e : alls l n with
 | false => rfl
 | true => rw [alls_stp hkn e] at h; cases h
theorem alls_num {l : List (Int × Int)} {k n : Nat} (hkn : k < n) (h : alls l n = true) : (1 ≤ (At l k).1 ∧ (At l k).1 ≤ 16777216) ∧ (1 ≤ (At l k).2 ∧ (At l k).2 ≤ 16777216) := by
 have := alls_stp hkn h
 unfold stp at this
 simp only [Bool.and_eq_true] at this
 exact ⟨num_bd this.1.1, num_bd this.1.2⟩
theorem sm_bd {l : List (Int × Int)} {n : Nat} (h : ∀ i, i < n → 1 ≤ (At l i).2 ∧ (At l i).2 ≤ 16777216) : ∀ k, k ≤ n → 12 * (k : Int) ≤ sm l k ∧ sm l k ≤ 201326592 * (k : Int)
 | 0, _ => by simp [sm]
 | k + 1, hk => by
   have := sm_bd h k (by omega)
   have := h k (by omega)
   unfold sm
   omega
theorem sm_le {l : List (Int × Int)} {n : Nat} (h : ∀ i, i < n → 1 ≤ (At l i).2 ∧ (At l i).2 ≤ 16777216) {k : Nat} : ∀ m, k ≤ m → m ≤ n → sm l k + 12 * ((m : Int) - (k : Int)) ≤ sm l m
 | 0, hk, _ => by obtain rfl : k = 0 := by omega
                  simp
 | m + 1, hk, hm => by
   by_cases e : k = m + 1
   ·subst e; simp
   ·have := sm_le (k := k) h m (by omega) (by omega)
    have := h m (by omega)
    rw [sm]
    omega
theorem ends_bd {l : List (Int × Int)} (h8 : l.length ≤ 8) (h : ∀ i, i < l.length → 1 ≤ (At l i).2 ∧ (At l i).2 ≤ 16777216) (k : Nat) (hk : k ≤ l.length) : 16 ≤ ends l k ∧ ends l k ≤ 2000000000 := by
 have := sm_bd h k hk
 unfold ends
 omega
theorem ends_succ (l : List (Int × Int)) (k : Nat) : ends l (k + 1) = ends l k + 12 * (At l k).2 := by unfold ends; rw [sm]; omega
theorem ends_zero (l : List (Int × Int)) : ends l 0 = 16 + 12 * (l.length : Int) := by unfold ends; rw [sm]; omega
def run (l : List (Int × Int)) (k : Nat) : Int := 16 + 12 * (k : Int) + sm l k
theorem run_succ (l : List (Int × Int)) (k : Nat) : run l (k + 1) = run l k + 12 + 12 * (At l k).2 := by unfold run; rw [sm]; omega
theorem run_zero (l : List (Int × Int)) : run l 0 = 16 := by unfold run; rw [sm]; omega
theorem run_bd {l : List (Int × Int)} (h8 : l.length ≤ 8) (h : ∀ i, i < l.length → 1 ≤ (At l i).2 ∧ (At l i).2 ≤ 16777216) (k : Nat) (hk : k ≤ l.length) : 16 ≤ run l k ∧ run l k ≤ 2000000000 := by
 have := sm_bd h k hk
 unfold run
 omega
theorem run_le {l : List (Int × Int)} (h : ∀ i, i < l.length → 1 ≤ (At l i).2 ∧ (At l i).2 ≤ 16777216) (k : Nat) (hk : k ≤ l.length) : run l k ≤ ends l l.length := by
 have := sm_le h l.length hk (Nat.le_refl _)
 unfold run ends
 omega
theorem alls_cnt {l : List (Int × Int)} {n : Nat} (h : alls l n = true) : ∀ i, i < n → 1 ≤ (At l i).2 ∧ (At l i).2 ≤ 16777216 := fun _ hi => (alls_num hi h).2
theorem av_long {l : List (Int × Int)} (h : 8 < l.length) : av l = false := by
 have : decide (l.length ≤ 8) = false := decide_eq_false (by omega)
 unfold av
 simp [this]
theorem av_nil {l : List (Int × Int)} (h : l.length = 0) : av l = false := by
 have : decide (1 ≤ l.length) = false := decide_eq_false (by omega)
 unfold av
 simp [this]
theorem av_stp {l : List (Int × Int)} {k : Nat} (hk : k < l.length) (h : stp l k = false) : av l = false := by
 unfold av
 simp [alls_f hk h]
theorem av_big {l : List (Int × Int)} (h : 1048576 < ends l l.length) : av l = false := by
 have : decide (ends l l.length ≤ 1048576) = false := decide_eq_false (by omega)
 unfold av
 simp [this]
theorem av_end {l : List (Int × Int)} (h1 : 1 ≤ l.length) (h8 : l.length ≤ 8) (ha : alls l l.length = true) (he : ends l l.length ≤ 1048576) : av l = decide (lsp l ≤ 4294967295) := by
 unfold av
 simp [h1, h8, ha, he]
theorem av_t {l : List (Int × Int)} (h : av l = true) : 1 ≤ l.length ∧ l.length ≤ 8 ∧ alls l l.length = true ∧ ends l l.length ≤ 1048576 ∧ lsp l ≤ 4294967295 := by
 unfold av at h
 simp only [Bool.and_eq_true, decide_eq_true_eq] at h
 exact ⟨h.1.1.1.1, h.1.1.1.2, h.1.1.2, h.1.2, h.2⟩
theorem val_t {ag xf : Int} {l : List (Int × Int)} (h : val ag xf l = true) : (1 ≤ ag ∧ ag ≤ 5) ∧ 0 ≤ xf ∧ xf ≤ 1000000 ∧ av l = true := by
 unfold val at h
 simp only [Bool.and_eq_true, decide_eq_true_eq] at h
 exact ⟨kind_bd h.1.1.1, h.1.1.2, h.1.2, h.2⟩
theorem val_head {ag xf : Int} {l : List (Int × Int)} (h : ag < 1 ∨ 5 < ag ∨ xf < 0 ∨ 1000000 < xf ∨ av l = false) : val ag xf l = false := by
 unfold val
 rcases h with h | h | h | h | h
 ·simp [kind_f (.inl h)]
 ·simp [kind_f (.inr h)]
 ·have : decide (0 ≤ xf) = false := decide_eq_false (by omega)
  simp [this]
 ·have : decide (xf ≤ 1000000) = false := decide_eq_false (by omega)
  simp [this]
 ·simp [h]
theorem kind_t {ag : Int} (h1 : 1 ≤ ag) (h2 : ag ≤ 5) : kind ag = true := by unfold kind; simp [h1, h2]
theorem val_av {ag xf : Int} {l : List (Int × Int)} (h1 : 1 ≤ ag) (h2 : ag ≤ 5) (h3 : 0 ≤ xf) (h4 : xf ≤ 1000000) : val ag xf l = av l := by
 unfold val
 simp [kind_t h1 h2, h3, h4]
theorem lsp_bd {l : List (Int × Int)} (h1 : 1 ≤ l.length) (ha : alls l l.length = true) : 1 ≤ lsp l ∧ lsp l ≤ 281474976710656 := by
 have := alls_num (k := l.length - 1) (by omega) ha
 unfold lsp
 constructor
 ·calc (1 : Int) = 1 * 1 := rfl
   _ ≤ _ := Int.mul_le_mul this.1.1 this.2.1 (by omega) (by omega)
 ·calc _ ≤ (16777216 : Int) * 16777216 := Int.mul_le_mul this.1.2 this.2.2 (by omega) (by omega)
   _ = _ := rfl
theorem mul_bd {a b : Int} (h1 : 1 ≤ a) (h2 : a ≤ 16777216) (h3 : 1 ≤ b) (h4 : b ≤ 16777216) : 1 ≤ a * b ∧ a * b ≤ 281474976710656 := by
 constructor
 ·calc (1 : Int) = 1 * 1 := rfl
   _ ≤ _ := Int.mul_le_mul h1 h3 (by omega) (by omega)
 ·calc a * b ≤ (16777216 : Int) * 16777216 := Int.mul_le_mul h2 h4 (by omega) (by omega)
   _ = _ := rfl
theorem stp_f1 {l : List (Int × Int)} {k : Nat} (h : num (At l k).1 = false) : stp l k = false := by unfold stp; simp [h]
theorem stp_f2 {l : List (Int × Int)} {k : Nat} (h : num (At l k).2 = false) : stp l k = false := by unfold stp; simp [h]
theorem stp_f3 {l : List (Int × Int)} {k : Nat} (h0 : 0 < k) (h : fol (At l (k - 1)) (At l k) = false) : stp l k = false := by
 have : decide (k = 0) = false := decide_eq_false (by omega)
 unfold stp
 simp [h, this]
theorem stp_t {l : List (Int × Int)} {k : Nat} (h1 : num (At l k).1 = true) (h2 : num (At l k).2 = true) (h : k = 0 ∨ fol (At l (k - 1)) (At l k) = true) : stp l k = true := by
 unfold stp
 rw [h1, h2]
 rcases h with h | h
 ·simp [h]
 ·simp [h]
theorem alls_succ {l : List (Int × Int)} {k : Nat} (h : alls l k = true) (h2 : stp l k = true) : alls l (k + 1) = true := by unfold alls; simp [h, h2]
theorem fol_1 {a b : Int × Int} (h : b.1 ≤ a.1) : fol a b = false := by
 have : decide (a.1 < b.1) = false := decide_eq_false (by omega)
 unfold fol; simp [this]
theorem fol_2 {a b : Int × Int} (h : b.1 % a.1 ≠ 0) : fol a b = false := by
 have : decide (b.1 % a.1 = 0) = false := by simp [h]
 unfold fol; simp [this]
theorem fol_3 {a b : Int × Int} (h : b.1 * b.2 ≤ a.1 * a.2) : fol a b = false := by
 have : decide (a.1 * a.2 < b.1 * b.2) = false := decide_eq_false (by omega)
 unfold fol; simp [this]
theorem fol_4 {a b : Int × Int} (h1 : a.1 < b.1) (h2 : b.1 % a.1 = 0) (h3 : a.1 * a.2 < b.1 * b.2) : fol a b = decide (b.1 / a.1 ≤ a.2) := by unfold fol; simp [h1, h2, h3]
end Wh
end
end Go.Proofs.YtbakngbmfgnmcaaGreatDoor
