/-
  CONTRACTS: the document's own files as an object: an act is done, and pending.
-/
import Derived.Test.YtiacpopgnmledaaVrFs
import Derived.Deep.RegionWith
import Derived.Deep.RegionLaw
namespace Go.Proofs.Ytiacpopgnmledaa
open Go.RowKit
open Me

theorem owns_form {w : World} {base : Nat} {e : TypeId} {size n : Nat} {v : Value} {xs : List Value} (h : w.ownsRow base e size v n xs) (hn : 0 < n) : ∃ g cap, v = .slice (some ⟨g, 0, none⟩) n cap := by
  rcases h.2 with ⟨_, h0⟩ | ⟨g, cap, cur, hv, _⟩
  · omega
  · exact ⟨g, cap, hv⟩
theorem heap_put {w : World} {g i : Nat} {cs : Array Value} {t : TypeId} {fr : Nat × Nat} (h : w.heap[g]? = some (.cells cs t fr)) (u : Value) : (w.setCell ⟨g, i, none⟩ u).heap[g]? = some (.cells (cs.setIfInBounds i u) t fr) := by
  simp [World.setCell, Array.getElem?_modify, h]
theorem size_put (w : World) (p : Addr) (u : Value) : (w.setCell p u).heap.size = w.heap.size := by simp [World.setCell]
theorem frozen_old (w : World) (o : Obj) (a : Addr) (h : a.block < w.heap.size) : (w.alloc o).frozen? a = w.frozen? a := World.frozen?_of_block (Below.heap_alloc w o a.block h)

theorem acinfo : (Try.prog.info? 90).map (fun i => (i.zero, i.size, i.bytes)) = some (some (.agg #[.int .i64 0, .string ⟨#[]⟩, .int .i64 0, .slice none 0 0]), 4, 56) := by kernel_rfl

namespace Vf
/-- What an act leaves that is done, and pending. -/
def Done (w : World) (G Gp : Nat → Prop) (fs : Nat) (lr : Option Nat) (S : Sv) (a : Ac) (e : Ending) (w' : World) : Prop :=
  e = .returned (.int .i64 0) ∧ ∃ G' lr' nv' wv' lv' ys', At w' G' fs lr' { S with now := does S.now a, l := S.l ++ [a] } nv' wv' lv' ys' ∧ Kp (fun b => b = fs ∨ lr = some b) w w' ∧
    (∀ b, G' b → G b ∨ Gp b ∨ w.heap.size ≤ b) ∧ (∀ g, lr' = some g → lr = some g ∨ w.heap.size ≤ g)
end Vf

theorem do_end {w w1 W1 w2 : World} {G Gp : Nat → Prop} {fs g2 cap2 cp : Nat} {lr : Option Nat} {S : Vf.Sv} {nv wv lv v1 : Value} {ys : List Value} {a : Vf.Ac} {Ap : Option Addr} {o : Obj}
    (h : Vf.At w G fs lr S nv wv lv ys) (hp : Bs w Gp (.slice Ap a.p.length cp) a.p) (hGp : ∀ b, Gp b → b < w.heap.size ∧ b ≠ fs ∧ lr ≠ some b)
    (hnow : Vf.Fs w1 (fun b => (G b ∨ Gp b) ∨ w.heap.size + 1 ≤ b) v1 (Vf.does S.now a)) (hsz : W1.heap.size = w1.heap.size) (hs1 : w.heap.size + 1 ≤ w1.heap.size)
    (hfsW : W1.heap[fs]? = some (.cells #[.int .i64 S.room, v1, wv, lv] 57 (0, 0))) (hold : ∀ b, b < w.heap.size → b ≠ fs → W1.heap[b]? = w.heap[b]?) (hnew : ∀ b, w.heap.size ≤ b → W1.heap[b]? = w1.heap[b]?)
    (hw1 : ∀ b, b < w.heap.size → w1.heap[b]? = w.heap[b]?) (hos : W1.os = w.os ∧ W1.tape = w.tape ∧ W1.output = w.output)
    (hown2 : w2.ownsRow 0 90 4 (.slice (some ⟨g2, 0, none⟩) (S.l.length + 1) cap2) (S.l.length + 1) (ys ++ [.int .i64 a.kind, .string ⟨a.name.toArray⟩, .int .i64 (a.off : Int), .slice Ap a.p.length cp]))
    (hg2 : (W1.alloc o).grownBy w2 lv.ownBlock) (hat2 : (Value.slice (some ⟨g2, 0, none⟩) (S.l.length + 1) cap2).ownBlock = lv.ownBlock ∨ (Value.slice (some ⟨g2, 0, none⟩) (S.l.length + 1) cap2).ownBlock = some (W1.alloc o).heap.size) :
    Vf.Done w G Gp fs lr S a (.returned (.int .i64 0)) (w2.setCell ⟨fs, 3, none⟩ (.slice (some ⟨g2, 0, none⟩) (S.l.length + 1) cap2)) := by
  have hfl := h.fsLt
  have hob : (Value.slice (some ⟨g2, 0, none⟩) (S.l.length + 1) cap2).ownBlock = some g2 := rfl
  rw [hob] at hat2
  have hasz : (W1.alloc o).heap.size = w1.heap.size + 1 := by simp [hsz]
  rw [hasz] at hat2
  have hs2 := hg2.size
  rw [hasz] at hs2
  have hrow : ∀ g, lv.ownBlock = some g → lr = some g ∧ g < w.heap.size := fun g hg => ⟨h.row ▸ hg, (h.own.lt g hg).2⟩
  have hg2c : (lr = some g2 ∧ g2 < w.heap.size) ∨ g2 = w1.heap.size + 1 := by
    rcases hat2 with e | e
    · exact .inl (hrow g2 e.symm)
    · exact .inr (Option.some.inj e)
  have hg2f : g2 ≠ fs := by
    rcases hg2c with ⟨e, _⟩ | e
    · exact (h.glr g2 e).2
    · omega
  have K2 : ∀ b, b < (W1.alloc o).heap.size → lv.ownBlock ≠ some b → w2.heap[b]? = (W1.alloc o).heap[b]? := fun b hb hn => hg2.block b hb (fun e => hn e.symm)
  have K : ∀ b, b < w1.heap.size → b ≠ fs → lv.ownBlock ≠ some b → (w2.setCell ⟨fs, 3, none⟩ (.slice (some ⟨g2, 0, none⟩) (S.l.length + 1) cap2)).heap[b]? = w1.heap[b]? := fun b hb hn hr => by
    rw [Below.heap_setCell w2 ⟨fs, 3, none⟩ _ b hn, K2 b (by rw [hasz]; omega) hr, Below.heap_alloc W1 o b (by omega)]
    by_cases hbw : b < w.heap.size
    · rw [hold b hbw hn, hw1 b hbw]
    · exact hnew b (by omega)
  have hlvfs : lv.ownBlock ≠ some fs := fun e => (h.glr fs (hrow fs e).1).2 rfl
  have hGr : ∀ b, G b → lv.ownBlock ≠ some b := fun b hb e => (h.glr b (hrow b e).1).1 hb
  have hGf : ∀ b, G b → b ≠ fs := fun b hb e => h.gfs (e ▸ hb)
  have hG2 : ∀ b, G b → b ≠ g2 := fun b hb e => by
    rcases hg2c with ⟨e2, _⟩ | e2
    · exact (h.glr g2 e2).1 (e ▸ hb)
    · have := h.lt b hb; omega
  have hP2 : ∀ b, Gp b → b ≠ g2 := fun b hb e => by
    rcases hg2c with ⟨e2, _⟩ | e2
    · exact (hGp b hb).2.2 (e ▸ e2)
    · have := (hGp b hb).1; omega
  have hsz3 : (w2.setCell ⟨fs, 3, none⟩ (.slice (some ⟨g2, 0, none⟩) (S.l.length + 1) cap2)).heap.size = w2.heap.size := size_put _ _ _
  have KG : ∀ b, b < w.heap.size → G b → (w2.setCell ⟨fs, 3, none⟩ (.slice (some ⟨g2, 0, none⟩) (S.l.length + 1) cap2)).heap[b]? = w.heap[b]? := fun b hb hg => (K b (by omega) (hGf b hg) (hGr b hg)).trans (hw1 b hb)
  have KP : ∀ b, b < w.heap.size → Gp b → (w2.setCell ⟨fs, 3, none⟩ (.slice (some ⟨g2, 0, none⟩) (S.l.length + 1) cap2)).heap[b]? = w.heap[b]? := fun b hb hg => (K b (by omega) (hGp b hg).2.1 (fun e => (hGp b hg).2.2 (hrow b e).1)).trans (hw1 b hb)
  refine ⟨rfl, fun b => (G b ∨ Gp b ∨ w.heap.size ≤ b) ∧ b < w2.heap.size ∧ b ≠ g2, some g2, v1, wv, .slice (some ⟨g2, 0, none⟩) (S.l.length + 1) cap2, ys ++ [.int .i64 a.kind, .string ⟨a.name.toArray⟩, .int .i64 (a.off : Int), .slice Ap a.p.length cp], ?_, ?_, fun b hb => hb.1, ?_⟩
  · refine ⟨?_, ?_, ?_, ?_, ?_, rfl, ?_, ?_, ?_⟩
    · have e1 : w2.heap[fs]? = some (.cells #[.int .i64 S.room, v1, wv, lv] 57 (0, 0)) := by
        rw [K2 fs (by rw [hasz]; omega) hlvfs, Below.heap_alloc W1 o fs (by omega)]
        exact hfsW
      rw [heap_put e1]
      rfl
    · refine (hnow.wide (fun b hb hg => ?_)).keep (by omega) (fun b hb hg => ?_)
      · refine ⟨?_, by omega, ?_⟩
        · rcases hg with (hg | hg) | hg
          · exact .inl hg
          · exact .inr (.inl hg)
          · exact .inr (.inr (by omega))
        · rcases hg with (hg | hg) | hg
          · exact hG2 b hg
          · exact hP2 b hg
          · rcases hg2c with ⟨_, e2⟩ | e2 <;> omega
      · obtain ⟨hg, _, _⟩ := hg
        refine K b hb ?_ ?_
        · rcases hg with hg | hg | hg
          · exact hGf b hg
          · exact (hGp b hg).2.1
          · omega
        · rcases hg with hg | hg | hg
          · exact hGr b hg
          · exact fun e => (hGp b hg).2.2 (hrow b e).1
          · exact fun e => by have := (hrow b e).2; omega
    · exact (h.was.keep (by omega) KG).wide (fun b hb hg => ⟨.inl hg, by rw [hsz3] at hb; exact hb, hG2 b hg⟩)
    · have e : (S.l ++ [a]).length = S.l.length + 1 := by simp
      show World.ownsRow _ 0 _ 4 _ (S.l ++ [a]).length _
      rw [e]
      exact owns_keep hown2 (fun g hg => by
        have : g2 = g := by simpa [Value.ownBlock] using hg
        subst this
        exact Below.heap_setCell w2 ⟨fs, 3, none⟩ _ g2 hg2f)
    · refine Els.append (h.acts.mono fun x cs hx => (hx.keep (by omega) KG).wide (fun b hb hg => ⟨.inl hg, by rw [hsz3] at hb; exact hb, hG2 b hg⟩)) (Els.one ⟨_, rfl, ?_⟩)
      exact (hp.keep (by omega) KP).mono (fun b hb hg => ⟨.inr (.inl hg), by rw [hsz3] at hb; exact hb, hP2 b hg⟩)
    · rintro ⟨hg | hg | hg, _, _⟩
      · exact h.gfs hg
      · exact (hGp fs hg).2.1 rfl
      · omega
    · intro g hg
      have : g2 = g := Option.some.inj hg
      subst this
      exact ⟨fun hx => hx.2.2 rfl, hg2f⟩
    · intro b hb
      rw [hsz3]
      exact hb.2.1
  · refine ⟨?_, ?_, ?_, by omega, fun b hb hn => ?_⟩
    · exact hg2.os.trans hos.1
    · exact hg2.tape.trans hos.2.1
    · exact hg2.output.trans hos.2.2
    · exact (K b (by omega) (fun e => hn (.inl e)) (fun e => hn (.inr (hrow b e).1))).trans (hw1 b hb)
  · intro g hg
    have : g2 = g := Option.some.inj hg
    subst this
    rcases hg2c with ⟨e, _⟩ | e
    · exact .inl e
    · exact .inr (by omega)

set_option maxHeartbeats 1600000 in
theorem do_any {w : World} {G Gp : Nat → Prop} {fs : Nat} {lr : Option Nat} {S : Vf.Sv} {nv wv lv pv : Value} {ys : List Value} (h : Vf.At w G fs lr S nv wv lv ys) (a : Vf.Ac) (hp : Bs w Gp pv a.p)
    (hGp : ∀ b, Gp b → b < w.heap.size ∧ b ≠ fs ∧ lr ≠ some b) (hl : S.now.length ≤ 1048576) (hll : S.l.length ≤ 1048576) (hfit : Hid (Vf.fits S.now a)) (hb : Hid (∀ f ∈ S.now, f.b.length ≤ 4294967296)) (ho : a.off ≤ 4294967296) :
    Calls Try.prog 51 #[.pointer (some ⟨fs, 0, none⟩), .agg #[.int .i64 a.kind, .string ⟨a.name.toArray⟩, .int .i64 (a.off : Int), pv]] w (Vf.Done w G Gp fs lr S a) := by
  obtain ⟨i0, hi0, hz0, hz1, hz2⟩ := info_parts acinfo
  have HI := Lib.hid hi0
  have HZ := Lib.hid (And.intro hz0 (And.intro hz1 hz2))
  clear hi0 hz0 hz1 hz2
  obtain ⟨c0, c1, c2, c3, hf⟩ := h.cells
  have hfl := h.fsLt
  have H := Lib.hid h
  have HP := Lib.hid hp
  have HGp := Lib.hid hGp
  obtain ⟨Ap, cp, rfl, hcp, hcpm, hrdp⟩ := hp
  have hf0 := hf 0
  have hf1 := hf 1
  have hf3 := hf 3
  have HD : Hid (∀ (W : World) (_ : Vf.Fs W (fun b => G b ∨ Gp b) nv S.now) (_ : Bs W (fun b => G b ∨ Gp b) (.slice Ap a.p.length cp) a.p), Calls Try.prog 53 #[nv, .agg #[.int .i64 a.kind, .string ⟨a.name.toArray⟩, .int .i64 (a.off : Int), .slice Ap a.p.length cp]] W (Vf.MadeF (fun b => G b ∨ Gp b) W (Vf.does S.now a))) :=
    Lib.hid fun W h1 h2 => does_any S.now a nv _ _ W h1 h2 hl hfit hb ho
  have HF : Hid (∀ W : World, w.heap.size ≤ W.heap.size → (∀ b, b < w.heap.size → W.heap[b]? = w.heap[b]?) → Vf.Fs W (fun b => G b ∨ Gp b) nv S.now ∧ Bs W (fun b => G b ∨ Gp b) (.slice Ap a.p.length cp) a.p) :=
    Lib.hid fun W h1 h2 => ⟨(H.out.now.wide (fun _ _ h => .inl h)).keep h1 (fun b hb _ => h2 b hb), (HP.out.mono (fun _ _ h => .inr h)).keep h1 (fun b hb _ => h2 b hb)⟩
  have HFW := HF.out (w.alloc (.cells #[.int .i64 a.kind, .string ⟨a.name.toArray⟩, .int .i64 (a.off : Int), .slice Ap a.p.length cp] 90)).drew (by show w.heap.size ≤ (w.alloc (.cells #[.int .i64 a.kind, .string ⟨a.name.toArray⟩, .int .i64 (a.off : Int), .slice Ap a.p.length cp] 90)).heap.size; simp) (fun b hb => Below.heap_alloc w _ b hb)
  have HC := Lib.hid (HD.out _ HFW.1 HFW.2)
  have hfl2 : fs < (w.alloc (.cells #[.int .i64 a.kind, .string ⟨a.name.toArray⟩, .int .i64 (a.off : Int), .slice Ap a.p.length cp] 90)).drew.heap.size := by show fs < (w.alloc (.cells #[.int .i64 a.kind, .string ⟨a.name.toArray⟩, .int .i64 (a.off : Int), .slice Ap a.p.length cp] 90)).heap.size; simp; omega
  clear h hf hrdp hGp hfit HFW HD HF
  go_enter Try.func51, Try.ntmps51
  go_wp2_with fail
  go_region_with (go_at_call 53; refine HC.out.mono ?_; rintro e w1 ⟨v1, rfl, hnow, hb1⟩; have HN := Lib.hid hnow; obtain ⟨A1, cc1, xs1, rfl, _, _, _, _⟩ := hnow; have cf1 := (hb1.cell (p := ⟨fs, 1, none⟩) (hfl2)).trans ((World.cell?_alloc_lt _ _ _ hfl).trans c1); have ff1 := (hb1.frozen (p := ⟨fs, 1, none⟩) (hfl2)).trans ((frozen_old _ _ _ hfl).trans hf1))
  all_goals
    obtain ⟨W1, hW1⟩ : ∃ W1, W1 = w1.setCell ⟨fs, 1, none⟩ (.slice A1 (Vf.does S.now a).length cc1) := ⟨_, rfl⟩
    have hs0 : (w.alloc (.cells #[.int .i64 a.kind, .string ⟨a.name.toArray⟩, .int .i64 (a.off : Int), .slice Ap a.p.length cp] 90)).drew.heap.size = w.heap.size + 1 := by
      show (w.alloc (.cells #[.int .i64 a.kind, .string ⟨a.name.toArray⟩, .int .i64 (a.off : Int), .slice Ap a.p.length cp] 90)).heap.size = _
      simp
    have hs1 : w.heap.size + 1 ≤ w1.heap.size := by
      have hh := hb1.size
      omega
    have hsz : W1.heap.size = w1.heap.size := by rw [hW1, size_put]
    have hfsW : W1.heap[fs]? = some (.cells #[.int .i64 S.room, .slice A1 (Vf.does S.now a).length cc1, wv, lv] 57 (0, 0)) := by
      rw [hW1]
      have h1 : w1.heap[fs]? = w.heap[fs]? := (hb1.block fs hfl2).trans (Below.heap_alloc w _ fs hfl)
      rw [heap_put (h1.trans H.out.heap)]
      rfl
    have holdW : ∀ b, b < w.heap.size → b ≠ fs → W1.heap[b]? = w.heap[b]? := fun b hb' hne => by
      rw [hW1, Below.heap_setCell w1 ⟨fs, 1, none⟩ _ b (by exact hne)]
      exact (hb1.block b (by show b < (w.alloc (.cells #[.int .i64 a.kind, .string ⟨a.name.toArray⟩, .int .i64 (a.off : Int), .slice Ap a.p.length cp] 90)).heap.size; simp; omega)).trans (Below.heap_alloc w _ b hb')
    have hboxW : W1.heap[w.heap.size]? = some (.cells #[.int .i64 a.kind, .string ⟨a.name.toArray⟩, .int .i64 (a.off : Int), .slice Ap a.p.length cp] 90 (0, 0)) := by
      rw [hW1, Below.heap_setCell w1 ⟨fs, 1, none⟩ _ w.heap.size (by show w.heap.size ≠ fs; omega)]
      exact (hb1.block w.heap.size (by show w.heap.size < (w.alloc (.cells #[.int .i64 a.kind, .string ⟨a.name.toArray⟩, .int .i64 (a.off : Int), .slice Ap a.p.length cp] 90)).heap.size; simp)).trans (heap_alloc_new w _)
    have hnewW : ∀ b, w.heap.size ≤ b → W1.heap[b]? = w1.heap[b]? := fun b hb' => by
      rw [hW1, Below.heap_setCell w1 ⟨fs, 1, none⟩ _ b (by show b ≠ fs; omega)]
    have hosW : W1.os = w.os ∧ W1.tape = w.tape ∧ W1.output = w.output := by rw [hW1]; exact ⟨hb1.os, hb1.tape, hb1.output⟩
    have d0 : W1.cell? ⟨w.heap.size, 0, none⟩ = some (.int .i64 a.kind) := by rw [cell_of_row W1 _ 0 _ _ _ hboxW]; rfl
    have d1 : W1.cell? ⟨w.heap.size, 1, none⟩ = some (.string ⟨a.name.toArray⟩) := by rw [cell_of_row W1 _ 1 _ _ _ hboxW]; rfl
    have d2 : W1.cell? ⟨w.heap.size, 2, none⟩ = some (.int .i64 (a.off : Int)) := by rw [cell_of_row W1 _ 2 _ _ _ hboxW]; rfl
    have d3 : W1.cell? ⟨w.heap.size, 3, none⟩ = some (.slice Ap a.p.length cp) := by rw [cell_of_row W1 _ 3 _ _ _ hboxW]; rfl
    have e3 : W1.cell? ⟨fs, 3, none⟩ = some lv := by rw [cell_of_row W1 _ 3 _ _ _ hfsW]; rfl
    have hfsl : fs < W1.heap.size := by omega
    have e3f : W1.frozen? ⟨fs, 3, none⟩ = false := by simp [World.frozen?, hfsW]
    have hfsA : ∀ o : Obj, fs < (W1.alloc o).heap.size := fun o => by simp; omega
    have hbxl : w.heap.size < W1.heap.size := by omega
    have hrl : ∀ g, lv.ownBlock = some g → g < w.heap.size ∧ g ≠ fs := fun g hg => ⟨(H.out.own.lt g hg).2, (H.out.glr g (H.out.row ▸ hg)).2⟩
    have HOW : Hid ((W1.alloc (.cells #[.int .i64 a.kind, .string ⟨a.name.toArray⟩, .int .i64 (a.off : Int), .slice Ap a.p.length cp] 90)).ownsRow 0 90 4 lv S.l.length ys) := Lib.hid (owns_keep H.out.own (fun g hg => by
      obtain ⟨h1, h2⟩ := hrl g hg
      rw [Below.heap_alloc W1 _ g (by omega)]
      exact holdW g h1 h2))
    have HRL := Lib.hid hrl
    have HFS := Lib.hid hfsW
    have HOLD := Lib.hid holdW
    have HNEW := Lib.hid hnewW
    have HSZ := Lib.hid hsz
    have HOS := Lib.hid hosW
    have HW1 : Hid (∀ b, b < w.heap.size → w1.heap[b]? = w.heap[b]?) := Lib.hid (fun b hb' => (hb1.block b (by rw [hs0]; omega)).trans (Below.heap_alloc w _ b hb'))
    have HNW : Hid (Vf.Fs w1 (fun b => (G b ∨ Gp b) ∨ w.heap.size + 1 ≤ b) (.slice A1 (Vf.does S.now a).length cc1) (Vf.does S.now a)) := Lib.hid (by have := HN.out; rw [hs0] at this; exact this)
    rw [← hW1]
    clear hrl hfsW holdW hnewW hboxW hosW cf1 ff1 hW1 hsz
    go_wp2_with fail
    go_region_law (refine step_app _ rfl (.tmp 18) (.tmp 20) 55 rfl 0 90 i0 _ 4 56 Try.underlying55 HI.out HZ.out.1 HZ.out.2.1 HZ.out.2.2 rfl (by decide) lv S.l.length ys (by simp [Act.eval]) HOW.out (fun b => b = W1.heap.size) (some ⟨W1.heap.size, 0, none⟩) 1 1 [.int .i64 a.kind, .string ⟨a.name.toArray⟩, .int .i64 (a.off : Int), .slice Ap a.p.length cp] (by simp [Act.eval]) (by simp) (Rd.fresh W1 _ _ _ rfl) (by intro u hu; simp at hu; rcases hu with rfl | rfl | rfl | rfl <;> rfl) (by unfold maxLen; omega) (by omega) (Nat.zero_le _) ?_; intro v2 w2 hown2 hg2 hat2 hnil2; obtain ⟨g2, cap2, rfl⟩ := owns_form hown2 (by omega); have cf3 : w2.cell? ⟨fs, 3, none⟩ = some lv := (hg2.cell_far ⟨fs, 3, none⟩ (hfsA _) (fun e => (HRL.out fs e.symm).2 rfl)).trans ((World.cell?_alloc_lt _ _ _ hfsl).trans e3); have ff3 : w2.frozen? ⟨fs, 3, none⟩ = false := (hg2.frozen_far ⟨fs, 3, none⟩ (hfsA _) (fun e => (HRL.out fs e.symm).2 rfl)).trans ((frozen_old _ _ _ hfsl).trans e3f))
    all_goals
      go_wp2_with fail
      go_ret
      exact do_end (o := .cells #[.int .i64 a.kind, .string ⟨a.name.toArray⟩, .int .i64 (a.off : Int), .slice Ap a.p.length cp] 90) H.out HP.out HGp.out HNW.out HSZ.out hs1 HFS.out HOLD.out HNEW.out HW1.out HOS.out hown2 ⟨hg2.os, hg2.tape, hg2.output, hg2.size, hg2.block⟩ hat2

end Go.Proofs.Ytiacpopgnmledaa
