/-
  CONTRACTS: the program's files: what is pending, noted and popped.
-/
import Derived.Test.YtiacpopgnmledaaVpPut
import Derived.Deep.RegionLaw
namespace Go.Proofs.Ytiacpopgnmledaa
open Go.RowKit
open Me Vf

theorem opinfo : (Try.prog.info? 73).map (fun i => (i.zero, i.size, i.bytes)) = some (some (.agg #[.int .i64 0, .pointer none, .int .i64 0, .slice none 0 0]), 4, 48) := by kernel_rfl
namespace Vp
def opC (kind : Int) (on at_ : Nat) (old : Value) : List Value := [.int .i64 kind, .pointer (some ⟨on, 0, none⟩), .int .i64 (at_ : Int), old]
theorem row_type {w : World} {base n : Nat} {e : TypeId} {size : Nat} {v : Value} {xs : List Value} (h : w.ownsRow base e size v n xs) {g : Nat} (hg : v.ownBlock = some g) : ∃ cur, w.heap[g]? = some (.cells cur e (0, 0)) := by
  rcases h.2 with ⟨rfl, _⟩ | ⟨g', cap, cur, rfl, _, hh, _⟩
  · cases hg
  · have : g' = g := by simpa [Value.ownBlock] using hg
    subst this
    exact ⟨cur, hh⟩
/-- What note leaves. -/
def Noted (w : World) (fs : Nat) (lr : Option Nat) (n : Nat) (ys : List Value) (room used : Int) (mv : Value) (e : Ending) (w' : World) : Prop :=
  e = .returned (.tuple #[]) ∧ ∃ lv' lr', w'.heap[fs]? = some (fsC lv' room used mv) ∧ w'.ownsRow 0 73 4 lv' n ys ∧ lv'.ownBlock = lr' ∧ Kp (fun b => b = fs ∨ lr = some b) w w' ∧ (lr' = lr ∨ ∃ b, lr' = some b ∧ w.heap.size ≤ b)
theorem note_end {w W w2 : World} {fs n : Nat} {lr : Option Nat} {zs : List Value} {room used : Int} {lv mv v2 : Value} (hb : Below w.heap.size w W) (hfs : w.heap[fs]? = some (fsC lv room used mv))
    (hlr : lv.ownBlock = lr) (hne : lr ≠ some fs) (hown : w2.ownsRow 0 73 4 v2 n zs) (hg : W.grownBy w2 lv.ownBlock) (hat : v2.ownBlock = lv.ownBlock ∨ v2.ownBlock = some W.heap.size) :
    Noted w fs lr n zs room used mv (.returned (.tuple #[])) (w2.setCell ⟨fs, 0, none⟩ v2) := by
  have fsl : fs < w.heap.size := (Array.getElem?_eq_some_iff.1 hfs).1
  have hf2 : w2.heap[fs]? = some (fsC lv room used mv) := (hg.block fs (Nat.lt_of_lt_of_le fsl hb.size) (fun e => hne (by rw [← hlr]; exact e.symm))).trans ((hb.block fs fsl).trans hfs)
  refine ⟨rfl, v2, v2.ownBlock, ?_, ?_, rfl, ?_, ?_⟩
  · rw [heap_cell hf2]; rfl
  · refine owns_keep hown (fun g hg' => Below.heap_setCell w2 ⟨fs, 0, none⟩ _ g ?_)
    show g ≠ fs
    rintro rfl
    rcases hat with e | e
    · exact hne (by rw [← hlr, ← e]; exact hg')
    · rw [hg'] at e
      have := Option.some.inj e
      have := hb.size
      omega
  · refine ((Kp.of_below hb).grown hg (fun g hg' => ?_)).setCell ⟨fs, 0, none⟩ (.inr (.inl rfl)) _
    exact .inr (.inr (by rw [← hlr]; exact hg'))
  · rcases hat with e | e
    · exact .inl (by rw [e, hlr])
    · exact .inr ⟨_, e, hb.size⟩
theorem Noted.drew {w w' : World} {fs : Nat} {lr : Option Nat} {n : Nat} {ys : List Value} {room used : Int} {mv : Value} {e : Ending} (h : Noted w fs lr n ys room used mv e w') : Noted w fs lr n ys room used mv e w'.drew := by
  obtain ⟨h0, lv', lr', h1, h2, h3, h4, h5⟩ := h
  exact ⟨h0, lv', lr', h1, h2, h3, h4.drew, h5⟩
end Vp

set_option maxHeartbeats 1000000 in
theorem note_any {w : World} {fs n on at_ : Nat} {lv mv old : Value} {room used kind : Int} {ys : List Value} (hfs : w.heap[fs]? = some (Vp.fsC lv room used mv)) (hown : w.ownsRow 0 73 4 lv n ys) (hn : n ≤ 1048576)
    (hold : ∃ A m c, old = .slice A m c) :
    Calls Try.prog 45 #[.pointer (some ⟨fs, 0, none⟩), .agg #[.int .i64 kind, .pointer (some ⟨on, 0, none⟩), .int .i64 (at_ : Int), old]] w (Vp.Noted w fs lv.ownBlock (n + 1) (ys ++ Vp.opC kind on at_ old) room used mv) := by
  obtain ⟨i0, hi0, hz0, hz1, hz2⟩ := info_parts opinfo
  have HI := Lib.hid hi0
  have HZ := Lib.hid (And.intro hz0 (And.intro hz1 hz2))
  clear hi0 hz0 hz1 hz2
  obtain ⟨A, m, c, rfl⟩ := hold
  obtain ⟨c0, c1, c2, c3, cf, fsl⟩ := Vp.fs_cells hfs
  have cf0 := cf 0
  have HFS := Lib.hid hfs
  have hne : lv.ownBlock ≠ some fs := fun e => by
    obtain ⟨cur, hc⟩ := Vp.row_type hown e
    exact Vp.cells_ne hfs hc (by intro e; simp [Vp.fsC] at e) rfl
  have HNE := Lib.hid hne
  have HO : ∀ o o' : Obj, ((w.alloc o).alloc o').ownsRow 0 73 4 lv n ys := fun o o' => (hown.alloc o).alloc o'
  have HOW := Lib.hid (HO (.cells #[.int .i64 kind, .pointer (some ⟨on, 0, none⟩), .int .i64 (at_ : Int), .slice A m c] 73) (.cells #[.int .i64 kind, .pointer (some ⟨on, 0, none⟩), .int .i64 (at_ : Int), .slice A m c] 73))
  have HBW : Hid (Below w.heap.size w ((w.alloc (.cells #[.int .i64 kind, .pointer (some ⟨on, 0, none⟩), .int .i64 (at_ : Int), .slice A m c] 73)).alloc (.cells #[.int .i64 kind, .pointer (some ⟨on, 0, none⟩), .int .i64 (at_ : Int), .slice A m c] 73))) := Lib.hid (((Below.refl _ _).alloc (Nat.le_refl _) _).alloc (by simp) _)
  have HRD := Lib.hid (Rd.fresh (w.alloc (.cells #[.int .i64 kind, .pointer (some ⟨on, 0, none⟩), .int .i64 (at_ : Int), .slice A m c] 73)) [.int .i64 kind, .pointer (some ⟨on, 0, none⟩), .int .i64 (at_ : Int), .slice A m c] 73 (w.heap.size + 1) (by simp))
  clear hfs hown hne HO cf
  go_enter Try.func45, Try.ntmps45
  go_wp2_with fail
  go_region_law (refine step_app _ rfl (.tmp 8) (.tmp 10) 48 rfl 0 73 i0 _ 4 48 Try.underlying48 HI.out HZ.out.1 HZ.out.2.1 HZ.out.2.2 rfl (by decide) lv n ys (by simp [Act.eval]) HOW.out (fun b => b = w.heap.size + 1) (some ⟨w.heap.size + 1, 0, none⟩) 1 1 [.int .i64 kind, .pointer (some ⟨on, 0, none⟩), .int .i64 (at_ : Int), .slice A m c] (by simp [Act.eval]) (by simp) HRD.out (by intro u hu; simp at hu; rcases hu with rfl | rfl | rfl | rfl <;> rfl) (by unfold maxLen; omega) (by omega) (Nat.zero_le _) ?_; intro v2 w2 hown2 hg2 hat2 hnil2; obtain ⟨g2, cap2, rfl⟩ := owns_form hown2 (by omega); have d0 : w2.cell? ⟨fs, 0, none⟩ = some lv := (hg2.cell_far ⟨fs, 0, none⟩ (by show fs < _; simp; omega) (fun e => HNE.out e.symm)).trans ((HBW.out.cell (p := ⟨fs, 0, none⟩) fsl).trans c0); have df : w2.frozen? ⟨fs, 0, none⟩ = false := (hg2.frozen_far ⟨fs, 0, none⟩ (by show fs < _; simp; omega) (fun e => HNE.out e.symm)).trans ((HBW.out.frozen (p := ⟨fs, 0, none⟩) fsl).trans cf0); have HO2 := Lib.hid hown2; have HG2 := Lib.hid hg2; have HA2 := Lib.hid hat2; clear hown2 hg2 hat2 hnil2)
  all_goals
    go_wp2_with fail
    ((try simp only [Exit.inBlock, Exit.then]); first | (refine bodyPost_ret (results_none rfl _ _ _) rfl ?_) | (refine bodyPost_end (results_none rfl _ _ _) rfl ?_))
    exact Vp.note_end HBW.out HFS.out rfl HNE.out HO2.out ⟨HG2.out.os, HG2.out.tape, HG2.out.output, HG2.out.size, HG2.out.block⟩ HA2.out
end Go.Proofs.Ytiacpopgnmledaa
