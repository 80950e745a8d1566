/- VpMake VpWrite WpPO WqOp WqIn WqCh WqRg -/
import Derived.Test.YtbakngbmfgnmcaaGreatDoorJ1
import Derived.Test.YtbakngbmfgnmcaaGreatDoorJ15
import Derived.Deep.RegionWith
import Derived.BigQuiet
import Derived.Deep.QuietTactic
import Derived.Test.YtbakngbmfgnmcaaGreatDoorJ2
import Derived.Test.YtbakngbmfgnmcaaGreatDoorJ14
import Derived.Test.YtbakngbmfgnmcaaGreatDoorJ13
import Derived.Test.YtbakngbmfgnmcaaGreatDoorJ12
import Derived.RangeFuncNested
import Derived.RangeFuncBound
import Derived.RangeFuncCalls
import Derived.RangeFuncLeaves
import Derived.RangeFuncBox
import Derived.Shelf.Abstract
import Derived.Shelf.RegionOpen
import Derived.OwnWalkIn
import Derived.TacticsInMore
import Derived.LoopNIn
import Derived.LoopIn
import Derived.Maps.AppendAt
import Derived.Test.YtbakngbmfgnmcaaGreatDoorJ11
import Derived.Test.YtbakngbmfgnmcaaGreatDoorJ4
import Derived.Test.YtbakngbmfgnmcaaGreatDoorJ6
import Derived.Test.YtbakngbmfgnmcaaGreatDoorJ5
namespace Go.Proofs.YtbakngbmfgnmcaaGreatDoor
set_option maxRecDepth 100000
set_option maxHeartbeats 8000000
section
open Go.RowKit
open Me Vf
theorem create_note {w W2 w3 : World} {M : Nat → Prop} {fs N : Nat} {S : Vf.Sv} {mb lr : Option Nat} {I : Nat → Prop} {db : Nat → Nat} {G : Nat → Prop} {c : Vp.Co} {j : List Vp.Op} {lv mv : Value} {ys : List Value} {k id d : Nat} {n b : List UInt8} {e : Ending}
 (h1 : Vp.Pt w fs mb lr I db G S.room c j N lv mv ys) (h2 : Vp.Hist S.was c j S.l.reverse) (h3 : S.now = Vf.rep S.was S.l) (h4 : ∀ b, Vp.Own fs mb lr I db G b → M b) (hk : k + j.length ≤ N) (hN : N ≤ 1048575) (hn : c.map n = none) (hn1 : n.length ≤ 255) (hb1 : b.length ≤ 1073741824)
 (hB : Below w.heap.size w W2) (hid : w.heap.size ≤ id) (hd : w.heap.size ≤ d) (hf : W2.heap[id]? = some (Vp.flC n d b.length)) (hbb : W2.heap[d]? = some (Vp.btC b))
 (hp : Vp.Putten W2 fs mb (k + 1) lv S.room (c.used + b.length) (Vp.setM c.map n (some id)) e w3) :
 Calls Tryz.prog 51 #[.pointer (some ⟨fs, 0, none⟩), .agg #[.int .i64 1, .pointer (some ⟨id, 0, none⟩), .int .i64 0, .slice none 0 0]] w3 fun e w' => e = .returned (.tuple #[]) ∧ Vp.Left w M fs (N + 2) (S.act ⟨1, n, 0, b⟩) w' := by
 have hnI : ¬ I id := fun h => by have := h1.lt (.inr (.inr (.inr (.inl h)))); omega
 have hl := h1.laid (f := ⟨n, b⟩) hB hid hd hf hbb hn1 hb1
 have h0 : (c.lay id ⟨n, b⟩).sto id = ⟨n, b⟩ := Vp.setS_same _ _ _
 have hput : (c.lay id ⟨n, b⟩).put id = ⟨Vp.setM c.map n (some id), (c.lay id ⟨n, b⟩).sto, c.used + (b.length : Int)⟩ := by unfold Vp.Co.put; rw [h0]; rfl
 obtain ⟨mb', mv', p1, p2, p3⟩ := hl.putten (k' := k + 1) (N' := N + 1) hp (by omega) ⟨fun m i e => by
  have e : Vp.setM c.map n (some id) m = some i := e
  unfold Vp.setM at e
  split at e
  ·obtain rfl := Option.some.inj e
   exact .inr rfl
  ·exact .inl (h1.live.1 m i e), fun o ho => .inl (h1.live.2 o ho)⟩
 have hs : ∃ b, mb' = some b := by
  obtain ⟨kk, _, hm⟩ := p1.map
  exact hm.some_ (n := n) (id := id) (Vp.setM_same _ _ _)
 have hh := h2.create h1.live (n := n) (b := b) hn hnI
 rw [hput] at hh
 refine note_last (o := ⟨1, id, 0, []⟩) (a := ⟨1, n, 0, b⟩) p1 (by omega) hh h3 (.inr rfl) hs (nil_bs _ _) ((Kp.of_below hB).trans p2 (fun i hi e => ?_)) (Vp.own_map (n := W2.heap.size) (fun b' hb' => ?_) p3 (fun b' hb' => .inr (Nat.le_trans hB.size hb')))
 ·rcases e with e | e
  ·exact h4 i (.inl e)
  ·exact h4 i (.inr (.inl e))
 ·rcases hb' with hb | hb | hb | hb | ⟨i, hi, hb⟩ | hb
  ·exact .inl (h4 b' (.inl hb))
  ·exact .inl (h4 b' (.inr (.inl hb)))
  ·exact .inl (h4 b' (.inr (.inr (.inl hb))))
  ·rcases hb with hb | rfl
   ·exact .inl (h4 b' (.inr (.inr (.inr (.inl hb)))))
   ·exact .inr hid
  ·have hb : (if i = id then d else db i) = b' := hb
   by_cases e : i = id
   ·rw [if_pos e] at hb
    exact .inr (by omega)
   ·rw [if_neg e] at hb
    rcases hi with hi | hi
    ·exact .inl (h4 b' (.inr (.inr (.inr (.inr (.inl ⟨i, hi, hb⟩))))))
    ·exact absurd hi e
  ·exact .inl (h4 b' (.inr (.inr (.inr (.inr (.inr hb))))))
theorem pcreate_any {w : World} {M Gq : Nat → Prop} {fs N : Nat} {S : Vf.Sv} (h : Vp.Pg w M fs N S) (n : List UInt8) (ps : List (List UInt8)) (pv : Value) (hp : Vf.Ps w Gq pv ps)
 (hN : N ≤ 1048575) (hu : Vf.used S.now ≤ 4294967296) (hr0 : 0 ≤ S.room) (hr1 : S.room ≤ 1073741824) (hpl : ps.length ≤ 1048576) (hpt : ps.flatten.length ≤ 1073741824) (hGq : ∀ b, Gq b → b < w.heap.size) :
 Calls Tryz.prog 19 #[.pointer (some ⟨fs, 0, none⟩), .string ⟨n.toArray⟩, pv] w (Vp.PNext w M fs (N + 2) (Vf.create S n ps.flatten).1 (.int .i64 (Vf.create S n ps.flatten).2)) := by
 have hg := h
 obtain ⟨mb, lr, I, db, G, c, j, lv, mv, ys, h1, h2, h3, h4⟩ := h
 have hv := Vp.view_now h2 h3
 obtain ⟨k, hk, hm⟩ := h1.map
 have HI := Lib.hid (isName_any n w)
 have HL := Lib.hid (length_any ps pv Gq w hp hpl (by omega))
 obtain ⟨c0, c1, c2, c3, cf, fsl⟩ := Vp.fs_cells h1.heap
 have u0 : 0 ≤ c.used := by rw [hv.used]; omega
 have u1 : c.used ≤ 4294967296 := by rw [hv.used]; omega
 have HG := Lib.hid (hg.more (N' := N + 2) (by omega))
 have hpf : ∃ A m c, pv = .slice A m c := by
  obtain ⟨A, c, xs, e, _⟩ := hp
  exact ⟨A, _, c, e⟩
 cases hi : Vf.is n
 ·rw [hi] at HI
  have HR := Lib.hid (Vp.create_bad (S := S) (b := ps.flatten) hi)
  obtain ⟨A, m, cc, rfl⟩ := hpf
  clear h1 h2 h3 h4 hv hm hi hg hp cf
  generalize ps.flatten = b at *
  go_enter Tryz.func19, Tryz.ntmps19
  go_wp2_with (go_at_call 46; ((with_reducible refine (HI.out).mono ?_); rintro e w' ⟨rfl, rfl⟩))
  go_ret
  exact Vp.PNext.same HG.out HR.out
 ·rw [hi] at HI
  have hnl : n.length ≤ 255 := by unfold Vf.is at hi; simp at hi; omega
  have hlook := hm.look (n := n) (by omega)
  cases hn : c.map n with
  | some id =>
    have HR := Lib.hid (Vp.create_has (b := ps.flatten) hv hi hn)
    rw [hn] at hlook
    unfold Vp.ptr at hlook
    obtain ⟨A, m, cc, rfl⟩ := hpf
    clear h1 h2 h3 h4 hv hm hi hg hp cf hn
    generalize ps.flatten = b at *
    go_enter Tryz.func19, Tryz.ntmps19
    go_wp2_with (go_at_call 46; ((with_reducible refine (HI.out).mono ?_); rintro e w' ⟨rfl, rfl⟩))
    go_ret
    exact Vp.PNext.same HG.out HR.out
  | none =>
    rw [hn] at hlook
    unfold Vp.ptr at hlook
    have hw1 : IntKind.i64.wrap (S.room - c.used) = S.room - c.used := IntWalk.i64_in _ (by omega)
    by_cases hb : S.room - c.used < (ps.flatten.length : Int)
    ·have HR := Lib.hid (Vp.create_full hv hi hn hb)
     obtain ⟨A, m, cc, rfl⟩ := hpf
     clear h1 h2 h3 h4 hv hm hi hg hp cf hn
     have hpt' : (ps.flatten.length : Int) ≤ 1073741824 := by omega
     generalize hbb : ps.flatten = b at *
     clear hbb
     go_enter Tryz.func19, Tryz.ntmps19
     go_wp2_with (first | (go_at_call 46; ((with_reducible refine (HI.out).mono ?_); rintro e w' ⟨rfl, rfl⟩)) | (go_at_call 47; ((with_reducible refine (HL.out).mono ?_); rintro e w' ⟨rfl, rfl⟩)))
     go_quiet (fail)
     all_goals
      go_wp2_with fail
      go_ret
      exact ⟨by rw [HR.out]; rfl, M, by rw [HR.out]; exact HG.out.below ⟨rfl, rfl, rfl, Nat.le_refl _, fun _ _ => rfl⟩, (Kp.refl _ _).drewN _, fun b hb => .inl hb⟩
    ·have HR := Lib.hid (Vp.create_ok hv hi hn hb)
     have HC : Hid (∀ W : World, Calls Tryz.prog 48 #[.string ⟨n.toArray⟩] W fun e w' => e = .returned (.string ⟨n.toArray⟩) ∧ Below W.heap.size W w') := Lib.hid (fun W => strClone_any n W (by omega))
     have hmk := make_bytes ps.flatten.length (by omega)
     have hpt' : (ps.flatten.length : Int) ≤ 1073741824 := by omega
     obtain ⟨A, m, cc, rfl⟩ := hpf
     have HFILL : Hid (∀ (W : World) (d : Nat), Below w.heap.size w W → w.heap.size ≤ d → W.heap[d]? = some (Vp.btC (noughts ps.flatten.length)) → Calls Tryz.prog 49 #[.slice (some ⟨d, 0, none⟩) ps.flatten.length ps.flatten.length, .slice A m cc] W (Vp.Filled W d ps.flatten)) := Lib.hid fun W d hB hd hh => by
      have := fill_any ps (.slice A m cc) Gq W d 0 ps.flatten.length ps.flatten.length (noughts ps.flatten.length) hh (hp.keep hB.size (fun i hi _ => hB.block i hi)) (fun i hi e => by have := hGq i hi; omega) rfl (by rw [noughts_len]; omega) (Nat.le_refl _) (by omega) hpl
      rw [upd_all (by rw [noughts_len])] at this
      exact this
     have HPUT : Hid (∀ (W : World) (id d : Nat), Below w.heap.size w W → W.heap[id]? = some (Vp.flC n d ps.flatten.length) → Calls Tryz.prog 50 #[.pointer (some ⟨fs, 0, none⟩), .pointer (some ⟨id, 0, none⟩)] W (Vp.Putten W fs mb (k + 1) lv S.room (c.used + ps.flatten.length) (Vp.setM c.map n (some id)))) := Lib.hid fun W id d hB hh => by
      have hW := h1.below hB
      exact put_any hW.heap (hm.keep (fun b hb => hB.block b (hm.lt hb).1)) hh (by omega) (by omega) (by omega) (by omega) (by omega)
     have HNOTE : Hid (∀ (W2 w3 : World) (id d : Nat), Below w.heap.size w W2 → w.heap.size ≤ id → w.heap.size ≤ d → W2.heap[id]? = some (Vp.flC n d ps.flatten.length) → W2.heap[d]? = some (Vp.btC ps.flatten) → Vp.Putten W2 fs mb (k + 1) lv S.room (c.used + ps.flatten.length) (Vp.setM c.map n (some id)) (.returned (.tuple #[])) w3 →
      Calls Tryz.prog 51 #[.pointer (some ⟨fs, 0, none⟩), .agg #[.int .i64 1, .pointer (some ⟨id, 0, none⟩), .int .i64 0, .slice none 0 0]] w3 fun e w' => e = .returned (.tuple #[]) ∧ Vp.Left w M fs (N + 2) (S.act ⟨1, n, 0, ps.flatten⟩) w') := Lib.hid fun W2 w3 id d hB h5 h6 h7 h8 h9 =>
      create_note h1 h2 h3 h4 hk hN hn hnl hpt hB h5 h6 h7 h8 h9
     clear h2 h3 h4 hv hm hi hg hp cf hn h1 hGq
     generalize ps.flatten = b at *
     go_enter Tryz.func19, Tryz.ntmps19
     go_wp2_with (first | (go_at_call 46; ((with_reducible refine (HI.out).mono ?_); rintro e w' ⟨rfl, rfl⟩)) | (go_at_call 47; ((with_reducible refine (HL.out).mono ?_); rintro e w' ⟨rfl, rfl⟩)))
     go_region
     all_goals
      go_wp2_with fail
      go_region_with (go_at_call 48; (with_reducible refine (HC.out _).mono ?_); rintro e w1 ⟨rfl, hb1⟩)
      all_goals
       first
        | (obtain ⟨W, hW⟩ : ∃ W, W = (w1.alloc (.cells (by8 (noughts b.length)).toArray 5)).alloc (.cells #[.string ⟨n.toArray⟩, .slice (some ⟨w1.heap.size, 0, none⟩) b.length b.length] 112) := ⟨_, rfl⟩
           rw [← hW]
           obtain ⟨id, hid⟩ : ∃ id, id = w1.heap.size + 1 := ⟨_, rfl⟩
           obtain ⟨d, hd⟩ : ∃ d, d = w1.heap.size := ⟨_, rfl⟩
           have hb2 : Below w.heap.size w w1 := ⟨hb1.os, hb1.tape, hb1.output, hb1.size, hb1.block⟩
           have hsz := hb2.size
           have HB : Below w.heap.size w W := hW ▸ ((hb2.alloc hsz _).alloc (by simp; omega) _)
           have HF : W.heap[id]? = some (Vp.flC n d b.length) := by
            have := heap_alloc_new (w1.alloc (.cells (by8 (noughts b.length)).toArray 5)) (.cells #[.string ⟨n.toArray⟩, .slice (some ⟨w1.heap.size, 0, none⟩) b.length b.length] 112)
            have hs9 : (w1.alloc (.cells (by8 (noughts b.length)).toArray 5)).heap.size = w1.heap.size + 1 := by simp
            rw [← hW, hs9] at this
            rw [hid, hd]
            exact this
           have HD : W.heap[d]? = some (Vp.btC (noughts b.length)) := by
            rw [hW, hd, Below.heap_alloc _ _ w1.heap.size (by simp)]
            exact heap_alloc_new w1 _
           have g1 : w.heap.size ≤ id := by omega
           have g2 : w.heap.size ≤ d := by omega
           have g3 : id ≠ d := by omega
           rw [← hid, ← hd]
           clear hW hid hd hb1 hb2 hsz)
        | (obtain ⟨W, hW⟩ : ∃ W, W = w1.alloc (.cells #[.string ⟨n.toArray⟩, .slice (some ⟨w.heap.size, 0, none⟩) b.length b.length] 112) := ⟨_, rfl⟩
           rw [← hW]
           obtain ⟨id, hid⟩ : ∃ id, id = w1.heap.size := ⟨_, rfl⟩
           obtain ⟨d, hd⟩ : ∃ d, d = w.heap.size := ⟨_, rfl⟩
           have hb2 : Below (w.alloc (.cells (by8 (noughts b.length)).toArray 5)).heap.size (w.alloc (.cells (by8 (noughts b.length)).toArray 5)) w1 := ⟨hb1.os, hb1.tape, hb1.output, hb1.size, hb1.block⟩
           have hs0 : (w.alloc (.cells (by8 (noughts b.length)).toArray 5)).heap.size = w.heap.size + 1 := by simp
           have hsz := hb2.size
           rw [hs0] at hsz
           have hb3 : Below w.heap.size w w1 := ((Below.refl _ _).alloc (Nat.le_refl _) _).trans (hb2.mono (by omega))
           have HB : Below w.heap.size w W := hW ▸ (hb3.alloc (by omega) _)
           have HF : W.heap[id]? = some (Vp.flC n d b.length) := by
            rw [hW, hid, hd]
            exact heap_alloc_new w1 _
           have HD : W.heap[d]? = some (Vp.btC (noughts b.length)) := by
            rw [hW, hd, Below.heap_alloc _ _ w.heap.size (by omega)]
            exact (hb2.block w.heap.size (by omega)).trans (heap_alloc_new w _)
           have g1 : w.heap.size ≤ id := by omega
           have g2 : w.heap.size ≤ d := by omega
           have g3 : id ≠ d := by omega
           rw [← hid, ← hd]
           clear hW hid hd hb1 hb2 hb3 hsz hs0)
       obtain ⟨e0, e1, idl⟩ := Vp.fl_cells HF
       have HF1 := Lib.hid (HFILL.out W d HB g2 HD)
       have HF' := Lib.hid HF
       have g1' := Lib.hid g1
       have g2' := Lib.hid g2
       have g3' := Lib.hid g3
       have HB' := Lib.hid HB
       clear HF HD g1 g2 g3 HB HFILL c0 c1 c2 c3 hlook
       go_wp2_with (first | (go_at_call 49; (with_reducible refine (HF1.out).mono ?_); rintro e W2 ⟨rfl, hd2, hk2, hs2⟩; have HB2 : Hid (Below w.heap.size w W2) := Lib.hid (((Kp.of_below (O := fun i => i = d) HB'.out).trans hk2 (fun i hi e => e)).below (Nat.le_refl _) (fun i hi e => by have := g2'.out; omega)); have HFL2 : Hid (W2.heap[id]? = some (Vp.flC n d b.length)) := Lib.hid ((hk2.block id idl g3'.out).trans HF'.out); have HD2 := Lib.hid hd2; have HX := Lib.hid (HPUT.out W2 id d HB2.out HFL2.out); clear hd2 hk2 hs2) | (go_at_call 50; (with_reducible refine (HX.out).mono ?_); rintro e w3 hp3; obtain rfl := hp3.1; have HY := Lib.hid (HNOTE.out W2 w3 id d HB2.out g1'.out g2'.out HFL2.out HD2.out hp3); clear hp3) | (go_at_call 51; (with_reducible refine (HY.out).mono ?_); rintro e w4 ⟨rfl, hl⟩; have HLL := Lib.hid hl; clear hl))
       go_ret
       exact Vp.Left.next HLL.out HR.out
end
section
open Go.RowKit
open Me Vf
theorem pwrite_any {w : World} {M Gq : Nat → Prop} {fs N : Nat} {S : Vf.Sv} (h : Vp.Pg w M fs N S) (n : List UInt8) (t : Int) (ps : List (List UInt8)) (pv : Value) (hp : Vf.Ps w Gq pv ps) (hti : t ≤ 9223372036854775807)
 (hN : N ≤ 1048575) (hpl : ps.length ≤ 1048576) (hpt : ps.flatten.length ≤ 1073741824) (hGq : ∀ b, Gq b → b < w.heap.size ∧ ¬ M b) :
 Calls Tryz.prog 63 #[.pointer (some ⟨fs, 0, none⟩), .string ⟨n.toArray⟩, .int .i64 t, pv] w (Vp.PNext w M fs (N + 2) (Vf.write S n t ps.flatten).1 (.int .i64 (Vf.write S n t ps.flatten).2)) := by
 have hg := h
 obtain ⟨mb, lr, I, db, G, c, j, lv, mv, ys, h1, h2, h3, h4⟩ := h
 have hv := Vp.view_now h2 h3
 obtain ⟨k, hk, hm⟩ := h1.map
 have HL := Lib.hid (length_any ps pv Gq w hp hpl (by omega))
 have HG := Lib.hid (hg.more (N' := N + 2) (by omega))
 have hpf : ∃ A m c, pv = .slice A m c := by
  obtain ⟨A, c, xs, e, _⟩ := hp
  exact ⟨A, _, c, e⟩
 obtain ⟨A, m, cc, rfl⟩ := hpf
 cases hi : Vf.is n
 ·have HF := Lib.hid (find_bad (w := w) fs n hi)
  have HR := Lib.hid (Vp.write_bad (S := S) (t := t) (b := ps.flatten) hi)
  clear h1 h2 h3 h4 hv hm hi hg hp hGq
  generalize ps.flatten = b at *
  go_enter Tryz.func63, Tryz.ntmps63
  go_wp2_with (go_at_call 82; ((with_reducible refine (HF.out).mono ?_); rintro e w' ⟨rfl, rfl⟩))
  go_ret
  exact Vp.PNext.same HG.out HR.out
 ·cases hn : c.map n with
  | none =>
    have HF := Lib.hid (find_none h1.heap hm n hi hn)
    have HR := Lib.hid (Vp.write_none (t := t) (b := ps.flatten) hv hi hn)
    clear h1 h2 h3 h4 hv hm hi hn hg hp hGq
    generalize ps.flatten = b at *
    go_enter Tryz.func63, Tryz.ntmps63
    go_wp2_with (go_at_call 82; ((with_reducible refine (HF.out).mono ?_); rintro e w' ⟨rfl, rfl⟩))
    go_ret
    exact Vp.PNext.same HG.out HR.out
  | some id =>
    have HF := Lib.hid (find_some h1.heap hm n hi hn)
    have hid := h1.live.1 n id hn
    obtain ⟨f1, f2, f3, f4⟩ := h1.file id hid
    obtain ⟨e0, e1, hidl⟩ := Vp.fl_cells f1
    have hl : ((c.sto id).b.length : Int) ≤ 1073741824 := by omega
    have hpt' : (ps.flatten.length : Int) ≤ 1073741824 := by omega
    by_cases ht : t < 0
    ·have HR := Lib.hid (Vp.write_off (t := t) (b := ps.flatten) hv hi hn (.inl ht))
     clear h1 h2 h3 h4 hv hm hi hn hg hp hGq f1 f2 f3 f4
     generalize hbb : ps.flatten = b at *
     clear hbb
     generalize (c.sto id).b = bb at *
     go_enter Tryz.func63, Tryz.ntmps63
     go_wp2_with (first | (go_at_call 82; ((with_reducible refine (HF.out).mono ?_); rintro e w' ⟨rfl, rfl⟩)) | (go_at_call 47; ((with_reducible refine (HL.out).mono ?_); rintro e w' ⟨rfl, rfl⟩)))
     go_ret
     exact Vp.PNext.same HG.out HR.out
    ·obtain ⟨t, rfl⟩ : ∃ t' : Nat, t = (t' : Int) := ⟨t.toNat, by omega⟩
     clear ht
     have hwr : IntKind.i64.wrap (((c.sto id).b.length : Int) - (t : Int)) = ((c.sto id).b.length : Int) - (t : Int) := IntWalk.i64_in _ (by omega)
     by_cases hb : ((c.sto id).b.length : Int) - (t : Int) < (ps.flatten.length : Int)
     ·have HR := Lib.hid (Vp.write_off (t := (t : Int)) (b := ps.flatten) hv hi hn (.inr hb))
      clear h1 h2 h3 h4 hv hm hi hn hg hp hGq f1 f2 f3 f4
      generalize hbb : ps.flatten = b at *
      clear hbb
      generalize (c.sto id).b = bb at *
      go_enter Tryz.func63, Tryz.ntmps63
      go_wp2_with (first | (go_at_call 82; ((with_reducible refine (HF.out).mono ?_); rintro e w' ⟨rfl, rfl⟩)) | (go_at_call 47; ((with_reducible refine (HL.out).mono ?_); rintro e w' ⟨rfl, rfl⟩)))
      go_ret
      exact Vp.PNext.same HG.out HR.out
     ·have hfit : t + ps.flatten.length ≤ (c.sto id).b.length := by omega
      have HR := Lib.hid (Vp.write_ok (b := ps.flatten) hv hi hn hfit)
      have hw2 : IntKind.i64.wrap ((t : Int) + (ps.flatten.length : Int)) = ((t + ps.flatten.length : Nat) : Int) := by rw [IntWalk.i64_in _ (by omega)]; omega
      obtain ⟨o, ho⟩ : ∃ o, o = if (c.sto id).b.length = t then 0 else t := ⟨_, rfl⟩
      obtain ⟨l, hll⟩ : ∃ l, l = ((c.sto id).b.drop t).take ps.flatten.length := ⟨_, rfl⟩
      have hlen : l.length = ps.flatten.length := by rw [hll]; exact Vp.take_drop_len hfit
      have hou : upd (c.sto id).b o ps.flatten = upd (c.sto id).b t ps.flatten := by
       rw [ho]
       split
       ·have : ps.flatten = [] := List.eq_nil_of_length_eq_zero (by omega)
        rw [this, Vp.upd_nil, Vp.upd_nil]
       ·rfl
      have hof : o + ps.flatten.length ≤ (c.sto id).b.length := by rw [ho]; split <;> omega
      have hol : l = ((c.sto id).b.drop o).take ps.flatten.length := by
       rw [hll, ho]
       split
       ·have : ps.flatten.length = 0 := by omega
        rw [this, List.take_zero, List.take_zero]
       ·rfl
      have HCL := Lib.hid (fun (W : World) (hh : W.heap[db id]? = some (Vp.btC (c.sto id).b)) => slcClone_any l (db id) o ((c.sto id).b.length - t) (fun b => b = db id) W (by rw [hol]; exact Rd.block (G := fun b => b = db id) hh rfl o _) (by rw [hlen]; omega))
      have HCL2 : Hid (∀ W : World, W.heap[db id]? = some (Vp.btC (c.sto id).b) → Calls Tryz.prog 96 #[.slice (some ⟨db id, o, none⟩) ps.flatten.length ((c.sto id).b.length - t)] W (Vf.Made W l)) := Lib.hid fun W hh => by
       have := HCL.out W hh
       rw [hlen] at this
       exact this
      have HB2 := Lib.hid f2
      have HNOTE : Hid (∀ (W : World) (v : Value), Below w.heap.size w W → Bs W (fun b => w.heap.size ≤ b) v l → Calls Tryz.prog 51 #[.pointer (some ⟨fs, 0, none⟩), .agg #[.int .i64 2, .pointer (some ⟨id, 0, none⟩), .int .i64 (t : Int), v]] W fun e w' => e = .returned (.tuple #[]) ∧
       ∃ lr' G' lv' ys', Vp.Pt w' fs mb lr' I db G' S.room c (⟨2, id, t, l⟩ :: j) (N + 1) lv' mv ys' ∧ Kp M w w' ∧ (∀ b, Vp.Own fs mb lr' I db G' b → M b ∨ w.heap.size ≤ b)) := Lib.hid fun W v hB hbs => by
       have hW := h1.below hB
       have hof' : ∃ A m c, v = .slice A m c := by
        obtain ⟨A, c, e, _⟩ := hbs
        exact ⟨A, _, c, e⟩
       refine (note_any (n := j.length) (ys := ys) (on := id) (at_ := t) (kind := 2) (old := v) hW.heap hW.own (by omega) hof').mono ?_
       intro e w' hp2
       obtain rfl := hp2.1
       rw [hW.row] at hp2
       obtain ⟨lr', lv', ys', p1, p2, p3⟩ := hW.noted (o := ⟨2, id, t, l⟩) (G' := fun b => G b ∨ (w.heap.size ≤ b ∧ b < W.heap.size)) hp2 hid (hm.some_ hn) (hbs.mono (fun b hb hg => .inr ⟨hg, hb⟩)) (fun b hb => .inl hb) (fun b hb => by
        rcases hb with hb | ⟨hb, hb2⟩
        ·exact hW.g b hb
        ·refine ⟨hb2, fun e => ?_, fun e => ?_, fun e => ?_, fun e => ?_, fun i hi e => ?_⟩
         ·have := h1.lt (.inl e); omega
         ·have := h1.lt (.inr (.inl e)); omega
         ·have := h1.lt (.inr (.inr (.inl e))); omega
         ·have := h1.lt (.inr (.inr (.inr (.inl e)))); omega
         ·have := h1.lt (.inr (.inr (.inr (.inr (.inl ⟨i, hi, e⟩))))); omega)
       refine ⟨rfl, lr', _, lv', ys', p1, (Kp.of_below hB).trans p2 (fun i hi e => ?_), fun b hb => ?_⟩
       ·rcases e with e | e
        ·exact h4 i (.inl e)
        ·exact h4 i (.inr (.inr (.inl e)))
       ·rcases hb with hb | hb | hb | hb | hb | hb | hb
        ·exact .inl (h4 b (.inl hb))
        ·exact .inl (h4 b (.inr (.inl hb)))
        ·rcases p3 with p3 | ⟨b', e, p3⟩
         ·exact .inl (h4 b (.inr (.inr (.inl (p3.symm.trans hb)))))
         ·rw [hb] at e
          obtain rfl := Option.some.inj e
          exact .inr (Nat.le_trans hB.size p3)
        ·exact .inl (h4 b (.inr (.inr (.inr (.inl hb)))))
        ·exact .inl (h4 b (.inr (.inr (.inr (.inr (.inl hb))))))
        ·exact .inl (h4 b (.inr (.inr (.inr (.inr (.inr hb))))))
        ·exact .inr hb.1
      have HFILL : Hid (∀ (W : World), (∃ lr' G' lv' ys', Vp.Pt W fs mb lr' I db G' S.room c (⟨2, id, t, l⟩ :: j) (N + 1) lv' mv ys' ∧ Kp M w W ∧ (∀ b, Vp.Own fs mb lr' I db G' b → M b ∨ w.heap.size ≤ b)) →
       Calls Tryz.prog 49 #[.slice (some ⟨db id, o, none⟩) ps.flatten.length ((c.sto id).b.length - t), .slice A m cc] W fun e w' => e = .returned (.tuple #[]) ∧ Vp.Left w M fs (N + 1) (S.act ⟨2, n, t, ps.flatten⟩) w') := Lib.hid fun W hW => by
       obtain ⟨lr', G', lv', ys', q1, q2, q3⟩ := hW
       have hMd : M (db id) := h4 _ (.inr (.inr (.inr (.inr (.inl ⟨id, hid, rfl⟩)))))
       have := fill_any ps (.slice A m cc) Gq W (db id) o ps.flatten.length ((c.sto id).b.length - t) (c.sto id).b (q1.file id hid).2.1 (hp.keep q2.size (fun i hi hg => q2.block i hi (hGq i hg).2)) (fun i hi e => (hGq i hi).2 (e ▸ hMd)) rfl hof (by omega) (by omega) hpl
       refine this.mono ?_
       rintro e w' ⟨rfl, g1, g2, g3⟩
       rw [hou] at g1
       refine ⟨rfl, Vp.act_end (q1.filled hid hfit g1 g2) ?_ h3 (q2.trans g2 (fun i hi e => by subst e; exact hMd)) q3⟩
       have := h2.write hn hfit
       rw [← hll] at this
       exact this
      clear hpt
      have h0t : (0 : Int) ≤ (t : Int) := by omega
      have htl : (t : Int) ≤ ((c.sto id).b.length : Int) := by omega
      have htl' : t ≤ (c.sto id).b.length := by omega
      have htp : t + ps.flatten.length ≤ (c.sto id).b.length := hfit
      clear h1 h2 h3 h4 hv hm hi hn hg hp hGq f1 f2 f3 f4 HCL hlen hou hof hol hll hid
      generalize hbb : ps.flatten = b at *
      clear hbb
      generalize (c.sto id).b = bb at *
      generalize db id = d at *
      by_cases he : bb.length = t
      ·rw [if_pos he] at ho
       subst ho
       subst he
       have hz : b.length = 0 := by omega
       rw [hz, Nat.sub_self] at HCL2 HFILL
       clear hz
       have HC3 := Lib.hid (HCL2.out w.drew HB2.out)
       clear HCL2
       go_enter Tryz.func63, Tryz.ntmps63
       go_wp2_with (first | (go_at_call 82; ((with_reducible refine (HF.out).mono ?_); rintro e w' ⟨rfl, rfl⟩)) | (go_at_call 47; ((with_reducible refine (HL.out).mono ?_); rintro e w' ⟨rfl, rfl⟩)))
       go_region_with (first | (go_at_call 96; (with_reducible refine (HC3.out).mono ?_); rintro e w1 ⟨v1, rfl, hbs1, hb1⟩; have HN1 := Lib.hid (HNOTE.out w1 v1 ⟨hb1.os, hb1.tape, hb1.output, hb1.size, hb1.block⟩ hbs1); obtain ⟨A1, cc1, rfl, _⟩ := hbs1) | (go_at_call 51; (with_reducible refine (HN1.out).mono ?_); rintro e w2 ⟨rfl, hx⟩; have HF2 := Lib.hid (HFILL.out w2 hx); clear hx))
       all_goals
        go_wp2_with (go_at_call 49; (with_reducible refine (HF2.out).mono ?_); rintro e w3 ⟨rfl, hx⟩; have HLL := Lib.hid hx; clear hx)
        go_ret
        obtain ⟨M', q1, q2⟩ := HLL.out
        exact Vp.Left.next ⟨M', q1.more (by omega), q2⟩ HR.out
      ·rw [if_neg he] at ho
       subst ho
       have HC3 := Lib.hid (HCL2.out w.drew HB2.out)
       clear HCL2
       go_enter Tryz.func63, Tryz.ntmps63
       go_wp2_with (first | (go_at_call 82; ((with_reducible refine (HF.out).mono ?_); rintro e w' ⟨rfl, rfl⟩)) | (go_at_call 47; ((with_reducible refine (HL.out).mono ?_); rintro e w' ⟨rfl, rfl⟩)))
       go_region_with (first | (go_at_call 96; (with_reducible refine (HC3.out).mono ?_); rintro e w1 ⟨v1, rfl, hbs1, hb1⟩; have HN1 := Lib.hid (HNOTE.out w1 v1 ⟨hb1.os, hb1.tape, hb1.output, hb1.size, hb1.block⟩ hbs1); obtain ⟨A1, cc1, rfl, _⟩ := hbs1) | (go_at_call 51; (with_reducible refine (HN1.out).mono ?_); rintro e w2 ⟨rfl, hx⟩; have HF2 := Lib.hid (HFILL.out w2 hx); clear hx))
       all_goals
        go_wp2_with (go_at_call 49; (with_reducible refine (HF2.out).mono ?_); rintro e w3 ⟨rfl, hx⟩; have HLL := Lib.hid hx; clear hx)
        go_ret
        obtain ⟨M', q1, q2⟩ := HLL.out
        exact Vp.Left.next ⟨M', q1.more (by omega), q2⟩ HR.out
end
section
open Go.RowKit
open Me Vf
namespace Wp
def PO (w : World) (V : Nat → Prop) (fs c : Nat) (S : Sv) : Prop := ∃ M, Vp.Pg w M fs (2 * c) S ∧ Vf.Inv c S ∧ ∀ b, V b → b < w.heap.size ∧ ¬ M b
theorem PO.below {w w' : World} {V : Nat → Prop} {fs c : Nat} {S : Sv} (h : PO w V fs c S) (b : Below w.heap.size w w') : PO w' V fs c S := by
 obtain ⟨M, h1, h2, h3⟩ := h
 exact ⟨M, h1.below b, h2, fun i hi => ⟨Nat.lt_of_lt_of_le (h3 i hi).1 b.size, (h3 i hi).2⟩⟩
theorem PO.tight {w : World} {M : Nat → Prop} {fs N : Nat} {S : Sv} (h : Vp.Pg w M fs N S) : Vp.Pg w (fun b => M b ∧ b < w.heap.size) fs N S := by
 obtain ⟨mb, lr, I, db, G, c, j, lv, mv, ys, h1, h2, h3, h4⟩ := h
 exact ⟨mb, lr, I, db, G, c, j, lv, mv, ys, h1, h2, h3, fun b hb => ⟨h4 b hb, h1.lt hb⟩⟩
theorem PO.add {w w' : World} {V V' : Nat → Prop} {fs c : Nat} {S : Sv} (h : PO w V fs c S) (b : Below w.heap.size w w') (hV : ∀ i, V' i → V i ∨ (w.heap.size ≤ i ∧ i < w'.heap.size)) : PO w' V' fs c S := by
 obtain ⟨M, h1, h2, h3⟩ := h
 refine ⟨_, (PO.tight h1).below b, h2, fun i hi => ?_⟩
 rcases hV i hi with hv | ⟨ha, hb⟩
 ·exact ⟨Nat.lt_of_lt_of_le (h3 i hv).1 b.size, fun hm => (h3 i hv).2 hm.1⟩
 ·exact ⟨hb, fun hm => by have := hm.2; omega⟩
theorem PO.more {w : World} {V V' : Nat → Prop} {fs c c' : Nat} {S : Sv} (h : PO w V fs c S) (hc : c ≤ c') (hV : ∀ i, V' i → V i) : PO w V' fs c' S := by
 obtain ⟨M, h1, h2, h3⟩ := h
 exact ⟨M, h1.more (by omega), h2.mono hc, fun i hi => h3 i (hV i hi)⟩
theorem PO.of_next {w w' : World} {V M : Nat → Prop} {fs N c' : Nat} {S : Sv} {v : Value} {e : Ending} (h3 : ∀ b, V b → b < w.heap.size ∧ ¬ M b) (hN : N ≤ 2 * c') (hi : Vf.Inv c' S) (hn : Vp.PNext w M fs N S v e w') : e = .returned v ∧ PO w' V fs c' S ∧ Kp (fun b => ¬ V b) w w' := by
 obtain ⟨rfl, M', q1, q2, q3⟩ := hn
 refine ⟨rfl, ⟨M', q1.more hN, hi, fun b hb => ⟨Nat.lt_of_lt_of_le (h3 b hb).1 q2.size, fun hm => ?_⟩⟩, q2.mono fun b _ ho hv => (h3 b hv).2 ho⟩
 rcases q3 b hm with h | h
 ·exact (h3 b hb).2 h
 ·have := (h3 b hb).1; omega
end Wp
open Wp
section
variable {w : World} {V : Nat → Prop} {fs c : Nat} {S : Sv}
theorem posize (h : PO w V fs c S) (n : List UInt8) :
 Calls Tryz.prog 40 #[.pointer (some ⟨fs, 0, none⟩), .string ⟨n.toArray⟩] w fun e w' => e = .returned (.tuple #[.int .i64 (Vf.size S.now n).1, .int .i64 (Vf.size S.now n).2]) ∧ w = w' := by
 obtain ⟨M, h1, h2, h3⟩ := h
 exact psize_any h1 n
theorem poread (h : PO w V fs c S) (n : List UInt8) (t m : Int) (ht : t ≤ 9223372036854775807) :
 Calls Tryz.prog 41 #[.pointer (some ⟨fs, 0, none⟩), .string ⟨n.toArray⟩, .int .i64 t, .int .i64 m] w (Vf.Handed w (Vf.read S.now n t m)) := by
 obtain ⟨M, h1, h2, h3⟩ := h
 exact pread_any h1 n t m ht
theorem powrite (h : PO w V fs c S) (hc : c ≤ 500000) (n : List UInt8) (t : Int) (ht : t ≤ 9223372036854775807) (ps : List (List UInt8)) (pv : Value) (hp : Vf.Ps w V pv ps) (hpl : ps.length ≤ 1048576) (hpt : ps.flatten.length ≤ 1048576) :
 Calls Tryz.prog 63 #[.pointer (some ⟨fs, 0, none⟩), .string ⟨n.toArray⟩, .int .i64 t, pv] w fun e w' => e = .returned (.int .i64 (Vf.write S n t ps.flatten).2) ∧ PO w' V fs (c + 1) (Vf.write S n t ps.flatten).1 ∧ Kp (fun b => ¬ V b) w w' := by
 obtain ⟨M, h1, h2, h3⟩ := h
 exact (pwrite_any h1 n t ps pv hp ht (by omega) hpl (by omega) h3).mono fun e w' hn => PO.of_next h3 (by omega) (h2.write _ _ _) hn
theorem pocreate (h : PO w V fs c S) (hc : c ≤ 500000) (n : List UInt8) (ps : List (List UInt8)) (pv : Value) {Gq : Nat → Prop} (hp : Vf.Ps w Gq pv ps) (hpl : ps.length ≤ 1048576) (hpt : ps.flatten.length ≤ 1073741824) (hGq : ∀ b, Gq b → b < w.heap.size) :
 Calls Tryz.prog 19 #[.pointer (some ⟨fs, 0, none⟩), .string ⟨n.toArray⟩, pv] w fun e w' => e = .returned (.int .i64 (Vf.create S n ps.flatten).2) ∧ PO w' V fs (c + 1) (Vf.create S n ps.flatten).1 ∧ Kp (fun b => ¬ V b) w w' := by
 obtain ⟨M, h1, h2, h3⟩ := h
 have i1 := h2.last
 have i0 := h2.room0
 have i2 := h2.room1
 exact (pcreate_any h1 n ps pv hp (by omega) (by omega) i0 i2 hpl hpt hGq).mono fun e w' hn => PO.of_next h3 (by omega) (h2.create _ _) hn
theorem posync (h : PO w V fs c S) :
 Calls Tryz.prog 33 #[.pointer (some ⟨fs, 0, none⟩)] w fun e w' => e = .returned (.tuple #[]) ∧ PO w' V fs c { S with was := S.now, l := [] } ∧ Kp (fun b => ¬ V b) w w' := by
 obtain ⟨M, h1, h2, h3⟩ := h
 exact (psync_any h1).mono fun e w' hn => PO.of_next h3 (Nat.le_refl _) h2.sync hn
end
end
section
open Go.RowKit Go.Sort
open Fx (Vl)
open Me
open Wp
def Wp.Opened (w : World) (fs : Nat) (n : List UInt8) (R : Hd × Int) (e : Ending) (w' : World) : Prop :=
 ∃ A cap p s, e = .returned (.tuple #[.agg #[.int .i64 R.1.ag, .int .i64 R.1.xf, .slice A R.1.l.length cap, .pointer p, .string s], .int .i64 R.2]) ∧ (R.2 = 0 → p = some ⟨fs, 0, none⟩ ∧ s = ⟨n.toArray⟩) ∧ Row w' A R.1.l cap ∧ (∀ a, A = some a → w.heap.size ≤ a.block) ∧ Below w.heap.size w w'
theorem Wp.Opened.zero {w w' : World} {fs : Nat} {n : List UInt8} {R : Hd × Int} {k : Int} (hR : R = (Hd.zero, k)) (hk : k ≠ 0) (hb : Below w.heap.size w w') : Opened w fs n R (.returned (.tuple #[.agg #[.int .i64 0, .int .i64 0, .slice none 0 0, .pointer none, .string ⟨#[]⟩], .int .i64 k])) w' := by
 subst hR
 exact ⟨none, 0, none, ⟨#[]⟩, rfl, fun e => absurd e hk, ⟨Nat.le_refl _, fun h => (by cases h)⟩, fun a e => (by cases e), hb⟩
theorem row_kept {W W' : World} {A : Option Addr} {l : List (Int × Int)} {cap : Nat} (h : Row W A l cap) (hk : ∀ x, A = some x → W'.heap[x.block]? = W.heap[x.block]?) : Row W' A l cap := by
 refine ⟨h.1, fun h0 => ?_⟩
 obtain ⟨bb, off, e, ha⟩ := h.2 h0
 have hk' : W'.heap[bb]? = W.heap[bb]? := hk _ e
 have hw := ha.lt
 have hlt : bb < W'.heap.size := by
  have h1 : W'.heap[bb]? = some W.heap[bb] := hk'.trans (Array.getElem?_eq_getElem hw)
  exact (Array.getElem?_eq_some_iff.1 h1).1
 exact ⟨bb, off, e, hlt, fun i hi => (World.cell?_of_block hk').trans (ha.st i hi), fun i hi => (World.cell?_of_block hk').trans (ha.ct i hi)⟩
theorem heap_set5 {g i : Nat} {W : World} {a b c d z : Value} (hne : i ≠ g) : (((((W.setCell ⟨g, 0, none⟩ a).setCell ⟨g, 1, none⟩ b).setCell ⟨g, 2, none⟩ c).setCell ⟨g, 3, none⟩ d).setCell ⟨g, 4, none⟩ z).heap[i]? = W.heap[i]? := by
 rw [Below.heap_setCell _ _ _ _ hne, Below.heap_setCell _ _ _ _ hne, Below.heap_setCell _ _ _ _ hne, Below.heap_setCell _ _ _ _ hne, Below.heap_setCell _ _ _ _ hne]
theorem row_set5 {g : Nat} {W : World} {a b c d z : Value} {A : Option Addr} {l : List (Int × Int)} {cap : Nat} (h : Row W A l cap) (hg : ∀ x, A = some x → g < x.block) : Row (((((W.setCell ⟨g, 0, none⟩ a).setCell ⟨g, 1, none⟩ b).setCell ⟨g, 2, none⟩ c).setCell ⟨g, 3, none⟩ d).setCell ⟨g, 4, none⟩ z) A l cap :=
 row_kept h fun x e => heap_set5 (by have := hg x e; omega)
theorem open_any {w : World} {V : Nat → Prop} {c fs : Nat} {S : Vf.Sv} (ro : PO w V fs c S) (n : List UInt8) :
 Calls Tryz.prog 44 #[.pointer (some ⟨fs, 0, none⟩), .string ⟨n.toArray⟩] w (Opened w fs n (info S.now n)) := by
 have HSZ : Hid (∀ W, Below w.heap.size w W → Calls Tryz.prog 40 #[.pointer (some ⟨fs, 0, none⟩), .string ⟨n.toArray⟩] W fun e w' => e = .returned (.tuple #[.int .i64 (Vf.size S.now n).1, .int .i64 (Vf.size S.now n).2]) ∧ W = w') := Lib.hid fun W hb => posize (ro.below hb) n
 have HC : Hid (∀ W, Below (w.heap.size + 1) (w.alloc (.cells #[.int .i64 0, .int .i64 0, .slice none 0 0, .pointer none, .string ⟨#[]⟩] 100)) W → RowAt W w.heap.size 100 #[.int .i64 0, .int .i64 0, .slice none 0 0, .pointer none, .string ⟨#[]⟩]) := Lib.hid fun W hb => (RowAt.new w _ _).below hb (Nat.lt_succ_self _)
 by_cases he : (Vf.size S.now n).2 = 0
 ·obtain ⟨L, hL, hz0, hq⟩ := info_short he
  have HRD : Hid (∀ W, Below w.heap.size w W → Calls Tryz.prog 41 #[.pointer (some ⟨fs, 0, none⟩), .string ⟨n.toArray⟩, .int .i64 0, .int .i64 (min (Vf.size S.now n).1 112)] W (Vf.Handed W (L, 0))) := Lib.hid fun W hb => by
   have h := poread (ro.below hb) n 0 (min (Vf.size S.now n).1 112) (by omega)
   rw [hL] at h
   exact h
  have HQ2 := Lib.hid hq
  clear hL hq ro
  generalize info S.now n = R at *
  generalize Vf.size S.now n = Z at *
  obtain ⟨z, ez⟩ := Z
  obtain rfl : ez = 0 := he
  generalize hmn : min (z, (0 : Int)).1 112 = mn at *
  have hmn' : min z 112 = mn := hmn
  clear hmn
  have HQ2' : Hid (R = if Wh.derr L ≠ 0 ∨ (hdOf L).size ≠ z then (Hd.zero, 2) else (hdOf L, 0)) := HQ2
  clear HQ2
  cases hd : Wh.dok L
  ·obtain ⟨e1, e2, e3, e4⟩ := Wh.dok_f hd
   have HR : Hid (R = (Hd.zero, 2)) := Lib.hid (by rw [HQ2'.out, if_pos (.inl (by rw [e4]; decide))])
   have HDD := Lib.hid fun A c W h => decode_anyF A L c W h
   unfold DecodedF at HDD
   rw [e1, e2, e3, e4] at HDD
   clear HQ2' e1 e2 e3 e4 hd
   go_enter Tryz.func44, Tryz.ntmps44
   go_wp2_with first
    | (go_at_call 40; (with_reducible refine (HSZ.out _ ((Below.refl _ _).alloc (Nat.le_refl _) _)).mono ?_); rintro e w2 ⟨rfl, rfl⟩)
    | (go_at_call 41; (with_reducible refine (HRD.out _ ((Below.refl _ _).alloc (Nat.le_refl _) _)).mono ?_); rintro e w3 ⟨v3, rfl, hv3, hb3⟩; have hbb : Below (w.heap.size + 1) (w.alloc (.cells #[.int .i64 0, .int .i64 0, .slice none 0 0, .pointer none, .string ⟨#[]⟩] 100)) w3 := hb3.mono (by simp); have HB3 := Lib.hid hbb; have HV3 : Hid (Reads w3 v3 L) := Lib.hid (by obtain ⟨A', c', e', h1', _, h3'⟩ := hv3; exact ⟨A', c', e', h1', h3'.mono fun _ _ _ => trivial⟩); obtain ⟨A3, c3, rfl, _, _⟩ := HV3.out; have hs3 : w.heap.size < w3.heap.size := (HC.out w3 hbb).lt; clear hb3 hbb hv3)
    | (go_at_call 84; (with_reducible refine (HDD.out A3 c3 w3 HV3.out).mono ?_); rintro e w4 ⟨A4, c4, rfl, hrow, hb4, hfr⟩; have hbb : Below (w.heap.size + 1) (w.alloc (.cells #[.int .i64 0, .int .i64 0, .slice none 0 0, .pointer none, .string ⟨#[]⟩] 100)) w4 := HB3.out.trans (hb4.mono hs3); have HB4 := Lib.hid hbb; have HLB := Lib.hid (lowBox' hbb); have hs4 := (HC.out w4 hbb).lt; have r0 := (HC.out w4 hbb).cell 0; have r1 := (HC.out w4 hbb).cell 1; have r2 := (HC.out w4 hbb).cell 2; have r3 := (HC.out w4 hbb).cell 3; have r4 := (HC.out w4 hbb).cell 4; have f0 := (HC.out w4 hbb).frozen 0; have f1 := (HC.out w4 hbb).frozen 1; have f2 := (HC.out w4 hbb).frozen 2; have f3 := (HC.out w4 hbb).frozen 3; have f4 := (HC.out w4 hbb).frozen 4; simp only [List.getElem?_toArray, List.getElem?_cons_succ, List.getElem?_cons_zero] at r0 r1 r2 r3 r4; clear hb4 hbb hrow hfr)
   refine bodyPost_ret (v := .tuple #[.agg #[.int .i64 0, .int .i64 0, .slice none 0 0, .pointer none, .string ⟨#[]⟩], .int .i64 2]) (by simp [results, Tryz.results44, go_sem, *]) rfl (Opened.zero HR.out (by decide) ((below_set5 HLB.out (Nat.le_refl _)).alloc (by simp [World.setCell]; omega) _))
  ·obtain ⟨_, _, _, e4⟩ := Wh.dok_t hd
   have HDD := Lib.hid fun A c W h => decode_anyF A L c W h
   unfold DecodedF at HDD
   rw [e4] at HDD HQ2'
   have HHS : Hid (∀ A4 c4 W, Row W A4 (Wh.dl L) c4 → Calls Tryz.prog 32 #[.agg #[.int .i64 (Wh.dag L), .int .i64 (Wh.dxf L), .slice A4 (Wh.dl L).length c4]] W fun e w' => e = .returned (.int .i64 (hdOf L).size) ∧ Below W.heap.size W w') := Lib.hid fun A4 c4 W h => wsize_any _ _ _ A4 c4 W h
   clear e4 hd
   obtain ⟨sz, hsz⟩ : ∃ sz, Hid (sz = (hdOf L).size) := ⟨_, Lib.hid rfl⟩
   rw [← hsz.out] at HHS HQ2'
   obtain ⟨H, hH⟩ : ∃ H, Hid (H = hdOf L) := ⟨_, Lib.hid rfl⟩
   rw [← hH.out] at HQ2'
   have e5 : Wh.dag L = H.ag := by rw [hH.out]; rfl
   have e6 : Wh.dxf L = H.xf := by rw [hH.out]; rfl
   have e7 : Wh.dl L = H.l := by rw [hH.out]; rfl
   rw [e5, e6, e7] at HDD HHS
   clear e5 e6 e7 hH hsz
   obtain ⟨ag, xf, l⟩ := H
   simp only at HDD HHS
   by_cases hz : sz = z
   ·have HR : Hid (R = (⟨ag, xf, l⟩, 0)) := Lib.hid (by rw [HQ2'.out, if_neg (by rintro (e | e); exact e rfl; exact e hz)])
    have hzb : (sz == z) = true := by simpa using hz
    subst hz
    clear HQ2'
    go_enter Tryz.func44, Tryz.ntmps44
    go_wp2_with first
     | (go_at_call 40; (with_reducible refine (HSZ.out _ ((Below.refl _ _).alloc (Nat.le_refl _) _)).mono ?_); rintro e w2 ⟨rfl, rfl⟩)
     | (go_at_call 41; (with_reducible refine (HRD.out _ ((Below.refl _ _).alloc (Nat.le_refl _) _)).mono ?_); rintro e w3 ⟨v3, rfl, hv3, hb3⟩; have hbb : Below (w.heap.size + 1) (w.alloc (.cells #[.int .i64 0, .int .i64 0, .slice none 0 0, .pointer none, .string ⟨#[]⟩] 100)) w3 := hb3.mono (by simp); have HB3 := Lib.hid hbb; have HV3 : Hid (Reads w3 v3 L) := Lib.hid (by obtain ⟨A', c', e', h1', _, h3'⟩ := hv3; exact ⟨A', c', e', h1', h3'.mono fun _ _ _ => trivial⟩); obtain ⟨A3, c3, rfl, _, _⟩ := HV3.out; have hs3 : w.heap.size < w3.heap.size := (HC.out w3 hbb).lt; clear hb3 hbb hv3)
     | (go_at_call 84; (with_reducible refine (HDD.out A3 c3 w3 HV3.out).mono ?_); rintro e w4 ⟨A4, c4, rfl, hrow, hb4, hfr⟩; have hbb : Below (w.heap.size + 1) (w.alloc (.cells #[.int .i64 0, .int .i64 0, .slice none 0 0, .pointer none, .string ⟨#[]⟩] 100)) w4 := HB3.out.trans (hb4.mono hs3); have HB4 := Lib.hid hbb; have HROW := Lib.hid hrow; have HFR : Hid (∀ a, A4 = some a → w.heap.size < a.block) := Lib.hid (fun a e => Nat.lt_of_lt_of_le hs3 (hfr a e)); have hs4 := (HC.out w4 hbb).lt; clear hb4 hbb hrow hfr)
     | (go_at_call 32; (with_reducible refine (HHS.out _ _ _ (HROW.out.below ((Below.refl _ _).alloc (Nat.le_refl _) _))).mono ?_); rintro e w5 ⟨rfl, hb5⟩; have hbb : Below (w.heap.size + 1) (w.alloc (.cells #[.int .i64 0, .int .i64 0, .slice none 0 0, .pointer none, .string ⟨#[]⟩] 100)) w5 := (HB4.out.alloc (by omega) _).trans (hb5.mono (by simp; omega)); have HB5 := Lib.hid hbb; have HROW5 := Lib.hid (HROW.out.below (((Below.refl w4.heap.size w4).alloc (Nat.le_refl _) _).trans (hb5.mono (by simp)))); have r0 := (HC.out w5 hbb).cell 0; have r1 := (HC.out w5 hbb).cell 1; have r2 := (HC.out w5 hbb).cell 2; have r3 := (HC.out w5 hbb).cell 3; have r4 := (HC.out w5 hbb).cell 4; have f0 := (HC.out w5 hbb).frozen 0; have f1 := (HC.out w5 hbb).frozen 1; have f2 := (HC.out w5 hbb).frozen 2; have f3 := (HC.out w5 hbb).frozen 3; have f4 := (HC.out w5 hbb).frozen 4; simp only [List.getElem?_toArray, List.getElem?_cons_succ, List.getElem?_cons_zero] at r0 r1 r2 r3 r4; have hs5 := (HC.out w5 hbb).lt; obtain ⟨hc5, hf5⟩ := bcell hb5; have hz5 : w4.heap.size < w5.heap.size := Nat.lt_of_lt_of_le (by simp) hb5.size; clear hb5 hbb)
    refine bodyPost_ret (v := .tuple #[.agg #[.int .i64 ag, .int .i64 xf, .slice A4 l.length c4, .pointer (some ⟨fs, 0, none⟩), .string ⟨n.toArray⟩], .int .i64 0]) (by simp [results, Tryz.results44, go_sem, *]) rfl ⟨A4, c4, some ⟨fs, 0, none⟩, ⟨n.toArray⟩, by rw [HR.out], fun _ => ⟨rfl, rfl⟩, by rw [HR.out]; exact row_set5 HROW5.out HFR.out, fun a e => Nat.le_of_lt (HFR.out a e), below_set5 (lowBox' HB5.out) (Nat.le_refl _)⟩
   ·have HR : Hid (R = (Hd.zero, 2)) := Lib.hid (by rw [HQ2'.out, if_pos (.inr hz)])
    have hzb : (sz == z) = false := by simpa using hz
    clear HQ2'
    go_enter Tryz.func44, Tryz.ntmps44
    go_wp2_with first
     | (go_at_call 40; (with_reducible refine (HSZ.out _ ((Below.refl _ _).alloc (Nat.le_refl _) _)).mono ?_); rintro e w2 ⟨rfl, rfl⟩)
     | (go_at_call 41; (with_reducible refine (HRD.out _ ((Below.refl _ _).alloc (Nat.le_refl _) _)).mono ?_); rintro e w3 ⟨v3, rfl, hv3, hb3⟩; have hbb : Below (w.heap.size + 1) (w.alloc (.cells #[.int .i64 0, .int .i64 0, .slice none 0 0, .pointer none, .string ⟨#[]⟩] 100)) w3 := hb3.mono (by simp); have HB3 := Lib.hid hbb; have HV3 : Hid (Reads w3 v3 L) := Lib.hid (by obtain ⟨A', c', e', h1', _, h3'⟩ := hv3; exact ⟨A', c', e', h1', h3'.mono fun _ _ _ => trivial⟩); obtain ⟨A3, c3, rfl, _, _⟩ := HV3.out; have hs3 : w.heap.size < w3.heap.size := (HC.out w3 hbb).lt; clear hb3 hbb hv3)
     | (go_at_call 84; (with_reducible refine (HDD.out A3 c3 w3 HV3.out).mono ?_); rintro e w4 ⟨A4, c4, rfl, hrow, hb4, hfr⟩; have hbb : Below (w.heap.size + 1) (w.alloc (.cells #[.int .i64 0, .int .i64 0, .slice none 0 0, .pointer none, .string ⟨#[]⟩] 100)) w4 := HB3.out.trans (hb4.mono hs3); have HB4 := Lib.hid hbb; have HROW := Lib.hid hrow; have HFR : Hid (∀ a, A4 = some a → w.heap.size < a.block) := Lib.hid (fun a e => Nat.lt_of_lt_of_le hs3 (hfr a e)); have hs4 := (HC.out w4 hbb).lt; clear hb4 hbb hrow hfr)
     | (go_at_call 32; (with_reducible refine (HHS.out _ _ _ (HROW.out.below ((Below.refl _ _).alloc (Nat.le_refl _) _))).mono ?_); rintro e w5 ⟨rfl, hb5⟩; have hbb : Below (w.heap.size + 1) (w.alloc (.cells #[.int .i64 0, .int .i64 0, .slice none 0 0, .pointer none, .string ⟨#[]⟩] 100)) w5 := (HB4.out.alloc (by omega) _).trans (hb5.mono (by simp; omega)); have HB5 := Lib.hid hbb; have HROW5 := Lib.hid (HROW.out.below (((Below.refl w4.heap.size w4).alloc (Nat.le_refl _) _).trans (hb5.mono (by simp)))); have r0 := (HC.out w5 hbb).cell 0; have r1 := (HC.out w5 hbb).cell 1; have r2 := (HC.out w5 hbb).cell 2; have r3 := (HC.out w5 hbb).cell 3; have r4 := (HC.out w5 hbb).cell 4; have f0 := (HC.out w5 hbb).frozen 0; have f1 := (HC.out w5 hbb).frozen 1; have f2 := (HC.out w5 hbb).frozen 2; have f3 := (HC.out w5 hbb).frozen 3; have f4 := (HC.out w5 hbb).frozen 4; simp only [List.getElem?_toArray, List.getElem?_cons_succ, List.getElem?_cons_zero] at r0 r1 r2 r3 r4; have hs5 := (HC.out w5 hbb).lt; obtain ⟨hc5, hf5⟩ := bcell hb5; have hz5 : w4.heap.size < w5.heap.size := Nat.lt_of_lt_of_le (by simp) hb5.size; clear hb5 hbb)
    refine bodyPost_ret (v := .tuple #[.agg #[.int .i64 0, .int .i64 0, .slice none 0 0, .pointer none, .string ⟨#[]⟩], .int .i64 2]) (by simp [results, Tryz.results44, go_sem, *]) rfl (Opened.zero HR.out (by decide) (below_set5 (lowBox' HB5.out) (Nat.le_refl _)))
 ·have HR : Hid (info S.now n = (Hd.zero, (Vf.size S.now n).2)) := Lib.hid (by unfold info; rw [if_pos he])
  clear ro
  generalize info S.now n = R at *
  generalize Vf.size S.now n = Z at *
  obtain ⟨z, ez⟩ := Z
  have hez : (ez == 0) = false := by simpa using he
  go_enter Tryz.func44, Tryz.ntmps44
  go_wp2_with (go_at_call 40; (with_reducible refine (HSZ.out _ ((Below.refl _ _).alloc (Nat.le_refl _) _)).mono ?_); rintro e w2 ⟨rfl, rfl⟩)
  refine bodyPost_ret (v := .tuple #[.agg #[.int .i64 0, .int .i64 0, .slice none 0 0, .pointer none, .string ⟨#[]⟩], .int .i64 ez]) (by simp [results, Tryz.results44, go_sem]) rfl (Opened.zero HR.out he Bq)
end
section
open Go.RowKit Go.Sort
open Fx (Vl)
open Me
open Wp
theorem isnow_any (now : Int) (w : World) : Calls Tryz.prog 58 #[.int .i64 now] w fun e w' => e = .returned (.bool (decide (1 ≤ now ∧ now ≤ 4294967295))) ∧ w = w' := by
 obtain ⟨b, hb⟩ : ∃ b, b = decide (1 ≤ now ∧ now ≤ 4294967295) := ⟨_, rfl⟩
 rw [← hb]
 by_cases h1 : 1 ≤ now
 ·by_cases h2 : now ≤ 4294967295
  ·have HB : Hid (b = true) := Lib.hid (by rw [hb]; exact decide_eq_true ⟨h1, h2⟩)
   clear hb
   go_enter Tryz.func58, Tryz.ntmps58
   go_wp2_with fail
   go_ret
   exact ⟨by rw [HB.out]; rfl, rfl⟩
  ·have HB : Hid (b = false) := Lib.hid (by rw [hb]; exact decide_eq_false (fun e => h2 e.2))
   clear hb
   go_enter Tryz.func58, Tryz.ntmps58
   go_wp2_with fail
   go_ret
   exact ⟨by rw [HB.out]; rfl, rfl⟩
 ·have HB : Hid (b = false) := Lib.hid (by rw [hb]; exact decide_eq_false (fun e => h1 e.1))
  clear hb
  go_enter Tryz.func58, Tryz.ntmps58
  go_wp2_with fail
  go_ret
  exact ⟨by rw [HB.out]; rfl, rfl⟩
theorem info_of_open {w : World} {fs : Nat} {n : List UInt8} {R : Hd × Int} {f : Value} (HO : Hid (∀ W, Below w.heap.size w W → Calls Tryz.prog 44 #[f, .string ⟨n.toArray⟩] W (Opened W fs n R))) :
 Calls Tryz.prog 15 #[f, .string ⟨n.toArray⟩] w (Informed w R) := by
 obtain ⟨nb, hnb⟩ : ∃ nb : ByteArray, nb = ⟨n.toArray⟩ := ⟨_, rfl⟩
 rw [← hnb] at HO ⊢
 clear hnb
 obtain ⟨⟨ag, xf, l⟩, er⟩ := R
 go_enter Tryz.func15, Tryz.ntmps15
 go_wp2_with (go_at_call 44; (with_reducible refine (HO.out _ ((Below.refl _ _).alloc (Nat.le_refl _) _)).mono ?_); rintro e w2 ⟨A, cap, p, s, rfl, hps, hrow, hfr, hb2⟩; have hbb : Below (w.heap.size + 1) (w.alloc (.cells #[.int .i64 0, .int .i64 0, .slice none 0 0] 24)) w2 := hb2.mono (by simp); have hr := (RowAt.new w #[.int .i64 0, .int .i64 0, .slice none 0 0] 24).below hbb (Nat.lt_succ_self _); have r0 := hr.cell 0; have r1 := hr.cell 1; have r2 := hr.cell 2; have f0 := hr.frozen 0; have f1 := hr.frozen 1; have f2 := hr.frozen 2; have hrl := hr.lt; simp only [List.getElem?_toArray, List.getElem?_cons_succ, List.getElem?_cons_zero] at r0 r1 r2; have HROW := Lib.hid hrow; have HFR := Lib.hid hfr; have HB2 := Lib.hid hbb; clear hb2 hbb hr hrow hfr hps)
 refine bodyPost_ret (v := .tuple #[.agg #[.int .i64 ag, .int .i64 xf, .slice A l.length cap], .int .i64 er]) (by simp [results, Tryz.results15, go_sem, *]) rfl ⟨A, cap, rfl, ?_, ?_, ?_⟩
 ·exact (row_set3 HROW.out (fun x e => by have := HFR.out x e; simp at this; omega)).below ((Below.refl _ _).alloc (Nat.le_refl _) _)
 ·exact fun a e => by have := HFR.out a e; simp at this; omega
 ·exact (below_set3 (lowBox' HB2.out) (Nat.le_refl _)).alloc (by simp [World.setCell]; omega) _
theorem info_any7 {w : World} {V : Nat → Prop} {c fs : Nat} {S : Vf.Sv} (ro : PO w V fs c S) (n : List UInt8) : Calls Tryz.prog 15 #[.pointer (some ⟨fs, 0, none⟩), .string ⟨n.toArray⟩] w (Informed w (info S.now n)) := info_of_open (Lib.hid fun _ hb => open_any (ro.below hb) n)
end
section
open Go.RowKit Go.Shelf
open Me
open Wp
attribute [local go_sem] Oper.semAt_some
namespace Wp
def Boxes (p q : Nat) (W W' : World) : Prop := W'.cell? ⟨p, 0, none⟩ = W.cell? ⟨p, 0, none⟩ ∧ W'.cell? ⟨q, 0, none⟩ = W.cell? ⟨q, 0, none⟩
end Wp
theorem chunk_from (W : World) (b off l m cap : Nat) (hl : l < m) (hm : m ≤ cap) :
 (Instr.slice 49 (.slice (some ⟨b, off, none⟩) m cap) (some (.int .i64 (l : Int))) none none).run Tryz.prog W = .ok (.slice (some ⟨b, off + l, none⟩) (m - l) (cap - l)) W := by
 have h1 : ¬ (m : Int) < (l : Int) := by omega
 have h2 : ¬ m < l := by omega
 have h3 : (0 : Int) ≤ (l : Int) := by omega
 have h4 : ¬ cap = l := by omega
 have h5 : l ≤ m := by omega
 have h6 : (l : Int) ≤ (m : Int) := by omega
 simp [go_sem, *]
theorem chunk_window (W : World) (b off l m cap : Nat) (hl : l + 12 ≤ m) (hm : m ≤ cap) :
 (Instr.slice 49 (.slice (some ⟨b, off, none⟩) m cap) (some (.int .i64 (l : Int))) (some (.int .i64 ((l : Int) + 12))) (some (.int .i64 ((l : Int) + 12)))).run Tryz.prog W = .ok (.slice (some ⟨b, off + l, none⟩) 12 12) W := by
 have h1 : (l : Int) ≤ (l : Int) + 12 := by omega
 have h2 : (l : Int) + 12 ≤ (cap : Int) := by omega
 have h3 : (0 : Int) ≤ (l : Int) := by omega
 have h4 : (0 : Int) ≤ (l : Int) + 12 := by omega
 have h5 : ((l : Int) + 12).toNat = l + 12 := by omega
 have h6 : ¬ l + 12 = l := by omega
 simp [go_sem, *]
theorem chunk_in (n : Nat) (hn : 1 ≤ n) (l p q b off N cap : Nat) (A : Option Addr) (hA : 0 < N → A = some ⟨b, off, none⟩) (hcap : 12 * N ≤ cap) (hN : N ≤ 1000000) (J Jx : List (Fin N) → World → Prop) (w0 : Nat) (hJa : AbidesFrom w0 J)
 (hY : ∀ pre (x : Fin N) W, J pre W → pre.length < N → YieldAt Fence.wide (n - 1) Tryz.prog l #[.slice (some ⟨b, off + 12 * x.1, none⟩) 12 12] W fun e W' =>
  (e = .returned (.bool true) ∧ J (pre ++ [x]) W' ∧ Boxes p q W W') ∨ (e = .returned (.bool false) ∧ Jx (pre ++ [x]) W'))
 (W : World) (hp : W.cell? ⟨p, 0, none⟩ = some (.slice A (12 * N) cap)) (hq : W.cell? ⟨q, 0, none⟩ = some (.int .i64 12)) (h0 : J [] W) :
 CallsIn Fence.wide n Tryz.prog 136 #[.func (.yield l) #[] #[], .pointer (some ⟨p, 0, none⟩), .pointer (some ⟨q, 0, none⟩)] W fun e W' => (∃ v, e = .returned v) ∧
  ((∃ ys, ys = List.finRange N ∧ J ys W') ∨ (∃ pre, True ∧ Jx pre W')) := by
 refine callsIn_of_wp Tryz.func136 rfl trivial ?_ rfl
 simp only [Tryz.ntmps136, List.size_toArray, List.length_cons, List.length_nil, Nat.reduceAdd, Nat.reduceSub, Array.replicate_succ, Array.replicate_zero, List.push_toArray, List.append_toArray, List.nil_append, List.cons_append]
 gi_wp2
 gi_loopw [4, 5] (fun i _ wr => ∃ k : Nat, k ≤ N ∧ i = .int .i64 ((12 * k : Nat) : Int) ∧ J ((List.finRange N).take k) wr ∧ Boxes p q W wr)
  (fun i _ _ => 12 * N - (intOf i).toNat)
 case atStart => exact ⟨0, Nat.zero_le _, rfl, h0, rfl, rfl⟩
 case round =>
  obtain ⟨k, hk, rfl, hJ, hb1, hb2⟩ := hrel
  have HB : Hid (Boxes p q W wr) := Lib.hid ⟨hb1, hb2⟩
  have hp' : wr.cell? ⟨p, 0, none⟩ = some (.slice A (12 * N) cap) := hb1.trans hp
  have hq' : wr.cell? ⟨q, 0, none⟩ = some (.int .i64 12) := hb2.trans hq
  clear hb1 hb2
  by_cases hlt : k < N
  ·obtain rfl := hA (by omega)
   have hi1 : ((12 * k : Nat) : Int) < ((12 * N : Nat) : Int) := by omega
   obtain ⟨L, hL⟩ : ∃ L, L = 12 * k := ⟨_, rfl⟩
   obtain ⟨M, hM⟩ : ∃ M, M = 12 * N := ⟨_, rfl⟩
   have hsl := chunk_from wr b off L M cap (by omega) (by omega)
   have hlm : L + 12 ≤ M := by omega
   have hmin : min (12 : Int) ((M - L : Nat) : Int) = 12 := by omega
   have hw1 : IntKind.i64.wrap ((L : Int) + 12) = (L : Int) + 12 := IntWalk.i64_in _ (by omega)
   rw [← hM] at hp' hi1
   rw [← hL] at hi1 ⊢
   have HL := Lib.hid hL
   have HM := Lib.hid hM
   clear hL hM hp hq
   gi_wp2
   refine wpIn_wide.2 ?_
   go_quiet (fail)
   obtain ⟨wd, hwd⟩ : ∃ wd, wd = wr.drewN nq := ⟨_, rfl⟩
   have hJd : J ((List.finRange N).take k) wd := by rw [hwd]; exact hJa _ _ _ none hJ ⟨rfl, rfl, rfl, Nat.le_refl _, fun _ _ _ => rfl⟩ (fun r e => by cases e)
   obtain ⟨fn, tmps, assign, body, hy, hR⟩ := hY _ ⟨k, hlt⟩ wd hJd (by rw [List.length_take, List.length_finRange]; omega)
   dsimp only at hy
   rw [← HL.out] at hy
   have hsw := chunk_window wd b off L M cap (by omega) (by have := HM.out; omega)
   have hpd : wd.cell? ⟨p, 0, none⟩ = some (.slice (some ⟨b, off, none⟩) M cap) := by rw [hwd]; exact hp'
   have HBD : Hid (Boxes p q W wd) := Lib.hid (by rw [hwd]; exact HB.out)
   have hqd : wd.cell? ⟨q, 0, none⟩ = some (.int .i64 12) := by rw [hwd]; exact hq'
   have hcl : ¬ cap = L := by have := HM.out; omega
   have hlb : (0 : Int) ≤ (L : Int) + 12 := by omega
   have hub : (L : Int) + 12 ≤ (cap : Int) := by have := HM.out; omega
   have hbb : (0 : Int) ≤ (L : Int) + 12 ∧ (L : Int) + 12 ≤ (cap : Int) := ⟨hlb, hub⟩
   rw [← hwd]
   clear hp' hq' hwd hsl
   gi_wp2
   refine hR.mono ?_
   rintro e W3 (⟨rfl, hJ3, hk3⟩ | ⟨rfl, hJx3⟩)
   ·have hp3 : W3.cell? ⟨p, 0, none⟩ = some (.slice (some ⟨b, off, none⟩) M cap) := hk3.1.trans hpd
    have hq3 : W3.cell? ⟨q, 0, none⟩ = some (.int .i64 12) := hk3.2.trans hqd
    have HB3 : Hid (Boxes p q W W3) := Lib.hid ⟨hk3.1.trans HBD.out.1, hk3.2.trans HBD.out.2⟩
    clear hk3 hpd hqd
    gi_wp2
    go_roundw
    case rel => exact ⟨k + 1, by omega, by have h1 := HL.out; congr 1; omega, by rw [List.take_succ_eq_append_getElem (by rw [List.length_finRange]; exact hlt), List.getElem_finRange]; exact hJ3, HB3.out.1, HB3.out.2⟩
    case measure =>
     have h1 := HL.out
     simp only [intOf]
     have h2 := HM.out
     omega
   ·gi_wp2
    refine bodyPost_ret (results_none rfl _ _ _) rfl ?_
    exact ⟨⟨_, rfl⟩, .inr ⟨_, trivial, hJx3⟩⟩
  ·obtain rfl : k = N := by omega
   gi_wp2
   go_end0
   exact ⟨⟨_, rfl⟩, .inl ⟨_, by rw [List.take_of_length_le (by simp)], hJ⟩⟩
end
section
open Go.RowKit Go.Sort
open Fx (Vl)
open Me
open Wp
namespace Wp
def ringV (h : Hd) (i : Nat) (A : Option Addr) (cap fs : Nat) (n : List UInt8) : Value := .agg #[.int .i64 (h.step i), .int .i64 (h.cnt i), .int .i64 h.ag, .int .i64 h.xf, .slice A h.l.length cap, .pointer (some ⟨fs, 0, none⟩), .string ⟨n.toArray⟩, .int .i64 (h.offs (i : Int))]
end Wp
theorem row_set8 {W : World} {g : Nat} {t : TypeId} {a0 a1 a2 a3 a4 a5 a6 a7 b0 b1 b2 b3 b4 b5 b6 b7 : Value} (h : RowAt W g t #[a0, a1, a2, a3, a4, a5, a6, a7]) :
 RowAt ((((((((W.setCell ⟨g, 0, none⟩ b0).setCell ⟨g, 1, none⟩ b1).setCell ⟨g, 2, none⟩ b2).setCell ⟨g, 3, none⟩ b3).setCell ⟨g, 4, none⟩ b4).setCell ⟨g, 5, none⟩ b5).setCell ⟨g, 6, none⟩ b6).setCell ⟨g, 7, none⟩ b7) g t #[b0, b1, b2, b3, b4, b5, b6, b7] := by
 have := (((((((h.set_ 0 b0).set_ 1 b1).set_ 2 b2).set_ 3 b3).set_ 4 b4).set_ 5 b5).set_ 6 b6).set_ 7 b7
 simpa using this
theorem below_set8 {B g : Nat} {w W : World} {b0 b1 b2 b3 b4 b5 b6 b7 : Value} (h : Below B w W) (hg : B ≤ g) : Below B w ((((((((W.setCell ⟨g, 0, none⟩ b0).setCell ⟨g, 1, none⟩ b1).setCell ⟨g, 2, none⟩ b2).setCell ⟨g, 3, none⟩ b3).setCell ⟨g, 4, none⟩ b4).setCell ⟨g, 5, none⟩ b5).setCell ⟨g, 6, none⟩ b6).setCell ⟨g, 7, none⟩ b7) :=
 Below.setCell (Below.setCell (Below.setCell (Below.setCell (Below.setCell (Below.setCell (Below.setCell (Below.setCell h hg _) hg _) hg _) hg _) hg _) hg _) hg _) hg _
theorem ring_any {w : World} {fs : Nat} {n : List UInt8} {h : Hd} {A : Option Addr} {cap : Nat} (hr : Row w A h.l cap) (_hv : h.val = true) (ix : Nat) (hi : ix < h.l.length) :
 Calls Tryz.prog 65 #[fileV h A cap fs n, .int .i64 (ix : Int)] w fun e w' => e = .returned (ringV h ix A cap fs n) ∧ Below w.heap.size w w' := by
 have HOF : Hid (∀ W, Below w.heap.size w W → Calls Tryz.prog 99 #[.agg #[.int .i64 h.ag, .int .i64 h.xf, .slice A h.l.length cap], .int .i64 (ix : Int)] W fun e w' => e = .returned (.int .i64 (h.offs (ix : Int))) ∧ Below W.heap.size W w') := Lib.hid fun W hb => offs_any h.ag h.xf h.l A cap ix W (hr.below hb)
 obtain ⟨b, off, rfl, ha⟩ := hr.2 (by omega)
 have s0 : w.cell? ⟨b, off + ix * 2, none⟩ = some (.int .i64 (h.step ix)) := ha.st ix hi
 have s1 : w.cell? ⟨b, off + ix * 2 + 1, none⟩ = some (.int .i64 (h.cnt ix)) := ha.ct ix hi
 have hbl := ha.lt
 have hil : (ix : Int) < (h.l.length : Int) := by omega
 have hi0 : (0 : Int) ≤ (ix : Int) := by omega
 clear hr ha _hv
 unfold fileV ringV
 generalize h.offs (ix : Int) = o at *
 generalize h.step ix = s at *
 generalize h.cnt ix = k at *
 generalize h.l.length = L at *
 generalize h.ag = ag at *
 generalize h.xf = xf at *
 generalize (⟨n.toArray⟩ : ByteArray) = nb at *
 clear hi
 go_enter Tryz.func65, Tryz.ntmps65
 go_wp2_with fail
 have HX : Hid (Below w.heap.size w ((w.alloc (.cells #[.int .i64 ag, .int .i64 xf, .slice (some ⟨b, off, none⟩) L cap, .pointer (some ⟨fs, 0, none⟩), .string nb] 100)).alloc (.cells #[.int .i64 0, .int .i64 0, .int .i64 0, .int .i64 0, .slice none 0 0, .pointer none, .string ⟨#[]⟩, .int .i64 0] 137))) := Lib.hid (((Below.refl _ _).alloc (Nat.le_refl _) _).alloc (by simp) _)
 generalize hXe : (w.alloc (.cells #[.int .i64 ag, .int .i64 xf, .slice (some ⟨b, off, none⟩) L cap, .pointer (some ⟨fs, 0, none⟩), .string nb] 100)).alloc (.cells #[.int .i64 0, .int .i64 0, .int .i64 0, .int .i64 0, .slice none 0 0, .pointer none, .string ⟨#[]⟩, .int .i64 0] 137) = X at *
 have hXs : X.heap.size = w.heap.size + 2 := by rw [← hXe]; simp
 have hr1 : RowAt X w.heap.size 100 #[.int .i64 ag, .int .i64 xf, .slice (some ⟨b, off, none⟩) L cap, .pointer (some ⟨fs, 0, none⟩), .string nb] := by rw [← hXe]; exact (RowAt.new w _ _).alloc _
 have hr2 : RowAt X (w.heap.size + 1) 137 #[.int .i64 0, .int .i64 0, .int .i64 0, .int .i64 0, .slice none 0 0, .pointer none, .string ⟨#[]⟩, .int .i64 0] := by rw [← hXe]; exact RowAt.new' (by simp)
 obtain ⟨p, hp⟩ : ∃ p, p = w.heap.size := ⟨_, rfl⟩
 obtain ⟨q, hq⟩ : ∃ q, q = w.heap.size + 1 := ⟨_, rfl⟩
 have HP : Hid (w.heap.size ≤ q ∧ q < X.heap.size) := Lib.hid ⟨by omega, by omega⟩
 rw [← hq] at hr2 ⊢
 rw [← hp] at hr1
 rw [show Value.pointer (some (⟨w.heap.size, 0, none⟩ : Addr)) = .pointer (some ⟨p, 0, none⟩) by rw [hp]]
 have HF : Hid (∀ W, Below X.heap.size X W → (W.cell? ⟨p, 0, none⟩ = some (.int .i64 ag) ∧ W.cell? ⟨p, 1, none⟩ = some (.int .i64 xf) ∧ W.cell? ⟨p, 2, none⟩ = some (.slice (some ⟨b, off, none⟩) L cap) ∧ W.cell? ⟨p, 3, none⟩ = some (.pointer (some ⟨fs, 0, none⟩)) ∧ W.cell? ⟨p, 4, none⟩ = some (.string nb)) ∧ W.cell? ⟨b, off + ix * 2, none⟩ = some (.int .i64 s) ∧ W.cell? ⟨b, off + ix * 2 + 1, none⟩ = some (.int .i64 k)) := Lib.hid fun W hb => by
  have k1 := hr1.below hb (by omega)
  have hw := HX.out.trans (hb.mono HX.out.size)
  exact ⟨⟨k1.cell 0, k1.cell 1, k1.cell 2, k1.cell 3, k1.cell 4⟩, (hw.cell (p := ⟨b, off + ix * 2, none⟩) hbl).trans s0, (hw.cell (p := ⟨b, off + ix * 2 + 1, none⟩) hbl).trans s1⟩
 have HRR : Hid (RowAt X q 137 #[.int .i64 0, .int .i64 0, .int .i64 0, .int .i64 0, .slice none 0 0, .pointer none, .string ⟨#[]⟩, .int .i64 0]) := Lib.hid hr2
 clear s0 s1 hXe hr1 hr2 hXs hp hq hbl
 refine Inv.region_tail 12 8 (fun W W' => Below W.heap.size W W') (fun i v W => match i with
  | 0 => v = .pointer (some ⟨p, 0, none⟩)
  | 1 => v = .pointer (some ⟨p, 2, none⟩)
  | 2 => v = .slice (some ⟨b, off, none⟩) L cap
  | 3 => v = .int .i64 (ix : Int)
  | 4 => v = .pointer (some ⟨b, off + ix * 2, none⟩)
  | 5 => v = .agg #[.int .i64 s, .int .i64 k]
  | 6 => v = .agg #[.int .i64 ag, .int .i64 xf, .slice (some ⟨b, off, none⟩) L cap, .pointer (some ⟨fs, 0, none⟩), .string nb]
  | 7 => v = .pointer (some ⟨p, 0, none⟩)
  | 8 => v = .agg #[.int .i64 ag, .int .i64 xf, .slice (some ⟨b, off, none⟩) L cap]
  | 9 => v = .int .i64 (ix : Int)
  | 10 => v = .int .i64 o
  | 11 => v = .agg #[.int .i64 s, .int .i64 k, .int .i64 ag, .int .i64 xf, .slice (some ⟨b, off, none⟩) L cap, .pointer (some ⟨fs, 0, none⟩), .string nb, .int .i64 o]
  | _ => True) (by kernel_rfl) (by kernel_rfl) (by kernel_rfl) (by kernel_rfl) (fun W => Below.refl _ _) (fun a b c h k => h.trans (k.mono h.size)) (fun i v W W' h he => ?stab) ?obls ?fin
 case stab =>
  match i, h with
  | 0, h => exact h
  | 1, h => exact h
  | 2, h => exact h
  | 3, h => exact h
  | 4, h => exact h
  | 5, h => exact h
  | 6, h => exact h
  | 7, h => exact h
  | 8, h => exact h
  | 9, h => exact h
  | 10, h => exact h
  | 11, h => exact h
  | _ + 12, h => exact h
 case obls =>
  refine .cons ?_ (.cons ?_ (.cons ?_ (.cons ?_ (.cons ?_ (.cons ?_ (.cons ?_ (.cons ?_ (.cons ?_ (.cons ?_ (.cons ?_ (.cons ?_ .nil)))))))))))
  ·intro ac wx hE hf hd
   have hB : Below X.heap.size X wx := ⟨hE.1,hE.2,hE.3,hE.4,hE.5⟩
   rw [if_pos (Inv.want0 rfl _)]
   have h2 : ac.eval (.tmp 2) = .pointer (some ⟨p, 0, none⟩) := hf 2 (by kernel_rfl)
   clear hf hd
   refine Inv.val (.pointer (some ⟨p, 0, none⟩)) ?_ rfl rfl (Below.refl _ _)
   clear hE hB HF HOF HX
   generalize ac.eval = ev at *
   simp [execOp, go_sem, *]
  ·intro ac wx hE hf hd
   have hB : Below X.heap.size X wx := ⟨hE.1,hE.2,hE.3,hE.4,hE.5⟩
   rw [if_pos (Inv.want0 rfl _)]
   have h5 := hd 0 _ (by kernel_rfl) rfl
   change ac.eval (.tmp 5) = .pointer (some ⟨p, 0, none⟩) at h5
   clear hf hd
   refine Inv.val (.pointer (some ⟨p, 2, none⟩)) ?_ rfl rfl (Below.refl _ _)
   clear hE hB HF HOF HX
   generalize ac.eval = ev at *
   simp [execOp, go_sem, *]
  ·intro ac wx hE hf hd
   have hB : Below X.heap.size X wx := ⟨hE.1,hE.2,hE.3,hE.4,hE.5⟩
   rw [if_pos (Inv.want0 rfl _)]
   have h6 := hd 1 _ (by kernel_rfl) rfl
   change ac.eval (.tmp 6) = .pointer (some ⟨p, 2, none⟩) at h6
   clear hf hd
   obtain ⟨⟨a0, a1, a2, a3, a4⟩, b0, b1⟩ := HF.out wx hB
   refine Inv.val (.slice (some ⟨b, off, none⟩) L cap) ?_ rfl rfl (Below.refl _ _)
   clear hE hB HF HOF HX
   generalize ac.eval = ev at *
   simp [execOp, go_sem, *]
  ·intro ac wx hE hf hd
   have hB : Below X.heap.size X wx := ⟨hE.1,hE.2,hE.3,hE.4,hE.5⟩
   rw [if_pos (Inv.want0 rfl _)]
   have h1 : ac.eval (.tmp 1) = .int .i64 (ix : Int) := hf 1 (by kernel_rfl)
   clear hf hd
   refine Inv.val (.int .i64 (ix : Int)) ?_ rfl rfl (Below.refl _ _)
   clear hE hB
   generalize ac.eval = ev at *
   simp [execOp, go_sem, *]
  ·intro ac wx hE hf hd
   have hB : Below X.heap.size X wx := ⟨hE.1,hE.2,hE.3,hE.4,hE.5⟩
   rw [if_pos (Inv.want0 rfl _)]
   have h7 := hd 2 _ (by kernel_rfl) rfl
   change ac.eval (.tmp 7) = .slice (some ⟨b, off, none⟩) L cap at h7
   have h8 := hd 3 _ (by kernel_rfl) rfl
   change ac.eval (.tmp 8) = .int .i64 (ix : Int) at h8
   clear hf hd
   refine Inv.val (.pointer (some ⟨b, off + ix * 2, none⟩)) ?_ rfl rfl (Below.refl _ _)
   clear hE hB HF HOF HX
   generalize ac.eval = ev at *
   simp [execOp, go_sem, *]
  ·intro ac wx hE hf hd
   have hB : Below X.heap.size X wx := ⟨hE.1,hE.2,hE.3,hE.4,hE.5⟩
   rw [if_pos (Inv.want0 rfl _)]
   have h9 := hd 4 _ (by kernel_rfl) rfl
   change ac.eval (.tmp 9) = .pointer (some ⟨b, off + ix * 2, none⟩) at h9
   clear hf hd
   obtain ⟨⟨a0, a1, a2, a3, a4⟩, b0, b1⟩ := HF.out wx hB
   refine Inv.val (.agg #[.int .i64 s, .int .i64 k]) ?_ rfl rfl (Below.refl _ _)
   clear hE hB HF HOF HX
   generalize ac.eval = ev at *
   simp [execOp, go_sem, *]
  ·intro ac wx hE hf hd
   have hB : Below X.heap.size X wx := ⟨hE.1,hE.2,hE.3,hE.4,hE.5⟩
   rw [if_pos (Inv.want0 rfl _)]
   have h2 : ac.eval (.tmp 2) = .pointer (some ⟨p, 0, none⟩) := hf 2 (by kernel_rfl)
   clear hf hd
   obtain ⟨⟨a0, a1, a2, a3, a4⟩, b0, b1⟩ := HF.out wx hB
   refine Inv.val (.agg #[.int .i64 ag, .int .i64 xf, .slice (some ⟨b, off, none⟩) L cap, .pointer (some ⟨fs, 0, none⟩), .string nb]) ?_ rfl rfl (Below.refl _ _)
   clear hE hB HF HOF HX
   generalize ac.eval = ev at *
   simp [execOp, go_sem, *]
  ·intro ac wx hE hf hd
   have hB : Below X.heap.size X wx := ⟨hE.1,hE.2,hE.3,hE.4,hE.5⟩
   rw [if_pos (Inv.want0 rfl _)]
   have h2 : ac.eval (.tmp 2) = .pointer (some ⟨p, 0, none⟩) := hf 2 (by kernel_rfl)
   clear hf hd
   refine Inv.val (.pointer (some ⟨p, 0, none⟩)) ?_ rfl rfl (Below.refl _ _)
   clear hE hB HF HOF HX
   generalize ac.eval = ev at *
   simp [execOp, go_sem, *]
  ·intro ac wx hE hf hd
   have hB : Below X.heap.size X wx := ⟨hE.1,hE.2,hE.3,hE.4,hE.5⟩
   rw [if_pos (Inv.want0 rfl _)]
   have h12 := hd 7 _ (by kernel_rfl) rfl
   change ac.eval (.tmp 12) = .pointer (some ⟨p, 0, none⟩) at h12
   clear hf hd
   obtain ⟨⟨a0, a1, a2, a3, a4⟩, b0, b1⟩ := HF.out wx hB
   refine Inv.val (.agg #[.int .i64 ag, .int .i64 xf, .slice (some ⟨b, off, none⟩) L cap]) ?_ rfl rfl (Below.refl _ _)
   clear hE hB HF HOF HX
   generalize ac.eval = ev at *
   simp [execOp, go_sem, *]
  ·intro ac wx hE hf hd
   have hB : Below X.heap.size X wx := ⟨hE.1,hE.2,hE.3,hE.4,hE.5⟩
   rw [if_pos (Inv.want0 rfl _)]
   have h1 : ac.eval (.tmp 1) = .int .i64 (ix : Int) := hf 1 (by kernel_rfl)
   clear hf hd
   refine Inv.val (.int .i64 (ix : Int)) ?_ rfl rfl (Below.refl _ _)
   clear hE hB
   generalize ac.eval = ev at *
   simp [execOp, go_sem, *]
  ·intro ac wx hE hf hd
   have hB : Below X.heap.size X wx := ⟨hE.1,hE.2,hE.3,hE.4,hE.5⟩
   rw [if_pos (Inv.want0 rfl _)]
   have h13 := hd 8 _ (by kernel_rfl) rfl
   change ac.eval (.tmp 13) = .agg #[.int .i64 ag, .int .i64 xf, .slice (some ⟨b, off, none⟩) L cap] at h13
   have h14 := hd 9 _ (by kernel_rfl) rfl
   change ac.eval (.tmp 14) = .int .i64 (ix : Int) at h14
   clear hf hd
   refine Inv.go (f := 99) (xs := #[.agg #[.int .i64 ag, .int .i64 xf, .slice (some ⟨b, off, none⟩) L cap], .int .i64 (ix : Int)]) ?_ rfl ?_
   ·clear hE hB HF HX HOF
    have hfn : ac.eval (.func 99) = .func (.func 99) #[] #[] := rfl
    generalize ac.eval = ev at *
    simp [execOp, go_sem, *]
   ·exact (HOF.out wx (HX.out.trans (hB.mono HX.out.size))).mono fun e w' ⟨he, hb⟩ => ⟨_, he, rfl, hb⟩
  ·intro ac wx hE hf hd
   have hB : Below X.heap.size X wx := ⟨hE.1,hE.2,hE.3,hE.4,hE.5⟩
   rw [if_pos (Inv.want0 rfl _)]
   have h10 := hd 5 _ (by kernel_rfl) rfl
   change ac.eval (.tmp 10) = .agg #[.int .i64 s, .int .i64 k] at h10
   have h11 := hd 6 _ (by kernel_rfl) rfl
   change ac.eval (.tmp 11) = .agg #[.int .i64 ag, .int .i64 xf, .slice (some ⟨b, off, none⟩) L cap, .pointer (some ⟨fs, 0, none⟩), .string nb] at h11
   have h15 := hd 10 _ (by kernel_rfl) rfl
   change (fun v W => v = .int .i64 o) (ac.eval (.tmp 15)) wx at h15
   try dsimp only at h15
   clear hf hd
   refine Inv.val (.agg #[.int .i64 s, .int .i64 k, .int .i64 ag, .int .i64 xf, .slice (some ⟨b, off, none⟩) L cap, .pointer (some ⟨fs, 0, none⟩), .string nb, .int .i64 o]) ?_ rfl rfl (Below.refl _ _)
   clear hE hB HF HOF HX
   generalize ac.eval = ev at *
   simp [execOp, go_sem, *]
 case fin =>
  intro ac wx hE ha hall
  have hB : Below X.heap.size X wx := ⟨hE.1,hE.2,hE.3,hE.4,hE.5⟩
  have h5 := hall 0 _ (by decide) rfl
  change ac.eval (.tmp 5) = .pointer (some ⟨p, 0, none⟩) at h5
  have h6 := hall 1 _ (by decide) rfl
  change ac.eval (.tmp 6) = .pointer (some ⟨p, 2, none⟩) at h6
  have h7 := hall 2 _ (by decide) rfl
  change ac.eval (.tmp 7) = .slice (some ⟨b, off, none⟩) L cap at h7
  have h8 := hall 3 _ (by decide) rfl
  change ac.eval (.tmp 8) = .int .i64 (ix : Int) at h8
  have h9 := hall 4 _ (by decide) rfl
  change ac.eval (.tmp 9) = .pointer (some ⟨b, off + ix * 2, none⟩) at h9
  have h10 := hall 5 _ (by decide) rfl
  change ac.eval (.tmp 10) = .agg #[.int .i64 s, .int .i64 k] at h10
  have h11 := hall 6 _ (by decide) rfl
  change ac.eval (.tmp 11) = .agg #[.int .i64 ag, .int .i64 xf, .slice (some ⟨b, off, none⟩) L cap, .pointer (some ⟨fs, 0, none⟩), .string nb] at h11
  have h12 := hall 7 _ (by decide) rfl
  change ac.eval (.tmp 12) = .pointer (some ⟨p, 0, none⟩) at h12
  have h13 := hall 8 _ (by decide) rfl
  change ac.eval (.tmp 13) = .agg #[.int .i64 ag, .int .i64 xf, .slice (some ⟨b, off, none⟩) L cap] at h13
  have h14 := hall 9 _ (by decide) rfl
  change ac.eval (.tmp 14) = .int .i64 (ix : Int) at h14
  have h15 := hall 10 _ (by decide) rfl
  change (fun v W => v = .int .i64 o) (ac.eval (.tmp 15)) wx at h15
  try dsimp only at h15
  generalize hv15 : ac.eval (.tmp 15) = v15 at *
  have h16 := hall 11 _ (by decide) rfl
  change ac.eval (.tmp 16) = .agg #[.int .i64 s, .int .i64 k, .int .i64 ag, .int .i64 xf, .slice (some ⟨b, off, none⟩) L cap, .pointer (some ⟨fs, 0, none⟩), .string nb, .int .i64 o] at h16
  simp only [List.take_succ_cons, List.take_zero, List.foldl, Inv.slot, Act.put] at ha
  change ac.tmps.getD 5 undef = _ at h5
  change ac.tmps.getD 6 undef = _ at h6
  change ac.tmps.getD 7 undef = _ at h7
  change ac.tmps.getD 8 undef = _ at h8
  change ac.tmps.getD 9 undef = _ at h9
  change ac.tmps.getD 10 undef = _ at h10
  change ac.tmps.getD 11 undef = _ at h11
  change ac.tmps.getD 12 undef = _ at h12
  change ac.tmps.getD 13 undef = _ at h13
  change ac.tmps.getD 14 undef = _ at h14
  change ac.tmps.getD 15 undef = _ at hv15
  change ac.tmps.getD 16 undef = _ at h16
  simp only [h5, h6, h7, h8, h9, h10, h11, h12, h13, h14, hv15, h16, List.setIfInBounds_toArray, List.set_cons_zero, List.set_cons_succ] at ha
  clear h5 h6 h7 h8 h9 h10 h11 h12 h13 h14 hv15 h16 hall hE
  subst ha
  simp only [List.drop_succ_cons, List.drop_zero]
  have hrr := HRR.out.below hB HP.out.2
  have hl2 := hrr.lt
  have q0 := hrr.frozen 0
  have q1 := hrr.frozen 1
  have q2 := hrr.frozen 2
  have q3 := hrr.frozen 3
  have q4 := hrr.frozen 4
  have q5 := hrr.frozen 5
  have q6 := hrr.frozen 6
  have q7 := hrr.frozen 7
  have y0 := hrr.cell 0
  have y1 := hrr.cell 1
  have y2 := hrr.cell 2
  have y3 := hrr.cell 3
  have y4 := hrr.cell 4
  have y5 := hrr.cell 5
  have y6 := hrr.cell 6
  have y7 := hrr.cell 7
  simp only [List.getElem?_toArray, List.getElem?_cons_succ, List.getElem?_cons_zero] at y0 y1 y2 y3 y4 y5 y6 y7
  have HB2 := Lib.hid (HX.out.trans (hB.mono HX.out.size))
  have HQ2 := Lib.hid HP.out.1
  have HR0 := Lib.hid hrr
  clear hB hrr HRR HF HOF HX HP
  go_wp2_with fail
  clear q0 q1 q2 q3 q4 q5 q6 q7 y0 y1 y2 y3 y4 y5 y6 y7
  have HZ : Hid (RowAt ((((((((wx.setCell ⟨q, 0, none⟩ (.int .i64 s)).setCell ⟨q, 1, none⟩ (.int .i64 k)).setCell ⟨q, 2, none⟩ (.int .i64 ag)).setCell ⟨q, 3, none⟩ (.int .i64 xf)).setCell ⟨q, 4, none⟩ (.slice (some ⟨b, off, none⟩) L cap)).setCell ⟨q, 5, none⟩ (.pointer (some ⟨fs, 0, none⟩))).setCell ⟨q, 6, none⟩ (.string nb)).setCell ⟨q, 7, none⟩ (.int .i64 o)) q 137 #[.int .i64 s, .int .i64 k, .int .i64 ag, .int .i64 xf, .slice (some ⟨b, off, none⟩) L cap, .pointer (some ⟨fs, 0, none⟩), .string nb, .int .i64 o]) := Lib.hid (row_set8 HR0.out)
  have HBZ : Hid (Below w.heap.size w ((((((((wx.setCell ⟨q, 0, none⟩ (.int .i64 s)).setCell ⟨q, 1, none⟩ (.int .i64 k)).setCell ⟨q, 2, none⟩ (.int .i64 ag)).setCell ⟨q, 3, none⟩ (.int .i64 xf)).setCell ⟨q, 4, none⟩ (.slice (some ⟨b, off, none⟩) L cap)).setCell ⟨q, 5, none⟩ (.pointer (some ⟨fs, 0, none⟩))).setCell ⟨q, 6, none⟩ (.string nb)).setCell ⟨q, 7, none⟩ (.int .i64 o))) := Lib.hid (below_set8 HB2.out HQ2.out)
  generalize ((((((((wx.setCell ⟨q, 0, none⟩ (.int .i64 s)).setCell ⟨q, 1, none⟩ (.int .i64 k)).setCell ⟨q, 2, none⟩ (.int .i64 ag)).setCell ⟨q, 3, none⟩ (.int .i64 xf)).setCell ⟨q, 4, none⟩ (.slice (some ⟨b, off, none⟩) L cap)).setCell ⟨q, 5, none⟩ (.pointer (some ⟨fs, 0, none⟩))).setCell ⟨q, 6, none⟩ (.string nb)).setCell ⟨q, 7, none⟩ (.int .i64 o)) = Y at *
  have y0 := HZ.out.cell 0
  have y1 := HZ.out.cell 1
  have y2 := HZ.out.cell 2
  have y3 := HZ.out.cell 3
  have y4 := HZ.out.cell 4
  have y5 := HZ.out.cell 5
  have y6 := HZ.out.cell 6
  have y7 := HZ.out.cell 7
  simp only [List.getElem?_toArray, List.getElem?_cons_succ, List.getElem?_cons_zero] at y0 y1 y2 y3 y4 y5 y6 y7
  refine bodyPost_ret (v := .agg #[.int .i64 s, .int .i64 k, .int .i64 ag, .int .i64 xf, .slice (some ⟨b, off, none⟩) L cap, .pointer (some ⟨fs, 0, none⟩), .string nb, .int .i64 o]) (by simp [results, Tryz.results65, go_sem, y0, y1, y2, y3, y4, y5, y6, y7]) rfl ⟨rfl, HBZ.out⟩
end
end Go.Proofs.YtbakngbmfgnmcaaGreatDoor
