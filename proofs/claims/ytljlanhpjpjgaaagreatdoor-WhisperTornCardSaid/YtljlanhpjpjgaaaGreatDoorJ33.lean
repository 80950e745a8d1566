/- VpMake VpWrite WpPO -/
import Derived.Test.YtljlanhpjpjgaaaGreatDoorJ1
import Derived.Test.YtljlanhpjpjgaaaGreatDoorJ32
import Derived.Deep.RegionWith
import Derived.BigQuiet
import Derived.Deep.QuietTactic
import Derived.Test.YtljlanhpjpjgaaaGreatDoorJ4
namespace Go.Proofs.YtljlanhpjpjgaaaGreatDoor
set_option maxRecDepth 100000
set_option maxHeartbeats 8000000
section
open Go.RowKit
open Me Vf
theorem create_note {w W2 w3 : World} {M : Nat → Prop} {fs N : Nat} {S : Vf.Sv} {mb lr : Option Nat} {I : Nat → Prop} {db : Nat → Nat} {G : Nat → Prop} {c : Vp.Co} {j : List Vp.Op} {lv mv : Value} {ys : List Value} {k id d : Nat} {n b : List UInt8} {e : Ending}
 (h1 : Vp.Pt w fs mb lr I db G S.room c j N lv mv ys) (h2 : Vp.Hist S.was c j S.l.reverse) (h3 : S.now = Vf.rep S.was S.l) (h4 : ∀ b, Vp.Own fs mb lr I db G b → M b) (hk : k + j.length ≤ N) (hN : N ≤ 1048575) (hn : c.map n = none) (hn1 : n.length ≤ 255) (hb1 : b.length ≤ 1073741824)
 (hB : Below w.heap.size w W2) (hid : w.heap.size ≤ id) (hd : w.heap.size ≤ d) (hf : W2.heap[id]? = some (Vp.flC n d b.length)) (hbb : W2.heap[d]? = some (Vp.btC b))
 (hp : Vp.Putten W2 fs mb (k + 1) lv S.room (c.used + b.length) (Vp.setM c.map n (some id)) e w3) :
 Calls Tryz.prog 66 #[.pointer (some ⟨fs, 0, none⟩), .agg #[.int .i64 1, .pointer (some ⟨id, 0, none⟩), .int .i64 0, .slice none 0 0]] w3 fun e w' => e = .returned (.tuple #[]) ∧ Vp.Left w M fs (N + 2) (S.act ⟨1, n, 0, b⟩) w' := by
 have hnI : ¬ I id := fun h => by have := h1.lt (.inr (.inr (.inr (.inl h)))); omega
 have hl := h1.laid (f := ⟨n, b⟩) hB hid hd hf hbb hn1 hb1
 have h0 : (c.lay id ⟨n, b⟩).sto id = ⟨n, b⟩ := Vp.setS_same _ _ _
 have hput : (c.lay id ⟨n, b⟩).put id = ⟨Vp.setM c.map n (some id), (c.lay id ⟨n, b⟩).sto, c.used + (b.length : Int)⟩ := by unfold Vp.Co.put; rw [h0]; rfl
 obtain ⟨mb', mv', p1, p2, p3⟩ := hl.putten (k' := k + 1) (N' := N + 1) hp (by omega) ⟨fun m i e => by
  have e : Vp.setM c.map n (some id) m = some i := e
  unfold Vp.setM at e
  split at e
  ·obtain rfl := Option.some.inj e
   exact .inr rfl
  ·exact .inl (h1.live.1 m i e), fun o ho => .inl (h1.live.2 o ho)⟩
 have hs : ∃ b, mb' = some b := by
  obtain ⟨kk, _, hm⟩ := p1.map
  exact hm.some_ (n := n) (id := id) (Vp.setM_same _ _ _)
 have hh := h2.create h1.live (n := n) (b := b) hn hnI
 rw [hput] at hh
 refine note_last (o := ⟨1, id, 0, []⟩) (a := ⟨1, n, 0, b⟩) p1 (by omega) hh h3 (.inr rfl) hs (nil_bs _ _) ((Kp.of_below hB).trans p2 (fun i hi e => ?_)) (Vp.own_map (n := W2.heap.size) (fun b' hb' => ?_) p3 (fun b' hb' => .inr (Nat.le_trans hB.size hb')))
 ·rcases e with e | e
  ·exact h4 i (.inl e)
  ·exact h4 i (.inr (.inl e))
 ·rcases hb' with hb | hb | hb | hb | ⟨i, hi, hb⟩ | hb
  ·exact .inl (h4 b' (.inl hb))
  ·exact .inl (h4 b' (.inr (.inl hb)))
  ·exact .inl (h4 b' (.inr (.inr (.inl hb))))
  ·rcases hb with hb | rfl
   ·exact .inl (h4 b' (.inr (.inr (.inr (.inl hb)))))
   ·exact .inr hid
  ·have hb : (if i = id then d else db i) = b' := hb
   by_cases e : i = id
   ·rw [if_pos e] at hb
    exact .inr (by omega)
   ·rw [if_neg e] at hb
    rcases hi with hi | hi
    ·exact .inl (h4 b' (.inr (.inr (.inr (.inr (.inl ⟨i, hi, hb⟩))))))
    ·exact absurd hi e
  ·exact .inl (h4 b' (.inr (.inr (.inr (.inr (.inr hb))))))
theorem pcreate_any {w : World} {M Gq : Nat → Prop} {fs N : Nat} {S : Vf.Sv} (h : Vp.Pg w M fs N S) (n : List UInt8) (ps : List (List UInt8)) (pv : Value) (hp : Vf.Ps w Gq pv ps)
 (hN : N ≤ 1048575) (hu : Vf.used S.now ≤ 4294967296) (hr0 : 0 ≤ S.room) (hr1 : S.room ≤ 1073741824) (hpl : ps.length ≤ 1048576) (hpt : ps.flatten.length ≤ 1073741824) (hGq : ∀ b, Gq b → b < w.heap.size) :
 Calls Tryz.prog 29 #[.pointer (some ⟨fs, 0, none⟩), .string ⟨n.toArray⟩, pv] w (Vp.PNext w M fs (N + 2) (Vf.create S n ps.flatten).1 (.int .i64 (Vf.create S n ps.flatten).2)) := by
 have hg := h
 obtain ⟨mb, lr, I, db, G, c, j, lv, mv, ys, h1, h2, h3, h4⟩ := h
 have hv := Vp.view_now h2 h3
 obtain ⟨k, hk, hm⟩ := h1.map
 have HI := Lib.hid (isName_any n w)
 have HL := Lib.hid (length_any ps pv Gq w hp hpl (by omega))
 obtain ⟨c0, c1, c2, c3, cf, fsl⟩ := Vp.fs_cells h1.heap
 have u0 : 0 ≤ c.used := by rw [hv.used]; omega
 have u1 : c.used ≤ 4294967296 := by rw [hv.used]; omega
 have HG := Lib.hid (hg.more (N' := N + 2) (by omega))
 have hpf : ∃ A m c, pv = .slice A m c := by
  obtain ⟨A, c, xs, e, _⟩ := hp
  exact ⟨A, _, c, e⟩
 cases hi : Vf.is n
 ·rw [hi] at HI
  have HR := Lib.hid (Vp.create_bad (S := S) (b := ps.flatten) hi)
  obtain ⟨A, m, cc, rfl⟩ := hpf
  clear h1 h2 h3 h4 hv hm hi hg hp cf
  generalize ps.flatten = b at *
  go_enter Tryz.func29, Tryz.ntmps29
  go_wp2_with (go_at_call 61; ((with_reducible refine (HI.out).mono ?_); rintro e w' ⟨rfl, rfl⟩))
  go_ret
  exact Vp.PNext.same HG.out HR.out
 ·rw [hi] at HI
  have hnl : n.length ≤ 255 := by unfold Vf.is at hi; simp at hi; omega
  have hlook := hm.look (n := n) (by omega)
  cases hn : c.map n with
  | some id =>
    have HR := Lib.hid (Vp.create_has (b := ps.flatten) hv hi hn)
    rw [hn] at hlook
    unfold Vp.ptr at hlook
    obtain ⟨A, m, cc, rfl⟩ := hpf
    clear h1 h2 h3 h4 hv hm hi hg hp cf hn
    generalize ps.flatten = b at *
    go_enter Tryz.func29, Tryz.ntmps29
    go_wp2_with (go_at_call 61; ((with_reducible refine (HI.out).mono ?_); rintro e w' ⟨rfl, rfl⟩))
    go_ret
    exact Vp.PNext.same HG.out HR.out
  | none =>
    rw [hn] at hlook
    unfold Vp.ptr at hlook
    have hw1 : IntKind.i64.wrap (S.room - c.used) = S.room - c.used := IntWalk.i64_in _ (by omega)
    by_cases hb : S.room - c.used < (ps.flatten.length : Int)
    ·have HR := Lib.hid (Vp.create_full hv hi hn hb)
     obtain ⟨A, m, cc, rfl⟩ := hpf
     clear h1 h2 h3 h4 hv hm hi hg hp cf hn
     have hpt' : (ps.flatten.length : Int) ≤ 1073741824 := by omega
     generalize hbb : ps.flatten = b at *
     clear hbb
     go_enter Tryz.func29, Tryz.ntmps29
     go_wp2_with (first | (go_at_call 61; ((with_reducible refine (HI.out).mono ?_); rintro e w' ⟨rfl, rfl⟩)) | (go_at_call 62; ((with_reducible refine (HL.out).mono ?_); rintro e w' ⟨rfl, rfl⟩)))
     go_quiet (fail)
     all_goals
      go_wp2_with fail
      go_ret
      exact ⟨by rw [HR.out]; rfl, M, by rw [HR.out]; exact HG.out.below ⟨rfl, rfl, rfl, Nat.le_refl _, fun _ _ => rfl⟩, (Kp.refl _ _).drewN _, fun b hb => .inl hb⟩
    ·have HR := Lib.hid (Vp.create_ok hv hi hn hb)
     have HC : Hid (∀ W : World, Calls Tryz.prog 63 #[.string ⟨n.toArray⟩] W fun e w' => e = .returned (.string ⟨n.toArray⟩) ∧ Below W.heap.size W w') := Lib.hid (fun W => strClone_any n W (by omega))
     have hmk := make_bytes ps.flatten.length (by omega)
     have hpt' : (ps.flatten.length : Int) ≤ 1073741824 := by omega
     obtain ⟨A, m, cc, rfl⟩ := hpf
     have HFILL : Hid (∀ (W : World) (d : Nat), Below w.heap.size w W → w.heap.size ≤ d → W.heap[d]? = some (Vp.btC (noughts ps.flatten.length)) → Calls Tryz.prog 64 #[.slice (some ⟨d, 0, none⟩) ps.flatten.length ps.flatten.length, .slice A m cc] W (Vp.Filled W d ps.flatten)) := Lib.hid fun W d hB hd hh => by
      have := fill_any ps (.slice A m cc) Gq W d 0 ps.flatten.length ps.flatten.length (noughts ps.flatten.length) hh (hp.keep hB.size (fun i hi _ => hB.block i hi)) (fun i hi e => by have := hGq i hi; omega) rfl (by rw [noughts_len]; omega) (Nat.le_refl _) (by omega) hpl
      rw [upd_all (by rw [noughts_len])] at this
      exact this
     have HPUT : Hid (∀ (W : World) (id d : Nat), Below w.heap.size w W → W.heap[id]? = some (Vp.flC n d ps.flatten.length) → Calls Tryz.prog 65 #[.pointer (some ⟨fs, 0, none⟩), .pointer (some ⟨id, 0, none⟩)] W (Vp.Putten W fs mb (k + 1) lv S.room (c.used + ps.flatten.length) (Vp.setM c.map n (some id)))) := Lib.hid fun W id d hB hh => by
      have hW := h1.below hB
      exact put_any hW.heap (hm.keep (fun b hb => hB.block b (hm.lt hb).1)) hh (by omega) (by omega) (by omega) (by omega) (by omega)
     have HNOTE : Hid (∀ (W2 w3 : World) (id d : Nat), Below w.heap.size w W2 → w.heap.size ≤ id → w.heap.size ≤ d → W2.heap[id]? = some (Vp.flC n d ps.flatten.length) → W2.heap[d]? = some (Vp.btC ps.flatten) → Vp.Putten W2 fs mb (k + 1) lv S.room (c.used + ps.flatten.length) (Vp.setM c.map n (some id)) (.returned (.tuple #[])) w3 →
      Calls Tryz.prog 66 #[.pointer (some ⟨fs, 0, none⟩), .agg #[.int .i64 1, .pointer (some ⟨id, 0, none⟩), .int .i64 0, .slice none 0 0]] w3 fun e w' => e = .returned (.tuple #[]) ∧ Vp.Left w M fs (N + 2) (S.act ⟨1, n, 0, ps.flatten⟩) w') := Lib.hid fun W2 w3 id d hB h5 h6 h7 h8 h9 =>
      create_note h1 h2 h3 h4 hk hN hn hnl hpt hB h5 h6 h7 h8 h9
     clear h2 h3 h4 hv hm hi hg hp cf hn h1 hGq
     generalize ps.flatten = b at *
     go_enter Tryz.func29, Tryz.ntmps29
     go_wp2_with (first | (go_at_call 61; ((with_reducible refine (HI.out).mono ?_); rintro e w' ⟨rfl, rfl⟩)) | (go_at_call 62; ((with_reducible refine (HL.out).mono ?_); rintro e w' ⟨rfl, rfl⟩)))
     go_region
     all_goals
      go_wp2_with fail
      go_region_with (go_at_call 63; (with_reducible refine (HC.out _).mono ?_); rintro e w1 ⟨rfl, hb1⟩)
      all_goals
       first
        | (obtain ⟨W, hW⟩ : ∃ W, W = (w1.alloc (.cells (by8 (noughts b.length)).toArray 5)).alloc (.cells #[.string ⟨n.toArray⟩, .slice (some ⟨w1.heap.size, 0, none⟩) b.length b.length] 131) := ⟨_, rfl⟩
           rw [← hW]
           obtain ⟨id, hid⟩ : ∃ id, id = w1.heap.size + 1 := ⟨_, rfl⟩
           obtain ⟨d, hd⟩ : ∃ d, d = w1.heap.size := ⟨_, rfl⟩
           have hb2 : Below w.heap.size w w1 := ⟨hb1.os, hb1.tape, hb1.output, hb1.size, hb1.block⟩
           have hsz := hb2.size
           have HB : Below w.heap.size w W := hW ▸ ((hb2.alloc hsz _).alloc (by simp; omega) _)
           have HF : W.heap[id]? = some (Vp.flC n d b.length) := by
            have := heap_alloc_new (w1.alloc (.cells (by8 (noughts b.length)).toArray 5)) (.cells #[.string ⟨n.toArray⟩, .slice (some ⟨w1.heap.size, 0, none⟩) b.length b.length] 131)
            have hs9 : (w1.alloc (.cells (by8 (noughts b.length)).toArray 5)).heap.size = w1.heap.size + 1 := by simp
            rw [← hW, hs9] at this
            rw [hid, hd]
            exact this
           have HD : W.heap[d]? = some (Vp.btC (noughts b.length)) := by
            rw [hW, hd, Below.heap_alloc _ _ w1.heap.size (by simp)]
            exact heap_alloc_new w1 _
           have g1 : w.heap.size ≤ id := by omega
           have g2 : w.heap.size ≤ d := by omega
           have g3 : id ≠ d := by omega
           rw [← hid, ← hd]
           clear hW hid hd hb1 hb2 hsz)
        | (obtain ⟨W, hW⟩ : ∃ W, W = w1.alloc (.cells #[.string ⟨n.toArray⟩, .slice (some ⟨w.heap.size, 0, none⟩) b.length b.length] 131) := ⟨_, rfl⟩
           rw [← hW]
           obtain ⟨id, hid⟩ : ∃ id, id = w1.heap.size := ⟨_, rfl⟩
           obtain ⟨d, hd⟩ : ∃ d, d = w.heap.size := ⟨_, rfl⟩
           have hb2 : Below (w.alloc (.cells (by8 (noughts b.length)).toArray 5)).heap.size (w.alloc (.cells (by8 (noughts b.length)).toArray 5)) w1 := ⟨hb1.os, hb1.tape, hb1.output, hb1.size, hb1.block⟩
           have hs0 : (w.alloc (.cells (by8 (noughts b.length)).toArray 5)).heap.size = w.heap.size + 1 := by simp
           have hsz := hb2.size
           rw [hs0] at hsz
           have hb3 : Below w.heap.size w w1 := ((Below.refl _ _).alloc (Nat.le_refl _) _).trans (hb2.mono (by omega))
           have HB : Below w.heap.size w W := hW ▸ (hb3.alloc (by omega) _)
           have HF : W.heap[id]? = some (Vp.flC n d b.length) := by
            rw [hW, hid, hd]
            exact heap_alloc_new w1 _
           have HD : W.heap[d]? = some (Vp.btC (noughts b.length)) := by
            rw [hW, hd, Below.heap_alloc _ _ w.heap.size (by omega)]
            exact (hb2.block w.heap.size (by omega)).trans (heap_alloc_new w _)
           have g1 : w.heap.size ≤ id := by omega
           have g2 : w.heap.size ≤ d := by omega
           have g3 : id ≠ d := by omega
           rw [← hid, ← hd]
           clear hW hid hd hb1 hb2 hb3 hsz hs0)
       obtain ⟨e0, e1, idl⟩ := Vp.fl_cells HF
       have HF1 := Lib.hid (HFILL.out W d HB g2 HD)
       have HF' := Lib.hid HF
       have g1' := Lib.hid g1
       have g2' := Lib.hid g2
       have g3' := Lib.hid g3
       have HB' := Lib.hid HB
       clear HF HD g1 g2 g3 HB HFILL c0 c1 c2 c3 hlook
       go_wp2_with (first | (go_at_call 64; (with_reducible refine (HF1.out).mono ?_); rintro e W2 ⟨rfl, hd2, hk2, hs2⟩; have HB2 : Hid (Below w.heap.size w W2) := Lib.hid (((Kp.of_below (O := fun i => i = d) HB'.out).trans hk2 (fun i hi e => e)).below (Nat.le_refl _) (fun i hi e => by have := g2'.out; omega)); have HFL2 : Hid (W2.heap[id]? = some (Vp.flC n d b.length)) := Lib.hid ((hk2.block id idl g3'.out).trans HF'.out); have HD2 := Lib.hid hd2; have HX := Lib.hid (HPUT.out W2 id d HB2.out HFL2.out); clear hd2 hk2 hs2) | (go_at_call 65; (with_reducible refine (HX.out).mono ?_); rintro e w3 hp3; obtain rfl := hp3.1; have HY := Lib.hid (HNOTE.out W2 w3 id d HB2.out g1'.out g2'.out HFL2.out HD2.out hp3); clear hp3) | (go_at_call 66; (with_reducible refine (HY.out).mono ?_); rintro e w4 ⟨rfl, hl⟩; have HLL := Lib.hid hl; clear hl))
       go_ret
       exact Vp.Left.next HLL.out HR.out
end
section
open Go.RowKit
open Me Vf
theorem pwrite_any {w : World} {M Gq : Nat → Prop} {fs N : Nat} {S : Vf.Sv} (h : Vp.Pg w M fs N S) (n : List UInt8) (t : Int) (ps : List (List UInt8)) (pv : Value) (hp : Vf.Ps w Gq pv ps) (hti : t ≤ 9223372036854775807)
 (hN : N ≤ 1048575) (hpl : ps.length ≤ 1048576) (hpt : ps.flatten.length ≤ 1073741824) (hGq : ∀ b, Gq b → b < w.heap.size ∧ ¬ M b) :
 Calls Tryz.prog 40 #[.pointer (some ⟨fs, 0, none⟩), .string ⟨n.toArray⟩, .int .i64 t, pv] w (Vp.PNext w M fs (N + 2) (Vf.write S n t ps.flatten).1 (.int .i64 (Vf.write S n t ps.flatten).2)) := by
 have hg := h
 obtain ⟨mb, lr, I, db, G, c, j, lv, mv, ys, h1, h2, h3, h4⟩ := h
 have hv := Vp.view_now h2 h3
 obtain ⟨k, hk, hm⟩ := h1.map
 have HL := Lib.hid (length_any ps pv Gq w hp hpl (by omega))
 have HG := Lib.hid (hg.more (N' := N + 2) (by omega))
 have hpf : ∃ A m c, pv = .slice A m c := by
  obtain ⟨A, c, xs, e, _⟩ := hp
  exact ⟨A, _, c, e⟩
 obtain ⟨A, m, cc, rfl⟩ := hpf
 cases hi : Vf.is n
 ·have HF := Lib.hid (find_bad (w := w) fs n hi)
  have HR := Lib.hid (Vp.write_bad (S := S) (t := t) (b := ps.flatten) hi)
  clear h1 h2 h3 h4 hv hm hi hg hp hGq
  generalize ps.flatten = b at *
  go_enter Tryz.func40, Tryz.ntmps40
  go_wp2_with (go_at_call 78; ((with_reducible refine (HF.out).mono ?_); rintro e w' ⟨rfl, rfl⟩))
  go_ret
  exact Vp.PNext.same HG.out HR.out
 ·cases hn : c.map n with
  | none =>
    have HF := Lib.hid (find_none h1.heap hm n hi hn)
    have HR := Lib.hid (Vp.write_none (t := t) (b := ps.flatten) hv hi hn)
    clear h1 h2 h3 h4 hv hm hi hn hg hp hGq
    generalize ps.flatten = b at *
    go_enter Tryz.func40, Tryz.ntmps40
    go_wp2_with (go_at_call 78; ((with_reducible refine (HF.out).mono ?_); rintro e w' ⟨rfl, rfl⟩))
    go_ret
    exact Vp.PNext.same HG.out HR.out
  | some id =>
    have HF := Lib.hid (find_some h1.heap hm n hi hn)
    have hid := h1.live.1 n id hn
    obtain ⟨f1, f2, f3, f4⟩ := h1.file id hid
    obtain ⟨e0, e1, hidl⟩ := Vp.fl_cells f1
    have hl : ((c.sto id).b.length : Int) ≤ 1073741824 := by omega
    have hpt' : (ps.flatten.length : Int) ≤ 1073741824 := by omega
    by_cases ht : t < 0
    ·have HR := Lib.hid (Vp.write_off (t := t) (b := ps.flatten) hv hi hn (.inl ht))
     clear h1 h2 h3 h4 hv hm hi hn hg hp hGq f1 f2 f3 f4
     generalize hbb : ps.flatten = b at *
     clear hbb
     generalize (c.sto id).b = bb at *
     go_enter Tryz.func40, Tryz.ntmps40
     go_wp2_with (first | (go_at_call 78; ((with_reducible refine (HF.out).mono ?_); rintro e w' ⟨rfl, rfl⟩)) | (go_at_call 62; ((with_reducible refine (HL.out).mono ?_); rintro e w' ⟨rfl, rfl⟩)))
     go_ret
     exact Vp.PNext.same HG.out HR.out
    ·obtain ⟨t, rfl⟩ : ∃ t' : Nat, t = (t' : Int) := ⟨t.toNat, by omega⟩
     clear ht
     have hwr : IntKind.i64.wrap (((c.sto id).b.length : Int) - (t : Int)) = ((c.sto id).b.length : Int) - (t : Int) := IntWalk.i64_in _ (by omega)
     by_cases hb : ((c.sto id).b.length : Int) - (t : Int) < (ps.flatten.length : Int)
     ·have HR := Lib.hid (Vp.write_off (t := (t : Int)) (b := ps.flatten) hv hi hn (.inr hb))
      clear h1 h2 h3 h4 hv hm hi hn hg hp hGq f1 f2 f3 f4
      generalize hbb : ps.flatten = b at *
      clear hbb
      generalize (c.sto id).b = bb at *
      go_enter Tryz.func40, Tryz.ntmps40
      go_wp2_with (first | (go_at_call 78; ((with_reducible refine (HF.out).mono ?_); rintro e w' ⟨rfl, rfl⟩)) | (go_at_call 62; ((with_reducible refine (HL.out).mono ?_); rintro e w' ⟨rfl, rfl⟩)))
      go_ret
      exact Vp.PNext.same HG.out HR.out
     ·have hfit : t + ps.flatten.length ≤ (c.sto id).b.length := by omega
      have HR := Lib.hid (Vp.write_ok (b := ps.flatten) hv hi hn hfit)
      have hw2 : IntKind.i64.wrap ((t : Int) + (ps.flatten.length : Int)) = ((t + ps.flatten.length : Nat) : Int) := by rw [IntWalk.i64_in _ (by omega)]; omega
      obtain ⟨o, ho⟩ : ∃ o, o = if (c.sto id).b.length = t then 0 else t := ⟨_, rfl⟩
      obtain ⟨l, hll⟩ : ∃ l, l = ((c.sto id).b.drop t).take ps.flatten.length := ⟨_, rfl⟩
      have hlen : l.length = ps.flatten.length := by rw [hll]; exact Vp.take_drop_len hfit
      have hou : upd (c.sto id).b o ps.flatten = upd (c.sto id).b t ps.flatten := by
       rw [ho]
       split
       ·have : ps.flatten = [] := List.eq_nil_of_length_eq_zero (by omega)
        rw [this, Vp.upd_nil, Vp.upd_nil]
       ·rfl
      have hof : o + ps.flatten.length ≤ (c.sto id).b.length := by rw [ho]; split <;> omega
      have hol : l = ((c.sto id).b.drop o).take ps.flatten.length := by
       rw [hll, ho]
       split
       ·have : ps.flatten.length = 0 := by omega
        rw [this, List.take_zero, List.take_zero]
       ·rfl
      have HCL := Lib.hid (fun (W : World) (hh : W.heap[db id]? = some (Vp.btC (c.sto id).b)) => slcClone_any l (db id) o ((c.sto id).b.length - t) (fun b => b = db id) W (by rw [hol]; exact Rd.block (G := fun b => b = db id) hh rfl o _) (by rw [hlen]; omega))
      have HCL2 : Hid (∀ W : World, W.heap[db id]? = some (Vp.btC (c.sto id).b) → Calls Tryz.prog 79 #[.slice (some ⟨db id, o, none⟩) ps.flatten.length ((c.sto id).b.length - t)] W (Vf.Made W l)) := Lib.hid fun W hh => by
       have := HCL.out W hh
       rw [hlen] at this
       exact this
      have HB2 := Lib.hid f2
      have HNOTE : Hid (∀ (W : World) (v : Value), Below w.heap.size w W → Bs W (fun b => w.heap.size ≤ b) v l → Calls Tryz.prog 66 #[.pointer (some ⟨fs, 0, none⟩), .agg #[.int .i64 2, .pointer (some ⟨id, 0, none⟩), .int .i64 (t : Int), v]] W fun e w' => e = .returned (.tuple #[]) ∧
       ∃ lr' G' lv' ys', Vp.Pt w' fs mb lr' I db G' S.room c (⟨2, id, t, l⟩ :: j) (N + 1) lv' mv ys' ∧ Kp M w w' ∧ (∀ b, Vp.Own fs mb lr' I db G' b → M b ∨ w.heap.size ≤ b)) := Lib.hid fun W v hB hbs => by
       have hW := h1.below hB
       have hof' : ∃ A m c, v = .slice A m c := by
        obtain ⟨A, c, e, _⟩ := hbs
        exact ⟨A, _, c, e⟩
       refine (note_any (n := j.length) (ys := ys) (on := id) (at_ := t) (kind := 2) (old := v) hW.heap hW.own (by omega) hof').mono ?_
       intro e w' hp2
       obtain rfl := hp2.1
       rw [hW.row] at hp2
       obtain ⟨lr', lv', ys', p1, p2, p3⟩ := hW.noted (o := ⟨2, id, t, l⟩) (G' := fun b => G b ∨ (w.heap.size ≤ b ∧ b < W.heap.size)) hp2 hid (hm.some_ hn) (hbs.mono (fun b hb hg => .inr ⟨hg, hb⟩)) (fun b hb => .inl hb) (fun b hb => by
        rcases hb with hb | ⟨hb, hb2⟩
        ·exact hW.g b hb
        ·refine ⟨hb2, fun e => ?_, fun e => ?_, fun e => ?_, fun e => ?_, fun i hi e => ?_⟩
         ·have := h1.lt (.inl e); omega
         ·have := h1.lt (.inr (.inl e)); omega
         ·have := h1.lt (.inr (.inr (.inl e))); omega
         ·have := h1.lt (.inr (.inr (.inr (.inl e)))); omega
         ·have := h1.lt (.inr (.inr (.inr (.inr (.inl ⟨i, hi, e⟩))))); omega)
       refine ⟨rfl, lr', _, lv', ys', p1, (Kp.of_below hB).trans p2 (fun i hi e => ?_), fun b hb => ?_⟩
       ·rcases e with e | e
        ·exact h4 i (.inl e)
        ·exact h4 i (.inr (.inr (.inl e)))
       ·rcases hb with hb | hb | hb | hb | hb | hb | hb
        ·exact .inl (h4 b (.inl hb))
        ·exact .inl (h4 b (.inr (.inl hb)))
        ·rcases p3 with p3 | ⟨b', e, p3⟩
         ·exact .inl (h4 b (.inr (.inr (.inl (p3.symm.trans hb)))))
         ·rw [hb] at e
          obtain rfl := Option.some.inj e
          exact .inr (Nat.le_trans hB.size p3)
        ·exact .inl (h4 b (.inr (.inr (.inr (.inl hb)))))
        ·exact .inl (h4 b (.inr (.inr (.inr (.inr (.inl hb))))))
        ·exact .inl (h4 b (.inr (.inr (.inr (.inr (.inr hb))))))
        ·exact .inr hb.1
      have HFILL : Hid (∀ (W : World), (∃ lr' G' lv' ys', Vp.Pt W fs mb lr' I db G' S.room c (⟨2, id, t, l⟩ :: j) (N + 1) lv' mv ys' ∧ Kp M w W ∧ (∀ b, Vp.Own fs mb lr' I db G' b → M b ∨ w.heap.size ≤ b)) →
       Calls Tryz.prog 64 #[.slice (some ⟨db id, o, none⟩) ps.flatten.length ((c.sto id).b.length - t), .slice A m cc] W fun e w' => e = .returned (.tuple #[]) ∧ Vp.Left w M fs (N + 1) (S.act ⟨2, n, t, ps.flatten⟩) w') := Lib.hid fun W hW => by
       obtain ⟨lr', G', lv', ys', q1, q2, q3⟩ := hW
       have hMd : M (db id) := h4 _ (.inr (.inr (.inr (.inr (.inl ⟨id, hid, rfl⟩)))))
       have := fill_any ps (.slice A m cc) Gq W (db id) o ps.flatten.length ((c.sto id).b.length - t) (c.sto id).b (q1.file id hid).2.1 (hp.keep q2.size (fun i hi hg => q2.block i hi (hGq i hg).2)) (fun i hi e => (hGq i hi).2 (e ▸ hMd)) rfl hof (by omega) (by omega) hpl
       refine this.mono ?_
       rintro e w' ⟨rfl, g1, g2, g3⟩
       rw [hou] at g1
       refine ⟨rfl, Vp.act_end (q1.filled hid hfit g1 g2) ?_ h3 (q2.trans g2 (fun i hi e => by subst e; exact hMd)) q3⟩
       have := h2.write hn hfit
       rw [← hll] at this
       exact this
      clear hpt
      have h0t : (0 : Int) ≤ (t : Int) := by omega
      have htl : (t : Int) ≤ ((c.sto id).b.length : Int) := by omega
      have htl' : t ≤ (c.sto id).b.length := by omega
      have htp : t + ps.flatten.length ≤ (c.sto id).b.length := hfit
      clear h1 h2 h3 h4 hv hm hi hn hg hp hGq f1 f2 f3 f4 HCL hlen hou hof hol hll hid
      generalize hbb : ps.flatten = b at *
      clear hbb
      generalize (c.sto id).b = bb at *
      generalize db id = d at *
      by_cases he : bb.length = t
      ·rw [if_pos he] at ho
       subst ho
       subst he
       have hz : b.length = 0 := by omega
       rw [hz, Nat.sub_self] at HCL2 HFILL
       clear hz
       have HC3 := Lib.hid (HCL2.out w.drew HB2.out)
       clear HCL2
       go_enter Tryz.func40, Tryz.ntmps40
       go_wp2_with (first | (go_at_call 78; ((with_reducible refine (HF.out).mono ?_); rintro e w' ⟨rfl, rfl⟩)) | (go_at_call 62; ((with_reducible refine (HL.out).mono ?_); rintro e w' ⟨rfl, rfl⟩)))
       go_region_with (first | (go_at_call 79; (with_reducible refine (HC3.out).mono ?_); rintro e w1 ⟨v1, rfl, hbs1, hb1⟩; have HN1 := Lib.hid (HNOTE.out w1 v1 ⟨hb1.os, hb1.tape, hb1.output, hb1.size, hb1.block⟩ hbs1); obtain ⟨A1, cc1, rfl, _⟩ := hbs1) | (go_at_call 66; (with_reducible refine (HN1.out).mono ?_); rintro e w2 ⟨rfl, hx⟩; have HF2 := Lib.hid (HFILL.out w2 hx); clear hx))
       all_goals
        go_wp2_with (go_at_call 64; (with_reducible refine (HF2.out).mono ?_); rintro e w3 ⟨rfl, hx⟩; have HLL := Lib.hid hx; clear hx)
        go_ret
        obtain ⟨M', q1, q2⟩ := HLL.out
        exact Vp.Left.next ⟨M', q1.more (by omega), q2⟩ HR.out
      ·rw [if_neg he] at ho
       subst ho
       have HC3 := Lib.hid (HCL2.out w.drew HB2.out)
       clear HCL2
       go_enter Tryz.func40, Tryz.ntmps40
       go_wp2_with (first | (go_at_call 78; ((with_reducible refine (HF.out).mono ?_); rintro e w' ⟨rfl, rfl⟩)) | (go_at_call 62; ((with_reducible refine (HL.out).mono ?_); rintro e w' ⟨rfl, rfl⟩)))
       go_region_with (first | (go_at_call 79; (with_reducible refine (HC3.out).mono ?_); rintro e w1 ⟨v1, rfl, hbs1, hb1⟩; have HN1 := Lib.hid (HNOTE.out w1 v1 ⟨hb1.os, hb1.tape, hb1.output, hb1.size, hb1.block⟩ hbs1); obtain ⟨A1, cc1, rfl, _⟩ := hbs1) | (go_at_call 66; (with_reducible refine (HN1.out).mono ?_); rintro e w2 ⟨rfl, hx⟩; have HF2 := Lib.hid (HFILL.out w2 hx); clear hx))
       all_goals
        go_wp2_with (go_at_call 64; (with_reducible refine (HF2.out).mono ?_); rintro e w3 ⟨rfl, hx⟩; have HLL := Lib.hid hx; clear hx)
        go_ret
        obtain ⟨M', q1, q2⟩ := HLL.out
        exact Vp.Left.next ⟨M', q1.more (by omega), q2⟩ HR.out
end
section
open Go.RowKit
open Me Vf
namespace Wp
def PO (w : World) (V : Nat → Prop) (fs c : Nat) (S : Sv) : Prop := ∃ M, Vp.Pg w M fs (2 * c) S ∧ Vf.Inv c S ∧ ∀ b, V b → b < w.heap.size ∧ ¬ M b
theorem PO.below {w w' : World} {V : Nat → Prop} {fs c : Nat} {S : Sv} (h : PO w V fs c S) (b : Below w.heap.size w w') : PO w' V fs c S := by
 obtain ⟨M, h1, h2, h3⟩ := h
 exact ⟨M, h1.below b, h2, fun i hi => ⟨Nat.lt_of_lt_of_le (h3 i hi).1 b.size, (h3 i hi).2⟩⟩
theorem PO.tight {w : World} {M : Nat → Prop} {fs N : Nat} {S : Sv} (h : Vp.Pg w M fs N S) : Vp.Pg w (fun b => M b ∧ b < w.heap.size) fs N S := by
 obtain ⟨mb, lr, I, db, G, c, j, lv, mv, ys, h1, h2, h3, h4⟩ := h
 exact ⟨mb, lr, I, db, G, c, j, lv, mv, ys, h1, h2, h3, fun b hb => ⟨h4 b hb, h1.lt hb⟩⟩
theorem PO.add {w w' : World} {V V' : Nat → Prop} {fs c : Nat} {S : Sv} (h : PO w V fs c S) (b : Below w.heap.size w w') (hV : ∀ i, V' i → V i ∨ (w.heap.size ≤ i ∧ i < w'.heap.size)) : PO w' V' fs c S := by
 obtain ⟨M, h1, h2, h3⟩ := h
 refine ⟨_, (PO.tight h1).below b, h2, fun i hi => ?_⟩
 rcases hV i hi with hv | ⟨ha, hb⟩
 ·exact ⟨Nat.lt_of_lt_of_le (h3 i hv).1 b.size, fun hm => (h3 i hv).2 hm.1⟩
 ·exact ⟨hb, fun hm => by have := hm.2; omega⟩
theorem PO.more {w : World} {V V' : Nat → Prop} {fs c c' : Nat} {S : Sv} (h : PO w V fs c S) (hc : c ≤ c') (hV : ∀ i, V' i → V i) : PO w V' fs c' S := by
 obtain ⟨M, h1, h2, h3⟩ := h
 exact ⟨M, h1.more (by omega), h2.mono hc, fun i hi => h3 i (hV i hi)⟩
theorem PO.of_next {w w' : World} {V M : Nat → Prop} {fs N c' : Nat} {S : Sv} {v : Value} {e : Ending} (h3 : ∀ b, V b → b < w.heap.size ∧ ¬ M b) (hN : N ≤ 2 * c') (hi : Vf.Inv c' S) (hn : Vp.PNext w M fs N S v e w') : e = .returned v ∧ PO w' V fs c' S ∧ Kp (fun b => ¬ V b) w w' := by
 obtain ⟨rfl, M', q1, q2, q3⟩ := hn
 refine ⟨rfl, ⟨M', q1.more hN, hi, fun b hb => ⟨Nat.lt_of_lt_of_le (h3 b hb).1 q2.size, fun hm => ?_⟩⟩, q2.mono fun b _ ho hv => (h3 b hv).2 ho⟩
 rcases q3 b hm with h | h
 ·exact (h3 b hb).2 h
 ·have := (h3 b hb).1; omega
end Wp
open Wp
section
variable {w : World} {V : Nat → Prop} {fs c : Nat} {S : Sv}
theorem posize (h : PO w V fs c S) (n : List UInt8) :
 Calls Tryz.prog 69 #[.pointer (some ⟨fs, 0, none⟩), .string ⟨n.toArray⟩] w fun e w' => e = .returned (.tuple #[.int .i64 (Vf.size S.now n).1, .int .i64 (Vf.size S.now n).2]) ∧ w = w' := by
 obtain ⟨M, h1, h2, h3⟩ := h
 exact psize_any h1 n
theorem poread (h : PO w V fs c S) (n : List UInt8) (t m : Int) (ht : t ≤ 9223372036854775807) :
 Calls Tryz.prog 70 #[.pointer (some ⟨fs, 0, none⟩), .string ⟨n.toArray⟩, .int .i64 t, .int .i64 m] w (Vf.Handed w (Vf.read S.now n t m)) := by
 obtain ⟨M, h1, h2, h3⟩ := h
 exact pread_any h1 n t m ht
theorem powrite (h : PO w V fs c S) (hc : c ≤ 500000) (n : List UInt8) (t : Int) (ht : t ≤ 9223372036854775807) (ps : List (List UInt8)) (pv : Value) (hp : Vf.Ps w V pv ps) (hpl : ps.length ≤ 1048576) (hpt : ps.flatten.length ≤ 1048576) :
 Calls Tryz.prog 40 #[.pointer (some ⟨fs, 0, none⟩), .string ⟨n.toArray⟩, .int .i64 t, pv] w fun e w' => e = .returned (.int .i64 (Vf.write S n t ps.flatten).2) ∧ PO w' V fs (c + 1) (Vf.write S n t ps.flatten).1 ∧ Kp (fun b => ¬ V b) w w' := by
 obtain ⟨M, h1, h2, h3⟩ := h
 exact (pwrite_any h1 n t ps pv hp ht (by omega) hpl (by omega) h3).mono fun e w' hn => PO.of_next h3 (by omega) (h2.write _ _ _) hn
theorem pocreate (h : PO w V fs c S) (hc : c ≤ 500000) (n : List UInt8) (ps : List (List UInt8)) (pv : Value) {Gq : Nat → Prop} (hp : Vf.Ps w Gq pv ps) (hpl : ps.length ≤ 1048576) (hpt : ps.flatten.length ≤ 1073741824) (hGq : ∀ b, Gq b → b < w.heap.size) :
 Calls Tryz.prog 29 #[.pointer (some ⟨fs, 0, none⟩), .string ⟨n.toArray⟩, pv] w fun e w' => e = .returned (.int .i64 (Vf.create S n ps.flatten).2) ∧ PO w' V fs (c + 1) (Vf.create S n ps.flatten).1 ∧ Kp (fun b => ¬ V b) w w' := by
 obtain ⟨M, h1, h2, h3⟩ := h
 have i1 := h2.last
 have i0 := h2.room0
 have i2 := h2.room1
 exact (pcreate_any h1 n ps pv hp (by omega) (by omega) i0 i2 hpl hpt hGq).mono fun e w' hn => PO.of_next h3 (by omega) (h2.create _ _) hn
theorem posync (h : PO w V fs c S) :
 Calls Tryz.prog 31 #[.pointer (some ⟨fs, 0, none⟩)] w fun e w' => e = .returned (.tuple #[]) ∧ PO w' V fs c { S with was := S.now, l := [] } ∧ Kp (fun b => ¬ V b) w w' := by
 obtain ⟨M, h1, h2, h3⟩ := h
 exact (psync_any h1).mono fun e w' hn => PO.of_next h3 (Nat.le_refl _) h2.sync hn
end
end
end Go.Proofs.YtljlanhpjpjgaaaGreatDoor
