/- VpPut VpJour VpPop -/
import Derived.Test.YtljlanhpjpjgaaaGreatDoorJ1
import Derived.Test.YtljlanhpjpjgaaaGreatDoorJ30
import Derived.Deep.RegionLaw
namespace Go.Proofs.YtljlanhpjpjgaaaGreatDoor
set_option maxRecDepth 100000
set_option maxHeartbeats 8000000
section
open Go.RowKit
open Me Vf
namespace Vp
section
variable {ops : Array Oper} {o : Oper} {a : Act} {w : World} {K : Act → World → Prop} {Q : Exit → Act → World → Prop} {E : Prop}
theorem step_del (hgd : o.guard = none) (m x : Operand) (hop : o.op = Op.call { callee := Callee.builtin Builtin.delete, args := #[m, x], argTypes := #[77, 9] }) (b k : Nat) (D : DataW Unit) (n : List UInt8) (hm : a.eval m = .map (some b))
 (hown : w.ownsMap Tryz.prog 9 ptrR b k D) (hx : a.eval x = .string ⟨n.toArray⟩) (hn : n.length ≤ 1048576)
 (h : ∀ w', w'.ownsMap Tryz.prog 9 ptrR b k (D.del (.string n)) → w.mapTurned w' b → K (a.put o.dst (.tuple #[])) w') :
 if Region.wanted o (yielded ops a.tmps) = true then Oper.wp Tryz.prog o a w K Q else E := by
 have hw : Region.wanted o (yielded ops a.tmps) = true := by simp [Region.wanted, hgd]
 rw [if_pos hw]
 obtain ⟨w', hrun, h1, h2⟩ := hown.drop (t := 77) keyS Tryz.underlying77 (keyN n hn) o.type
 unfold Oper.wp
 simp [execOp, hop, resolve, invoke, builtin, hm, hx, hrun, Result.andThen]
 exact h w' h1 h2
end
theorem turned_kp {w w' : World} {b : Nat} (h : w.mapTurned w' b) : Kp (fun i => i = b) w w' ∧ w'.heap.size = w.heap.size := by
 have hg := h.grown
 refine ⟨(Kp.refl _ _).grown hg (fun g hg => .inr (Option.some.inj hg).symm), ?_⟩
 obtain ⟨es, clock, es', clock', hb, rfl⟩ := h
 simp [ChangeMaps.setBlock]
def fsC (lv : Value) (room used : Int) (mv : Value) : Obj := .cells #[lv, .int .i64 room, .int .i64 used, mv] 79 (0, 0)
def flC (n : List UInt8) (d len : Nat) : Obj := .cells #[.string ⟨n.toArray⟩, .slice (some ⟨d, 0, none⟩) len len] 131 (0, 0)
theorem fs_cells {w : World} {fs : Nat} {lv mv : Value} {room used : Int} (h : w.heap[fs]? = some (fsC lv room used mv)) :
 w.cell? ⟨fs, 0, none⟩ = some lv ∧ w.cell? ⟨fs, 1, none⟩ = some (.int .i64 room) ∧ w.cell? ⟨fs, 2, none⟩ = some (.int .i64 used) ∧ w.cell? ⟨fs, 3, none⟩ = some mv ∧ (∀ i, w.frozen? ⟨fs, i, none⟩ = false) ∧ fs < w.heap.size := by
 refine ⟨?_, ?_, ?_, ?_, fun i => ?_, (Array.getElem?_eq_some_iff.1 h).1⟩
 ·rw [cell_of_row w fs 0 _ _ _ h]; rfl
 ·rw [cell_of_row w fs 1 _ _ _ h]; rfl
 ·rw [cell_of_row w fs 2 _ _ _ h]; rfl
 ·rw [cell_of_row w fs 3 _ _ _ h]; rfl
 ·simp [World.frozen?, h, fsC]
theorem fl_cells {w : World} {id d len : Nat} {n : List UInt8} (h : w.heap[id]? = some (flC n d len)) :
 w.cell? ⟨id, 0, none⟩ = some (.string ⟨n.toArray⟩) ∧ w.cell? ⟨id, 1, none⟩ = some (.slice (some ⟨d, 0, none⟩) len len) ∧ id < w.heap.size := by
 refine ⟨?_, ?_, (Array.getElem?_eq_some_iff.1 h).1⟩
 ·rw [cell_of_row w id 0 _ _ _ h]; rfl
 ·rw [cell_of_row w id 1 _ _ _ h]; rfl
theorem cells_ne {w : World} {b c : Nat} {x y : Obj} (h1 : w.heap[b]? = some x) (h2 : w.heap[c]? = some y) (h : x ≠ y) : b ≠ c := by
 rintro rfl
 rw [h1] at h2
 exact h (Option.some.inj h2)
theorem heap_cell {w : World} {g i : Nat} {cs : Array Value} {t : TypeId} {fr : Nat × Nat} (h : w.heap[g]? = some (.cells cs t fr)) (u : Value) : (w.setCell ⟨g, i, none⟩ u).heap[g]? = some (.cells (cs.setIfInBounds i u) t fr) := put_heap h u
def Putten (w : World) (fs : Nat) (mb : Option Nat) (k : Nat) (lv : Value) (room used : Int) (m : List UInt8 → Option Nat) (e : Ending) (w' : World) : Prop :=
 e = .returned (.tuple #[]) ∧ ∃ mv' mb', w'.heap[fs]? = some (fsC lv room used mv') ∧ Mp w' mv' mb' k m ∧ Kp (fun b => b = fs ∨ mb = some b) w w' ∧ (mb' = mb ∨ ∃ b, mb' = some b ∧ w.heap.size ≤ b)
theorem put_end {w W1 w2 : World} {fs b : Nat} {mb : Option Nat} {k id : Nat} {lv : Value} {room used u2 : Int} {n : List UInt8} {D : DataW Unit} {m : List UInt8 → Option Nat}
 (hK : Kp (fun i => i = fs ∨ mb = some i) w W1) (hb : mb = some b ∨ (mb = none ∧ w.heap.size ≤ b)) (hfs : W1.heap[fs]? = some (fsC lv room used (.map (some b)))) (hne : fs ≠ b)
 (ht : W1.mapTurned w2 b) (hown : w2.ownsMap Tryz.prog 9 ptrR b (k + 1) (D.put (.string n) (enc (some id)))) (hD : Maps.IsMap D)
 (h1 : ∀ n, D.atKey (.string n) .nil = enc (m n)) (h2 : ∀ n, Maps.has D (.string n) = (m n).isSome) :
 Putten w fs mb (k + 1) lv room u2 (setM m n (some id)) (.returned (.tuple #[])) (w2.setCell ⟨fs, 2, none⟩ (.int .i64 u2)) := by
 obtain ⟨hk2, hs2⟩ := turned_kp ht
 have hf2 : w2.heap[fs]? = some (fsC lv room used (.map (some b))) := (hk2.block fs (Array.getElem?_eq_some_iff.1 hfs).1 hne).trans hfs
 refine ⟨rfl, .map (some b), some b, ?_, ?_, ?_, ?_⟩
 ·rw [heap_cell hf2]; rfl
 ·refine (Mp.stored hown hD h1 h2).keep (fun b' hb' => ?_)
  obtain rfl := Option.some.inj hb'
  exact Below.heap_setCell w2 ⟨fs, 2, none⟩ _ b (Ne.symm hne)
 ·refine (hK.trans hk2 (fun i hi e => ?_)).setCell ⟨fs, 2, none⟩ (.inr (.inl rfl)) _
  subst e
  rcases hb with hb | ⟨_, hb⟩
  ·exact .inr hb
  ·omega
 ·rcases hb with hb | ⟨_, hb⟩
  ·exact .inl hb.symm
  ·exact .inr ⟨b, rfl, hb⟩
theorem drop_end {w w2 : World} {fs b : Nat} {k : Nat} {lv : Value} {room used u2 : Int} {n : List UInt8} {D : DataW Unit} {m : List UInt8 → Option Nat}
 (hfs : w.heap[fs]? = some (fsC lv room used (.map (some b)))) (hne : fs ≠ b)
 (ht : w.drew.mapTurned w2 b) (hown : w2.ownsMap Tryz.prog 9 ptrR b k (D.del (.string n)))
 (h1 : ∀ n, D.atKey (.string n) .nil = enc (m n)) (h2 : ∀ n, Maps.has D (.string n) = (m n).isSome) :
 Putten w fs (some b) k lv room u2 (setM m n none) (.returned (.tuple #[])) (w2.setCell ⟨fs, 2, none⟩ (.int .i64 u2)) := by
 obtain ⟨hk2, hs2⟩ := turned_kp ht
 have hf2 : w2.heap[fs]? = some (fsC lv room used (.map (some b))) := (hk2.block fs (Array.getElem?_eq_some_iff.1 hfs).1 hne).trans hfs
 refine ⟨rfl, .map (some b), some b, ?_, ?_, ?_, .inl rfl⟩
 ·rw [heap_cell hf2]; rfl
 ·refine (Mp.struck hown h1 h2).keep (fun b' hb' => ?_)
  obtain rfl := Option.some.inj hb'
  exact Below.heap_setCell w2 ⟨fs, 2, none⟩ _ b (Ne.symm hne)
 ·have h0 : Kp (fun i => i = fs ∨ some b = some i) w w.drew := (Kp.refl _ w).drew
  refine (h0.trans hk2 (fun i hi e => ?_)).setCell ⟨fs, 2, none⟩ (.inr (.inl rfl)) _
  subst e
  exact .inr rfl
theorem Putten.drew {w w' : World} {fs : Nat} {mb : Option Nat} {k : Nat} {lv : Value} {room used : Int} {m : List UInt8 → Option Nat} {e : Ending} (h : Putten w fs mb k lv room used m e w') : Putten w fs mb k lv room used m e w'.drew := by
 obtain ⟨h0, mv', mb', h1, h2, h3, h4⟩ := h
 exact ⟨h0, mv', mb', h1, h2.keep (fun _ _ => rfl), h3.drew, h4⟩
end Vp
theorem put_any {w : World} {fs id d k : Nat} {lv mv : Value} {mb : Option Nat} {room used : Int} {m : List UInt8 → Option Nat} {n : List UInt8} {len : Nat} (hfs : w.heap[fs]? = some (Vp.fsC lv room used mv)) (hm : Vp.Mp w mv mb k m)
 (hfl : w.heap[id]? = some (Vp.flC n d len)) (hn : n.length ≤ 1048576) (hk : k ≤ 4194304) (u0 : -4611686018427387904 ≤ used) (u1 : used ≤ 4611686018427387904) (hl : len ≤ 4294967296) :
 Calls Tryz.prog 65 #[.pointer (some ⟨fs, 0, none⟩), .pointer (some ⟨id, 0, none⟩)] w (Vp.Putten w fs mb (k + 1) lv room (used + len) (Vp.setM m n (some id))) := by
 obtain ⟨c0, c1, c2, c3, cf, fsl⟩ := Vp.fs_cells hfs
 obtain ⟨e0, e1, idl⟩ := Vp.fl_cells hfl
 have qT : ∀ (w : World) (r : Option Nat), (binOp .eql 77 (.map r) (.map none)).run Tryz.prog w = .ok (.bool r.isNone) w := fun w r => run_eql_map_nil w _ _ _ r Tryz.underlying77
 have hmm := @run_makeMap Tryz.prog
 have hne : fs ≠ id := Vp.cells_ne hfs hfl (by intro e; simp [Vp.fsC, Vp.flC] at e)
 have hadd : IntKind.i64.wrap (used + len) = used + len := IntWalk.i64_in _ (by omega)
 have HO : ∀ {W : World} {b : Nat} {D : DataW Unit}, W.ownsMap Tryz.prog 9 Vp.ptrR b k D → Maps.IsMap D := fun h => h.isMap
 have hkm : k < maxLen := by unfold maxLen; omega
 rcases hm with ⟨rfl, rfl, hm0⟩ | ⟨b, D, rfl, rfl, hown, h1, h2⟩
 ·have cf2 := cf 2
  have cf3 := cf 3
  have HFS := Lib.hid hfs
  have HFL := Lib.hid hfl
  clear hfs hfl cf HO
  go_enter Tryz.func65, Tryz.ntmps65
  go_wp2_with fail
  obtain ⟨W1, hW1⟩ : ∃ W1, W1 = (w.setCell ⟨fs, 3, none⟩ (.map (some w.heap.size))).alloc (.map #[] 0) := ⟨_, rfl⟩
  obtain ⟨b, hb⟩ : ∃ b, b = w.heap.size := ⟨_, rfl⟩
  have hsz : (w.setCell ⟨fs, 3, none⟩ (.map (some w.heap.size))).heap.size = w.heap.size := put_size _ _ _
  have hown : W1.ownsMap Tryz.prog 9 Vp.ptrR b k (.map []) := by
   have := (World.ownsMap_made (w.setCell ⟨fs, 3, none⟩ (.map (some w.heap.size))) Tryz.prog 9 Vp.ptrR).mono (Nat.zero_le k)
   rw [hsz, ← hW1, ← hb] at this
   exact this
  have hKw : Kp (fun i => i = fs ∨ (none : Option Nat) = some i) w W1 := by rw [hW1]; exact ((Kp.refl _ w).setCell ⟨fs, 3, none⟩ (.inr (.inl rfl)) _).alloc _
  have hfs1 : W1.heap[fs]? = some (Vp.fsC lv room used (.map (some b))) := by
   rw [hW1, hb, Below.heap_alloc _ _ fs (by rw [hsz]; exact fsl), Vp.heap_cell HFS.out]
   rfl
  have hfl1 : W1.heap[id]? = some (Vp.flC n d len) := (hKw.block id idl (fun e => e.elim (fun e => hne e.symm) (fun e => nomatch e))).trans HFL.out
  obtain ⟨z0, z1, z2, z3, zf, zl⟩ := Vp.fs_cells hfs1
  obtain ⟨y0, y1, yl⟩ := Vp.fl_cells hfl1
  have zf2 := zf 2
  have hnb : fs ≠ b := by omega
  have hib : id ≠ b := by omega
  rw [← hW1, ← hb]
  have HB : Hid (w.heap.size ≤ b) := Lib.hid (by omega)
  obtain ⟨w2, hrun, hown2, ht2⟩ := hown.drew.store (t := 77) Vp.keyS Tryz.underlying77 hkm (Vp.keyN n hn) (show Vp.ptrR (.pointer (some ⟨id, 0, none⟩)) = some (Vp.enc (some id), []) from rfl)
  have hk2 := (Vp.turned_kp ht2).1
  have d2 := (hk2.cell (p := ⟨fs, 2, none⟩) zl hnb).trans z2
  have df := (hk2.frozen (p := ⟨fs, 2, none⟩) zl hnb).trans zf2
  have g1 := (hk2.cell (p := ⟨id, 1, none⟩) yl hib).trans y1
  have HO2 := Lib.hid hown2
  have HT2 := Lib.hid ht2
  have HK := Lib.hid hKw
  have HF1 := Lib.hid hfs1
  have hD : Hid (Maps.IsMap (.map [] : DataW Unit)) := Lib.hid Maps.isMap_empty
  have HA : Hid (∀ n, (DataW.map [] : DataW Unit).atKey (.string n) .nil = Vp.enc (m n)) := Lib.hid (fun n => by rw [hm0 n]; rfl)
  have HH : Hid (∀ n, Maps.has (.map [] : DataW Unit) (.string n) = (m n).isSome) := Lib.hid (fun n => by rw [hm0 n]; rfl)
  clear hown2 ht2 hk2 hown hKw hfs1 hfl1 hW1 hb hsz zf hm0 c0 c1 c2 c3 e0 e1 cf2 cf3
  go_region
  all_goals
   go_wp2_with fail
   go_region
   all_goals
    go_wp2_with fail
    ((try simp only [Exit.inBlock, Exit.then]); first | (refine bodyPost_ret (results_none rfl _ _ _) rfl ?_) | (refine bodyPost_end (results_none rfl _ _ _) rfl ?_))
    exact Vp.Putten.drew (Vp.put_end HK.out.drew (.inr ⟨rfl, HB.out⟩) HF1.out hnb HT2.out HO2.out hD.out HA.out HH.out)
 ·have hown2 := hown
  obtain ⟨es, clock, hbb, _⟩ := hown2
  have hnb : fs ≠ b := Vp.cells_ne hfs hbb (by intro e; simp [Vp.fsC] at e)
  have hib : id ≠ b := Vp.cells_ne hfl hbb (by intro e; simp [Vp.flC] at e)
  have HOW := Lib.hid hown
  have H1 := Lib.hid h1
  have H2 := Lib.hid h2
  have HFS := Lib.hid hfs
  clear hown h1 h2 hfs hfl hbb HO
  have cf2 := cf 2
  clear cf
  obtain ⟨w2, hrun, hown2, ht2⟩ := HOW.out.drew.store (t := 77) Vp.keyS Tryz.underlying77 hkm (Vp.keyN n hn) (show Vp.ptrR (.pointer (some ⟨id, 0, none⟩)) = some (Vp.enc (some id), []) from rfl)
  have hk2 := (Vp.turned_kp ht2).1
  have d2 := (hk2.cell (p := ⟨fs, 2, none⟩) fsl hnb).trans c2
  have df := (hk2.frozen (p := ⟨fs, 2, none⟩) fsl hnb).trans cf2
  have g1 := (hk2.cell (p := ⟨id, 1, none⟩) idl hib).trans e1
  have HO2 := Lib.hid hown2
  have HT2 := Lib.hid ht2
  have hD := Lib.hid HOW.out.isMap
  clear hown2 ht2 hk2
  go_enter Tryz.func65, Tryz.ntmps65
  go_wp2_with fail
  go_region
  all_goals
   go_wp2_with fail
   go_region
   all_goals
    go_wp2_with fail
    ((try simp only [Exit.inBlock, Exit.then]); first | (refine bodyPost_ret (results_none rfl _ _ _) rfl ?_) | (refine bodyPost_end (results_none rfl _ _ _) rfl ?_))
    exact Vp.Putten.drew (Vp.put_end ((Kp.refl _ w).drew) (.inl rfl) HFS.out hnb HT2.out HO2.out hD.out H1.out H2.out)
theorem drop_any {w : World} {fs id d k b : Nat} {lv mv : Value} {room used : Int} {m : List UInt8 → Option Nat} {n : List UInt8} {len : Nat} (hfs : w.heap[fs]? = some (Vp.fsC lv room used mv)) (hm : Vp.Mp w mv (some b) k m)
 (hfl : w.heap[id]? = some (Vp.flC n d len)) (hn : n.length ≤ 1048576) (u0 : -4611686018427387904 ≤ used) (u1 : used ≤ 4611686018427387904) (hl : len ≤ 4294967296) :
 Calls Tryz.prog 107 #[.pointer (some ⟨fs, 0, none⟩), .pointer (some ⟨id, 0, none⟩)] w (Vp.Putten w fs (some b) k lv room (used - len) (Vp.setM m n none)) := by
 obtain ⟨c0, c1, c2, c3, cf, fsl⟩ := Vp.fs_cells hfs
 obtain ⟨e0, e1, idl⟩ := Vp.fl_cells hfl
 have hadd : IntKind.i64.wrap (used - len) = used - len := IntWalk.i64_in _ (by omega)
 rcases hm with ⟨rfl, hmb, hm0⟩ | ⟨b', D, rfl, hmb, hown, h1, h2⟩
 ·cases hmb
 ·obtain rfl := Option.some.inj hmb
  have hown2 := hown
  obtain ⟨es, clock, hbb, _⟩ := hown2
  have hnb : fs ≠ b := Vp.cells_ne hfs hbb (by intro e; simp [Vp.fsC] at e)
  have hib : id ≠ b := Vp.cells_ne hfl hbb (by intro e; simp [Vp.flC] at e)
  have HOW := Lib.hid hown
  have H1 := Lib.hid h1
  have H2 := Lib.hid h2
  have HFS := Lib.hid hfs
  have cf2 := cf 2
  clear hown h1 h2 hfs hfl hbb cf hmb
  go_enter Tryz.func107, Tryz.ntmps107
  go_wp2_with fail
  go_region_law (refine Vp.step_del rfl (.tmp 7) (.tmp 11) rfl b k D n (by simp [Act.eval]) HOW.out.drew (by simp [Act.eval]) hn ?_; intro w2 hown2 ht2; have hk2 := (Vp.turned_kp ht2).1; have d2 := (hk2.cell (p := ⟨fs, 2, none⟩) fsl hnb).trans c2; have df := (hk2.frozen (p := ⟨fs, 2, none⟩) fsl hnb).trans cf2; have g1 := (hk2.cell (p := ⟨id, 1, none⟩) idl hib).trans e1; have HO2 := Lib.hid hown2; have HT2 := Lib.hid ht2; clear hown2 ht2 hk2)
  all_goals
   go_wp2_with fail
   go_region
   all_goals
    go_wp2_with fail
    ((try simp only [Exit.inBlock, Exit.then]); first | (refine bodyPost_ret (results_none rfl _ _ _) rfl ?_) | (refine bodyPost_end (results_none rfl _ _ _) rfl ?_))
    exact Vp.Putten.drew (Vp.drop_end HFS.out hnb HT2.out HO2.out H1.out H2.out)
end
section
open Go.RowKit
open Me Vf
theorem opinfo : (Tryz.prog.info? 136).map (fun i => (i.zero, i.size, i.bytes)) = some (some (.agg #[.int .i64 0, .pointer none, .int .i64 0, .slice none 0 0]), 4, 48) := by kernel_rfl
namespace Vp
def opC (kind : Int) (on at_ : Nat) (old : Value) : List Value := [.int .i64 kind, .pointer (some ⟨on, 0, none⟩), .int .i64 (at_ : Int), old]
theorem row_type {w : World} {base n : Nat} {e : TypeId} {size : Nat} {v : Value} {xs : List Value} (h : w.ownsRow base e size v n xs) {g : Nat} (hg : v.ownBlock = some g) : ∃ cur, w.heap[g]? = some (.cells cur e (0, 0)) := by
 rcases h.2 with ⟨rfl, _⟩ | ⟨g', cap, cur, rfl, _, hh, _⟩
 ·cases hg
 ·have : g' = g := by simpa [Value.ownBlock] using hg
  subst this
  exact ⟨cur, hh⟩
def Noted (w : World) (fs : Nat) (lr : Option Nat) (n : Nat) (ys : List Value) (room used : Int) (mv : Value) (e : Ending) (w' : World) : Prop :=
 e = .returned (.tuple #[]) ∧ ∃ lv' lr', w'.heap[fs]? = some (fsC lv' room used mv) ∧ w'.ownsRow 0 136 4 lv' n ys ∧ lv'.ownBlock = lr' ∧ Kp (fun b => b = fs ∨ lr = some b) w w' ∧ (lr' = lr ∨ ∃ b, lr' = some b ∧ w.heap.size ≤ b)
theorem note_end {w W w2 : World} {fs n : Nat} {lr : Option Nat} {zs : List Value} {room used : Int} {lv mv v2 : Value} (hb : Below w.heap.size w W) (hfs : w.heap[fs]? = some (fsC lv room used mv))
 (hlr : lv.ownBlock = lr) (hne : lr ≠ some fs) (hown : w2.ownsRow 0 136 4 v2 n zs) (hg : W.grownBy w2 lv.ownBlock) (hat : v2.ownBlock = lv.ownBlock ∨ v2.ownBlock = some W.heap.size) :
 Noted w fs lr n zs room used mv (.returned (.tuple #[])) (w2.setCell ⟨fs, 0, none⟩ v2) := by
 have fsl : fs < w.heap.size := (Array.getElem?_eq_some_iff.1 hfs).1
 have hf2 : w2.heap[fs]? = some (fsC lv room used mv) := (hg.block fs (Nat.lt_of_lt_of_le fsl hb.size) (fun e => hne (by rw [← hlr]; exact e.symm))).trans ((hb.block fs fsl).trans hfs)
 refine ⟨rfl, v2, v2.ownBlock, ?_, ?_, rfl, ?_, ?_⟩
 ·rw [heap_cell hf2]; rfl
 ·refine owns_keep hown (fun g hg' => Below.heap_setCell w2 ⟨fs, 0, none⟩ _ g ?_)
  show g ≠ fs
  rintro rfl
  rcases hat with e | e
  ·exact hne (by rw [← hlr, ← e]; exact hg')
  ·rw [hg'] at e
   have := Option.some.inj e
   have := hb.size
   omega
 ·refine ((Kp.of_below hb).grown hg (fun g hg' => ?_)).setCell ⟨fs, 0, none⟩ (.inr (.inl rfl)) _
  exact .inr (.inr (by rw [← hlr]; exact hg'))
 ·rcases hat with e | e
  ·exact .inl (by rw [e, hlr])
  ·exact .inr ⟨_, e, hb.size⟩
end Vp
theorem note_any {w : World} {fs n on at_ : Nat} {lv mv old : Value} {room used kind : Int} {ys : List Value} (hfs : w.heap[fs]? = some (Vp.fsC lv room used mv)) (hown : w.ownsRow 0 136 4 lv n ys) (hn : n ≤ 1048576)
 (hold : ∃ A m c, old = .slice A m c) :
 Calls Tryz.prog 66 #[.pointer (some ⟨fs, 0, none⟩), .agg #[.int .i64 kind, .pointer (some ⟨on, 0, none⟩), .int .i64 (at_ : Int), old]] w (Vp.Noted w fs lv.ownBlock (n + 1) (ys ++ Vp.opC kind on at_ old) room used mv) := by
 obtain ⟨i0, hi0, hz0, hz1, hz2⟩ := info_parts opinfo
 have HI := Lib.hid hi0
 have HZ := Lib.hid (And.intro hz0 (And.intro hz1 hz2))
 clear hi0 hz0 hz1 hz2
 obtain ⟨A, m, c, rfl⟩ := hold
 obtain ⟨c0, c1, c2, c3, cf, fsl⟩ := Vp.fs_cells hfs
 have cf0 := cf 0
 have HFS := Lib.hid hfs
 have hne : lv.ownBlock ≠ some fs := fun e => by
  obtain ⟨cur, hc⟩ := Vp.row_type hown e
  exact Vp.cells_ne hfs hc (by intro e; simp [Vp.fsC] at e) rfl
 have HNE := Lib.hid hne
 have HO : ∀ o o' : Obj, ((w.alloc o).alloc o').ownsRow 0 136 4 lv n ys := fun o o' => (hown.alloc o).alloc o'
 have HOW := Lib.hid (HO (.cells #[.int .i64 kind, .pointer (some ⟨on, 0, none⟩), .int .i64 (at_ : Int), .slice A m c] 136) (.cells #[.int .i64 kind, .pointer (some ⟨on, 0, none⟩), .int .i64 (at_ : Int), .slice A m c] 136))
 have HBW : Hid (Below w.heap.size w ((w.alloc (.cells #[.int .i64 kind, .pointer (some ⟨on, 0, none⟩), .int .i64 (at_ : Int), .slice A m c] 136)).alloc (.cells #[.int .i64 kind, .pointer (some ⟨on, 0, none⟩), .int .i64 (at_ : Int), .slice A m c] 136))) := Lib.hid (((Below.refl _ _).alloc (Nat.le_refl _) _).alloc (by simp) _)
 have HRD := Lib.hid (Rd.fresh (w.alloc (.cells #[.int .i64 kind, .pointer (some ⟨on, 0, none⟩), .int .i64 (at_ : Int), .slice A m c] 136)) [.int .i64 kind, .pointer (some ⟨on, 0, none⟩), .int .i64 (at_ : Int), .slice A m c] 136 (w.heap.size + 1) (by simp))
 clear hfs hown hne HO cf
 go_enter Tryz.func66, Tryz.ntmps66
 go_wp2_with fail
 go_region_law (refine step_app _ rfl (.tmp 8) (.tmp 10) 74 rfl 0 136 i0 _ 4 48 Tryz.underlying74 HI.out HZ.out.1 HZ.out.2.1 HZ.out.2.2 rfl (by decide) lv n ys (by simp [Act.eval]) HOW.out (fun b => b = w.heap.size + 1) (some ⟨w.heap.size + 1, 0, none⟩) 1 1 [.int .i64 kind, .pointer (some ⟨on, 0, none⟩), .int .i64 (at_ : Int), .slice A m c] (by simp [Act.eval]) (by simp) HRD.out (by intro u hu; simp at hu; rcases hu with rfl | rfl | rfl | rfl <;> rfl) (by unfold maxLen; omega) (by omega) (Nat.zero_le _) ?_; intro v2 w2 hown2 hg2 hat2 hnil2; obtain ⟨g2, cap2, rfl⟩ := owns_form hown2 (by omega); have d0 : w2.cell? ⟨fs, 0, none⟩ = some lv := (hg2.cell_far ⟨fs, 0, none⟩ (by show fs < _; simp; omega) (fun e => HNE.out e.symm)).trans ((HBW.out.cell (p := ⟨fs, 0, none⟩) fsl).trans c0); have df : w2.frozen? ⟨fs, 0, none⟩ = false := (hg2.frozen_far ⟨fs, 0, none⟩ (by show fs < _; simp; omega) (fun e => HNE.out e.symm)).trans ((HBW.out.frozen (p := ⟨fs, 0, none⟩) fsl).trans cf0); have HO2 := Lib.hid hown2; have HG2 := Lib.hid hg2; have HA2 := Lib.hid hat2; clear hown2 hg2 hat2 hnil2)
 all_goals
  go_wp2_with fail
  ((try simp only [Exit.inBlock, Exit.then]); first | (refine bodyPost_ret (results_none rfl _ _ _) rfl ?_) | (refine bodyPost_end (results_none rfl _ _ _) rfl ?_))
  exact Vp.note_end HBW.out HFS.out rfl HNE.out HO2.out ⟨HG2.out.os, HG2.out.tape, HG2.out.output, HG2.out.size, HG2.out.block⟩ HA2.out
end
section
open Go.RowKit
open Me Vf
namespace Vp
theorem own_form {w : World} {base n : Nat} {e : TypeId} {size : Nat} {v : Value} {xs : List Value} (h : w.ownsRow base e size v n xs) : ∃ A c, v = .slice A n c ∧ n ≤ c ∧ c ≤ maxLen := by
 rcases h.2 with ⟨rfl, h0⟩ | ⟨g, cap, cur, rfl, _, _, h1, h2, _⟩
 ·exact ⟨none, 0, by rw [h0], by omega, Nat.zero_le _⟩
 ·exact ⟨_, cap, rfl, h1, h2⟩
theorem own_less {w : World} {base n : Nat} {e : TypeId} {size : Nat} {g c : Nat} {xs : List Value} (h : w.ownsRow base e size (.slice (some ⟨g, 0, none⟩) (n + 1) c) (n + 1) xs) : w.ownsRow base e size (.slice (some ⟨g, 0, none⟩) n c) n (xs.take (n * size)) := by
 obtain ⟨h1, h2⟩ := h
 have hm : (n + 1) * size = n * size + size := Nat.succ_mul n size
 refine ⟨by rw [List.length_take, h1]; omega, ?_⟩
 rcases h2 with ⟨h0, _⟩ | ⟨g', cap, cur, hv, hb, hh, hc, hcm, hcs, ht⟩
 ·cases h0
 ·injection hv with e1 e2 e3
  injection e1 with e1
  injection e1 with e1
  subst e1 e3
  refine .inr ⟨g, c, cur, rfl, hb, hh, by omega, hcm, hcs, ?_⟩
  rw [← ht, List.take_take, Nat.min_eq_left (by omega)]
end Vp
theorem count_any {w : World} {fs n : Nat} {lv mv : Value} {room used : Int} {ys : List Value} (hfs : w.heap[fs]? = some (Vp.fsC lv room used mv)) (hown : w.ownsRow 0 136 4 lv n ys) (hn : n ≤ 1048576) :
 Calls Tryz.prog 80 #[.pointer (some ⟨fs, 0, none⟩)] w fun e w' => e = .returned (.int .i64 (n : Int)) ∧ w = w' := by
 obtain ⟨c0, c1, c2, c3, cf, fsl⟩ := Vp.fs_cells hfs
 obtain ⟨A, c, rfl, hc, hcm⟩ := Vp.own_form hown
 have hn' : (n : Int) ≤ 1048576 := by omega
 clear hfs hown cf c1 c2 c3
 go_enter Tryz.func80, Tryz.ntmps80
 go_wp2_with fail
 go_ret
 exact ⟨rfl, rfl⟩
def Vp.Forgot (w : World) (fs : Nat) (room used : Int) (mv : Value) (e : Ending) (w' : World) : Prop :=
 e = .returned (.tuple #[]) ∧ w'.heap[fs]? = some (Vp.fsC (.slice none 0 0) room used mv) ∧ Kp (fun b => b = fs) w w'
theorem forget_any {w : World} {fs : Nat} {lv mv : Value} {room used : Int} (hfs : w.heap[fs]? = some (Vp.fsC lv room used mv)) (hl : ∃ A n c, lv = .slice A n c) :
 Calls Tryz.prog 68 #[.pointer (some ⟨fs, 0, none⟩)] w (Vp.Forgot w fs room used mv) := by
 obtain ⟨c0, c1, c2, c3, cf, fsl⟩ := Vp.fs_cells hfs
 obtain ⟨A, n, c, rfl⟩ := hl
 have cf0 := cf 0
 have HFS := Lib.hid hfs
 clear hfs cf c1 c2 c3
 go_enter Tryz.func68, Tryz.ntmps68
 go_wp2_with fail
 ((try simp only [Exit.inBlock, Exit.then]); first | (refine bodyPost_ret (results_none rfl _ _ _) rfl ?_) | (refine bodyPost_end (results_none rfl _ _ _) rfl ?_))
 refine ⟨rfl, ?_, (Kp.refl (fun b => b = fs) w).setCell ⟨fs, 0, none⟩ (.inr rfl) _⟩
 rw [Vp.heap_cell HFS.out]
 rfl
def Vp.Popped (w : World) (fs g n c : Nat) (room used : Int) (mv : Value) (op : Array Value) (e : Ending) (w' : World) : Prop :=
 e = .returned (.agg op) ∧ w'.heap[fs]? = some (Vp.fsC (.slice (some ⟨g, 0, none⟩) n c) room used mv) ∧ Kp (fun b => b = fs) w w'
theorem pop_any {w : World} {fs g n c on at_ : Nat} {mv : Value} {room used kind : Int} {A : Option Addr} {m cc : Nat} (hfs : w.heap[fs]? = some (Vp.fsC (.slice (some ⟨g, 0, none⟩) (n + 1) c) room used mv))
 (hn : n ≤ 1048576) (hc : n + 1 ≤ c) (hgl : g < w.heap.size)
 (h0 : w.cell? ⟨g, n * 4, none⟩ = some (.int .i64 kind)) (h1 : w.cell? ⟨g, n * 4 + 1, none⟩ = some (.pointer (some ⟨on, 0, none⟩))) (h2 : w.cell? ⟨g, n * 4 + 2, none⟩ = some (.int .i64 (at_ : Int))) (h3 : w.cell? ⟨g, n * 4 + 3, none⟩ = some (.slice A m cc)) :
 Calls Tryz.prog 81 #[.pointer (some ⟨fs, 0, none⟩)] w (Vp.Popped w fs g n c room used mv #[.int .i64 kind, .pointer (some ⟨on, 0, none⟩), .int .i64 (at_ : Int), .slice A m cc]) := by
 obtain ⟨c0, c1, c2, c3, cf, fsl⟩ := Vp.fs_cells hfs
 have cf0 := cf 0
 have hn' : (n : Int) ≤ 1048576 := by omega
 have hc' : (n : Int) + 1 ≤ (c : Int) := by omega
 have HFS := Lib.hid hfs
 clear hfs cf c1 c2 c3
 go_enter Tryz.func81, Tryz.ntmps81
 go_wp2_with go_in
 refine bodyPost_ret (v := .agg #[.int .i64 kind, .pointer (some ⟨on, 0, none⟩), .int .i64 (at_ : Int), .slice A m cc]) (by simp [results, Tryz.results81, go_sem]) rfl ⟨rfl, ?_, (((Kp.refl (fun b => b = fs) w).setCell ⟨fs, 0, none⟩ (.inr rfl) _).alloc _).alloc _⟩
 rw [Below.heap_alloc _ _ fs (by simp [World.setCell]; omega), Below.heap_alloc _ _ fs (by simp [World.setCell]; omega), Vp.heap_cell HFS.out]
 rfl
theorem find_bad {w : World} (fs : Nat) (n : List UInt8) (hi : Vf.is n = false) :
 Calls Tryz.prog 78 #[.pointer (some ⟨fs, 0, none⟩), .string ⟨n.toArray⟩] w fun e w' => e = .returned (.tuple #[.pointer none, .int .i64 1]) ∧ w = w' := by
 have HI := Lib.hid (isName_any n w)
 rw [hi] at HI
 go_enter Tryz.func78, Tryz.ntmps78
 go_wp2_with (go_at_call 61; ((with_reducible refine (HI.out).mono ?_); rintro e w' ⟨rfl, rfl⟩))
 ((try simp only [Exit.inBlock, Exit.then]); refine bodyPost_ret (results_tmp2 rfl _ _ _) rfl ?_)
 exact ⟨rfl, rfl⟩
theorem find_none {w : World} {fs k : Nat} {lv mv : Value} {mb : Option Nat} {room used : Int} {m : List UInt8 → Option Nat} (hfs : w.heap[fs]? = some (Vp.fsC lv room used mv)) (hm : Vp.Mp w mv mb k m) (n : List UInt8) (hi : Vf.is n = true) (hn : m n = none) :
 Calls Tryz.prog 78 #[.pointer (some ⟨fs, 0, none⟩), .string ⟨n.toArray⟩] w fun e w' => e = .returned (.tuple #[.pointer none, .int .i64 5]) ∧ w = w' := by
 have HI := Lib.hid (isName_any n w)
 rw [hi] at HI
 obtain ⟨c0, c1, c2, c3, cf, fsl⟩ := Vp.fs_cells hfs
 have hl : n.length ≤ 1048576 := by unfold Vf.is at hi; simp at hi; omega
 have hlook := hm.look hl
 rw [hn] at hlook
 unfold Vp.ptr at hlook
 clear hfs hm hi hn cf c0 c1 c2
 go_enter Tryz.func78, Tryz.ntmps78
 go_wp2_with (go_at_call 61; ((with_reducible refine (HI.out).mono ?_); rintro e w' ⟨rfl, rfl⟩))
 ((try simp only [Exit.inBlock, Exit.then]); refine bodyPost_ret (results_tmp2 rfl _ _ _) rfl ?_)
 exact ⟨rfl, rfl⟩
theorem find_some {w : World} {fs k id : Nat} {lv mv : Value} {mb : Option Nat} {room used : Int} {m : List UInt8 → Option Nat} (hfs : w.heap[fs]? = some (Vp.fsC lv room used mv)) (hm : Vp.Mp w mv mb k m) (n : List UInt8) (hi : Vf.is n = true) (hn : m n = some id) :
 Calls Tryz.prog 78 #[.pointer (some ⟨fs, 0, none⟩), .string ⟨n.toArray⟩] w fun e w' => e = .returned (.tuple #[.pointer (some ⟨id, 0, none⟩), .int .i64 0]) ∧ w = w' := by
 have HI := Lib.hid (isName_any n w)
 rw [hi] at HI
 obtain ⟨c0, c1, c2, c3, cf, fsl⟩ := Vp.fs_cells hfs
 have hl : n.length ≤ 1048576 := by unfold Vf.is at hi; simp at hi; omega
 have hlook := hm.look hl
 rw [hn] at hlook
 unfold Vp.ptr at hlook
 clear hfs hm hi hn cf c0 c1 c2
 go_enter Tryz.func78, Tryz.ntmps78
 go_wp2_with (go_at_call 61; ((with_reducible refine (HI.out).mono ?_); rintro e w' ⟨rfl, rfl⟩))
 ((try simp only [Exit.inBlock, Exit.then]); refine bodyPost_ret (results_tmp2 rfl _ _ _) rfl ?_)
 exact ⟨rfl, rfl⟩
end
end Go.Proofs.YtljlanhpjpjgaaaGreatDoor
