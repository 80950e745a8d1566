/-
  CONTRACTS: the program's files: a file is put among the others, or dropped.
-/
import Derived.Test.YtiacpopgnmledaaVpMap
namespace Go.Proofs.Ytiacpopgnmledaa
open Go.RowKit
open Me Vf
namespace Vp
section
variable {ops : Array Oper} {o : Oper} {a : Act} {w : World} {K : Act → World → Prop} {Q : Exit → Act → World → Prop} {E : Prop}
theorem step_put (hgd : o.guard = none) (m x v : Operand) (hop : o.op = Op.mapUpdate 51 m x v) (b k id : Nat) (D : DataW Unit) (n : List UInt8) (hm : a.eval m = .map (some b))
    (hown : w.ownsMap Try.prog 9 ptrR b k D) (hk : k < maxLen) (hx : a.eval x = .string ⟨n.toArray⟩) (hn : n.length ≤ 1048576) (hv : a.eval v = .pointer (some ⟨id, 0, none⟩))
    (h : ∀ w', w'.ownsMap Try.prog 9 ptrR b (k + 1) (D.put (.string n) (enc (some id))) → w.mapTurned w' b → K (a.put o.dst undef) w') :
    if Region.wanted o (yielded ops a.tmps) = true then Oper.wp Try.prog o a w K Q else E := by
  have hw : Region.wanted o (yielded ops a.tmps) = true := by simp [Region.wanted, hgd]
  rw [if_pos hw]
  obtain ⟨w', hrun, h1, h2⟩ := hown.store (t := 51) keyS Try.underlying51 hk (keyN n hn) (show ptrR (.pointer (some ⟨id, 0, none⟩)) = some (enc (some id), []) from rfl)
  unfold Oper.wp
  simp [execOp, hop, hm, hx, hv, hrun, Result.andThen]
  exact h w' h1 h2
theorem step_del (hgd : o.guard = none) (m x : Operand) (hop : o.op = Op.call { callee := Callee.builtin Builtin.delete, args := #[m, x], argTypes := #[51, 9] }) (b k : Nat) (D : DataW Unit) (n : List UInt8) (hm : a.eval m = .map (some b))
    (hown : w.ownsMap Try.prog 9 ptrR b k D) (hx : a.eval x = .string ⟨n.toArray⟩) (hn : n.length ≤ 1048576)
    (h : ∀ w', w'.ownsMap Try.prog 9 ptrR b k (D.del (.string n)) → w.mapTurned w' b → K (a.put o.dst (.tuple #[])) w') :
    if Region.wanted o (yielded ops a.tmps) = true then Oper.wp Try.prog o a w K Q else E := by
  have hw : Region.wanted o (yielded ops a.tmps) = true := by simp [Region.wanted, hgd]
  rw [if_pos hw]
  obtain ⟨w', hrun, h1, h2⟩ := hown.drop (t := 51) keyS Try.underlying51 (keyN n hn) o.type
  unfold Oper.wp
  simp [execOp, hop, resolve, invoke, builtin, hm, hx, hrun, Result.andThen]
  exact h w' h1 h2
end
theorem turned_kp {w w' : World} {b : Nat} (h : w.mapTurned w' b) : Kp (fun i => i = b) w w' ∧ w'.heap.size = w.heap.size := by
  have hg := h.grown
  refine ⟨(Kp.refl _ _).grown hg (fun g hg => .inr (Option.some.inj hg).symm), ?_⟩
  obtain ⟨es, clock, es', clock', hb, rfl⟩ := h
  simp [ChangeMaps.setBlock]
/-- What an object of the program's holds, by its cells. -/
def fsC (lv : Value) (room used : Int) (mv : Value) : Obj := .cells #[lv, .int .i64 room, .int .i64 used, mv] 53 (0, 0)
/-- .. and a file. -/
def flC (n : List UInt8) (d len : Nat) : Obj := .cells #[.string ⟨n.toArray⟩, .slice (some ⟨d, 0, none⟩) len len] 80 (0, 0)
theorem fs_cells {w : World} {fs : Nat} {lv mv : Value} {room used : Int} (h : w.heap[fs]? = some (fsC lv room used mv)) :
    w.cell? ⟨fs, 0, none⟩ = some lv ∧ w.cell? ⟨fs, 1, none⟩ = some (.int .i64 room) ∧ w.cell? ⟨fs, 2, none⟩ = some (.int .i64 used) ∧ w.cell? ⟨fs, 3, none⟩ = some mv ∧ (∀ i, w.frozen? ⟨fs, i, none⟩ = false) ∧ fs < w.heap.size := by
  refine ⟨?_, ?_, ?_, ?_, fun i => ?_, (Array.getElem?_eq_some_iff.1 h).1⟩
  · rw [cell_of_row w fs 0 _ _ _ h]; rfl
  · rw [cell_of_row w fs 1 _ _ _ h]; rfl
  · rw [cell_of_row w fs 2 _ _ _ h]; rfl
  · rw [cell_of_row w fs 3 _ _ _ h]; rfl
  · simp [World.frozen?, h, fsC]
theorem fl_cells {w : World} {id d len : Nat} {n : List UInt8} (h : w.heap[id]? = some (flC n d len)) :
    w.cell? ⟨id, 0, none⟩ = some (.string ⟨n.toArray⟩) ∧ w.cell? ⟨id, 1, none⟩ = some (.slice (some ⟨d, 0, none⟩) len len) ∧ id < w.heap.size := by
  refine ⟨?_, ?_, (Array.getElem?_eq_some_iff.1 h).1⟩
  · rw [cell_of_row w id 0 _ _ _ h]; rfl
  · rw [cell_of_row w id 1 _ _ _ h]; rfl
theorem cells_ne {w : World} {b c : Nat} {x y : Obj} (h1 : w.heap[b]? = some x) (h2 : w.heap[c]? = some y) (h : x ≠ y) : b ≠ c := by
  rintro rfl
  rw [h1] at h2
  exact h (Option.some.inj h2)
theorem heap_cell {w : World} {g i : Nat} {cs : Array Value} {t : TypeId} {fr : Nat × Nat} (h : w.heap[g]? = some (.cells cs t fr)) (u : Value) : (w.setCell ⟨g, i, none⟩ u).heap[g]? = some (.cells (cs.setIfInBounds i u) t fr) := put_heap h u
/-- What put and drop leave. -/
def Putten (w : World) (fs : Nat) (mb : Option Nat) (k : Nat) (lv : Value) (room used : Int) (m : List UInt8 → Option Nat) (e : Ending) (w' : World) : Prop :=
  e = .returned (.tuple #[]) ∧ ∃ mv' mb', w'.heap[fs]? = some (fsC lv room used mv') ∧ Mp w' mv' mb' k m ∧ Kp (fun b => b = fs ∨ mb = some b) w w' ∧ (mb' = mb ∨ ∃ b, mb' = some b ∧ w.heap.size ≤ b)
theorem put_end {w W1 w2 : World} {fs b : Nat} {mb : Option Nat} {k id : Nat} {lv : Value} {room used u2 : Int} {n : List UInt8} {D : DataW Unit} {m : List UInt8 → Option Nat}
    (hK : Kp (fun i => i = fs ∨ mb = some i) w W1) (hb : mb = some b ∨ (mb = none ∧ w.heap.size ≤ b)) (hfs : W1.heap[fs]? = some (fsC lv room used (.map (some b)))) (hne : fs ≠ b)
    (ht : W1.mapTurned w2 b) (hown : w2.ownsMap Try.prog 9 ptrR b (k + 1) (D.put (.string n) (enc (some id)))) (hD : Maps.IsMap D)
    (h1 : ∀ n, D.atKey (.string n) .nil = enc (m n)) (h2 : ∀ n, Maps.has D (.string n) = (m n).isSome) :
    Putten w fs mb (k + 1) lv room u2 (setM m n (some id)) (.returned (.tuple #[])) (w2.setCell ⟨fs, 2, none⟩ (.int .i64 u2)) := by
  obtain ⟨hk2, hs2⟩ := turned_kp ht
  have hf2 : w2.heap[fs]? = some (fsC lv room used (.map (some b))) := (hk2.block fs (Array.getElem?_eq_some_iff.1 hfs).1 hne).trans hfs
  refine ⟨rfl, .map (some b), some b, ?_, ?_, ?_, ?_⟩
  · rw [heap_cell hf2]; rfl
  · refine (Mp.stored hown hD h1 h2).keep (fun b' hb' => ?_)
    obtain rfl := Option.some.inj hb'
    exact Below.heap_setCell w2 ⟨fs, 2, none⟩ _ b (Ne.symm hne)
  · refine (hK.trans hk2 (fun i hi e => ?_)).setCell ⟨fs, 2, none⟩ (.inr (.inl rfl)) _
    subst e
    rcases hb with hb | ⟨_, hb⟩
    · exact .inr hb
    · omega
  · rcases hb with hb | ⟨_, hb⟩
    · exact .inl hb.symm
    · exact .inr ⟨b, rfl, hb⟩
theorem drop_end {w w2 : World} {fs b : Nat} {k : Nat} {lv : Value} {room used u2 : Int} {n : List UInt8} {D : DataW Unit} {m : List UInt8 → Option Nat}
    (hfs : w.heap[fs]? = some (fsC lv room used (.map (some b)))) (hne : fs ≠ b)
    (ht : w.drew.mapTurned w2 b) (hown : w2.ownsMap Try.prog 9 ptrR b k (D.del (.string n)))
    (h1 : ∀ n, D.atKey (.string n) .nil = enc (m n)) (h2 : ∀ n, Maps.has D (.string n) = (m n).isSome) :
    Putten w fs (some b) k lv room u2 (setM m n none) (.returned (.tuple #[])) (w2.setCell ⟨fs, 2, none⟩ (.int .i64 u2)) := by
  obtain ⟨hk2, hs2⟩ := turned_kp ht
  have hf2 : w2.heap[fs]? = some (fsC lv room used (.map (some b))) := (hk2.block fs (Array.getElem?_eq_some_iff.1 hfs).1 hne).trans hfs
  refine ⟨rfl, .map (some b), some b, ?_, ?_, ?_, .inl rfl⟩
  · rw [heap_cell hf2]; rfl
  · refine (Mp.struck hown h1 h2).keep (fun b' hb' => ?_)
    obtain rfl := Option.some.inj hb'
    exact Below.heap_setCell w2 ⟨fs, 2, none⟩ _ b (Ne.symm hne)
  · have h0 : Kp (fun i => i = fs ∨ some b = some i) w w.drew := (Kp.refl _ w).drew
    refine (h0.trans hk2 (fun i hi e => ?_)).setCell ⟨fs, 2, none⟩ (.inr (.inl rfl)) _
    subst e
    exact .inr rfl
theorem Putten.drew {w w' : World} {fs : Nat} {mb : Option Nat} {k : Nat} {lv : Value} {room used : Int} {m : List UInt8 → Option Nat} {e : Ending} (h : Putten w fs mb k lv room used m e w') : Putten w fs mb k lv room used m e w'.drew := by
  obtain ⟨h0, mv', mb', h1, h2, h3, h4⟩ := h
  exact ⟨h0, mv', mb', h1, h2.keep (fun _ _ => rfl), h3.drew, h4⟩
end Vp

set_option maxHeartbeats 1000000 in
theorem put_any {w : World} {fs id d k : Nat} {lv mv : Value} {mb : Option Nat} {room used : Int} {m : List UInt8 → Option Nat} {n : List UInt8} {len : Nat} (hfs : w.heap[fs]? = some (Vp.fsC lv room used mv)) (hm : Vp.Mp w mv mb k m)
    (hfl : w.heap[id]? = some (Vp.flC n d len)) (hn : n.length ≤ 1048576) (hk : k ≤ 4194304) (u0 : -4611686018427387904 ≤ used) (u1 : used ≤ 4611686018427387904) (hl : len ≤ 4294967296) :
    Calls Try.prog 44 #[.pointer (some ⟨fs, 0, none⟩), .pointer (some ⟨id, 0, none⟩)] w (Vp.Putten w fs mb (k + 1) lv room (used + len) (Vp.setM m n (some id))) := by
  obtain ⟨c0, c1, c2, c3, cf, fsl⟩ := Vp.fs_cells hfs
  obtain ⟨e0, e1, idl⟩ := Vp.fl_cells hfl
  have qT : ∀ (w : World) (r : Option Nat), (binOp .eql 51 (.map r) (.map none)).run Try.prog w = .ok (.bool r.isNone) w := fun w r => run_eql_map_nil w _ _ _ r Try.underlying51
  have hmm := @run_makeMap Try.prog
  have hne : fs ≠ id := Vp.cells_ne hfs hfl (by intro e; simp [Vp.fsC, Vp.flC] at e)
  have hadd : IntKind.i64.wrap (used + len) = used + len := IntWalk.i64_in _ (by omega)
  have HO : ∀ {W : World} {b : Nat} {D : DataW Unit}, W.ownsMap Try.prog 9 Vp.ptrR b k D → Maps.IsMap D := fun h => h.isMap
  have hkm : k < maxLen := by unfold maxLen; omega
  rcases hm with ⟨rfl, rfl, hm0⟩ | ⟨b, D, rfl, rfl, hown, h1, h2⟩
  · have cf2 := cf 2
    have cf3 := cf 3
    have HFS := Lib.hid hfs
    have HFL := Lib.hid hfl
    clear hfs hfl cf HO
    go_enter Try.func44, Try.ntmps44
    go_wp2_with fail
    obtain ⟨W1, hW1⟩ : ∃ W1, W1 = (w.setCell ⟨fs, 3, none⟩ (.map (some w.heap.size))).alloc (.map #[] 0) := ⟨_, rfl⟩
    obtain ⟨b, hb⟩ : ∃ b, b = w.heap.size := ⟨_, rfl⟩
    have hsz : (w.setCell ⟨fs, 3, none⟩ (.map (some w.heap.size))).heap.size = w.heap.size := put_size _ _ _
    have hown : W1.ownsMap Try.prog 9 Vp.ptrR b k (.map []) := by
      have := (World.ownsMap_made (w.setCell ⟨fs, 3, none⟩ (.map (some w.heap.size))) Try.prog 9 Vp.ptrR).mono (Nat.zero_le k)
      rw [hsz, ← hW1, ← hb] at this
      exact this
    have hKw : Kp (fun i => i = fs ∨ (none : Option Nat) = some i) w W1 := by rw [hW1]; exact ((Kp.refl _ w).setCell ⟨fs, 3, none⟩ (.inr (.inl rfl)) _).alloc _
    have hfs1 : W1.heap[fs]? = some (Vp.fsC lv room used (.map (some b))) := by
      rw [hW1, hb, Below.heap_alloc _ _ fs (by rw [hsz]; exact fsl), Vp.heap_cell HFS.out]
      rfl
    have hfl1 : W1.heap[id]? = some (Vp.flC n d len) := (hKw.block id idl (fun e => e.elim (fun e => hne e.symm) (fun e => nomatch e))).trans HFL.out
    obtain ⟨z0, z1, z2, z3, zf, zl⟩ := Vp.fs_cells hfs1
    obtain ⟨y0, y1, yl⟩ := Vp.fl_cells hfl1
    have zf2 := zf 2
    have hnb : fs ≠ b := by omega
    have hib : id ≠ b := by omega
    rw [← hW1, ← hb]
    have HB : Hid (w.heap.size ≤ b) := Lib.hid (by omega)
    obtain ⟨w2, hrun, hown2, ht2⟩ := hown.drew.store (t := 51) Vp.keyS Try.underlying51 hkm (Vp.keyN n hn) (show Vp.ptrR (.pointer (some ⟨id, 0, none⟩)) = some (Vp.enc (some id), []) from rfl)
    have hk2 := (Vp.turned_kp ht2).1
    have d2 := (hk2.cell (p := ⟨fs, 2, none⟩) zl hnb).trans z2
    have df := (hk2.frozen (p := ⟨fs, 2, none⟩) zl hnb).trans zf2
    have g1 := (hk2.cell (p := ⟨id, 1, none⟩) yl hib).trans y1
    have HO2 := Lib.hid hown2
    have HT2 := Lib.hid ht2
    have HK := Lib.hid hKw
    have HF1 := Lib.hid hfs1
    have hD : Hid (Maps.IsMap (.map [] : DataW Unit)) := Lib.hid Maps.isMap_empty
    have HA : Hid (∀ n, (DataW.map [] : DataW Unit).atKey (.string n) .nil = Vp.enc (m n)) := Lib.hid (fun n => by rw [hm0 n]; rfl)
    have HH : Hid (∀ n, Maps.has (.map [] : DataW Unit) (.string n) = (m n).isSome) := Lib.hid (fun n => by rw [hm0 n]; rfl)
    clear hown2 ht2 hk2 hown hKw hfs1 hfl1 hW1 hb hsz zf hm0 c0 c1 c2 c3 e0 e1 cf2 cf3
    go_region
    all_goals
      go_wp2_with fail
      go_region
      all_goals
        go_wp2_with fail
        ((try simp only [Exit.inBlock, Exit.then]); first | (refine bodyPost_ret (results_none rfl _ _ _) rfl ?_) | (refine bodyPost_end (results_none rfl _ _ _) rfl ?_))
        exact Vp.Putten.drew (Vp.put_end HK.out.drew (.inr ⟨rfl, HB.out⟩) HF1.out hnb HT2.out HO2.out hD.out HA.out HH.out)
  · have hown2 := hown
    obtain ⟨es, clock, hbb, _⟩ := hown2
    have hnb : fs ≠ b := Vp.cells_ne hfs hbb (by intro e; simp [Vp.fsC] at e)
    have hib : id ≠ b := Vp.cells_ne hfl hbb (by intro e; simp [Vp.flC] at e)
    have HOW := Lib.hid hown
    have H1 := Lib.hid h1
    have H2 := Lib.hid h2
    have HFS := Lib.hid hfs
    clear hown h1 h2 hfs hfl hbb HO
    have cf2 := cf 2
    clear cf
    obtain ⟨w2, hrun, hown2, ht2⟩ := HOW.out.drew.store (t := 51) Vp.keyS Try.underlying51 hkm (Vp.keyN n hn) (show Vp.ptrR (.pointer (some ⟨id, 0, none⟩)) = some (Vp.enc (some id), []) from rfl)
    have hk2 := (Vp.turned_kp ht2).1
    have d2 := (hk2.cell (p := ⟨fs, 2, none⟩) fsl hnb).trans c2
    have df := (hk2.frozen (p := ⟨fs, 2, none⟩) fsl hnb).trans cf2
    have g1 := (hk2.cell (p := ⟨id, 1, none⟩) idl hib).trans e1
    have HO2 := Lib.hid hown2
    have HT2 := Lib.hid ht2
    have hD := Lib.hid HOW.out.isMap
    clear hown2 ht2 hk2
    go_enter Try.func44, Try.ntmps44
    go_wp2_with fail
    go_region
    all_goals
      go_wp2_with fail
      go_region
      all_goals
        go_wp2_with fail
        ((try simp only [Exit.inBlock, Exit.then]); first | (refine bodyPost_ret (results_none rfl _ _ _) rfl ?_) | (refine bodyPost_end (results_none rfl _ _ _) rfl ?_))
        exact Vp.Putten.drew (Vp.put_end ((Kp.refl _ w).drew) (.inl rfl) HFS.out hnb HT2.out HO2.out hD.out H1.out H2.out)

set_option maxHeartbeats 1000000 in
theorem drop_any {w : World} {fs id d k b : Nat} {lv mv : Value} {room used : Int} {m : List UInt8 → Option Nat} {n : List UInt8} {len : Nat} (hfs : w.heap[fs]? = some (Vp.fsC lv room used mv)) (hm : Vp.Mp w mv (some b) k m)
    (hfl : w.heap[id]? = some (Vp.flC n d len)) (hn : n.length ≤ 1048576) (u0 : -4611686018427387904 ≤ used) (u1 : used ≤ 4611686018427387904) (hl : len ≤ 4294967296) :
    Calls Try.prog 52 #[.pointer (some ⟨fs, 0, none⟩), .pointer (some ⟨id, 0, none⟩)] w (Vp.Putten w fs (some b) k lv room (used - len) (Vp.setM m n none)) := by
  obtain ⟨c0, c1, c2, c3, cf, fsl⟩ := Vp.fs_cells hfs
  obtain ⟨e0, e1, idl⟩ := Vp.fl_cells hfl
  have hadd : IntKind.i64.wrap (used - len) = used - len := IntWalk.i64_in _ (by omega)
  rcases hm with ⟨rfl, hmb, hm0⟩ | ⟨b', D, rfl, hmb, hown, h1, h2⟩
  · cases hmb
  · obtain rfl := Option.some.inj hmb
    have hown2 := hown
    obtain ⟨es, clock, hbb, _⟩ := hown2
    have hnb : fs ≠ b := Vp.cells_ne hfs hbb (by intro e; simp [Vp.fsC] at e)
    have hib : id ≠ b := Vp.cells_ne hfl hbb (by intro e; simp [Vp.flC] at e)
    have HOW := Lib.hid hown
    have H1 := Lib.hid h1
    have H2 := Lib.hid h2
    have HFS := Lib.hid hfs
    have cf2 := cf 2
    clear hown h1 h2 hfs hfl hbb cf hmb
    go_enter Try.func52, Try.ntmps52
    go_wp2_with fail
    go_region_law (refine Vp.step_del rfl (.tmp 7) (.tmp 11) rfl b k D n (by simp [Act.eval]) HOW.out.drew (by simp [Act.eval]) hn ?_; intro w2 hown2 ht2; have hk2 := (Vp.turned_kp ht2).1; have d2 := (hk2.cell (p := ⟨fs, 2, none⟩) fsl hnb).trans c2; have df := (hk2.frozen (p := ⟨fs, 2, none⟩) fsl hnb).trans cf2; have g1 := (hk2.cell (p := ⟨id, 1, none⟩) idl hib).trans e1; have HO2 := Lib.hid hown2; have HT2 := Lib.hid ht2; clear hown2 ht2 hk2)
    all_goals
      go_wp2_with fail
      go_region
      all_goals
        go_wp2_with fail
        ((try simp only [Exit.inBlock, Exit.then]); first | (refine bodyPost_ret (results_none rfl _ _ _) rfl ?_) | (refine bodyPost_end (results_none rfl _ _ _) rfl ?_))
        exact Vp.Putten.drew (Vp.drop_end HFS.out hnb HT2.out HO2.out H1.out H2.out)
end Go.Proofs.Ytiacpopgnmledaa
