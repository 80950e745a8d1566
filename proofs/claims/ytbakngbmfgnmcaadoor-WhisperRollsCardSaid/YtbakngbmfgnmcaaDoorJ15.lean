/-
  VpMap: MEMORY: a map from texts to pointers, as a law for the walk.
  VpPut: CONTRACTS: the program's files: a file is put among the others, or dropped.
  VpJour: CONTRACTS: the program's files: what is pending, noted and popped.
  VpPop: CONTRACTS: the program's files: how many are pending; the latest taken out; all let go; a file found.
  VpObj: THE PROGRAM's FILES as an object in memory.
  VpGen: CONTRACTS: the program's files as an object: New, Sync, Pending, Used, Size, Remove.
-/
import Derived.Test.YtbakngbmfgnmcaaDoorJ14
import Derived.Maps.OwnSet
import Derived.Maps.OwnOps
import Derived.RegionTactic
import Derived.Deep.RegionLaw

namespace Go.Proofs.YtbakngbmfgnmcaaDoor
open Go.RowKit
open Me Vf
namespace Vp

/-- How a pointer to a block's head reads. -/
def ptrR : Value → Option (DataW Unit × List MemPlace)
  | .pointer none => some (.nil, [])
  | .pointer (some ⟨b, 0, none⟩) => some (.lit (.int .i64 (b : Int)), [])
  | _ => none
def enc : Option Nat → DataW Unit
  | none => .nil
  | some b => .lit (.int .i64 (b : Int))
def ptr : Option Nat → Value
  | none => .pointer none
  | some b => .pointer (some ⟨b, 0, none⟩)
theorem ptrR_inv {v : Value} {m : Option Nat} {ps : List MemPlace} (h : ptrR v = some (enc m, ps)) : v = ptr m := by
  unfold ptrR at h
  split at h
  · cases m with
    | none => rfl
    | some b => simp [enc] at h
  · cases m with
    | none => simp [enc] at h
    | some b =>
      simp [enc] at h
      have h1 := h.1
      show Value.pointer _ = Value.pointer _
      congr 3
      exact_mod_cast h1
  · cases h
/-- A map, nil or not, from texts to pointers. -/
def Mp (w : World) (mv : Value) (mb : Option Nat) (k : Nat) (m : List UInt8 → Option Nat) : Prop :=
  (mv = .map none ∧ mb = none ∧ ∀ n, m n = none) ∨
  ∃ b D, mv = .map (some b) ∧ mb = some b ∧ w.ownsMap Tryd.prog 9 ptrR b k D ∧ (∀ n, D.atKey (.string n) .nil = enc (m n)) ∧ ∀ n, Maps.has D (.string n) = (m n).isSome
theorem keyS : Maps.Keyed Tryd.prog 9 := Maps.string_keyed Tryd.underlying9
theorem keyN (n : List UInt8) (h : n.length ≤ 1048576) : keyOf Tryd.prog 9 (.string ⟨n.toArray⟩) = some (.string n) := by
  have := Go.WideMaps.keyOf_string_mk (P := Tryd.prog) (k := 9) Tryd.underlying9 (s := ⟨n.toArray⟩) (by show n.toArray.size ≤ _; unfold maxLen; simp; omega)
  simpa using this
theorem zeroP (w : World) : (zeroValue 76).run Tryd.prog w = .ok (.pointer none) w := by kernel_rfl
theorem Mp.look {w : World} {mv : Value} {mb : Option Nat} {k : Nat} {m : List UInt8 → Option Nat} (h : Mp w mv mb k m) {n : List UInt8} (hn : n.length ≤ 1048576) :
    (Instr.lookup 49 mv (.string ⟨n.toArray⟩) false).run Tryd.prog w = .ok (ptr (m n)) w := by
  rcases h with ⟨rfl, _, h⟩ | ⟨b, D, rfl, _, hown, hat, _⟩
  · have := Maps.look_nil (P := Tryd.prog) (w := w) (t := 49) false keyS Tryd.underlying49 (zeroP w) (keyN n hn)
    rw [h n]
    exact this
  · obtain ⟨v, ps, hrun, hv⟩ := hown.lookup (t := 49) keyS Tryd.underlying49 (zeroP w) (zd := .nil) (zp := []) rfl (keyN n hn)
    rw [hat n] at hv
    rw [hrun, ptrR_inv hv]
theorem Mp.keep {w w' : World} {mv : Value} {mb : Option Nat} {k : Nat} {m : List UInt8 → Option Nat} (h : Mp w mv mb k m) (hk : ∀ b, mb = some b → w'.heap[b]? = w.heap[b]?) : Mp w' mv mb k m := by
  rcases h with h | ⟨b, D, hmv, hmb, hown, h1, h2⟩
  · exact .inl h
  · obtain ⟨es, clock, hb, rest⟩ := hown
    exact .inr ⟨b, D, hmv, hmb, ⟨es, clock, (hk b hmb).trans hb, rest⟩, h1, h2⟩
theorem Mp.mono {w : World} {mv : Value} {mb : Option Nat} {k k' : Nat} {m : List UInt8 → Option Nat} (h : Mp w mv mb k m) (hk : k ≤ k') : Mp w mv mb k' m := by
  rcases h with h | ⟨b, D, hmv, hmb, hown, h1, h2⟩
  · exact .inl h
  · exact .inr ⟨b, D, hmv, hmb, hown.mono hk, h1, h2⟩
theorem Mp.lt {w : World} {mv : Value} {mb : Option Nat} {k : Nat} {m : List UInt8 → Option Nat} (h : Mp w mv mb k m) {b : Nat} (hb : mb = some b) : b < w.heap.size ∧ ∃ es clock, w.heap[b]? = some (.map es clock) := by
  rcases h with ⟨_, h, _⟩ | ⟨b', D, hmv, hmb, hown, h1, h2⟩
  · rw [h] at hb; cases hb
  · rw [hmb] at hb
    obtain rfl := Option.some.inj hb
    obtain ⟨es, clock, hh, _⟩ := id hown
    exact ⟨hown.lt, es, clock, hh⟩
/-- Behind a store. -/
theorem Mp.stored {w : World} {b k id : Nat} {D : DataW Unit} {m : List UInt8 → Option Nat} {n : List UInt8} (hown : w.ownsMap Tryd.prog 9 ptrR b (k + 1) (D.put (.string n) (enc (some id)))) (hD : Maps.IsMap D)
    (h1 : ∀ n, D.atKey (.string n) .nil = enc (m n)) (h2 : ∀ n, Maps.has D (.string n) = (m n).isSome) : Mp w (.map (some b)) (some b) (k + 1) (setM m n (some id)) := by
  refine .inr ⟨b, _, rfl, rfl, hown, fun x => ?_, fun x => ?_⟩
  · unfold setM
    by_cases e : x = n
    · subst e
      rw [if_pos rfl, Maps.atKey_put_same hD (show WideAt.IsKeyLit (.string x) from trivial)]
    · rw [if_neg e, Maps.atKey_put_other (show Lit.string x ≠ Lit.string n by simpa using e), h1 x]
  · unfold setM
    by_cases e : x = n
    · subst e
      rw [if_pos rfl, Maps.has_put_same hD (show WideAt.IsKeyLit (.string x) from trivial)]
      rfl
    · rw [if_neg e, Maps.has_put_other (show Lit.string x ≠ Lit.string n by simpa using e), h2 x]
/-- Behind a delete. -/
theorem Mp.struck {w : World} {b k : Nat} {D : DataW Unit} {m : List UInt8 → Option Nat} {n : List UInt8} (hown : w.ownsMap Tryd.prog 9 ptrR b k (D.del (.string n)))
    (h1 : ∀ n, D.atKey (.string n) .nil = enc (m n)) (h2 : ∀ n, Maps.has D (.string n) = (m n).isSome) : Mp w (.map (some b)) (some b) k (setM m n none) := by
  refine .inr ⟨b, _, rfl, rfl, hown, fun x => ?_, fun x => ?_⟩
  · unfold setM
    by_cases e : x = n
    · subst e
      rw [if_pos rfl, Maps.atKey_del_same]
      rfl
    · rw [if_neg e, Maps.atKey_del_other (show Lit.string x ≠ Lit.string n by simpa using e), h1 x]
  · unfold setM
    by_cases e : x = n
    · subst e
      rw [if_pos rfl, Maps.has_del_same]
      rfl
    · rw [if_neg e, Maps.has_del_other (show Lit.string x ≠ Lit.string n by simpa using e), h2 x]
end Vp
end Go.Proofs.YtbakngbmfgnmcaaDoor

namespace Go.Proofs.YtbakngbmfgnmcaaDoor
open Go.RowKit
open Me Vf
namespace Vp
section
variable {ops : Array Oper} {o : Oper} {a : Act} {w : World} {K : Act → World → Prop} {Q : Exit → Act → World → Prop} {E : Prop}
theorem step_put (hgd : o.guard = none) (m x v : Operand) (hop : o.op = Op.mapUpdate 49 m x v) (b k id : Nat) (D : DataW Unit) (n : List UInt8) (hm : a.eval m = .map (some b))
    (hown : w.ownsMap Tryd.prog 9 ptrR b k D) (hk : k < maxLen) (hx : a.eval x = .string ⟨n.toArray⟩) (hn : n.length ≤ 1048576) (hv : a.eval v = .pointer (some ⟨id, 0, none⟩))
    (h : ∀ w', w'.ownsMap Tryd.prog 9 ptrR b (k + 1) (D.put (.string n) (enc (some id))) → w.mapTurned w' b → K (a.put o.dst undef) w') :
    if Region.wanted o (yielded ops a.tmps) = true then Oper.wp Tryd.prog o a w K Q else E := by
  have hw : Region.wanted o (yielded ops a.tmps) = true := by simp [Region.wanted, hgd]
  rw [if_pos hw]
  obtain ⟨w', hrun, h1, h2⟩ := hown.store (t := 49) keyS Tryd.underlying49 hk (keyN n hn) (show ptrR (.pointer (some ⟨id, 0, none⟩)) = some (enc (some id), []) from rfl)
  unfold Oper.wp
  simp [execOp, hop, hm, hx, hv, hrun, Result.andThen]
  exact h w' h1 h2
theorem step_del (hgd : o.guard = none) (m x : Operand) (hop : o.op = Op.call { callee := Callee.builtin Builtin.delete, args := #[m, x], argTypes := #[49, 9] }) (b k : Nat) (D : DataW Unit) (n : List UInt8) (hm : a.eval m = .map (some b))
    (hown : w.ownsMap Tryd.prog 9 ptrR b k D) (hx : a.eval x = .string ⟨n.toArray⟩) (hn : n.length ≤ 1048576)
    (h : ∀ w', w'.ownsMap Tryd.prog 9 ptrR b k (D.del (.string n)) → w.mapTurned w' b → K (a.put o.dst (.tuple #[])) w') :
    if Region.wanted o (yielded ops a.tmps) = true then Oper.wp Tryd.prog o a w K Q else E := by
  have hw : Region.wanted o (yielded ops a.tmps) = true := by simp [Region.wanted, hgd]
  rw [if_pos hw]
  obtain ⟨w', hrun, h1, h2⟩ := hown.drop (t := 49) keyS Tryd.underlying49 (keyN n hn) o.type
  unfold Oper.wp
  simp [execOp, hop, resolve, invoke, builtin, hm, hx, hrun, Result.andThen]
  exact h w' h1 h2
end
theorem turned_kp {w w' : World} {b : Nat} (h : w.mapTurned w' b) : Kp (fun i => i = b) w w' ∧ w'.heap.size = w.heap.size := by
  have hg := h.grown
  refine ⟨(Kp.refl _ _).grown hg (fun g hg => .inr (Option.some.inj hg).symm), ?_⟩
  obtain ⟨es, clock, es', clock', hb, rfl⟩ := h
  simp [ChangeMaps.setBlock]
/-- What an object of the program's holds, by its cells. -/
def fsC (lv : Value) (room used : Int) (mv : Value) : Obj := .cells #[lv, .int .i64 room, .int .i64 used, mv] 51 (0, 0)
/-- .. and a file. -/
def flC (n : List UInt8) (d len : Nat) : Obj := .cells #[.string ⟨n.toArray⟩, .slice (some ⟨d, 0, none⟩) len len] 79 (0, 0)
theorem fs_cells {w : World} {fs : Nat} {lv mv : Value} {room used : Int} (h : w.heap[fs]? = some (fsC lv room used mv)) :
    w.cell? ⟨fs, 0, none⟩ = some lv ∧ w.cell? ⟨fs, 1, none⟩ = some (.int .i64 room) ∧ w.cell? ⟨fs, 2, none⟩ = some (.int .i64 used) ∧ w.cell? ⟨fs, 3, none⟩ = some mv ∧ (∀ i, w.frozen? ⟨fs, i, none⟩ = false) ∧ fs < w.heap.size := by
  refine ⟨?_, ?_, ?_, ?_, fun i => ?_, (Array.getElem?_eq_some_iff.1 h).1⟩
  · rw [cell_of_row w fs 0 _ _ _ h]; rfl
  · rw [cell_of_row w fs 1 _ _ _ h]; rfl
  · rw [cell_of_row w fs 2 _ _ _ h]; rfl
  · rw [cell_of_row w fs 3 _ _ _ h]; rfl
  · simp [World.frozen?, h, fsC]
theorem fl_cells {w : World} {id d len : Nat} {n : List UInt8} (h : w.heap[id]? = some (flC n d len)) :
    w.cell? ⟨id, 0, none⟩ = some (.string ⟨n.toArray⟩) ∧ w.cell? ⟨id, 1, none⟩ = some (.slice (some ⟨d, 0, none⟩) len len) ∧ id < w.heap.size := by
  refine ⟨?_, ?_, (Array.getElem?_eq_some_iff.1 h).1⟩
  · rw [cell_of_row w id 0 _ _ _ h]; rfl
  · rw [cell_of_row w id 1 _ _ _ h]; rfl
theorem cells_ne {w : World} {b c : Nat} {x y : Obj} (h1 : w.heap[b]? = some x) (h2 : w.heap[c]? = some y) (h : x ≠ y) : b ≠ c := by
  rintro rfl
  rw [h1] at h2
  exact h (Option.some.inj h2)
theorem heap_cell {w : World} {g i : Nat} {cs : Array Value} {t : TypeId} {fr : Nat × Nat} (h : w.heap[g]? = some (.cells cs t fr)) (u : Value) : (w.setCell ⟨g, i, none⟩ u).heap[g]? = some (.cells (cs.setIfInBounds i u) t fr) := put_heap h u
/-- What put and drop leave. -/
def Putten (w : World) (fs : Nat) (mb : Option Nat) (k : Nat) (lv : Value) (room used : Int) (m : List UInt8 → Option Nat) (e : Ending) (w' : World) : Prop :=
  e = .returned (.tuple #[]) ∧ ∃ mv' mb', w'.heap[fs]? = some (fsC lv room used mv') ∧ Mp w' mv' mb' k m ∧ Kp (fun b => b = fs ∨ mb = some b) w w' ∧ (mb' = mb ∨ ∃ b, mb' = some b ∧ w.heap.size ≤ b)
theorem put_end {w W1 w2 : World} {fs b : Nat} {mb : Option Nat} {k id : Nat} {lv : Value} {room used u2 : Int} {n : List UInt8} {D : DataW Unit} {m : List UInt8 → Option Nat}
    (hK : Kp (fun i => i = fs ∨ mb = some i) w W1) (hb : mb = some b ∨ (mb = none ∧ w.heap.size ≤ b)) (hfs : W1.heap[fs]? = some (fsC lv room used (.map (some b)))) (hne : fs ≠ b)
    (ht : W1.mapTurned w2 b) (hown : w2.ownsMap Tryd.prog 9 ptrR b (k + 1) (D.put (.string n) (enc (some id)))) (hD : Maps.IsMap D)
    (h1 : ∀ n, D.atKey (.string n) .nil = enc (m n)) (h2 : ∀ n, Maps.has D (.string n) = (m n).isSome) :
    Putten w fs mb (k + 1) lv room u2 (setM m n (some id)) (.returned (.tuple #[])) (w2.setCell ⟨fs, 2, none⟩ (.int .i64 u2)) := by
  obtain ⟨hk2, hs2⟩ := turned_kp ht
  have hf2 : w2.heap[fs]? = some (fsC lv room used (.map (some b))) := (hk2.block fs (Array.getElem?_eq_some_iff.1 hfs).1 hne).trans hfs
  refine ⟨rfl, .map (some b), some b, ?_, ?_, ?_, ?_⟩
  · rw [heap_cell hf2]; rfl
  · refine (Mp.stored hown hD h1 h2).keep (fun b' hb' => ?_)
    obtain rfl := Option.some.inj hb'
    exact Below.heap_setCell w2 ⟨fs, 2, none⟩ _ b (Ne.symm hne)
  · refine (hK.trans hk2 (fun i hi e => ?_)).setCell ⟨fs, 2, none⟩ (.inr (.inl rfl)) _
    subst e
    rcases hb with hb | ⟨_, hb⟩
    · exact .inr hb
    · omega
  · rcases hb with hb | ⟨_, hb⟩
    · exact .inl hb.symm
    · exact .inr ⟨b, rfl, hb⟩
theorem drop_end {w w2 : World} {fs b : Nat} {k : Nat} {lv : Value} {room used u2 : Int} {n : List UInt8} {D : DataW Unit} {m : List UInt8 → Option Nat}
    (hfs : w.heap[fs]? = some (fsC lv room used (.map (some b)))) (hne : fs ≠ b)
    (ht : w.drew.mapTurned w2 b) (hown : w2.ownsMap Tryd.prog 9 ptrR b k (D.del (.string n)))
    (h1 : ∀ n, D.atKey (.string n) .nil = enc (m n)) (h2 : ∀ n, Maps.has D (.string n) = (m n).isSome) :
    Putten w fs (some b) k lv room u2 (setM m n none) (.returned (.tuple #[])) (w2.setCell ⟨fs, 2, none⟩ (.int .i64 u2)) := by
  obtain ⟨hk2, hs2⟩ := turned_kp ht
  have hf2 : w2.heap[fs]? = some (fsC lv room used (.map (some b))) := (hk2.block fs (Array.getElem?_eq_some_iff.1 hfs).1 hne).trans hfs
  refine ⟨rfl, .map (some b), some b, ?_, ?_, ?_, .inl rfl⟩
  · rw [heap_cell hf2]; rfl
  · refine (Mp.struck hown h1 h2).keep (fun b' hb' => ?_)
    obtain rfl := Option.some.inj hb'
    exact Below.heap_setCell w2 ⟨fs, 2, none⟩ _ b (Ne.symm hne)
  · have h0 : Kp (fun i => i = fs ∨ some b = some i) w w.drew := (Kp.refl _ w).drew
    refine (h0.trans hk2 (fun i hi e => ?_)).setCell ⟨fs, 2, none⟩ (.inr (.inl rfl)) _
    subst e
    exact .inr rfl
theorem Putten.drew {w w' : World} {fs : Nat} {mb : Option Nat} {k : Nat} {lv : Value} {room used : Int} {m : List UInt8 → Option Nat} {e : Ending} (h : Putten w fs mb k lv room used m e w') : Putten w fs mb k lv room used m e w'.drew := by
  obtain ⟨h0, mv', mb', h1, h2, h3, h4⟩ := h
  exact ⟨h0, mv', mb', h1, h2.keep (fun _ _ => rfl), h3.drew, h4⟩
end Vp

set_option maxHeartbeats 1000000 in
theorem put_any {w : World} {fs id d k : Nat} {lv mv : Value} {mb : Option Nat} {room used : Int} {m : List UInt8 → Option Nat} {n : List UInt8} {len : Nat} (hfs : w.heap[fs]? = some (Vp.fsC lv room used mv)) (hm : Vp.Mp w mv mb k m)
    (hfl : w.heap[id]? = some (Vp.flC n d len)) (hn : n.length ≤ 1048576) (hk : k ≤ 4194304) (u0 : -4611686018427387904 ≤ used) (u1 : used ≤ 4611686018427387904) (hl : len ≤ 4294967296) :
    Calls Tryd.prog 29 #[.pointer (some ⟨fs, 0, none⟩), .pointer (some ⟨id, 0, none⟩)] w (Vp.Putten w fs mb (k + 1) lv room (used + len) (Vp.setM m n (some id))) := by
  obtain ⟨c0, c1, c2, c3, cf, fsl⟩ := Vp.fs_cells hfs
  obtain ⟨e0, e1, idl⟩ := Vp.fl_cells hfl
  have qT : ∀ (w : World) (r : Option Nat), (binOp .eql 49 (.map r) (.map none)).run Tryd.prog w = .ok (.bool r.isNone) w := fun w r => run_eql_map_nil w _ _ _ r Tryd.underlying49
  have hmm := @run_makeMap Tryd.prog
  have hne : fs ≠ id := Vp.cells_ne hfs hfl (by intro e; simp [Vp.fsC, Vp.flC] at e)
  have hadd : IntKind.i64.wrap (used + len) = used + len := IntWalk.i64_in _ (by omega)
  have HO : ∀ {W : World} {b : Nat} {D : DataW Unit}, W.ownsMap Tryd.prog 9 Vp.ptrR b k D → Maps.IsMap D := fun h => h.isMap
  have hkm : k < maxLen := by unfold maxLen; omega
  rcases hm with ⟨rfl, rfl, hm0⟩ | ⟨b, D, rfl, rfl, hown, h1, h2⟩
  · have cf2 := cf 2
    have cf3 := cf 3
    have HFS := Lib.hid hfs
    have HFL := Lib.hid hfl
    clear hfs hfl cf HO
    go_enter Tryd.func29, Tryd.ntmps29
    go_wp2_with fail
    obtain ⟨W1, hW1⟩ : ∃ W1, W1 = (w.setCell ⟨fs, 3, none⟩ (.map (some w.heap.size))).alloc (.map #[] 0) := ⟨_, rfl⟩
    obtain ⟨b, hb⟩ : ∃ b, b = w.heap.size := ⟨_, rfl⟩
    have hsz : (w.setCell ⟨fs, 3, none⟩ (.map (some w.heap.size))).heap.size = w.heap.size := put_size _ _ _
    have hown : W1.ownsMap Tryd.prog 9 Vp.ptrR b k (.map []) := by
      have := (World.ownsMap_made (w.setCell ⟨fs, 3, none⟩ (.map (some w.heap.size))) Tryd.prog 9 Vp.ptrR).mono (Nat.zero_le k)
      rw [hsz, ← hW1, ← hb] at this
      exact this
    have hKw : Kp (fun i => i = fs ∨ (none : Option Nat) = some i) w W1 := by rw [hW1]; exact ((Kp.refl _ w).setCell ⟨fs, 3, none⟩ (.inr (.inl rfl)) _).alloc _
    have hfs1 : W1.heap[fs]? = some (Vp.fsC lv room used (.map (some b))) := by
      rw [hW1, hb, Below.heap_alloc _ _ fs (by rw [hsz]; exact fsl), Vp.heap_cell HFS.out]
      rfl
    have hfl1 : W1.heap[id]? = some (Vp.flC n d len) := (hKw.block id idl (fun e => e.elim (fun e => hne e.symm) (fun e => nomatch e))).trans HFL.out
    obtain ⟨z0, z1, z2, z3, zf, zl⟩ := Vp.fs_cells hfs1
    obtain ⟨y0, y1, yl⟩ := Vp.fl_cells hfl1
    have zf2 := zf 2
    have hnb : fs ≠ b := by omega
    have hib : id ≠ b := by omega
    rw [← hW1, ← hb]
    have HB : Hid (w.heap.size ≤ b) := Lib.hid (by omega)
    obtain ⟨w2, hrun, hown2, ht2⟩ := hown.drew.store (t := 49) Vp.keyS Tryd.underlying49 hkm (Vp.keyN n hn) (show Vp.ptrR (.pointer (some ⟨id, 0, none⟩)) = some (Vp.enc (some id), []) from rfl)
    have hk2 := (Vp.turned_kp ht2).1
    have d2 := (hk2.cell (p := ⟨fs, 2, none⟩) zl hnb).trans z2
    have df := (hk2.frozen (p := ⟨fs, 2, none⟩) zl hnb).trans zf2
    have g1 := (hk2.cell (p := ⟨id, 1, none⟩) yl hib).trans y1
    have HO2 := Lib.hid hown2
    have HT2 := Lib.hid ht2
    have HK := Lib.hid hKw
    have HF1 := Lib.hid hfs1
    have hD : Hid (Maps.IsMap (.map [] : DataW Unit)) := Lib.hid Maps.isMap_empty
    have HA : Hid (∀ n, (DataW.map [] : DataW Unit).atKey (.string n) .nil = Vp.enc (m n)) := Lib.hid (fun n => by rw [hm0 n]; rfl)
    have HH : Hid (∀ n, Maps.has (.map [] : DataW Unit) (.string n) = (m n).isSome) := Lib.hid (fun n => by rw [hm0 n]; rfl)
    clear hown2 ht2 hk2 hown hKw hfs1 hfl1 hW1 hb hsz zf hm0 c0 c1 c2 c3 e0 e1 cf2 cf3
    go_region
    all_goals
      go_wp2_with fail
      go_region
      all_goals
        go_wp2_with fail
        ((try simp only [Exit.inBlock, Exit.then]); first | (refine bodyPost_ret (results_none rfl _ _ _) rfl ?_) | (refine bodyPost_end (results_none rfl _ _ _) rfl ?_))
        exact Vp.Putten.drew (Vp.put_end HK.out.drew (.inr ⟨rfl, HB.out⟩) HF1.out hnb HT2.out HO2.out hD.out HA.out HH.out)
  · have hown2 := hown
    obtain ⟨es, clock, hbb, _⟩ := hown2
    have hnb : fs ≠ b := Vp.cells_ne hfs hbb (by intro e; simp [Vp.fsC] at e)
    have hib : id ≠ b := Vp.cells_ne hfl hbb (by intro e; simp [Vp.flC] at e)
    have HOW := Lib.hid hown
    have H1 := Lib.hid h1
    have H2 := Lib.hid h2
    have HFS := Lib.hid hfs
    clear hown h1 h2 hfs hfl hbb HO
    have cf2 := cf 2
    clear cf
    obtain ⟨w2, hrun, hown2, ht2⟩ := HOW.out.drew.store (t := 49) Vp.keyS Tryd.underlying49 hkm (Vp.keyN n hn) (show Vp.ptrR (.pointer (some ⟨id, 0, none⟩)) = some (Vp.enc (some id), []) from rfl)
    have hk2 := (Vp.turned_kp ht2).1
    have d2 := (hk2.cell (p := ⟨fs, 2, none⟩) fsl hnb).trans c2
    have df := (hk2.frozen (p := ⟨fs, 2, none⟩) fsl hnb).trans cf2
    have g1 := (hk2.cell (p := ⟨id, 1, none⟩) idl hib).trans e1
    have HO2 := Lib.hid hown2
    have HT2 := Lib.hid ht2
    have hD := Lib.hid HOW.out.isMap
    clear hown2 ht2 hk2
    go_enter Tryd.func29, Tryd.ntmps29
    go_wp2_with fail
    go_region
    all_goals
      go_wp2_with fail
      go_region
      all_goals
        go_wp2_with fail
        ((try simp only [Exit.inBlock, Exit.then]); first | (refine bodyPost_ret (results_none rfl _ _ _) rfl ?_) | (refine bodyPost_end (results_none rfl _ _ _) rfl ?_))
        exact Vp.Putten.drew (Vp.put_end ((Kp.refl _ w).drew) (.inl rfl) HFS.out hnb HT2.out HO2.out hD.out H1.out H2.out)

end Go.Proofs.YtbakngbmfgnmcaaDoor

namespace Go.Proofs.YtbakngbmfgnmcaaDoor
open Go.RowKit
open Me Vf

theorem opinfo : (Tryd.prog.info? 84).map (fun i => (i.zero, i.size, i.bytes)) = some (some (.agg #[.int .i64 0, .pointer none, .int .i64 0, .slice none 0 0]), 4, 48) := by kernel_rfl
namespace Vp
def opC (kind : Int) (on at_ : Nat) (old : Value) : List Value := [.int .i64 kind, .pointer (some ⟨on, 0, none⟩), .int .i64 (at_ : Int), old]
theorem row_type {w : World} {base n : Nat} {e : TypeId} {size : Nat} {v : Value} {xs : List Value} (h : w.ownsRow base e size v n xs) {g : Nat} (hg : v.ownBlock = some g) : ∃ cur, w.heap[g]? = some (.cells cur e (0, 0)) := by
  rcases h.2 with ⟨rfl, _⟩ | ⟨g', cap, cur, rfl, _, hh, _⟩
  · cases hg
  · have : g' = g := by simpa [Value.ownBlock] using hg
    subst this
    exact ⟨cur, hh⟩
/-- What note leaves. -/
def Noted (w : World) (fs : Nat) (lr : Option Nat) (n : Nat) (ys : List Value) (room used : Int) (mv : Value) (e : Ending) (w' : World) : Prop :=
  e = .returned (.tuple #[]) ∧ ∃ lv' lr', w'.heap[fs]? = some (fsC lv' room used mv) ∧ w'.ownsRow 0 84 4 lv' n ys ∧ lv'.ownBlock = lr' ∧ Kp (fun b => b = fs ∨ lr = some b) w w' ∧ (lr' = lr ∨ ∃ b, lr' = some b ∧ w.heap.size ≤ b)
theorem note_end {w W w2 : World} {fs n : Nat} {lr : Option Nat} {zs : List Value} {room used : Int} {lv mv v2 : Value} (hb : Below w.heap.size w W) (hfs : w.heap[fs]? = some (fsC lv room used mv))
    (hlr : lv.ownBlock = lr) (hne : lr ≠ some fs) (hown : w2.ownsRow 0 84 4 v2 n zs) (hg : W.grownBy w2 lv.ownBlock) (hat : v2.ownBlock = lv.ownBlock ∨ v2.ownBlock = some W.heap.size) :
    Noted w fs lr n zs room used mv (.returned (.tuple #[])) (w2.setCell ⟨fs, 0, none⟩ v2) := by
  have fsl : fs < w.heap.size := (Array.getElem?_eq_some_iff.1 hfs).1
  have hf2 : w2.heap[fs]? = some (fsC lv room used mv) := (hg.block fs (Nat.lt_of_lt_of_le fsl hb.size) (fun e => hne (by rw [← hlr]; exact e.symm))).trans ((hb.block fs fsl).trans hfs)
  refine ⟨rfl, v2, v2.ownBlock, ?_, ?_, rfl, ?_, ?_⟩
  · rw [heap_cell hf2]; rfl
  · refine owns_keep hown (fun g hg' => Below.heap_setCell w2 ⟨fs, 0, none⟩ _ g ?_)
    show g ≠ fs
    rintro rfl
    rcases hat with e | e
    · exact hne (by rw [← hlr, ← e]; exact hg')
    · rw [hg'] at e
      have := Option.some.inj e
      have := hb.size
      omega
  · refine ((Kp.of_below hb).grown hg (fun g hg' => ?_)).setCell ⟨fs, 0, none⟩ (.inr (.inl rfl)) _
    exact .inr (.inr (by rw [← hlr]; exact hg'))
  · rcases hat with e | e
    · exact .inl (by rw [e, hlr])
    · exact .inr ⟨_, e, hb.size⟩
theorem Noted.drew {w w' : World} {fs : Nat} {lr : Option Nat} {n : Nat} {ys : List Value} {room used : Int} {mv : Value} {e : Ending} (h : Noted w fs lr n ys room used mv e w') : Noted w fs lr n ys room used mv e w'.drew := by
  obtain ⟨h0, lv', lr', h1, h2, h3, h4, h5⟩ := h
  exact ⟨h0, lv', lr', h1, h2, h3, h4.drew, h5⟩
end Vp

set_option maxHeartbeats 1000000 in
theorem note_any {w : World} {fs n on at_ : Nat} {lv mv old : Value} {room used kind : Int} {ys : List Value} (hfs : w.heap[fs]? = some (Vp.fsC lv room used mv)) (hown : w.ownsRow 0 84 4 lv n ys) (hn : n ≤ 1048576)
    (hold : ∃ A m c, old = .slice A m c) :
    Calls Tryd.prog 30 #[.pointer (some ⟨fs, 0, none⟩), .agg #[.int .i64 kind, .pointer (some ⟨on, 0, none⟩), .int .i64 (at_ : Int), old]] w (Vp.Noted w fs lv.ownBlock (n + 1) (ys ++ Vp.opC kind on at_ old) room used mv) := by
  obtain ⟨i0, hi0, hz0, hz1, hz2⟩ := info_parts opinfo
  have HI := Lib.hid hi0
  have HZ := Lib.hid (And.intro hz0 (And.intro hz1 hz2))
  clear hi0 hz0 hz1 hz2
  obtain ⟨A, m, c, rfl⟩ := hold
  obtain ⟨c0, c1, c2, c3, cf, fsl⟩ := Vp.fs_cells hfs
  have cf0 := cf 0
  have HFS := Lib.hid hfs
  have hne : lv.ownBlock ≠ some fs := fun e => by
    obtain ⟨cur, hc⟩ := Vp.row_type hown e
    exact Vp.cells_ne hfs hc (by intro e; simp [Vp.fsC] at e) rfl
  have HNE := Lib.hid hne
  have HO : ∀ o o' : Obj, ((w.alloc o).alloc o').ownsRow 0 84 4 lv n ys := fun o o' => (hown.alloc o).alloc o'
  have HOW := Lib.hid (HO (.cells #[.int .i64 kind, .pointer (some ⟨on, 0, none⟩), .int .i64 (at_ : Int), .slice A m c] 84) (.cells #[.int .i64 kind, .pointer (some ⟨on, 0, none⟩), .int .i64 (at_ : Int), .slice A m c] 84))
  have HBW : Hid (Below w.heap.size w ((w.alloc (.cells #[.int .i64 kind, .pointer (some ⟨on, 0, none⟩), .int .i64 (at_ : Int), .slice A m c] 84)).alloc (.cells #[.int .i64 kind, .pointer (some ⟨on, 0, none⟩), .int .i64 (at_ : Int), .slice A m c] 84))) := Lib.hid (((Below.refl _ _).alloc (Nat.le_refl _) _).alloc (by simp) _)
  have HRD := Lib.hid (Rd.fresh (w.alloc (.cells #[.int .i64 kind, .pointer (some ⟨on, 0, none⟩), .int .i64 (at_ : Int), .slice A m c] 84)) [.int .i64 kind, .pointer (some ⟨on, 0, none⟩), .int .i64 (at_ : Int), .slice A m c] 84 (w.heap.size + 1) (by simp))
  clear hfs hown hne HO cf
  go_enter Tryd.func30, Tryd.ntmps30
  go_wp2_with fail
  go_region_law (refine step_app _ rfl (.tmp 8) (.tmp 10) 46 rfl 0 84 i0 _ 4 48 Tryd.underlying46 HI.out HZ.out.1 HZ.out.2.1 HZ.out.2.2 rfl (by decide) lv n ys (by simp [Act.eval]) HOW.out (fun b => b = w.heap.size + 1) (some ⟨w.heap.size + 1, 0, none⟩) 1 1 [.int .i64 kind, .pointer (some ⟨on, 0, none⟩), .int .i64 (at_ : Int), .slice A m c] (by simp [Act.eval]) (by simp) HRD.out (by intro u hu; simp at hu; rcases hu with rfl | rfl | rfl | rfl <;> rfl) (by unfold maxLen; omega) (by omega) (Nat.zero_le _) ?_; intro v2 w2 hown2 hg2 hat2 hnil2; obtain ⟨g2, cap2, rfl⟩ := owns_form hown2 (by omega); have d0 : w2.cell? ⟨fs, 0, none⟩ = some lv := (hg2.cell_far ⟨fs, 0, none⟩ (by show fs < _; simp; omega) (fun e => HNE.out e.symm)).trans ((HBW.out.cell (p := ⟨fs, 0, none⟩) fsl).trans c0); have df : w2.frozen? ⟨fs, 0, none⟩ = false := (hg2.frozen_far ⟨fs, 0, none⟩ (by show fs < _; simp; omega) (fun e => HNE.out e.symm)).trans ((HBW.out.frozen (p := ⟨fs, 0, none⟩) fsl).trans cf0); have HO2 := Lib.hid hown2; have HG2 := Lib.hid hg2; have HA2 := Lib.hid hat2; clear hown2 hg2 hat2 hnil2)
  all_goals
    go_wp2_with fail
    ((try simp only [Exit.inBlock, Exit.then]); first | (refine bodyPost_ret (results_none rfl _ _ _) rfl ?_) | (refine bodyPost_end (results_none rfl _ _ _) rfl ?_))
    exact Vp.note_end HBW.out HFS.out rfl HNE.out HO2.out ⟨HG2.out.os, HG2.out.tape, HG2.out.output, HG2.out.size, HG2.out.block⟩ HA2.out
end Go.Proofs.YtbakngbmfgnmcaaDoor

namespace Go.Proofs.YtbakngbmfgnmcaaDoor
open Go.RowKit
open Me Vf

namespace Vp
theorem own_form {w : World} {base n : Nat} {e : TypeId} {size : Nat} {v : Value} {xs : List Value} (h : w.ownsRow base e size v n xs) : ∃ A c, v = .slice A n c ∧ n ≤ c ∧ c ≤ maxLen := by
  rcases h.2 with ⟨rfl, h0⟩ | ⟨g, cap, cur, rfl, _, _, h1, h2, _⟩
  · exact ⟨none, 0, by rw [h0], by omega, Nat.zero_le _⟩
  · exact ⟨_, cap, rfl, h1, h2⟩
/-- A row with its last thing taken away. -/
theorem own_less {w : World} {base n : Nat} {e : TypeId} {size : Nat} {g c : Nat} {xs : List Value} (h : w.ownsRow base e size (.slice (some ⟨g, 0, none⟩) (n + 1) c) (n + 1) xs) : w.ownsRow base e size (.slice (some ⟨g, 0, none⟩) n c) n (xs.take (n * size)) := by
  obtain ⟨h1, h2⟩ := h
  have hm : (n + 1) * size = n * size + size := Nat.succ_mul n size
  refine ⟨by rw [List.length_take, h1]; omega, ?_⟩
  rcases h2 with ⟨h0, _⟩ | ⟨g', cap, cur, hv, hb, hh, hc, hcm, hcs, ht⟩
  · cases h0
  · injection hv with e1 e2 e3
    injection e1 with e1
    injection e1 with e1
    subst e1 e3
    refine .inr ⟨g, c, cur, rfl, hb, hh, by omega, hcm, hcs, ?_⟩
    rw [← ht, List.take_take, Nat.min_eq_left (by omega)]
end Vp

/-- What forget leaves. -/
def Vp.Forgot (w : World) (fs : Nat) (room used : Int) (mv : Value) (e : Ending) (w' : World) : Prop :=
  e = .returned (.tuple #[]) ∧ w'.heap[fs]? = some (Vp.fsC (.slice none 0 0) room used mv) ∧ Kp (fun b => b = fs) w w'
theorem forget_any {w : World} {fs : Nat} {lv mv : Value} {room used : Int} (hfs : w.heap[fs]? = some (Vp.fsC lv room used mv)) (hl : ∃ A n c, lv = .slice A n c) :
    Calls Tryd.prog 32 #[.pointer (some ⟨fs, 0, none⟩)] w (Vp.Forgot w fs room used mv) := by
  obtain ⟨c0, c1, c2, c3, cf, fsl⟩ := Vp.fs_cells hfs
  obtain ⟨A, n, c, rfl⟩ := hl
  have cf0 := cf 0
  have HFS := Lib.hid hfs
  clear hfs cf c1 c2 c3
  go_enter Tryd.func32, Tryd.ntmps32
  go_wp2_with fail
  ((try simp only [Exit.inBlock, Exit.then]); first | (refine bodyPost_ret (results_none rfl _ _ _) rfl ?_) | (refine bodyPost_end (results_none rfl _ _ _) rfl ?_))
  refine ⟨rfl, ?_, (Kp.refl (fun b => b = fs) w).setCell ⟨fs, 0, none⟩ (.inr rfl) _⟩
  rw [Vp.heap_cell HFS.out]
  rfl

/-- What pop leaves. -/
def Vp.Popped (w : World) (fs g n c : Nat) (room used : Int) (mv : Value) (op : Array Value) (e : Ending) (w' : World) : Prop :=
  e = .returned (.agg op) ∧ w'.heap[fs]? = some (Vp.fsC (.slice (some ⟨g, 0, none⟩) n c) room used mv) ∧ Kp (fun b => b = fs) w w'

set_option maxHeartbeats 400000 in
theorem find_bad {w : World} (fs : Nat) (n : List UInt8) (hi : Vf.is n = false) :
    Calls Tryd.prog 50 #[.pointer (some ⟨fs, 0, none⟩), .string ⟨n.toArray⟩] w fun e w' => e = .returned (.tuple #[.pointer none, .int .i64 1]) ∧ w = w' := by
  have HI := Lib.hid (isName_any n w)
  rw [hi] at HI
  go_enter Tryd.func50, Tryd.ntmps50
  go_wp2_with (go_at_call 26; ((with_reducible refine (HI.out).mono ?_); rintro e w' ⟨rfl, rfl⟩))
  ((try simp only [Exit.inBlock, Exit.then]); refine bodyPost_ret (results_tmp2 rfl _ _ _) rfl ?_)
  exact ⟨rfl, rfl⟩
set_option maxHeartbeats 400000 in
theorem find_none {w : World} {fs k : Nat} {lv mv : Value} {mb : Option Nat} {room used : Int} {m : List UInt8 → Option Nat} (hfs : w.heap[fs]? = some (Vp.fsC lv room used mv)) (hm : Vp.Mp w mv mb k m) (n : List UInt8) (hi : Vf.is n = true) (hn : m n = none) :
    Calls Tryd.prog 50 #[.pointer (some ⟨fs, 0, none⟩), .string ⟨n.toArray⟩] w fun e w' => e = .returned (.tuple #[.pointer none, .int .i64 5]) ∧ w = w' := by
  have HI := Lib.hid (isName_any n w)
  rw [hi] at HI
  obtain ⟨c0, c1, c2, c3, cf, fsl⟩ := Vp.fs_cells hfs
  have hl : n.length ≤ 1048576 := by unfold Vf.is at hi; simp at hi; omega
  have hlook := hm.look hl
  rw [hn] at hlook
  unfold Vp.ptr at hlook
  clear hfs hm hi hn cf c0 c1 c2
  go_enter Tryd.func50, Tryd.ntmps50
  go_wp2_with (go_at_call 26; ((with_reducible refine (HI.out).mono ?_); rintro e w' ⟨rfl, rfl⟩))
  ((try simp only [Exit.inBlock, Exit.then]); refine bodyPost_ret (results_tmp2 rfl _ _ _) rfl ?_)
  exact ⟨rfl, rfl⟩
set_option maxHeartbeats 400000 in
theorem find_some {w : World} {fs k id : Nat} {lv mv : Value} {mb : Option Nat} {room used : Int} {m : List UInt8 → Option Nat} (hfs : w.heap[fs]? = some (Vp.fsC lv room used mv)) (hm : Vp.Mp w mv mb k m) (n : List UInt8) (hi : Vf.is n = true) (hn : m n = some id) :
    Calls Tryd.prog 50 #[.pointer (some ⟨fs, 0, none⟩), .string ⟨n.toArray⟩] w fun e w' => e = .returned (.tuple #[.pointer (some ⟨id, 0, none⟩), .int .i64 0]) ∧ w = w' := by
  have HI := Lib.hid (isName_any n w)
  rw [hi] at HI
  obtain ⟨c0, c1, c2, c3, cf, fsl⟩ := Vp.fs_cells hfs
  have hl : n.length ≤ 1048576 := by unfold Vf.is at hi; simp at hi; omega
  have hlook := hm.look hl
  rw [hn] at hlook
  unfold Vp.ptr at hlook
  clear hfs hm hi hn cf c0 c1 c2
  go_enter Tryd.func50, Tryd.ntmps50
  go_wp2_with (go_at_call 26; ((with_reducible refine (HI.out).mono ?_); rintro e w' ⟨rfl, rfl⟩))
  ((try simp only [Exit.inBlock, Exit.then]); refine bodyPost_ret (results_tmp2 rfl _ _ _) rfl ?_)
  exact ⟨rfl, rfl⟩
end Go.Proofs.YtbakngbmfgnmcaaDoor

namespace Go.Proofs.YtbakngbmfgnmcaaDoor
open Go.RowKit
open Me Vf
namespace Vp

def OpC (w : World) (G : Nat → Prop) (o : Op) (cs : List Value) : Prop := ∃ v, cs = opC o.kind o.on o.at_ v ∧ Bs w G v o.old
theorem OpC.four {w : World} {G : Nat → Prop} : ∀ o cs, OpC w G o cs → cs.length = 4 := by
  rintro o cs ⟨v, rfl, _⟩; rfl
def btC (b : List UInt8) : Obj := .cells (by8 b).toArray 5 (0, 0)
structure Pt (w : World) (fs : Nat) (mb lr : Option Nat) (I : Nat → Prop) (db : Nat → Nat) (G : Nat → Prop) (room : Int) (c : Co) (j : List Op) (N : Nat) (lv mv : Value) (ys : List Value) : Prop where
  heap : w.heap[fs]? = some (fsC lv room c.used mv)
  map : ∃ k, k + j.length ≤ N ∧ Mp w mv mb k c.map
  file : ∀ id, I id → w.heap[id]? = some (flC (c.sto id).name (db id) (c.sto id).b.length) ∧ w.heap[db id]? = some (btC (c.sto id).b) ∧ (c.sto id).name.length ≤ 255 ∧ (c.sto id).b.length ≤ 1073741824
  inj : ∀ i i', I i → I i' → db i = db i' → i = i'
  own : w.ownsRow 0 84 4 lv j.length ys
  ops : Els (OpC w G) j.reverse ys
  row : lv.ownBlock = lr
  live : Live I c j
  some_ : j ≠ [] → ∃ b, mb = some b
  g : ∀ b, G b → b < w.heap.size ∧ b ≠ fs ∧ mb ≠ some b ∧ lr ≠ some b ∧ ¬ I b ∧ ∀ i, I i → db i ≠ b
/-- All blocks of the object. -/
def Own (fs : Nat) (mb lr : Option Nat) (I : Nat → Prop) (db : Nat → Nat) (G : Nat → Prop) (b : Nat) : Prop := b = fs ∨ mb = some b ∨ lr = some b ∨ I b ∨ (∃ i, I i ∧ db i = b) ∨ G b

section
variable {w w' : World} {fs : Nat} {mb lr : Option Nat} {I : Nat → Prop} {db : Nat → Nat} {G : Nat → Prop} {room : Int} {c : Co} {j : List Op} {N : Nat} {lv mv : Value} {ys : List Value}
theorem fs_ne_fl {lv mv : Value} {r u : Int} {n : List UInt8} {d l : Nat} : fsC lv r u mv ≠ flC n d l := by intro e; simp [fsC, flC] at e
theorem fs_ne_bt {lv mv : Value} {r u : Int} {b : List UInt8} : fsC lv r u mv ≠ btC b := by intro e; simp [fsC, btC] at e
theorem fl_ne_bt {n : List UInt8} {d l : Nat} {b : List UInt8} : flC n d l ≠ btC b := by intro e; simp [flC, btC] at e
theorem fs_ne_op {lv mv : Value} {r u : Int} {cs : Array Value} : fsC lv r u mv ≠ .cells cs 84 (0, 0) := by intro e; simp [fsC] at e
theorem fl_ne_op {n : List UInt8} {d l : Nat} {cs : Array Value} : flC n d l ≠ .cells cs 84 (0, 0) := by intro e; simp [flC] at e
theorem bt_ne_op {b : List UInt8} {cs : Array Value} : btC b ≠ .cells cs 84 (0, 0) := by intro e; simp [btC] at e
theorem fs_ne_map {lv mv : Value} {r u : Int} {es : Array MapEntry} {k : Nat} : fsC lv r u mv ≠ .map es k := by intro e; simp [fsC] at e
theorem fl_ne_map {n : List UInt8} {d l : Nat} {es : Array MapEntry} {k : Nat} : flC n d l ≠ .map es k := by intro e; simp [flC] at e
theorem bt_ne_map {b : List UInt8} {es : Array MapEntry} {k : Nat} : btC b ≠ .map es k := by intro e; simp [btC] at e
theorem op_ne_map {cs : Array Value} {es : Array MapEntry} {k : Nat} : (Obj.cells cs 84 (0, 0)) ≠ .map es k := by intro e; cases e

theorem Pt.rowC (h : Pt w fs mb lr I db G room c j N lv mv ys) {b : Nat} (hb : lr = some b) : ∃ cur, w.heap[b]? = some (.cells cur 84 (0, 0)) := row_type h.own (h.row.trans hb)
theorem Pt.mapC (h : Pt w fs mb lr I db G room c j N lv mv ys) {b : Nat} (hb : mb = some b) : ∃ es k, w.heap[b]? = some (.map es k) := by
  obtain ⟨k, _, hm⟩ := h.map
  exact (hm.lt hb).2
theorem Pt.fs_row (h : Pt w fs mb lr I db G room c j N lv mv ys) : lr ≠ some fs := fun e => by
  obtain ⟨cur, hc⟩ := h.rowC e
  exact cells_ne h.heap hc fs_ne_op rfl
theorem Pt.fs_map (h : Pt w fs mb lr I db G room c j N lv mv ys) : mb ≠ some fs := fun e => by
  obtain ⟨es, k, hc⟩ := h.mapC e
  exact cells_ne h.heap hc fs_ne_map rfl
theorem Pt.row_map (h : Pt w fs mb lr I db G room c j N lv mv ys) {b : Nat} (e : lr = some b) : mb ≠ some b := fun e2 => by
  obtain ⟨es, k, hc⟩ := h.mapC e2
  obtain ⟨cur, hc2⟩ := h.rowC e
  exact cells_ne hc2 hc op_ne_map rfl
theorem Pt.fl (h : Pt w fs mb lr I db G room c j N lv mv ys) {b : Nat} (hb : I b) : b ≠ fs ∧ mb ≠ some b ∧ lr ≠ some b ∧ ∀ i, I i → db i ≠ b := by
  have hf := (h.file b hb).1
  refine ⟨fun e => cells_ne h.heap hf fs_ne_fl e.symm, fun e => ?_, fun e => ?_, fun i hi e => ?_⟩
  · obtain ⟨es, k, hc⟩ := h.mapC e
    exact cells_ne hf hc fl_ne_map rfl
  · obtain ⟨cur, hc⟩ := h.rowC e
    exact cells_ne hf hc fl_ne_op rfl
  · have h2 := (h.file i hi).2.1
    exact cells_ne hf h2 fl_ne_bt e.symm
theorem Pt.bt (h : Pt w fs mb lr I db G room c j N lv mv ys) {i : Nat} (hi : I i) : db i ≠ fs ∧ mb ≠ some (db i) ∧ lr ≠ some (db i) ∧ ¬ I (db i) := by
  have hf := (h.file i hi).2.1
  refine ⟨fun e => cells_ne h.heap hf fs_ne_bt e.symm, fun e => ?_, fun e => ?_, fun e => ?_⟩
  · obtain ⟨es, k, hc⟩ := h.mapC e
    exact cells_ne hf hc bt_ne_map rfl
  · obtain ⟨cur, hc⟩ := h.rowC e
    exact cells_ne hf hc bt_ne_op rfl
  · exact cells_ne (h.file (db i) e).1 hf fl_ne_bt rfl
theorem Pt.lt (h : Pt w fs mb lr I db G room c j N lv mv ys) {b : Nat} (hb : Own fs mb lr I db G b) : b < w.heap.size := by
  rcases hb with rfl | hb | hb | hb | ⟨i, hi, rfl⟩ | hb
  · exact (Array.getElem?_eq_some_iff.1 h.heap).1
  · obtain ⟨es, k, hc⟩ := h.mapC hb
    exact (Array.getElem?_eq_some_iff.1 hc).1
  · obtain ⟨cur, hc⟩ := h.rowC hb
    exact (Array.getElem?_eq_some_iff.1 hc).1
  · exact (Array.getElem?_eq_some_iff.1 (h.file b hb).1).1
  · exact (Array.getElem?_eq_some_iff.1 (h.file i hi).2.1).1
  · exact (h.g b hb).1
theorem OpC.keep {w w' : World} {G : Nat → Prop} (hs : w.heap.size ≤ w'.heap.size) (hk : ∀ i, i < w.heap.size → G i → w'.heap[i]? = w.heap[i]?) (o : Op) (cs : List Value) (h : OpC w G o cs) : OpC w' G o cs := by
  obtain ⟨v, e, hb⟩ := h
  exact ⟨v, e, hb.keep hs hk⟩
theorem OpC.wide {w : World} {G G' : Nat → Prop} (hG : ∀ i, i < w.heap.size → G i → G' i) (o : Op) (cs : List Value) (h : OpC w G o cs) : OpC w G' o cs := by
  obtain ⟨v, e, hb⟩ := h
  exact ⟨v, e, hb.mono hG⟩
theorem Mp.some_ {w : World} {mv : Value} {mb : Option Nat} {k : Nat} {m : List UInt8 → Option Nat} (h : Mp w mv mb k m) {n : List UInt8} {id : Nat} (e : m n = some id) : ∃ b, mb = some b := by
  rcases h with ⟨_, _, h⟩ | ⟨b, _, _, hb, _⟩
  · rw [h n] at e; cases e
  · exact ⟨b, hb⟩
/-- What lies elsewhere may turn. -/
theorem Pt.kp (h : Pt w fs mb lr I db G room c j N lv mv ys) {O : Nat → Prop} (k : Kp O w w') (hO : ∀ b, O b → ¬ Own fs mb lr I db G b) : Pt w' fs mb lr I db G room c j N lv mv ys := by
  have hk : ∀ b, Own fs mb lr I db G b → w'.heap[b]? = w.heap[b]? := fun b hb => k.block b (h.lt hb) (fun o => hO b o hb)
  obtain ⟨kk, hkk, hm⟩ := h.map
  refine ⟨(hk fs (.inl rfl)).trans h.heap, ⟨kk, hkk, hm.keep (fun b hb => hk b (.inr (.inl hb)))⟩, fun id hid => ?_, h.inj, owns_keep h.own (fun g hg => hk g (.inr (.inr (.inl (h.row.symm.trans hg))))), h.ops.mono (OpC.keep k.size (fun b _ hb => hk b (.inr (.inr (.inr (.inr (.inr hb))))))), h.row, h.live, h.some_, fun b hb => ?_⟩
  · obtain ⟨h1, h2, h3⟩ := h.file id hid
    exact ⟨(hk id (.inr (.inr (.inr (.inl hid))))).trans h1, (hk (db id) (.inr (.inr (.inr (.inr (.inl ⟨id, hid, rfl⟩)))))).trans h2, h3⟩
  · obtain ⟨h1, h2⟩ := h.g b hb
    exact ⟨Nat.lt_of_lt_of_le h1 k.size, h2⟩
theorem Pt.below (h : Pt w fs mb lr I db G room c j N lv mv ys) (b : Below w.heap.size w w') : Pt w' fs mb lr I db G room c j N lv mv ys := h.kp (O := fun _ => False) (Kp.of_below b) (fun _ o => o.elim)
theorem Pt.drew (h : Pt w fs mb lr I db G room c j N lv mv ys) : Pt w.drew fs mb lr I db G room c j N lv mv ys := h.kp (O := fun _ => False) (Kp.refl _ _).drew (fun _ o => o.elim)
theorem Pt.more (h : Pt w fs mb lr I db G room c j N lv mv ys) {N' : Nat} (hN : N ≤ N') : Pt w fs mb lr I db G room c j N' lv mv ys := by
  obtain ⟨k, hk, hm⟩ := h.map
  exact ⟨h.heap, ⟨k, by omega, hm⟩, h.file, h.inj, h.own, h.ops, h.row, h.live, h.some_, h.g⟩
theorem Pt.form (h : Pt w fs mb lr I db G room c j N lv mv ys) : ∃ A n c, lv = .slice A n c := by
  obtain ⟨A, c, e, _⟩ := own_form h.own
  exact ⟨A, _, c, e⟩
/-- Behind put and drop. -/
theorem Pt.putten (h : Pt w fs mb lr I db G room c j N lv mv ys) {k' N' : Nat} {u' : Int} {m' : List UInt8 → Option Nat} {e : Ending} (hp : Putten w fs mb k' lv room u' m' e w') (hN : k' + j.length ≤ N') (hL : Live I ⟨m', c.sto, u'⟩ j) :
    ∃ mb' mv', Pt w' fs mb' lr I db G room ⟨m', c.sto, u'⟩ j N' lv mv' ys ∧ Kp (fun b => b = fs ∨ mb = some b) w w' ∧ (mb' = mb ∨ ∃ b, mb' = some b ∧ w.heap.size ≤ b) := by
  obtain ⟨_, mv', mb', h1, h2, h3, h4⟩ := hp
  have hmb : ∀ b, b < w.heap.size → mb ≠ some b → mb' ≠ some b := fun b hb hn e => by
    rcases h4 with h4 | ⟨b', e2, h4⟩
    · exact hn (h4.symm.trans e)
    · rw [e] at e2
      have := Option.some.inj e2
      omega
  have hI : ∀ id, I id → w'.heap[id]? = w.heap[id]? := fun id hid => h3.block id (h.lt (.inr (.inr (.inr (.inl hid))))) (fun e => e.elim (h.fl hid).1 (h.fl hid).2.1)
  have hD : ∀ id, I id → w'.heap[db id]? = w.heap[db id]? := fun id hid => h3.block _ (h.lt (.inr (.inr (.inr (.inr (.inl ⟨id, hid, rfl⟩)))))) (fun e => e.elim (h.bt hid).1 (h.bt hid).2.1)
  refine ⟨mb', mv', ⟨h1, ⟨k', hN, h2⟩, fun id hid => ?_, h.inj, owns_keep h.own (fun g hg => ?_), h.ops.mono (OpC.keep h3.size (fun b hb hg => h3.block b hb (fun e => e.elim (h.g b hg).2.1 (h.g b hg).2.2.1))), h.row, hL, fun hj => ?_, fun b hb => ?_⟩, h3, h4⟩
  · obtain ⟨f1, f2, f3⟩ := h.file id hid
    exact ⟨(hI id hid).trans f1, (hD id hid).trans f2, f3⟩
  · have hg2 := h.row.symm.trans hg
    exact h3.block g (h.lt (.inr (.inr (.inl hg2)))) (fun e => e.elim (fun e => h.fs_row (e ▸ hg2)) (h.row_map hg2))
  · obtain ⟨b, hb⟩ := h.some_ hj
    rcases h4 with h4 | ⟨b', e2, _⟩
    · exact ⟨b, h4.trans hb⟩
    · exact ⟨b', e2⟩
  · obtain ⟨g1, g2, g3, g4⟩ := h.g b hb
    exact ⟨Nat.lt_of_lt_of_le g1 h3.size, g2, hmb b g1 g3, g4⟩
/-- Behind note. -/
theorem Pt.noted (h : Pt w fs mb lr I db G room c j N lv mv ys) {o : Op} {old : Value} {G' : Nat → Prop} {e : Ending} (hp : Noted w fs lr (j.length + 1) (ys ++ opC o.kind o.on o.at_ old) room c.used mv e w') (hI : I o.on) (hsome : ∃ b, mb = some b)
    (hold : Bs w G' old o.old) (hG : ∀ b, G b → G' b) (hG' : ∀ b, G' b → b < w.heap.size ∧ b ≠ fs ∧ mb ≠ some b ∧ lr ≠ some b ∧ ¬ I b ∧ ∀ i, I i → db i ≠ b) :
    ∃ lr' lv' ys', Pt w' fs mb lr' I db G' room c (o :: j) (N + 1) lv' mv ys' ∧ Kp (fun b => b = fs ∨ lr = some b) w w' ∧ (lr' = lr ∨ ∃ b, lr' = some b ∧ w.heap.size ≤ b) := by
  obtain ⟨_, lv', lr', h1, h2, hlr, h3, h4⟩ := hp
  have hlrne : ∀ b, b < w.heap.size → lr ≠ some b → lr' ≠ some b := fun b hb hn e => by
    rcases h4 with h4 | ⟨b', e2, h4⟩
    · exact hn (h4.symm.trans e)
    · rw [e] at e2
      have := Option.some.inj e2
      omega
  obtain ⟨k, hk, hm⟩ := h.map
  have hIk : ∀ id, I id → w'.heap[id]? = w.heap[id]? := fun id hid => h3.block id (h.lt (.inr (.inr (.inr (.inl hid))))) (fun e => e.elim (h.fl hid).1 (h.fl hid).2.2.1)
  have hDk : ∀ id, I id → w'.heap[db id]? = w.heap[db id]? := fun id hid => h3.block _ (h.lt (.inr (.inr (.inr (.inr (.inl ⟨id, hid, rfl⟩)))))) (fun e => e.elim (h.bt hid).1 (h.bt hid).2.2.1)
  have hGk : ∀ b, b < w.heap.size → G' b → w'.heap[b]? = w.heap[b]? := fun b hb hg => h3.block b hb (fun e => e.elim (hG' b hg).2.1 (hG' b hg).2.2.2.1)
  refine ⟨lr', lv', _, ⟨h1, ⟨k, by simp only [List.length_cons]; omega, hm.keep (fun b hb => ?_)⟩, fun id hid => ?_, h.inj, h2, ?_, hlr, ⟨h.live.1, fun o' ho => ?_⟩, fun _ => hsome, fun b hb => ?_⟩, h3, h4⟩
  · refine h3.block b (hm.lt hb).1 (fun e => e.elim (fun e => h.fs_map (e ▸ hb)) (fun e => h.row_map e hb))
  · obtain ⟨f1, f2, f3⟩ := h.file id hid
    exact ⟨(hIk id hid).trans f1, (hDk id hid).trans f2, f3⟩
  · rw [List.reverse_cons]
    refine Els.append (h.ops.mono fun o' cs hc => ?_) (Els.one ⟨old, rfl, hold.keep h3.size hGk⟩)
    exact (hc.wide (fun b _ hg => hG b hg)).keep h3.size hGk
  · rcases List.mem_cons.1 ho with rfl | ho
    · exact hI
    · exact h.live.2 o' ho
  · obtain ⟨g1, g2, g3, g4, g5⟩ := hG' b hb
    exact ⟨Nat.lt_of_lt_of_le g1 h3.size, g2, g3, hlrne b g1 g4, g5⟩
/-- Bytes of one file written over. -/
theorem Pt.filled (h : Pt w fs mb lr I db G room c j N lv mv ys) {id o : Nat} {b : List UInt8} (hid : I id) (hlen : o + b.length ≤ (c.sto id).b.length) (hd : w'.heap[db id]? = some (btC (upd (c.sto id).b o b))) (hk : Kp (fun i => i = db id) w w') :
    Pt w' fs mb lr I db G room (c.over id o b) j N lv mv ys := by
  have hs : ∀ i, i ≠ id → (c.over id o b).sto i = c.sto i := fun i hi => by show setS c.sto id _ i = _; unfold setS; rw [if_neg hi]
  have h0 : (c.over id o b).sto id = ⟨(c.sto id).name, upd (c.sto id).b o b⟩ := setS_same _ _ _
  have hbl : (upd (c.sto id).b o b).length = (c.sto id).b.length := upd_len hlen
  obtain ⟨k, hkk, hm⟩ := h.map
  refine ⟨(hk.block fs (h.lt (.inl rfl)) (fun e => (h.bt hid).1 e.symm)).trans h.heap, ⟨k, hkk, hm.keep (fun b' hb' => hk.block b' (hm.lt hb').1 (fun e => (h.bt hid).2.1 (e ▸ hb')))⟩, fun i hi => ?_, h.inj, owns_keep h.own (fun g hg => ?_), h.ops.mono (OpC.keep hk.size (fun b' hb' hg => hk.block b' hb' (fun e => (h.g b' hg).2.2.2.2.2 id hid e.symm))), h.row, h.live, h.some_, fun b' hb' => ?_⟩
  · obtain ⟨f1, f2, f3, f4⟩ := h.file i hi
    have hib : w'.heap[i]? = w.heap[i]? := hk.block i (h.lt (.inr (.inr (.inr (.inl hi))))) (fun e => (h.bt hid).2.2.2 (e ▸ hi))
    by_cases e : i = id
    · subst e
      rw [h0]
      simp only [hbl]
      exact ⟨hib.trans f1, hd, f3, f4⟩
    · rw [hs i e]
      exact ⟨hib.trans f1, (hk.block _ (h.lt (.inr (.inr (.inr (.inr (.inl ⟨i, hi, rfl⟩)))))) (fun e2 => e (h.inj i id hi hid e2))).trans f2, f3, f4⟩
  · have hg2 := h.row.symm.trans hg
    exact hk.block g (h.lt (.inr (.inr (.inl hg2)))) (fun e => (h.bt hid).2.2.1 (e ▸ hg2))
  · obtain ⟨g1, g2⟩ := h.g b' hb'
    exact ⟨Nat.lt_of_lt_of_le g1 hk.size, g2⟩
/-- A file that is new, not yet among the others. -/
theorem Pt.laid (h : Pt w fs mb lr I db G room c j N lv mv ys) {id d : Nat} {f : Fl} (hk : Below w.heap.size w w') (hid : w.heap.size ≤ id) (hd : w.heap.size ≤ d)
    (hf : w'.heap[id]? = some (flC f.name d f.b.length)) (hb : w'.heap[d]? = some (btC f.b)) (hn : f.name.length ≤ 255) (hl : f.b.length ≤ 1073741824) :
    Pt w' fs mb lr (fun i => I i ∨ i = id) (fun i => if i = id then d else db i) G room (c.lay id f) j N lv mv ys := by
  have h' := h.below hk
  have hIlt : ∀ i, I i → i ≠ id := fun i hi e => by have := h.lt (.inr (.inr (.inr (.inl hi)))); omega
  have hdlt : ∀ i, I i → db i ≠ d := fun i hi e => by have := h.lt (.inr (.inr (.inr (.inr (.inl ⟨i, hi, rfl⟩))))); omega
  have hs : ∀ i, i ≠ id → (c.lay id f).sto i = c.sto i := fun i hi => by show setS c.sto id _ i = _; unfold setS; rw [if_neg hi]
  have h0 : (c.lay id f).sto id = f := setS_same _ _ _
  refine ⟨h'.heap, h'.map, fun i hi => ?_, fun i i' hi hi' e => ?_, h'.own, h'.ops, h'.row, ⟨fun n i e => .inl (h.live.1 n i e), fun o ho => .inl (h.live.2 o ho)⟩, h.some_, fun b hb' => ?_⟩
  · rcases hi with hi | rfl
    · rw [hs i (hIlt i hi), if_neg (hIlt i hi)]
      exact h'.file i hi
    · rw [h0, if_pos rfl]
      exact ⟨hf, hb, hn, hl⟩
  · rcases hi with hi | rfl <;> rcases hi' with hi' | rfl
    · simp only [if_neg (hIlt i hi), if_neg (hIlt i' hi')] at e
      exact h.inj i i' hi hi' e
    · simp only [if_neg (hIlt i hi), if_pos] at e
      exact absurd e (hdlt i hi)
    · simp only [if_neg (hIlt i' hi'), if_pos] at e
      exact absurd e.symm (hdlt i' hi')
    · rfl
  · obtain ⟨g1, g2, g3, g4, g5, g6⟩ := h'.g b hb'
    have hbl : b < w.heap.size := (h.g b hb').1
    refine ⟨g1, g2, g3, g4, fun e => e.elim g5 (fun e => by omega), fun i hi => ?_⟩
    rcases hi with hi | rfl
    · rw [if_neg (hIlt i hi)]; exact g6 i hi
    · rw [if_pos rfl]; omega
end
end Vp
end Go.Proofs.YtbakngbmfgnmcaaDoor

namespace Go.Proofs.YtbakngbmfgnmcaaDoor
open Go.RowKit
open Me Vf
namespace Vp

/-- The object in blocks of M, as the document's state S says. -/
def Pg (w : World) (M : Nat → Prop) (fs N : Nat) (S : Sv) : Prop :=
  ∃ mb lr I db G c j lv mv ys, Pt w fs mb lr I db G S.room c j N lv mv ys ∧ Hist S.was c j S.l.reverse ∧ S.now = rep S.was S.l ∧ ∀ b, Own fs mb lr I db G b → M b
theorem Pg.kp {w w' : World} {M O : Nat → Prop} {fs N : Nat} {S : Sv} (h : Pg w M fs N S) (k : Kp O w w') (hO : ∀ b, O b → ¬ M b) : Pg w' M fs N S := by
  obtain ⟨mb, lr, I, db, G, c, j, lv, mv, ys, h1, h2, h3, h4⟩ := h
  exact ⟨mb, lr, I, db, G, c, j, lv, mv, ys, h1.kp k (fun b ho hb => hO b ho (h4 b hb)), h2, h3, h4⟩
theorem Pg.below {w w' : World} {M : Nat → Prop} {fs N : Nat} {S : Sv} (h : Pg w M fs N S) (b : Below w.heap.size w w') : Pg w' M fs N S := h.kp (O := fun _ => False) (Kp.of_below b) (fun _ o => o.elim)
theorem Pg.more {w : World} {M : Nat → Prop} {fs N N' : Nat} {S : Sv} (h : Pg w M fs N S) (hN : N ≤ N') : Pg w M fs N' S := by
  obtain ⟨mb, lr, I, db, G, c, j, lv, mv, ys, h1, h2⟩ := h
  exact ⟨mb, lr, I, db, G, c, j, lv, mv, ys, h1.more hN, h2⟩
/-- What an act leaves. -/
def PNext (w : World) (M : Nat → Prop) (fs N : Nat) (S : Sv) (v : Value) (e : Ending) (w' : World) : Prop :=
  e = .returned v ∧ ∃ M', Pg w' M' fs N S ∧ Kp M w w' ∧ ∀ b, M' b → M b ∨ w.heap.size ≤ b
theorem PNext.same {w : World} {M : Nat → Prop} {fs N : Nat} {S : Sv} {i : Int} {R : Sv × Int} (h : Pg w M fs N S) (hR : R = (S, i)) : PNext w M fs N R.1 (.int .i64 R.2) (.returned (.int .i64 i)) w := by
  subst hR
  exact ⟨rfl, M, h, Kp.refl _ _, fun b hb => .inl hb⟩
theorem view_now {S : Sv} {c : Co} {j : List Op} (h : Hist S.was c j S.l.reverse) (hn : S.now = rep S.was S.l) : View c S.now := by
  have := h.view
  rwa [List.reverse_reverse, ← hn] at this
end Vp

theorem pnew_any (room : Int) (w : World) (hr : 0 ≤ room) (hr2 : room ≤ 1073741824) :
    Calls Tryd.prog 4 #[.int .i64 room] w fun e w' => e = .returned (.tuple #[.pointer (some ⟨w.heap.size, 0, none⟩), .int .i64 0]) ∧ (∃ M, Vp.Pg w' M w.heap.size 0 ⟨room, [], [], []⟩ ∧ ∀ b, M b → w.heap.size ≤ b) ∧ Below w.heap.size w w' := by
  go_enter Tryd.func4, Tryd.ntmps4
  go_wp2_with fail
  ((try simp only [Exit.inBlock, Exit.then]); refine bodyPost_ret (results_tmp2 rfl _ _ _) rfl ?_)
  refine ⟨rfl, ⟨fun b => w.heap.size ≤ b, ⟨none, none, fun _ => False, fun _ => 0, fun _ => False, ⟨fun _ => none, fun _ => ⟨[], []⟩, 0⟩, [], .slice none 0 0, .map none, [], ?_, .nil ?_, rfl, ?_⟩, fun b hb => hb⟩, (Below.refl _ _).alloc (Nat.le_refl _) _⟩
  · exact ⟨heap_alloc_new w _, ⟨0, Nat.le_refl _, .inl ⟨rfl, rfl, fun _ => rfl⟩⟩, fun _ h => h.elim, fun _ _ h => h.elim, World.ownsRow_nil _ _ _ _, rfl, rfl, ⟨(fun _ _ h => nomatch h), (fun _ h => nomatch h)⟩, fun h => absurd rfl h, fun _ h => h.elim⟩
  · exact ⟨(fun _ => rfl), (fun _ _ h => nomatch h), rfl, List.Pairwise.nil⟩
  · intro b hb
    rcases hb with rfl | hb | hb | hb | ⟨_, hb, _⟩ | hb
    · exact Nat.le_refl _
    · cases hb
    · cases hb
    · exact hb.elim
    · exact hb.elim
    · exact hb.elim
theorem pnew_no (room : Int) (w : World) (hr : room < 0 ∨ 1073741824 < room) :
    Calls Tryd.prog 4 #[.int .i64 room] w fun e w' => e = .returned (.tuple #[.pointer none, .int .i64 1]) ∧ w = w' := by
  by_cases h0 : room < 0
  · clear hr
    go_enter Tryd.func4, Tryd.ntmps4
    go_wp2_with fail
    ((try simp only [Exit.inBlock, Exit.then]); refine bodyPost_ret (results_tmp2 rfl _ _ _) rfl ?_)
    exact ⟨rfl, rfl⟩
  · have h1 : 1073741824 < room := by omega
    clear hr
    go_enter Tryd.func4, Tryd.ntmps4
    go_wp2_with fail
    ((try simp only [Exit.inBlock, Exit.then]); refine bodyPost_ret (results_tmp2 rfl _ _ _) rfl ?_)
    exact ⟨rfl, rfl⟩

theorem Vp.sync_end {w w' : World} {M : Nat → Prop} {fs N : Nat} {S : Vf.Sv} {mb lr : Option Nat} {I : Nat → Prop} {db : Nat → Nat} {G : Nat → Prop} {c : Vp.Co} {j : List Vp.Op} {lv mv : Value} {ys : List Value} {r : List Fl}
    (h : Vp.Pt w fs mb lr I db G S.room c j N lv mv ys) (hv : Vp.View c r) (hM : ∀ b, Vp.Own fs mb lr I db G b → M b) (hf : w'.heap[fs]? = some (Vp.fsC (.slice none 0 0) S.room c.used mv)) (hk : Kp (fun b => b = fs) w w') :
    ∃ M', Vp.Pg w' M' fs N ⟨S.room, r, r, []⟩ ∧ Kp M w w' ∧ ∀ b, M' b → M b ∨ w.heap.size ≤ b := by
  refine ⟨M, ⟨mb, none, I, db, fun _ => False, c, [], .slice none 0 0, mv, [], ?_, .nil hv, rfl, ?_⟩, hk.mono (fun b _ e => by subst e; exact hM _ (.inl rfl)), fun b hb => .inl hb⟩
  · obtain ⟨k, hkk, hm⟩ := h.map
    have hIk : ∀ id, I id → w'.heap[id]? = w.heap[id]? := fun id hid => hk.block id (h.lt (.inr (.inr (.inr (.inl hid))))) (h.fl hid).1
    have hDk : ∀ id, I id → w'.heap[db id]? = w.heap[db id]? := fun id hid => hk.block _ (h.lt (.inr (.inr (.inr (.inr (.inl ⟨id, hid, rfl⟩)))))) (h.bt hid).1
    refine ⟨hf, ⟨k, by simp; omega, hm.keep (fun b hb => hk.block b (hm.lt hb).1 (fun e => h.fs_map (e ▸ hb)))⟩, fun id hid => ?_, h.inj, World.ownsRow_nil _ _ _ _, rfl, rfl, ⟨h.live.1, (fun _ h => nomatch h)⟩, fun h => absurd rfl h, fun _ h => h.elim⟩
    obtain ⟨f1, f2, f3⟩ := h.file id hid
    exact ⟨(hIk id hid).trans f1, (hDk id hid).trans f2, f3⟩
  · intro b hb
    rcases hb with hb | hb | hb | hb | hb | hb
    · exact hM b (.inl hb)
    · exact hM b (.inr (.inl hb))
    · cases hb
    · exact hM b (.inr (.inr (.inr (.inl hb))))
    · exact hM b (.inr (.inr (.inr (.inr (.inl hb)))))
    · exact hb.elim

theorem psync_any {w : World} {M : Nat → Prop} {fs N : Nat} {S : Vf.Sv} (h : Vp.Pg w M fs N S) :
    Calls Tryd.prog 12 #[.pointer (some ⟨fs, 0, none⟩)] w (Vp.PNext w M fs N { S with was := S.now, l := [] } (.tuple #[])) := by
  obtain ⟨mb, lr, I, db, G, c, j, lv, mv, ys, h1, h2, h3, h4⟩ := h
  have HF := Lib.hid (forget_any h1.heap h1.form)
  have H1 := Lib.hid h1
  have HV := Lib.hid (Vp.view_now h2 h3)
  have H4 := Lib.hid h4
  clear h1 h2 h3 h4
  go_enter Tryd.func12, Tryd.ntmps12
  go_wp2_with (go_at_call 32; (with_reducible refine (HF.out).mono ?_); rintro e w' ⟨rfl, hf, hk⟩; have HHF := Lib.hid hf; clear hf)
  ((try simp only [Exit.inBlock, Exit.then]); first | (refine bodyPost_ret (results_none rfl _ _ _) rfl ?_) | (refine bodyPost_end (results_none rfl _ _ _) rfl ?_))
  exact ⟨rfl, Vp.sync_end H1.out HV.out H4.out HHF.out hk⟩

set_option maxHeartbeats 400000 in
theorem psize_any {w : World} {M : Nat → Prop} {fs N : Nat} {S : Vf.Sv} (h : Vp.Pg w M fs N S) (n : List UInt8) :
    Calls Tryd.prog 33 #[.pointer (some ⟨fs, 0, none⟩), .string ⟨n.toArray⟩] w fun e w' => e = .returned (.tuple #[.int .i64 (Vf.size S.now n).1, .int .i64 (Vf.size S.now n).2]) ∧ w = w' := by
  obtain ⟨mb, lr, I, db, G, c, j, lv, mv, ys, h1, h2, h3, h4⟩ := h
  have hv := Vp.view_now h2 h3
  obtain ⟨k, hk, hm⟩ := h1.map
  cases hi : Vf.is n
  · have HF := Lib.hid (find_bad (w := w) fs n hi)
    have HR := Lib.hid (Vp.size_bad (l := S.now) hi)
    clear h1 h2 h3 h4 hv hm hi
    generalize Vf.size S.now n = r at *
    go_enter Tryd.func33, Tryd.ntmps33
    go_wp2_with (go_at_call 50; ((with_reducible refine (HF.out).mono ?_); rintro e w' ⟨rfl, rfl⟩))
    ((try simp only [Exit.inBlock, Exit.then]); refine bodyPost_ret (results_tmp2 rfl _ _ _) rfl ?_)
    exact ⟨ret_two HR.out.symm, rfl⟩
  · cases hn : c.map n with
    | none =>
      have HF := Lib.hid (find_none h1.heap hm n hi hn)
      have HR := Lib.hid (Vp.size_none hv hi hn)
      clear h1 h2 h3 h4 hv hm hi hn
      generalize Vf.size S.now n = r at *
      go_enter Tryd.func33, Tryd.ntmps33
      go_wp2_with (go_at_call 50; ((with_reducible refine (HF.out).mono ?_); rintro e w' ⟨rfl, rfl⟩))
      ((try simp only [Exit.inBlock, Exit.then]); refine bodyPost_ret (results_tmp2 rfl _ _ _) rfl ?_)
      exact ⟨ret_two HR.out.symm, rfl⟩
    | some id =>
      have HF := Lib.hid (find_some h1.heap hm n hi hn)
      have HR := Lib.hid (Vp.size_ok hv hi hn)
      obtain ⟨f1, f2, f3, f4⟩ := h1.file id (h1.live.1 n id hn)
      obtain ⟨e0, e1, _⟩ := Vp.fl_cells f1
      have hl : ((c.sto id).b.length : Int) ≤ 1073741824 := by omega
      clear h1 h2 h3 h4 hv hm hi hn f1 f2 f3 f4
      generalize Vf.size S.now n = r at *
      go_enter Tryd.func33, Tryd.ntmps33
      go_wp2_with (go_at_call 50; ((with_reducible refine (HF.out).mono ?_); rintro e w' ⟨rfl, rfl⟩))
      ((try simp only [Exit.inBlock, Exit.then]); refine bodyPost_ret (results_tmp2 rfl _ _ _) rfl ?_)
      exact ⟨ret_two HR.out.symm, rfl⟩
end Go.Proofs.YtbakngbmfgnmcaaDoor
