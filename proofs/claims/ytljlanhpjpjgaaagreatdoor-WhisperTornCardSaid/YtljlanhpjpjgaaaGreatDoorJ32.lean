/- VpObj VpGen VpAct VpRead -/
import Derived.Test.YtljlanhpjpjgaaaGreatDoorJ1
import Derived.Test.YtljlanhpjpjgaaaGreatDoorJ31
namespace Go.Proofs.YtljlanhpjpjgaaaGreatDoor
set_option maxRecDepth 100000
set_option maxHeartbeats 8000000
section
open Go.RowKit
open Me Vf
namespace Vp
def OpC (w : World) (G : Nat → Prop) (o : Op) (cs : List Value) : Prop := ∃ v, cs = opC o.kind o.on o.at_ v ∧ Bs w G v o.old
theorem OpC.four {w : World} {G : Nat → Prop} : ∀ o cs, OpC w G o cs → cs.length = 4 := by
 rintro o cs ⟨v, rfl, _⟩; rfl
def btC (b : List UInt8) : Obj := .cells (by8 b).toArray 5 (0, 0)
structure Pt (w : World) (fs : Nat) (mb lr : Option Nat) (I : Nat → Prop) (db : Nat → Nat) (G : Nat → Prop) (room : Int) (c : Co) (j : List Op) (N : Nat) (lv mv : Value) (ys : List Value) : Prop where
 heap : w.heap[fs]? = some (fsC lv room c.used mv)
 map : ∃ k, k + j.length ≤ N ∧ Mp w mv mb k c.map
 file : ∀ id, I id → w.heap[id]? = some (flC (c.sto id).name (db id) (c.sto id).b.length) ∧ w.heap[db id]? = some (btC (c.sto id).b) ∧ (c.sto id).name.length ≤ 255 ∧ (c.sto id).b.length ≤ 1073741824
 inj : ∀ i i', I i → I i' → db i = db i' → i = i'
 own : w.ownsRow 0 136 4 lv j.length ys
 ops : Els (OpC w G) j.reverse ys
 row : lv.ownBlock = lr
 live : Live I c j
 some_ : j ≠ [] → ∃ b, mb = some b
 g : ∀ b, G b → b < w.heap.size ∧ b ≠ fs ∧ mb ≠ some b ∧ lr ≠ some b ∧ ¬ I b ∧ ∀ i, I i → db i ≠ b
def Own (fs : Nat) (mb lr : Option Nat) (I : Nat → Prop) (db : Nat → Nat) (G : Nat → Prop) (b : Nat) : Prop := b = fs ∨ mb = some b ∨ lr = some b ∨ I b ∨ (∃ i, I i ∧ db i = b) ∨ G b
section
variable {w w' : World} {fs : Nat} {mb lr : Option Nat} {I : Nat → Prop} {db : Nat → Nat} {G : Nat → Prop} {room : Int} {c : Co} {j : List Op} {N : Nat} {lv mv : Value} {ys : List Value}
theorem fs_ne_fl {lv mv : Value} {r u : Int} {n : List UInt8} {d l : Nat} : fsC lv r u mv ≠ flC n d l := by intro e; simp [fsC, flC] at e
theorem fs_ne_bt {lv mv : Value} {r u : Int} {b : List UInt8} : fsC lv r u mv ≠ btC b := by intro e; simp [fsC, btC] at e
theorem fl_ne_bt {n : List UInt8} {d l : Nat} {b : List UInt8} : flC n d l ≠ btC b := by intro e; simp [flC, btC] at e
theorem fs_ne_op {lv mv : Value} {r u : Int} {cs : Array Value} : fsC lv r u mv ≠ .cells cs 136 (0, 0) := by intro e; simp [fsC] at e
theorem fl_ne_op {n : List UInt8} {d l : Nat} {cs : Array Value} : flC n d l ≠ .cells cs 136 (0, 0) := by intro e; simp [flC] at e
theorem bt_ne_op {b : List UInt8} {cs : Array Value} : btC b ≠ .cells cs 136 (0, 0) := by intro e; simp [btC] at e
theorem fs_ne_map {lv mv : Value} {r u : Int} {es : Array MapEntry} {k : Nat} : fsC lv r u mv ≠ .map es k := by intro e; simp [fsC] at e
theorem fl_ne_map {n : List UInt8} {d l : Nat} {es : Array MapEntry} {k : Nat} : flC n d l ≠ .map es k := by intro e; simp [flC] at e
theorem bt_ne_map {b : List UInt8} {es : Array MapEntry} {k : Nat} : btC b ≠ .map es k := by intro e; simp [btC] at e
theorem op_ne_map {cs : Array Value} {es : Array MapEntry} {k : Nat} : (Obj.cells cs 136 (0, 0)) ≠ .map es k := by intro e; cases e
theorem Pt.rowC (h : Pt w fs mb lr I db G room c j N lv mv ys) {b : Nat} (hb : lr = some b) : ∃ cur, w.heap[b]? = some (.cells cur 136 (0, 0)) := row_type h.own (h.row.trans hb)
theorem Pt.mapC (h : Pt w fs mb lr I db G room c j N lv mv ys) {b : Nat} (hb : mb = some b) : ∃ es k, w.heap[b]? = some (.map es k) := by
 obtain ⟨k, _, hm⟩ := h.map
 exact (hm.lt hb).2
theorem Pt.fs_row (h : Pt w fs mb lr I db G room c j N lv mv ys) : lr ≠ some fs := fun e => by
 obtain ⟨cur, hc⟩ := h.rowC e
 exact cells_ne h.heap hc fs_ne_op rfl
theorem Pt.fs_map (h : Pt w fs mb lr I db G room c j N lv mv ys) : mb ≠ some fs := fun e => by
 obtain ⟨es, k, hc⟩ := h.mapC e
 exact cells_ne h.heap hc fs_ne_map rfl
theorem Pt.row_map (h : Pt w fs mb lr I db G room c j N lv mv ys) {b : Nat} (e : lr = some b) : mb ≠ some b := fun e2 => by
 obtain ⟨es, k, hc⟩ := h.mapC e2
 obtain ⟨cur, hc2⟩ := h.rowC e
 exact cells_ne hc2 hc op_ne_map rfl
theorem Pt.fl (h : Pt w fs mb lr I db G room c j N lv mv ys) {b : Nat} (hb : I b) : b ≠ fs ∧ mb ≠ some b ∧ lr ≠ some b ∧ ∀ i, I i → db i ≠ b := by
 have hf := (h.file b hb).1
 refine ⟨fun e => cells_ne h.heap hf fs_ne_fl e.symm, fun e => ?_, fun e => ?_, fun i hi e => ?_⟩
 ·obtain ⟨es, k, hc⟩ := h.mapC e
  exact cells_ne hf hc fl_ne_map rfl
 ·obtain ⟨cur, hc⟩ := h.rowC e
  exact cells_ne hf hc fl_ne_op rfl
 ·have h2 := (h.file i hi).2.1
  exact cells_ne hf h2 fl_ne_bt e.symm
theorem Pt.bt (h : Pt w fs mb lr I db G room c j N lv mv ys) {i : Nat} (hi : I i) : db i ≠ fs ∧ mb ≠ some (db i) ∧ lr ≠ some (db i) ∧ ¬ I (db i) := by
 have hf := (h.file i hi).2.1
 refine ⟨fun e => cells_ne h.heap hf fs_ne_bt e.symm, fun e => ?_, fun e => ?_, fun e => ?_⟩
 ·obtain ⟨es, k, hc⟩ := h.mapC e
  exact cells_ne hf hc bt_ne_map rfl
 ·obtain ⟨cur, hc⟩ := h.rowC e
  exact cells_ne hf hc bt_ne_op rfl
 ·exact cells_ne (h.file (db i) e).1 hf fl_ne_bt rfl
theorem Pt.lt (h : Pt w fs mb lr I db G room c j N lv mv ys) {b : Nat} (hb : Own fs mb lr I db G b) : b < w.heap.size := by
 rcases hb with rfl | hb | hb | hb | ⟨i, hi, rfl⟩ | hb
 ·exact (Array.getElem?_eq_some_iff.1 h.heap).1
 ·obtain ⟨es, k, hc⟩ := h.mapC hb
  exact (Array.getElem?_eq_some_iff.1 hc).1
 ·obtain ⟨cur, hc⟩ := h.rowC hb
  exact (Array.getElem?_eq_some_iff.1 hc).1
 ·exact (Array.getElem?_eq_some_iff.1 (h.file b hb).1).1
 ·exact (Array.getElem?_eq_some_iff.1 (h.file i hi).2.1).1
 ·exact (h.g b hb).1
theorem OpC.keep {w w' : World} {G : Nat → Prop} (hs : w.heap.size ≤ w'.heap.size) (hk : ∀ i, i < w.heap.size → G i → w'.heap[i]? = w.heap[i]?) (o : Op) (cs : List Value) (h : OpC w G o cs) : OpC w' G o cs := by
 obtain ⟨v, e, hb⟩ := h
 exact ⟨v, e, hb.keep hs hk⟩
theorem OpC.wide {w : World} {G G' : Nat → Prop} (hG : ∀ i, i < w.heap.size → G i → G' i) (o : Op) (cs : List Value) (h : OpC w G o cs) : OpC w G' o cs := by
 obtain ⟨v, e, hb⟩ := h
 exact ⟨v, e, hb.mono hG⟩
theorem Mp.some_ {w : World} {mv : Value} {mb : Option Nat} {k : Nat} {m : List UInt8 → Option Nat} (h : Mp w mv mb k m) {n : List UInt8} {id : Nat} (e : m n = some id) : ∃ b, mb = some b := by
 rcases h with ⟨_, _, h⟩ | ⟨b, _, _, hb, _⟩
 ·rw [h n] at e; cases e
 ·exact ⟨b, hb⟩
theorem Pt.kp (h : Pt w fs mb lr I db G room c j N lv mv ys) {O : Nat → Prop} (k : Kp O w w') (hO : ∀ b, O b → ¬ Own fs mb lr I db G b) : Pt w' fs mb lr I db G room c j N lv mv ys := by
 have hk : ∀ b, Own fs mb lr I db G b → w'.heap[b]? = w.heap[b]? := fun b hb => k.block b (h.lt hb) (fun o => hO b o hb)
 obtain ⟨kk, hkk, hm⟩ := h.map
 refine ⟨(hk fs (.inl rfl)).trans h.heap, ⟨kk, hkk, hm.keep (fun b hb => hk b (.inr (.inl hb)))⟩, fun id hid => ?_, h.inj, owns_keep h.own (fun g hg => hk g (.inr (.inr (.inl (h.row.symm.trans hg))))), h.ops.mono (OpC.keep k.size (fun b _ hb => hk b (.inr (.inr (.inr (.inr (.inr hb))))))), h.row, h.live, h.some_, fun b hb => ?_⟩
 ·obtain ⟨h1, h2, h3⟩ := h.file id hid
  exact ⟨(hk id (.inr (.inr (.inr (.inl hid))))).trans h1, (hk (db id) (.inr (.inr (.inr (.inr (.inl ⟨id, hid, rfl⟩)))))).trans h2, h3⟩
 ·obtain ⟨h1, h2⟩ := h.g b hb
  exact ⟨Nat.lt_of_lt_of_le h1 k.size, h2⟩
theorem Pt.below (h : Pt w fs mb lr I db G room c j N lv mv ys) (b : Below w.heap.size w w') : Pt w' fs mb lr I db G room c j N lv mv ys := h.kp (O := fun _ => False) (Kp.of_below b) (fun _ o => o.elim)
theorem Pt.more (h : Pt w fs mb lr I db G room c j N lv mv ys) {N' : Nat} (hN : N ≤ N') : Pt w fs mb lr I db G room c j N' lv mv ys := by
 obtain ⟨k, hk, hm⟩ := h.map
 exact ⟨h.heap, ⟨k, by omega, hm⟩, h.file, h.inj, h.own, h.ops, h.row, h.live, h.some_, h.g⟩
theorem Pt.form (h : Pt w fs mb lr I db G room c j N lv mv ys) : ∃ A n c, lv = .slice A n c := by
 obtain ⟨A, c, e, _⟩ := own_form h.own
 exact ⟨A, _, c, e⟩
theorem Pt.putten (h : Pt w fs mb lr I db G room c j N lv mv ys) {k' N' : Nat} {u' : Int} {m' : List UInt8 → Option Nat} {e : Ending} (hp : Putten w fs mb k' lv room u' m' e w') (hN : k' + j.length ≤ N') (hL : Live I ⟨m', c.sto, u'⟩ j) :
 ∃ mb' mv', Pt w' fs mb' lr I db G room ⟨m', c.sto, u'⟩ j N' lv mv' ys ∧ Kp (fun b => b = fs ∨ mb = some b) w w' ∧ (mb' = mb ∨ ∃ b, mb' = some b ∧ w.heap.size ≤ b) := by
 obtain ⟨_, mv', mb', h1, h2, h3, h4⟩ := hp
 have hmb : ∀ b, b < w.heap.size → mb ≠ some b → mb' ≠ some b := fun b hb hn e => by
  rcases h4 with h4 | ⟨b', e2, h4⟩
  ·exact hn (h4.symm.trans e)
  ·rw [e] at e2
   have := Option.some.inj e2
   omega
 have hI : ∀ id, I id → w'.heap[id]? = w.heap[id]? := fun id hid => h3.block id (h.lt (.inr (.inr (.inr (.inl hid))))) (fun e => e.elim (h.fl hid).1 (h.fl hid).2.1)
 have hD : ∀ id, I id → w'.heap[db id]? = w.heap[db id]? := fun id hid => h3.block _ (h.lt (.inr (.inr (.inr (.inr (.inl ⟨id, hid, rfl⟩)))))) (fun e => e.elim (h.bt hid).1 (h.bt hid).2.1)
 refine ⟨mb', mv', ⟨h1, ⟨k', hN, h2⟩, fun id hid => ?_, h.inj, owns_keep h.own (fun g hg => ?_), h.ops.mono (OpC.keep h3.size (fun b hb hg => h3.block b hb (fun e => e.elim (h.g b hg).2.1 (h.g b hg).2.2.1))), h.row, hL, fun hj => ?_, fun b hb => ?_⟩, h3, h4⟩
 ·obtain ⟨f1, f2, f3⟩ := h.file id hid
  exact ⟨(hI id hid).trans f1, (hD id hid).trans f2, f3⟩
 ·have hg2 := h.row.symm.trans hg
  exact h3.block g (h.lt (.inr (.inr (.inl hg2)))) (fun e => e.elim (fun e => h.fs_row (e ▸ hg2)) (h.row_map hg2))
 ·obtain ⟨b, hb⟩ := h.some_ hj
  rcases h4 with h4 | ⟨b', e2, _⟩
  ·exact ⟨b, h4.trans hb⟩
  ·exact ⟨b', e2⟩
 ·obtain ⟨g1, g2, g3, g4⟩ := h.g b hb
  exact ⟨Nat.lt_of_lt_of_le g1 h3.size, g2, hmb b g1 g3, g4⟩
theorem Pt.noted (h : Pt w fs mb lr I db G room c j N lv mv ys) {o : Op} {old : Value} {G' : Nat → Prop} {e : Ending} (hp : Noted w fs lr (j.length + 1) (ys ++ opC o.kind o.on o.at_ old) room c.used mv e w') (hI : I o.on) (hsome : ∃ b, mb = some b)
 (hold : Bs w G' old o.old) (hG : ∀ b, G b → G' b) (hG' : ∀ b, G' b → b < w.heap.size ∧ b ≠ fs ∧ mb ≠ some b ∧ lr ≠ some b ∧ ¬ I b ∧ ∀ i, I i → db i ≠ b) :
 ∃ lr' lv' ys', Pt w' fs mb lr' I db G' room c (o :: j) (N + 1) lv' mv ys' ∧ Kp (fun b => b = fs ∨ lr = some b) w w' ∧ (lr' = lr ∨ ∃ b, lr' = some b ∧ w.heap.size ≤ b) := by
 obtain ⟨_, lv', lr', h1, h2, hlr, h3, h4⟩ := hp
 have hlrne : ∀ b, b < w.heap.size → lr ≠ some b → lr' ≠ some b := fun b hb hn e => by
  rcases h4 with h4 | ⟨b', e2, h4⟩
  ·exact hn (h4.symm.trans e)
  ·rw [e] at e2
   have := Option.some.inj e2
   omega
 obtain ⟨k, hk, hm⟩ := h.map
 have hIk : ∀ id, I id → w'.heap[id]? = w.heap[id]? := fun id hid => h3.block id (h.lt (.inr (.inr (.inr (.inl hid))))) (fun e => e.elim (h.fl hid).1 (h.fl hid).2.2.1)
 have hDk : ∀ id, I id → w'.heap[db id]? = w.heap[db id]? := fun id hid => h3.block _ (h.lt (.inr (.inr (.inr (.inr (.inl ⟨id, hid, rfl⟩)))))) (fun e => e.elim (h.bt hid).1 (h.bt hid).2.2.1)
 have hGk : ∀ b, b < w.heap.size → G' b → w'.heap[b]? = w.heap[b]? := fun b hb hg => h3.block b hb (fun e => e.elim (hG' b hg).2.1 (hG' b hg).2.2.2.1)
 refine ⟨lr', lv', _, ⟨h1, ⟨k, by simp only [List.length_cons]; omega, hm.keep (fun b hb => ?_)⟩, fun id hid => ?_, h.inj, h2, ?_, hlr, ⟨h.live.1, fun o' ho => ?_⟩, fun _ => hsome, fun b hb => ?_⟩, h3, h4⟩
 ·refine h3.block b (hm.lt hb).1 (fun e => e.elim (fun e => h.fs_map (e ▸ hb)) (fun e => h.row_map e hb))
 ·obtain ⟨f1, f2, f3⟩ := h.file id hid
  exact ⟨(hIk id hid).trans f1, (hDk id hid).trans f2, f3⟩
 ·rw [List.reverse_cons]
  refine Els.append (h.ops.mono fun o' cs hc => ?_) (Els.one ⟨old, rfl, hold.keep h3.size hGk⟩)
  exact (hc.wide (fun b _ hg => hG b hg)).keep h3.size hGk
 ·rcases List.mem_cons.1 ho with rfl | ho
  ·exact hI
  ·exact h.live.2 o' ho
 ·obtain ⟨g1, g2, g3, g4, g5⟩ := hG' b hb
  exact ⟨Nat.lt_of_lt_of_le g1 h3.size, g2, g3, hlrne b g1 g4, g5⟩
theorem Pt.filled (h : Pt w fs mb lr I db G room c j N lv mv ys) {id o : Nat} {b : List UInt8} (hid : I id) (hlen : o + b.length ≤ (c.sto id).b.length) (hd : w'.heap[db id]? = some (btC (upd (c.sto id).b o b))) (hk : Kp (fun i => i = db id) w w') :
 Pt w' fs mb lr I db G room (c.over id o b) j N lv mv ys := by
 have hs : ∀ i, i ≠ id → (c.over id o b).sto i = c.sto i := fun i hi => by show setS c.sto id _ i = _; unfold setS; rw [if_neg hi]
 have h0 : (c.over id o b).sto id = ⟨(c.sto id).name, upd (c.sto id).b o b⟩ := setS_same _ _ _
 have hbl : (upd (c.sto id).b o b).length = (c.sto id).b.length := upd_len hlen
 obtain ⟨k, hkk, hm⟩ := h.map
 refine ⟨(hk.block fs (h.lt (.inl rfl)) (fun e => (h.bt hid).1 e.symm)).trans h.heap, ⟨k, hkk, hm.keep (fun b' hb' => hk.block b' (hm.lt hb').1 (fun e => (h.bt hid).2.1 (e ▸ hb')))⟩, fun i hi => ?_, h.inj, owns_keep h.own (fun g hg => ?_), h.ops.mono (OpC.keep hk.size (fun b' hb' hg => hk.block b' hb' (fun e => (h.g b' hg).2.2.2.2.2 id hid e.symm))), h.row, h.live, h.some_, fun b' hb' => ?_⟩
 ·obtain ⟨f1, f2, f3, f4⟩ := h.file i hi
  have hib : w'.heap[i]? = w.heap[i]? := hk.block i (h.lt (.inr (.inr (.inr (.inl hi))))) (fun e => (h.bt hid).2.2.2 (e ▸ hi))
  by_cases e : i = id
  ·subst e
   rw [h0]
   simp only [hbl]
   exact ⟨hib.trans f1, hd, f3, f4⟩
  ·rw [hs i e]
   exact ⟨hib.trans f1, (hk.block _ (h.lt (.inr (.inr (.inr (.inr (.inl ⟨i, hi, rfl⟩)))))) (fun e2 => e (h.inj i id hi hid e2))).trans f2, f3, f4⟩
 ·have hg2 := h.row.symm.trans hg
  exact hk.block g (h.lt (.inr (.inr (.inl hg2)))) (fun e => (h.bt hid).2.2.1 (e ▸ hg2))
 ·obtain ⟨g1, g2⟩ := h.g b' hb'
  exact ⟨Nat.lt_of_lt_of_le g1 hk.size, g2⟩
theorem Pt.laid (h : Pt w fs mb lr I db G room c j N lv mv ys) {id d : Nat} {f : Fl} (hk : Below w.heap.size w w') (hid : w.heap.size ≤ id) (hd : w.heap.size ≤ d)
 (hf : w'.heap[id]? = some (flC f.name d f.b.length)) (hb : w'.heap[d]? = some (btC f.b)) (hn : f.name.length ≤ 255) (hl : f.b.length ≤ 1073741824) :
 Pt w' fs mb lr (fun i => I i ∨ i = id) (fun i => if i = id then d else db i) G room (c.lay id f) j N lv mv ys := by
 have h' := h.below hk
 have hIlt : ∀ i, I i → i ≠ id := fun i hi e => by have := h.lt (.inr (.inr (.inr (.inl hi)))); omega
 have hdlt : ∀ i, I i → db i ≠ d := fun i hi e => by have := h.lt (.inr (.inr (.inr (.inr (.inl ⟨i, hi, rfl⟩))))); omega
 have hs : ∀ i, i ≠ id → (c.lay id f).sto i = c.sto i := fun i hi => by show setS c.sto id _ i = _; unfold setS; rw [if_neg hi]
 have h0 : (c.lay id f).sto id = f := setS_same _ _ _
 refine ⟨h'.heap, h'.map, fun i hi => ?_, fun i i' hi hi' e => ?_, h'.own, h'.ops, h'.row, ⟨fun n i e => .inl (h.live.1 n i e), fun o ho => .inl (h.live.2 o ho)⟩, h.some_, fun b hb' => ?_⟩
 ·rcases hi with hi | rfl
  ·rw [hs i (hIlt i hi), if_neg (hIlt i hi)]
   exact h'.file i hi
  ·rw [h0, if_pos rfl]
   exact ⟨hf, hb, hn, hl⟩
 ·rcases hi with hi | rfl <;> rcases hi' with hi' | rfl
  ·simp only [if_neg (hIlt i hi), if_neg (hIlt i' hi')] at e
   exact h.inj i i' hi hi' e
  ·simp only [if_neg (hIlt i hi), if_pos] at e
   exact absurd e (hdlt i hi)
  ·simp only [if_neg (hIlt i' hi'), if_pos] at e
   exact absurd e.symm (hdlt i' hi')
  ·rfl
 ·obtain ⟨g1, g2, g3, g4, g5, g6⟩ := h'.g b hb'
  have hbl : b < w.heap.size := (h.g b hb').1
  refine ⟨g1, g2, g3, g4, fun e => e.elim g5 (fun e => by omega), fun i hi => ?_⟩
  rcases hi with hi | rfl
  ·rw [if_neg (hIlt i hi)]; exact g6 i hi
  ·rw [if_pos rfl]; omega
end
end Vp
end
section
open Go.RowKit
open Me Vf
namespace Vp
def Pg (w : World) (M : Nat → Prop) (fs N : Nat) (S : Sv) : Prop :=
 ∃ mb lr I db G c j lv mv ys, Pt w fs mb lr I db G S.room c j N lv mv ys ∧ Hist S.was c j S.l.reverse ∧ S.now = rep S.was S.l ∧ ∀ b, Own fs mb lr I db G b → M b
theorem Pg.kp {w w' : World} {M O : Nat → Prop} {fs N : Nat} {S : Sv} (h : Pg w M fs N S) (k : Kp O w w') (hO : ∀ b, O b → ¬ M b) : Pg w' M fs N S := by
 obtain ⟨mb, lr, I, db, G, c, j, lv, mv, ys, h1, h2, h3, h4⟩ := h
 exact ⟨mb, lr, I, db, G, c, j, lv, mv, ys, h1.kp k (fun b ho hb => hO b ho (h4 b hb)), h2, h3, h4⟩
theorem Pg.below {w w' : World} {M : Nat → Prop} {fs N : Nat} {S : Sv} (h : Pg w M fs N S) (b : Below w.heap.size w w') : Pg w' M fs N S := h.kp (O := fun _ => False) (Kp.of_below b) (fun _ o => o.elim)
theorem Pg.more {w : World} {M : Nat → Prop} {fs N N' : Nat} {S : Sv} (h : Pg w M fs N S) (hN : N ≤ N') : Pg w M fs N' S := by
 obtain ⟨mb, lr, I, db, G, c, j, lv, mv, ys, h1, h2⟩ := h
 exact ⟨mb, lr, I, db, G, c, j, lv, mv, ys, h1.more hN, h2⟩
def PNext (w : World) (M : Nat → Prop) (fs N : Nat) (S : Sv) (v : Value) (e : Ending) (w' : World) : Prop :=
 e = .returned v ∧ ∃ M', Pg w' M' fs N S ∧ Kp M w w' ∧ ∀ b, M' b → M b ∨ w.heap.size ≤ b
theorem PNext.same {w : World} {M : Nat → Prop} {fs N : Nat} {S : Sv} {i : Int} {R : Sv × Int} (h : Pg w M fs N S) (hR : R = (S, i)) : PNext w M fs N R.1 (.int .i64 R.2) (.returned (.int .i64 i)) w := by
 subst hR
 exact ⟨rfl, M, h, Kp.refl _ _, fun b hb => .inl hb⟩
theorem view_now {S : Sv} {c : Co} {j : List Op} (h : Hist S.was c j S.l.reverse) (hn : S.now = rep S.was S.l) : View c S.now := by
 have := h.view
 rwa [List.reverse_reverse, ← hn] at this
end Vp
theorem pnew_any (room : Int) (w : World) (hr : 0 ≤ room) (hr2 : room ≤ 1073741824) :
 Calls Tryz.prog 9 #[.int .i64 room] w fun e w' => e = .returned (.tuple #[.pointer (some ⟨w.heap.size, 0, none⟩), .int .i64 0]) ∧ (∃ M, Vp.Pg w' M w.heap.size 0 ⟨room, [], [], []⟩ ∧ ∀ b, M b → w.heap.size ≤ b) ∧ Below w.heap.size w w' := by
 go_enter Tryz.func9, Tryz.ntmps9
 go_wp2_with fail
 ((try simp only [Exit.inBlock, Exit.then]); refine bodyPost_ret (results_tmp2 rfl _ _ _) rfl ?_)
 refine ⟨rfl, ⟨fun b => w.heap.size ≤ b, ⟨none, none, fun _ => False, fun _ => 0, fun _ => False, ⟨fun _ => none, fun _ => ⟨[], []⟩, 0⟩, [], .slice none 0 0, .map none, [], ?_, .nil ?_, rfl, ?_⟩, fun b hb => hb⟩, (Below.refl _ _).alloc (Nat.le_refl _) _⟩
 ·exact ⟨heap_alloc_new w _, ⟨0, Nat.le_refl _, .inl ⟨rfl, rfl, fun _ => rfl⟩⟩, fun _ h => h.elim, fun _ _ h => h.elim, World.ownsRow_nil _ _ _ _, rfl, rfl, ⟨(fun _ _ h => nomatch h), (fun _ h => nomatch h)⟩, fun h => absurd rfl h, fun _ h => h.elim⟩
 ·exact ⟨(fun _ => rfl), (fun _ _ h => nomatch h), rfl, List.Pairwise.nil⟩
 ·intro b hb
  rcases hb with rfl | hb | hb | hb | ⟨_, hb, _⟩ | hb
  ·exact Nat.le_refl _
  ·cases hb
  ·cases hb
  ·exact hb.elim
  ·exact hb.elim
  ·exact hb.elim
theorem Vp.sync_end {w w' : World} {M : Nat → Prop} {fs N : Nat} {S : Vf.Sv} {mb lr : Option Nat} {I : Nat → Prop} {db : Nat → Nat} {G : Nat → Prop} {c : Vp.Co} {j : List Vp.Op} {lv mv : Value} {ys : List Value} {r : List Fl}
 (h : Vp.Pt w fs mb lr I db G S.room c j N lv mv ys) (hv : Vp.View c r) (hM : ∀ b, Vp.Own fs mb lr I db G b → M b) (hf : w'.heap[fs]? = some (Vp.fsC (.slice none 0 0) S.room c.used mv)) (hk : Kp (fun b => b = fs) w w') :
 ∃ M', Vp.Pg w' M' fs N ⟨S.room, r, r, []⟩ ∧ Kp M w w' ∧ ∀ b, M' b → M b ∨ w.heap.size ≤ b := by
 refine ⟨M, ⟨mb, none, I, db, fun _ => False, c, [], .slice none 0 0, mv, [], ?_, .nil hv, rfl, ?_⟩, hk.mono (fun b _ e => by subst e; exact hM _ (.inl rfl)), fun b hb => .inl hb⟩
 ·obtain ⟨k, hkk, hm⟩ := h.map
  have hIk : ∀ id, I id → w'.heap[id]? = w.heap[id]? := fun id hid => hk.block id (h.lt (.inr (.inr (.inr (.inl hid))))) (h.fl hid).1
  have hDk : ∀ id, I id → w'.heap[db id]? = w.heap[db id]? := fun id hid => hk.block _ (h.lt (.inr (.inr (.inr (.inr (.inl ⟨id, hid, rfl⟩)))))) (h.bt hid).1
  refine ⟨hf, ⟨k, by simp; omega, hm.keep (fun b hb => hk.block b (hm.lt hb).1 (fun e => h.fs_map (e ▸ hb)))⟩, fun id hid => ?_, h.inj, World.ownsRow_nil _ _ _ _, rfl, rfl, ⟨h.live.1, (fun _ h => nomatch h)⟩, fun h => absurd rfl h, fun _ h => h.elim⟩
  obtain ⟨f1, f2, f3⟩ := h.file id hid
  exact ⟨(hIk id hid).trans f1, (hDk id hid).trans f2, f3⟩
 ·intro b hb
  rcases hb with hb | hb | hb | hb | hb | hb
  ·exact hM b (.inl hb)
  ·exact hM b (.inr (.inl hb))
  ·cases hb
  ·exact hM b (.inr (.inr (.inr (.inl hb))))
  ·exact hM b (.inr (.inr (.inr (.inr (.inl hb)))))
  ·exact hb.elim
theorem psync_any {w : World} {M : Nat → Prop} {fs N : Nat} {S : Vf.Sv} (h : Vp.Pg w M fs N S) :
 Calls Tryz.prog 31 #[.pointer (some ⟨fs, 0, none⟩)] w (Vp.PNext w M fs N { S with was := S.now, l := [] } (.tuple #[])) := by
 obtain ⟨mb, lr, I, db, G, c, j, lv, mv, ys, h1, h2, h3, h4⟩ := h
 have HF := Lib.hid (forget_any h1.heap h1.form)
 have H1 := Lib.hid h1
 have HV := Lib.hid (Vp.view_now h2 h3)
 have H4 := Lib.hid h4
 clear h1 h2 h3 h4
 go_enter Tryz.func31, Tryz.ntmps31
 go_wp2_with (go_at_call 68; (with_reducible refine (HF.out).mono ?_); rintro e w' ⟨rfl, hf, hk⟩; have HHF := Lib.hid hf; clear hf)
 ((try simp only [Exit.inBlock, Exit.then]); first | (refine bodyPost_ret (results_none rfl _ _ _) rfl ?_) | (refine bodyPost_end (results_none rfl _ _ _) rfl ?_))
 exact ⟨rfl, Vp.sync_end H1.out HV.out H4.out HHF.out hk⟩
theorem psize_any {w : World} {M : Nat → Prop} {fs N : Nat} {S : Vf.Sv} (h : Vp.Pg w M fs N S) (n : List UInt8) :
 Calls Tryz.prog 69 #[.pointer (some ⟨fs, 0, none⟩), .string ⟨n.toArray⟩] w fun e w' => e = .returned (.tuple #[.int .i64 (Vf.size S.now n).1, .int .i64 (Vf.size S.now n).2]) ∧ w = w' := by
 obtain ⟨mb, lr, I, db, G, c, j, lv, mv, ys, h1, h2, h3, h4⟩ := h
 have hv := Vp.view_now h2 h3
 obtain ⟨k, hk, hm⟩ := h1.map
 cases hi : Vf.is n
 ·have HF := Lib.hid (find_bad (w := w) fs n hi)
  have HR := Lib.hid (Vp.size_bad (l := S.now) hi)
  clear h1 h2 h3 h4 hv hm hi
  generalize Vf.size S.now n = r at *
  go_enter Tryz.func69, Tryz.ntmps69
  go_wp2_with (go_at_call 78; ((with_reducible refine (HF.out).mono ?_); rintro e w' ⟨rfl, rfl⟩))
  ((try simp only [Exit.inBlock, Exit.then]); refine bodyPost_ret (results_tmp2 rfl _ _ _) rfl ?_)
  exact ⟨ret_two HR.out.symm, rfl⟩
 ·cases hn : c.map n with
  | none =>
    have HF := Lib.hid (find_none h1.heap hm n hi hn)
    have HR := Lib.hid (Vp.size_none hv hi hn)
    clear h1 h2 h3 h4 hv hm hi hn
    generalize Vf.size S.now n = r at *
    go_enter Tryz.func69, Tryz.ntmps69
    go_wp2_with (go_at_call 78; ((with_reducible refine (HF.out).mono ?_); rintro e w' ⟨rfl, rfl⟩))
    ((try simp only [Exit.inBlock, Exit.then]); refine bodyPost_ret (results_tmp2 rfl _ _ _) rfl ?_)
    exact ⟨ret_two HR.out.symm, rfl⟩
  | some id =>
    have HF := Lib.hid (find_some h1.heap hm n hi hn)
    have HR := Lib.hid (Vp.size_ok hv hi hn)
    obtain ⟨f1, f2, f3, f4⟩ := h1.file id (h1.live.1 n id hn)
    obtain ⟨e0, e1, _⟩ := Vp.fl_cells f1
    have hl : ((c.sto id).b.length : Int) ≤ 1073741824 := by omega
    clear h1 h2 h3 h4 hv hm hi hn f1 f2 f3 f4
    generalize Vf.size S.now n = r at *
    go_enter Tryz.func69, Tryz.ntmps69
    go_wp2_with (go_at_call 78; ((with_reducible refine (HF.out).mono ?_); rintro e w' ⟨rfl, rfl⟩))
    ((try simp only [Exit.inBlock, Exit.then]); refine bodyPost_ret (results_tmp2 rfl _ _ _) rfl ?_)
    exact ⟨ret_two HR.out.symm, rfl⟩
end
section
open Go.RowKit
open Me Vf
namespace Vp
def Left (w : World) (M : Nat → Prop) (fs N : Nat) (S : Sv) (w' : World) : Prop := ∃ M', Pg w' M' fs N S ∧ Kp M w w' ∧ ∀ b, M' b → M b ∨ w.heap.size ≤ b
theorem Left.next {w w' : World} {M : Nat → Prop} {fs N : Nat} {S : Sv} {i : Int} {R : Sv × Int} (h : Left w M fs N S w') (hR : R = (S, i)) : PNext w M fs N R.1 (.int .i64 R.2) (.returned (.int .i64 i)) w' := by
 subst hR
 exact ⟨rfl, h⟩
theorem act_end {w w2 : World} {M : Nat → Prop} {fs N : Nat} {S : Sv} {a : Ac} {mb lr : Option Nat} {I : Nat → Prop} {db : Nat → Nat} {G : Nat → Prop} {c : Co} {j : List Op} {lv mv : Value} {ys : List Value}
 (h : Pt w2 fs mb lr I db G S.room c j N lv mv ys) (hh : Hist S.was c j (a :: S.l.reverse)) (hn : S.now = rep S.was S.l) (hK : Kp M w w2) (hM : ∀ b, Own fs mb lr I db G b → M b ∨ w.heap.size ≤ b) : Left w M fs N (S.act a) w2 := by
 refine ⟨Own fs mb lr I db G, ⟨mb, lr, I, db, G, c, j, lv, mv, ys, h, ?_, ?_, fun b hb => hb⟩, hK, hM⟩
 ·show Hist S.was c j (S.l ++ [a]).reverse
  rw [List.reverse_append]
  exact hh
 ·show does S.now a = rep S.was (S.l ++ [a])
  rw [rep_append, ← hn]
theorem own_row {fs : Nat} {mb lr lr' : Option Nat} {I : Nat → Prop} {db : Nat → Nat} {G : Nat → Prop} {n : Nat} {X : Nat → Prop} (h : ∀ b, Own fs mb lr I db G b → X b) (hl : lr' = lr ∨ ∃ b, lr' = some b ∧ n ≤ b) (hn : ∀ b, n ≤ b → X b) : ∀ b, Own fs mb lr' I db G b → X b := by
 intro b hb
 rcases hb with hb | hb | hb | hb
 ·exact h b (.inl hb)
 ·exact h b (.inr (.inl hb))
 ·rcases hl with hl | ⟨b', e, hl⟩
  ·exact h b (.inr (.inr (.inl (hl.symm.trans hb))))
  ·rw [hb] at e
   obtain rfl := Option.some.inj e
   exact hn b hl
 ·exact h b (.inr (.inr (.inr hb)))
theorem own_map {fs : Nat} {mb mb' lr : Option Nat} {I : Nat → Prop} {db : Nat → Nat} {G : Nat → Prop} {n : Nat} {X : Nat → Prop} (h : ∀ b, Own fs mb lr I db G b → X b) (hl : mb' = mb ∨ ∃ b, mb' = some b ∧ n ≤ b) (hn : ∀ b, n ≤ b → X b) : ∀ b, Own fs mb' lr I db G b → X b := by
 intro b hb
 rcases hb with hb | hb | hb
 ·exact h b (.inl hb)
 ·rcases hl with hl | ⟨b', e, hl⟩
  ·exact h b (.inr (.inl (hl.symm.trans hb)))
  ·rw [hb] at e
   obtain rfl := Option.some.inj e
   exact hn b hl
 ·exact h b (.inr (.inr hb))
end Vp
theorem note_last {w w1 : World} {M : Nat → Prop} {fs N : Nat} {S : Vf.Sv} {a : Vf.Ac} {o : Vp.Op} {old : Value} {mb lr : Option Nat} {I : Nat → Prop} {db : Nat → Nat} {G : Nat → Prop} {c : Vp.Co} {j : List Vp.Op} {lv mv : Value} {ys : List Value}
 (h : Vp.Pt w1 fs mb lr I db G S.room c j N lv mv ys) (hN : N ≤ 1048576) (hh : Vp.Hist S.was c (o :: j) (a :: S.l.reverse)) (hn : S.now = Vf.rep S.was S.l) (hI : I o.on) (hs : ∃ b, mb = some b)
 (hold : Bs w1 G old o.old) (hK : Kp M w w1) (hM : ∀ b, Vp.Own fs mb lr I db G b → M b ∨ w.heap.size ≤ b) :
 Calls Tryz.prog 66 #[.pointer (some ⟨fs, 0, none⟩), .agg #[.int .i64 o.kind, .pointer (some ⟨o.on, 0, none⟩), .int .i64 (o.at_ : Int), old]] w1 fun e w' => e = .returned (.tuple #[]) ∧ Vp.Left w M fs (N + 1) (S.act a) w' := by
 obtain ⟨k, hk, _⟩ := h.map
 have hof : ∃ A m c, old = .slice A m c := by
  obtain ⟨A, c, e, _⟩ := hold
  exact ⟨A, _, c, e⟩
 refine (note_any (n := j.length) (ys := ys) (on := o.on) (at_ := o.at_) (kind := o.kind) (old := old) h.heap h.own (by omega) hof).mono ?_
 intro e w' hp
 obtain rfl := hp.1
 rw [h.row] at hp
 obtain ⟨lr', lv', ys', p1, p2, p3⟩ := h.noted (o := o) (G' := G) hp hI hs hold (fun _ h => h) h.g
 refine ⟨rfl, Vp.act_end p1 hh hn (hK.trans p2 (fun i hi e => ?_)) (Vp.own_row hM (p3.imp id (fun ⟨b, e, h⟩ => ⟨b, e, h⟩)) (fun b hb => .inr (Nat.le_trans hK.size hb)))⟩
 have : M i ∨ w.heap.size ≤ i := by
  rcases e with e | e
  ·exact hM i (.inl e)
  ·exact hM i (.inr (.inr (.inl e)))
 rcases this with h | h
 ·exact h
 ·omega
theorem nil_bs (w : World) (G : Nat → Prop) : Bs w G (.slice none 0 0) [] := ⟨none, 0, rfl, Nat.le_refl _, Nat.zero_le _, Rd.none_ _ _ _⟩
end
section
open Go.RowKit
open Me Vf
theorem Me.Bs.block {w : World} {G : Nat → Prop} {b : Nat} {l : List UInt8} {t : TypeId} {n : Nat} {fr : Nat × Nat} (h : w.heap[b]? = some (.cells (by8 l).toArray t fr)) (hg : G b) (hn : l.length = n) (hl : l.length ≤ 4294967296) : Bs w G (.slice (some ⟨b, 0, none⟩) n n) l := by
 subst hn
 refine ⟨some ⟨b, 0, none⟩, l.length, rfl, Nat.le_refl _, by unfold maxLen; omega, fun _ => ⟨_, rfl, (Array.getElem?_eq_some_iff.1 h).1, hg, fun j u hu => ?_⟩⟩
 rw [Addr.add_lit, Nat.zero_add, cell_of_row w b j _ _ _ h]
 simpa using hu
theorem Me.Rd.block {w : World} {G : Nat → Prop} {b : Nat} {l : List UInt8} {t : TypeId} (h : w.heap[b]? = some (.cells (by8 l).toArray t (0, 0))) (hg : G b) (o n : Nat) : Rd w G (some ⟨b, o, none⟩) (by8 ((l.drop o).take n)) := fun _ => by
 refine ⟨_, rfl, (Array.getElem?_eq_some_iff.1 h).1, hg, fun j u hu => ?_⟩
 rw [Addr.add_lit, cell_of_row w b (o + j) _ _ _ h]
 rw [← by8_take, ← by8_drop, List.getElem?_take] at hu
 split at hu
 ·rw [List.getElem?_drop] at hu
  simpa using hu
 ·cases hu
theorem pread_any {w : World} {M : Nat → Prop} {fs N : Nat} {S : Vf.Sv} (h : Vp.Pg w M fs N S) (n : List UInt8) (t m : Int) (hti : t ≤ 9223372036854775807) :
 Calls Tryz.prog 70 #[.pointer (some ⟨fs, 0, none⟩), .string ⟨n.toArray⟩, .int .i64 t, .int .i64 m] w (Vf.Handed w (Vf.read S.now n t m)) := by
 obtain ⟨mb, lr, I, db, G, c, j, lv, mv, ys, h1, h2, h3, h4⟩ := h
 have hv := Vp.view_now h2 h3
 obtain ⟨k, hk, hm⟩ := h1.map
 cases hi : Vf.is n
 ·have HF := Lib.hid (find_bad (w := w) fs n hi)
  have HR := Lib.hid (Vp.read_bad (l := S.now) (t := t) (m := m) hi)
  clear h1 h2 h3 h4 hv hm hi
  go_enter Tryz.func70, Tryz.ntmps70
  go_wp2_with (go_at_call 78; ((with_reducible refine (HF.out).mono ?_); rintro e w' ⟨rfl, rfl⟩))
  ((try simp only [Exit.inBlock, Exit.then]); refine bodyPost_ret (results_tmp2 rfl _ _ _) rfl ?_)
  exact Vf.Handed.no HR.out
 ·cases hn : c.map n with
  | none =>
    have HF := Lib.hid (find_none h1.heap hm n hi hn)
    have HR := Lib.hid (Vp.read_none (t := t) (m := m) hv hi hn)
    clear h1 h2 h3 h4 hv hm hi hn
    go_enter Tryz.func70, Tryz.ntmps70
    go_wp2_with (go_at_call 78; ((with_reducible refine (HF.out).mono ?_); rintro e w' ⟨rfl, rfl⟩))
    ((try simp only [Exit.inBlock, Exit.then]); refine bodyPost_ret (results_tmp2 rfl _ _ _) rfl ?_)
    exact Vf.Handed.no HR.out
  | some id =>
    have HF := Lib.hid (find_some h1.heap hm n hi hn)
    obtain ⟨f1, f2, f3, f4⟩ := h1.file id (h1.live.1 n id hn)
    obtain ⟨e0, e1, hidl⟩ := Vp.fl_cells f1
    have HR1 : Hid (∀ t m : Int, t < 0 ∨ m < 0 ∨ ((c.sto id).b.length : Int) - t < m → Vf.read S.now n t m = ([], 1)) := Lib.hid fun t m hb => Vp.read_off hv hi hn hb
    have HR2 : Hid (∀ t m : Nat, t + m ≤ (c.sto id).b.length → Vf.read S.now n (t : Int) (m : Int) = ((((c.sto id).b).drop t).take m, 0)) := Lib.hid fun t m hb => Vp.read_ok hv hi hn hb
    have HB := Lib.hid f2
    have hdl : db id < w.heap.size := (Array.getElem?_eq_some_iff.1 f2).1
    have hl : ((c.sto id).b.length : Int) ≤ 1073741824 := by omega
    clear h1 h2 h3 h4 hv hm hi hn f1 f2 f3 f4
    generalize Vf.read S.now n = r at *
    generalize (c.sto id).b = bb at *
    generalize db id = d at *
    by_cases ht : t < 0
    ·have HR := Lib.hid (HR1.out t m (.inl ht))
     clear HR1 HR2
     go_enter Tryz.func70, Tryz.ntmps70
     go_wp2_with (go_at_call 78; ((with_reducible refine (HF.out).mono ?_); rintro e w' ⟨rfl, rfl⟩))
     ((try simp only [Exit.inBlock, Exit.then]); refine bodyPost_ret (results_tmp2 rfl _ _ _) rfl ?_)
     exact Vf.Handed.no HR.out
    ·obtain ⟨t, rfl⟩ : ∃ t' : Nat, t = (t' : Int) := ⟨t.toNat, by omega⟩
     clear ht
     by_cases hm : m < 0
     ·have HR := Lib.hid (HR1.out t m (.inr (.inl hm)))
      clear HR1 HR2
      go_enter Tryz.func70, Tryz.ntmps70
      go_wp2_with (go_at_call 78; ((with_reducible refine (HF.out).mono ?_); rintro e w' ⟨rfl, rfl⟩))
      ((try simp only [Exit.inBlock, Exit.then]); refine bodyPost_ret (results_tmp2 rfl _ _ _) rfl ?_)
      exact Vf.Handed.no HR.out
     ·obtain ⟨m, rfl⟩ : ∃ m' : Nat, m = (m' : Int) := ⟨m.toNat, by omega⟩
      clear hm
      by_cases h2 : (bb.length : Int) - (t : Int) < (m : Int)
      ·have HR := Lib.hid (HR1.out t m (.inr (.inr h2)))
       have hwr : IntKind.i64.wrap ((bb.length : Int) - (t : Int)) = (bb.length : Int) - (t : Int) := IntWalk.i64_in _ (by omega)
       clear HR1 HR2
       go_enter Tryz.func70, Tryz.ntmps70
       go_wp2_with (go_at_call 78; ((with_reducible refine (HF.out).mono ?_); rintro e w' ⟨rfl, rfl⟩))
       ((try simp only [Exit.inBlock, Exit.then]); refine bodyPost_ret (results_tmp2 rfl _ _ _) rfl ?_)
       exact Vf.Handed.no HR.out
      ·have HR := Lib.hid (HR2.out t m (by omega))
       clear HR1 HR2
       have hwr : IntKind.i64.wrap ((bb.length : Int) - (t : Int)) = (bb.length : Int) - (t : Int) := IntWalk.i64_in _ (by omega)
       have hnl : Hid (((bb.drop t).take m).length = m) := Lib.hid (by rw [List.length_take, List.length_drop]; omega)
       have hmk := make_bytes m (by omega)
       have hbW : Below w.heap.size w (w.alloc (.cells (by8 (noughts m)).toArray 5)) := (Below.refl _ _).alloc (Nat.le_refl _) _
       have HB2 := Lib.hid ((hbW.block d hdl).trans HB.out)
       have e1' : (w.alloc (.cells (by8 (noughts m)).toArray 5)).cell? ⟨id, 1, none⟩ = some (.slice (some ⟨d, 0, none⟩) bb.length bb.length) := (hbW.cell (p := ⟨id, 1, none⟩) hidl).trans e1
       have HN := Lib.hid (heap_alloc_new w (.cells (by8 (noughts m)).toArray 5))
       have HMin : Hid (((bb.drop t).take m).length = Nat.min (bb.length - t) m) := Lib.hid (by rw [hnl.out]; exact (Nat.min_eq_right (by omega)).symm)
       have hfit : Hid (0 + ((bb.drop t).take m).length ≤ (noughts m).length) := Lib.hid (by rw [hnl.out, noughts_len]; omega)
       have htl : t ≤ bb.length := by omega
       have hml : m ≤ bb.length - t := by omega
       have HEND : Hid (∀ w1, Hid (w1.heap[w.heap.size]? = some (.cells (by8 (upd (noughts m) 0 ((bb.drop t).take m))).toArray 5 (0, 0))) → Kp (fun b => b = w.heap.size) (w.alloc (.cells (by8 (noughts m)).toArray 5)) w1 → Vf.Handed w ((bb.drop t).take m, 0) (.returned (.tuple #[.slice (some ⟨w.heap.size, 0, none⟩) m m, .int .i64 0])) w1) := Lib.hid (fun w1 h1 h2 => by
        have h1 := h1.out
        rw [upd_all (by rw [hnl.out, noughts_len])] at h1
        refine ⟨_, rfl, Bs.block h1 (Nat.le_refl _) hnl.out (by rw [hnl.out]; omega), ?_⟩
        exact ⟨h2.os, h2.tape, h2.output, Nat.le_trans hbW.size h2.size, fun b hb => (h2.block b (by simp; omega) (fun e => by omega)).trans (hbW.block b hb)⟩)
       by_cases heq : t = bb.length
       ·have hm0 : m = 0 := by omega
        have HRD : Hid (Rd (w.alloc (.cells (by8 (noughts m)).toArray 5)) (fun b => b = d) (some ⟨d, 0, none⟩) (by8 ((bb.drop t).take m))) := Lib.hid (by rw [hm0, List.take_zero]; exact Rd.none_ _ _ _)
        have HMin0 : Hid (((bb.drop t).take m).length = Nat.min 0 m) := Lib.hid (by rw [hnl.out, hm0]; rfl)
        clear hbW hm0
        generalize hp : (bb.drop t).take m = p at *
        clear hp
        subst heq
        go_enter Tryz.func70, Tryz.ntmps70
        go_wp2_with (first | (go_at_call 78; ((with_reducible refine (HF.out).mono ?_); rintro e w' ⟨rfl, rfl⟩)) | (with_reducible refine wpList_copy_bs rfl (.tmp 41) (.tmp 47) 45 45 rfl 5 Tryz.underlying45 vsizeU8 (some ⟨w.heap.size, 0, none⟩) (some ⟨d, 0, none⟩) m m 0 0 rfl rfl w.heap.size 0 _ p 5 HN.out HMin0.out (fun _ => rfl) _ HRD.out hfit.out ?_; intro w1 hd1 hk1 hs1))
        all_goals
         ((try simp only [Exit.inBlock, Exit.then]); refine bodyPost_ret (results_tmp2 rfl _ _ _) rfl ?_)
         rw [HR.out]
         exact HEND.out w1 hd1 hk1
       ·have HRD : Hid (Rd (w.alloc (.cells (by8 (noughts m)).toArray 5)) (fun b => b = d) (some ⟨d, t, none⟩) (by8 ((bb.drop t).take m))) := Lib.hid (Rd.block (G := fun b => b = d) HB2.out rfl t m)
        have heq2 : ¬ bb.length = t := fun e => heq e.symm
        clear hbW
        generalize hp : (bb.drop t).take m = p at *
        clear hp
        go_enter Tryz.func70, Tryz.ntmps70
        go_wp2_with (first | (go_at_call 78; ((with_reducible refine (HF.out).mono ?_); rintro e w' ⟨rfl, rfl⟩)) | (with_reducible refine wpList_copy_bs rfl (.tmp 41) (.tmp 47) 45 45 rfl 5 Tryz.underlying45 vsizeU8 (some ⟨w.heap.size, 0, none⟩) (some ⟨d, t, none⟩) m m (bb.length - t) (bb.length - t) rfl rfl w.heap.size 0 _ p 5 HN.out HMin.out (fun _ => rfl) _ HRD.out hfit.out ?_; intro w1 hd1 hk1 hs1))
        all_goals
         ((try simp only [Exit.inBlock, Exit.then]); refine bodyPost_ret (results_tmp2 rfl _ _ _) rfl ?_)
         rw [HR.out]
         exact HEND.out w1 hd1 hk1
end
end Go.Proofs.YtljlanhpjpjgaaaGreatDoor
