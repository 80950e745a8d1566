/-
  THE PROGRAM's FILES as an object in memory.
-/
import Derived.Test.YtiacpopgnmledaaVpPop
namespace Go.Proofs.Ytiacpopgnmledaa
open Go.RowKit
open Me Vf
namespace Vp

def OpC (w : World) (G : Nat → Prop) (o : Op) (cs : List Value) : Prop := ∃ v, cs = opC o.kind o.on o.at_ v ∧ Bs w G v o.old
theorem OpC.four {w : World} {G : Nat → Prop} : ∀ o cs, OpC w G o cs → cs.length = 4 := by
  rintro o cs ⟨v, rfl, _⟩; rfl
def btC (b : List UInt8) : Obj := .cells (by8 b).toArray 5 (0, 0)
structure Pt (w : World) (fs : Nat) (mb lr : Option Nat) (I : Nat → Prop) (db : Nat → Nat) (G : Nat → Prop) (room : Int) (c : Co) (j : List Op) (N : Nat) (lv mv : Value) (ys : List Value) : Prop where
  heap : w.heap[fs]? = some (fsC lv room c.used mv)
  map : ∃ k, k + j.length ≤ N ∧ Mp w mv mb k c.map
  file : ∀ id, I id → w.heap[id]? = some (flC (c.sto id).name (db id) (c.sto id).b.length) ∧ w.heap[db id]? = some (btC (c.sto id).b) ∧ (c.sto id).name.length ≤ 255 ∧ (c.sto id).b.length ≤ 1073741824
  inj : ∀ i i', I i → I i' → db i = db i' → i = i'
  own : w.ownsRow 0 73 4 lv j.length ys
  ops : Els (OpC w G) j.reverse ys
  row : lv.ownBlock = lr
  live : Live I c j
  some_ : j ≠ [] → ∃ b, mb = some b
  g : ∀ b, G b → b < w.heap.size ∧ b ≠ fs ∧ mb ≠ some b ∧ lr ≠ some b ∧ ¬ I b ∧ ∀ i, I i → db i ≠ b
/-- All blocks of the object. -/
def Own (fs : Nat) (mb lr : Option Nat) (I : Nat → Prop) (db : Nat → Nat) (G : Nat → Prop) (b : Nat) : Prop := b = fs ∨ mb = some b ∨ lr = some b ∨ I b ∨ (∃ i, I i ∧ db i = b) ∨ G b

section
variable {w w' : World} {fs : Nat} {mb lr : Option Nat} {I : Nat → Prop} {db : Nat → Nat} {G : Nat → Prop} {room : Int} {c : Co} {j : List Op} {N : Nat} {lv mv : Value} {ys : List Value}
theorem fs_ne_fl {lv mv : Value} {r u : Int} {n : List UInt8} {d l : Nat} : fsC lv r u mv ≠ flC n d l := by intro e; simp [fsC, flC] at e
theorem fs_ne_bt {lv mv : Value} {r u : Int} {b : List UInt8} : fsC lv r u mv ≠ btC b := by intro e; simp [fsC, btC] at e
theorem fl_ne_bt {n : List UInt8} {d l : Nat} {b : List UInt8} : flC n d l ≠ btC b := by intro e; simp [flC, btC] at e
theorem fs_ne_op {lv mv : Value} {r u : Int} {cs : Array Value} : fsC lv r u mv ≠ .cells cs 73 (0, 0) := by intro e; simp [fsC] at e
theorem fl_ne_op {n : List UInt8} {d l : Nat} {cs : Array Value} : flC n d l ≠ .cells cs 73 (0, 0) := by intro e; simp [flC] at e
theorem bt_ne_op {b : List UInt8} {cs : Array Value} : btC b ≠ .cells cs 73 (0, 0) := by intro e; simp [btC] at e
theorem fs_ne_map {lv mv : Value} {r u : Int} {es : Array MapEntry} {k : Nat} : fsC lv r u mv ≠ .map es k := by intro e; simp [fsC] at e
theorem fl_ne_map {n : List UInt8} {d l : Nat} {es : Array MapEntry} {k : Nat} : flC n d l ≠ .map es k := by intro e; simp [flC] at e
theorem bt_ne_map {b : List UInt8} {es : Array MapEntry} {k : Nat} : btC b ≠ .map es k := by intro e; simp [btC] at e
theorem op_ne_map {cs : Array Value} {es : Array MapEntry} {k : Nat} : (Obj.cells cs 73 (0, 0)) ≠ .map es k := by intro e; cases e

theorem Pt.rowC (h : Pt w fs mb lr I db G room c j N lv mv ys) {b : Nat} (hb : lr = some b) : ∃ cur, w.heap[b]? = some (.cells cur 73 (0, 0)) := row_type h.own (h.row.trans hb)
theorem Pt.mapC (h : Pt w fs mb lr I db G room c j N lv mv ys) {b : Nat} (hb : mb = some b) : ∃ es k, w.heap[b]? = some (.map es k) := by
  obtain ⟨k, _, hm⟩ := h.map
  exact (hm.lt hb).2
theorem Pt.fs_row (h : Pt w fs mb lr I db G room c j N lv mv ys) : lr ≠ some fs := fun e => by
  obtain ⟨cur, hc⟩ := h.rowC e
  exact cells_ne h.heap hc fs_ne_op rfl
theorem Pt.fs_map (h : Pt w fs mb lr I db G room c j N lv mv ys) : mb ≠ some fs := fun e => by
  obtain ⟨es, k, hc⟩ := h.mapC e
  exact cells_ne h.heap hc fs_ne_map rfl
theorem Pt.row_map (h : Pt w fs mb lr I db G room c j N lv mv ys) {b : Nat} (e : lr = some b) : mb ≠ some b := fun e2 => by
  obtain ⟨es, k, hc⟩ := h.mapC e2
  obtain ⟨cur, hc2⟩ := h.rowC e
  exact cells_ne hc2 hc op_ne_map rfl
theorem Pt.fl (h : Pt w fs mb lr I db G room c j N lv mv ys) {b : Nat} (hb : I b) : b ≠ fs ∧ mb ≠ some b ∧ lr ≠ some b ∧ ∀ i, I i → db i ≠ b := by
  have hf := (h.file b hb).1
  refine ⟨fun e => cells_ne h.heap hf fs_ne_fl e.symm, fun e => ?_, fun e => ?_, fun i hi e => ?_⟩
  · obtain ⟨es, k, hc⟩ := h.mapC e
    exact cells_ne hf hc fl_ne_map rfl
  · obtain ⟨cur, hc⟩ := h.rowC e
    exact cells_ne hf hc fl_ne_op rfl
  · have h2 := (h.file i hi).2.1
    exact cells_ne hf h2 fl_ne_bt e.symm
theorem Pt.bt (h : Pt w fs mb lr I db G room c j N lv mv ys) {i : Nat} (hi : I i) : db i ≠ fs ∧ mb ≠ some (db i) ∧ lr ≠ some (db i) ∧ ¬ I (db i) := by
  have hf := (h.file i hi).2.1
  refine ⟨fun e => cells_ne h.heap hf fs_ne_bt e.symm, fun e => ?_, fun e => ?_, fun e => ?_⟩
  · obtain ⟨es, k, hc⟩ := h.mapC e
    exact cells_ne hf hc bt_ne_map rfl
  · obtain ⟨cur, hc⟩ := h.rowC e
    exact cells_ne hf hc bt_ne_op rfl
  · exact cells_ne (h.file (db i) e).1 hf fl_ne_bt rfl
theorem Pt.lt (h : Pt w fs mb lr I db G room c j N lv mv ys) {b : Nat} (hb : Own fs mb lr I db G b) : b < w.heap.size := by
  rcases hb with rfl | hb | hb | hb | ⟨i, hi, rfl⟩ | hb
  · exact (Array.getElem?_eq_some_iff.1 h.heap).1
  · obtain ⟨es, k, hc⟩ := h.mapC hb
    exact (Array.getElem?_eq_some_iff.1 hc).1
  · obtain ⟨cur, hc⟩ := h.rowC hb
    exact (Array.getElem?_eq_some_iff.1 hc).1
  · exact (Array.getElem?_eq_some_iff.1 (h.file b hb).1).1
  · exact (Array.getElem?_eq_some_iff.1 (h.file i hi).2.1).1
  · exact (h.g b hb).1
theorem OpC.keep {w w' : World} {G : Nat → Prop} (hs : w.heap.size ≤ w'.heap.size) (hk : ∀ i, i < w.heap.size → G i → w'.heap[i]? = w.heap[i]?) (o : Op) (cs : List Value) (h : OpC w G o cs) : OpC w' G o cs := by
  obtain ⟨v, e, hb⟩ := h
  exact ⟨v, e, hb.keep hs hk⟩
theorem OpC.wide {w : World} {G G' : Nat → Prop} (hG : ∀ i, i < w.heap.size → G i → G' i) (o : Op) (cs : List Value) (h : OpC w G o cs) : OpC w G' o cs := by
  obtain ⟨v, e, hb⟩ := h
  exact ⟨v, e, hb.mono hG⟩
theorem Mp.some_ {w : World} {mv : Value} {mb : Option Nat} {k : Nat} {m : List UInt8 → Option Nat} (h : Mp w mv mb k m) {n : List UInt8} {id : Nat} (e : m n = some id) : ∃ b, mb = some b := by
  rcases h with ⟨_, _, h⟩ | ⟨b, _, _, hb, _⟩
  · rw [h n] at e; cases e
  · exact ⟨b, hb⟩
/-- What lies elsewhere may turn. -/
theorem Pt.kp (h : Pt w fs mb lr I db G room c j N lv mv ys) {O : Nat → Prop} (k : Kp O w w') (hO : ∀ b, O b → ¬ Own fs mb lr I db G b) : Pt w' fs mb lr I db G room c j N lv mv ys := by
  have hk : ∀ b, Own fs mb lr I db G b → w'.heap[b]? = w.heap[b]? := fun b hb => k.block b (h.lt hb) (fun o => hO b o hb)
  obtain ⟨kk, hkk, hm⟩ := h.map
  refine ⟨(hk fs (.inl rfl)).trans h.heap, ⟨kk, hkk, hm.keep (fun b hb => hk b (.inr (.inl hb)))⟩, fun id hid => ?_, h.inj, owns_keep h.own (fun g hg => hk g (.inr (.inr (.inl (h.row.symm.trans hg))))), h.ops.mono (OpC.keep k.size (fun b _ hb => hk b (.inr (.inr (.inr (.inr (.inr hb))))))), h.row, h.live, h.some_, fun b hb => ?_⟩
  · obtain ⟨h1, h2, h3⟩ := h.file id hid
    exact ⟨(hk id (.inr (.inr (.inr (.inl hid))))).trans h1, (hk (db id) (.inr (.inr (.inr (.inr (.inl ⟨id, hid, rfl⟩)))))).trans h2, h3⟩
  · obtain ⟨h1, h2⟩ := h.g b hb
    exact ⟨Nat.lt_of_lt_of_le h1 k.size, h2⟩
theorem Pt.below (h : Pt w fs mb lr I db G room c j N lv mv ys) (b : Below w.heap.size w w') : Pt w' fs mb lr I db G room c j N lv mv ys := h.kp (O := fun _ => False) (Kp.of_below b) (fun _ o => o.elim)
theorem Pt.drew (h : Pt w fs mb lr I db G room c j N lv mv ys) : Pt w.drew fs mb lr I db G room c j N lv mv ys := h.kp (O := fun _ => False) (Kp.refl _ _).drew (fun _ o => o.elim)
theorem Pt.more (h : Pt w fs mb lr I db G room c j N lv mv ys) {N' : Nat} (hN : N ≤ N') : Pt w fs mb lr I db G room c j N' lv mv ys := by
  obtain ⟨k, hk, hm⟩ := h.map
  exact ⟨h.heap, ⟨k, by omega, hm⟩, h.file, h.inj, h.own, h.ops, h.row, h.live, h.some_, h.g⟩
theorem Pt.form (h : Pt w fs mb lr I db G room c j N lv mv ys) : ∃ A n c, lv = .slice A n c := by
  obtain ⟨A, c, e, _⟩ := own_form h.own
  exact ⟨A, _, c, e⟩
/-- Behind put and drop. -/
theorem Pt.putten (h : Pt w fs mb lr I db G room c j N lv mv ys) {k' N' : Nat} {u' : Int} {m' : List UInt8 → Option Nat} {e : Ending} (hp : Putten w fs mb k' lv room u' m' e w') (hN : k' + j.length ≤ N') (hL : Live I ⟨m', c.sto, u'⟩ j) :
    ∃ mb' mv', Pt w' fs mb' lr I db G room ⟨m', c.sto, u'⟩ j N' lv mv' ys ∧ Kp (fun b => b = fs ∨ mb = some b) w w' ∧ (mb' = mb ∨ ∃ b, mb' = some b ∧ w.heap.size ≤ b) := by
  obtain ⟨_, mv', mb', h1, h2, h3, h4⟩ := hp
  have hmb : ∀ b, b < w.heap.size → mb ≠ some b → mb' ≠ some b := fun b hb hn e => by
    rcases h4 with h4 | ⟨b', e2, h4⟩
    · exact hn (h4.symm.trans e)
    · rw [e] at e2
      have := Option.some.inj e2
      omega
  have hI : ∀ id, I id → w'.heap[id]? = w.heap[id]? := fun id hid => h3.block id (h.lt (.inr (.inr (.inr (.inl hid))))) (fun e => e.elim (h.fl hid).1 (h.fl hid).2.1)
  have hD : ∀ id, I id → w'.heap[db id]? = w.heap[db id]? := fun id hid => h3.block _ (h.lt (.inr (.inr (.inr (.inr (.inl ⟨id, hid, rfl⟩)))))) (fun e => e.elim (h.bt hid).1 (h.bt hid).2.1)
  refine ⟨mb', mv', ⟨h1, ⟨k', hN, h2⟩, fun id hid => ?_, h.inj, owns_keep h.own (fun g hg => ?_), h.ops.mono (OpC.keep h3.size (fun b hb hg => h3.block b hb (fun e => e.elim (h.g b hg).2.1 (h.g b hg).2.2.1))), h.row, hL, fun hj => ?_, fun b hb => ?_⟩, h3, h4⟩
  · obtain ⟨f1, f2, f3⟩ := h.file id hid
    exact ⟨(hI id hid).trans f1, (hD id hid).trans f2, f3⟩
  · have hg2 := h.row.symm.trans hg
    exact h3.block g (h.lt (.inr (.inr (.inl hg2)))) (fun e => e.elim (fun e => h.fs_row (e ▸ hg2)) (h.row_map hg2))
  · obtain ⟨b, hb⟩ := h.some_ hj
    rcases h4 with h4 | ⟨b', e2, _⟩
    · exact ⟨b, h4.trans hb⟩
    · exact ⟨b', e2⟩
  · obtain ⟨g1, g2, g3, g4⟩ := h.g b hb
    exact ⟨Nat.lt_of_lt_of_le g1 h3.size, g2, hmb b g1 g3, g4⟩
/-- Behind note. -/
theorem Pt.noted (h : Pt w fs mb lr I db G room c j N lv mv ys) {o : Op} {old : Value} {G' : Nat → Prop} {e : Ending} (hp : Noted w fs lr (j.length + 1) (ys ++ opC o.kind o.on o.at_ old) room c.used mv e w') (hI : I o.on) (hsome : ∃ b, mb = some b)
    (hold : Bs w G' old o.old) (hG : ∀ b, G b → G' b) (hG' : ∀ b, G' b → b < w.heap.size ∧ b ≠ fs ∧ mb ≠ some b ∧ lr ≠ some b ∧ ¬ I b ∧ ∀ i, I i → db i ≠ b) :
    ∃ lr' lv' ys', Pt w' fs mb lr' I db G' room c (o :: j) (N + 1) lv' mv ys' ∧ Kp (fun b => b = fs ∨ lr = some b) w w' ∧ (lr' = lr ∨ ∃ b, lr' = some b ∧ w.heap.size ≤ b) := by
  obtain ⟨_, lv', lr', h1, h2, hlr, h3, h4⟩ := hp
  have hlrne : ∀ b, b < w.heap.size → lr ≠ some b → lr' ≠ some b := fun b hb hn e => by
    rcases h4 with h4 | ⟨b', e2, h4⟩
    · exact hn (h4.symm.trans e)
    · rw [e] at e2
      have := Option.some.inj e2
      omega
  obtain ⟨k, hk, hm⟩ := h.map
  have hIk : ∀ id, I id → w'.heap[id]? = w.heap[id]? := fun id hid => h3.block id (h.lt (.inr (.inr (.inr (.inl hid))))) (fun e => e.elim (h.fl hid).1 (h.fl hid).2.2.1)
  have hDk : ∀ id, I id → w'.heap[db id]? = w.heap[db id]? := fun id hid => h3.block _ (h.lt (.inr (.inr (.inr (.inr (.inl ⟨id, hid, rfl⟩)))))) (fun e => e.elim (h.bt hid).1 (h.bt hid).2.2.1)
  have hGk : ∀ b, b < w.heap.size → G' b → w'.heap[b]? = w.heap[b]? := fun b hb hg => h3.block b hb (fun e => e.elim (hG' b hg).2.1 (hG' b hg).2.2.2.1)
  refine ⟨lr', lv', _, ⟨h1, ⟨k, by simp only [List.length_cons]; omega, hm.keep (fun b hb => ?_)⟩, fun id hid => ?_, h.inj, h2, ?_, hlr, ⟨h.live.1, fun o' ho => ?_⟩, fun _ => hsome, fun b hb => ?_⟩, h3, h4⟩
  · refine h3.block b (hm.lt hb).1 (fun e => e.elim (fun e => h.fs_map (e ▸ hb)) (fun e => h.row_map e hb))
  · obtain ⟨f1, f2, f3⟩ := h.file id hid
    exact ⟨(hIk id hid).trans f1, (hDk id hid).trans f2, f3⟩
  · rw [List.reverse_cons]
    refine Els.append (h.ops.mono fun o' cs hc => ?_) (Els.one ⟨old, rfl, hold.keep h3.size hGk⟩)
    exact (hc.wide (fun b _ hg => hG b hg)).keep h3.size hGk
  · rcases List.mem_cons.1 ho with rfl | ho
    · exact hI
    · exact h.live.2 o' ho
  · obtain ⟨g1, g2, g3, g4, g5⟩ := hG' b hb
    exact ⟨Nat.lt_of_lt_of_le g1 h3.size, g2, g3, hlrne b g1 g4, g5⟩
/-- Bytes of one file written over. -/
theorem Pt.filled (h : Pt w fs mb lr I db G room c j N lv mv ys) {id o : Nat} {b : List UInt8} (hid : I id) (hlen : o + b.length ≤ (c.sto id).b.length) (hd : w'.heap[db id]? = some (btC (upd (c.sto id).b o b))) (hk : Kp (fun i => i = db id) w w') :
    Pt w' fs mb lr I db G room (c.over id o b) j N lv mv ys := by
  have hs : ∀ i, i ≠ id → (c.over id o b).sto i = c.sto i := fun i hi => by show setS c.sto id _ i = _; unfold setS; rw [if_neg hi]
  have h0 : (c.over id o b).sto id = ⟨(c.sto id).name, upd (c.sto id).b o b⟩ := setS_same _ _ _
  have hbl : (upd (c.sto id).b o b).length = (c.sto id).b.length := upd_len hlen
  obtain ⟨k, hkk, hm⟩ := h.map
  refine ⟨(hk.block fs (h.lt (.inl rfl)) (fun e => (h.bt hid).1 e.symm)).trans h.heap, ⟨k, hkk, hm.keep (fun b' hb' => hk.block b' (hm.lt hb').1 (fun e => (h.bt hid).2.1 (e ▸ hb')))⟩, fun i hi => ?_, h.inj, owns_keep h.own (fun g hg => ?_), h.ops.mono (OpC.keep hk.size (fun b' hb' hg => hk.block b' hb' (fun e => (h.g b' hg).2.2.2.2.2 id hid e.symm))), h.row, h.live, h.some_, fun b' hb' => ?_⟩
  · obtain ⟨f1, f2, f3, f4⟩ := h.file i hi
    have hib : w'.heap[i]? = w.heap[i]? := hk.block i (h.lt (.inr (.inr (.inr (.inl hi))))) (fun e => (h.bt hid).2.2.2 (e ▸ hi))
    by_cases e : i = id
    · subst e
      rw [h0]
      simp only [hbl]
      exact ⟨hib.trans f1, hd, f3, f4⟩
    · rw [hs i e]
      exact ⟨hib.trans f1, (hk.block _ (h.lt (.inr (.inr (.inr (.inr (.inl ⟨i, hi, rfl⟩)))))) (fun e2 => e (h.inj i id hi hid e2))).trans f2, f3, f4⟩
  · have hg2 := h.row.symm.trans hg
    exact hk.block g (h.lt (.inr (.inr (.inl hg2)))) (fun e => (h.bt hid).2.2.1 (e ▸ hg2))
  · obtain ⟨g1, g2⟩ := h.g b' hb'
    exact ⟨Nat.lt_of_lt_of_le g1 hk.size, g2⟩
/-- A file that is new, not yet among the others. -/
theorem Pt.laid (h : Pt w fs mb lr I db G room c j N lv mv ys) {id d : Nat} {f : Fl} (hk : Below w.heap.size w w') (hid : w.heap.size ≤ id) (hd : w.heap.size ≤ d)
    (hf : w'.heap[id]? = some (flC f.name d f.b.length)) (hb : w'.heap[d]? = some (btC f.b)) (hn : f.name.length ≤ 255) (hl : f.b.length ≤ 1073741824) :
    Pt w' fs mb lr (fun i => I i ∨ i = id) (fun i => if i = id then d else db i) G room (c.lay id f) j N lv mv ys := by
  have h' := h.below hk
  have hIlt : ∀ i, I i → i ≠ id := fun i hi e => by have := h.lt (.inr (.inr (.inr (.inl hi)))); omega
  have hdlt : ∀ i, I i → db i ≠ d := fun i hi e => by have := h.lt (.inr (.inr (.inr (.inr (.inl ⟨i, hi, rfl⟩))))); omega
  have hs : ∀ i, i ≠ id → (c.lay id f).sto i = c.sto i := fun i hi => by show setS c.sto id _ i = _; unfold setS; rw [if_neg hi]
  have h0 : (c.lay id f).sto id = f := setS_same _ _ _
  refine ⟨h'.heap, h'.map, fun i hi => ?_, fun i i' hi hi' e => ?_, h'.own, h'.ops, h'.row, ⟨fun n i e => .inl (h.live.1 n i e), fun o ho => .inl (h.live.2 o ho)⟩, h.some_, fun b hb' => ?_⟩
  · rcases hi with hi | rfl
    · rw [hs i (hIlt i hi), if_neg (hIlt i hi)]
      exact h'.file i hi
    · rw [h0, if_pos rfl]
      exact ⟨hf, hb, hn, hl⟩
  · rcases hi with hi | rfl <;> rcases hi' with hi' | rfl
    · simp only [if_neg (hIlt i hi), if_neg (hIlt i' hi')] at e
      exact h.inj i i' hi hi' e
    · simp only [if_neg (hIlt i hi), if_pos] at e
      exact absurd e (hdlt i hi)
    · simp only [if_neg (hIlt i' hi'), if_pos] at e
      exact absurd e.symm (hdlt i' hi')
    · rfl
  · obtain ⟨g1, g2, g3, g4, g5, g6⟩ := h'.g b hb'
    have hbl : b < w.heap.size := (h.g b hb').1
    refine ⟨g1, g2, g3, g4, fun e => e.elim g5 (fun e => by omega), fun i hi => ?_⟩
    rcases hi with hi | rfl
    · rw [if_neg (hIlt i hi)]; exact g6 i hi
    · rw [if_pos rfl]; omega
end
end Vp
end Go.Proofs.Ytiacpopgnmledaa
