/-
  TrF: PLAIN: a tree of nodes, told by the paths to them: what grows, what is cut, what is found. No program.
  Me: MEMORY, for every seat: what stands of a world outside of a set of blocks; rows of cells that are read; lists of things, each of so many cells. No program is named here.
-/
import Derived.Test.YtiolkiikgjedcaaGreatDoorJ3
import Derived.Below
import Derived.Laws.OwnMore
import Derived.Laws.Rows
import Derived.Maps.AppendAt
import Derived.Deep.AppendLies
import Derived.Deep.Draws
import Derived.OwnWalk
import Derived.WalkKit
import Derived.Lib.Hide

namespace Go.Proofs.YtiolkiikgjedcaaGreatDoor
open Go.RowKit

namespace Tr
/-- A node: its block, its map's, whether something ends there. -/
structure Nd where
  b : Nat
  mb : Option Nat
  lf : Bool
abbrev Ns := Path → Option Nd
def isLeaf (F : Ns) (q : Path) : Bool := match F q with
  | some n => n.lf
  | none => false
theorem isLeaf_of {F : Ns} {q : Path} {n : Nd} (h : F q = some n) : isLeaf F q = n.lf := by unfold isLeaf; rw [h]
theorem isLeaf_in {F : Ns} {q : Path} (h : isLeaf F q = true) : F q ≠ none := by
  unfold isLeaf at h
  split at h
  · rename_i e; rw [e]; simp
  · cases h
noncomputable def isBr (F : Ns) (q : Path) : Bool := @decide (∃ k, F (q ++ [k]) ≠ none) (Classical.propDecidable _)
theorem isBr_iff {F : Ns} {q : Path} : isBr F q = true ↔ ∃ k, F (q ++ [k]) ≠ none := by unfold isBr; exact @decide_eq_true_iff _ (Classical.propDecidable _)
def Closed (F : Ns) : Prop := ∀ q k, F (q ++ [k]) ≠ none → F q ≠ none
theorem Closed.pre {F : Ns} (h : Closed F) (q : Path) : ∀ (m : Nat) (r : Path), r.length = m → F (q ++ r) ≠ none → F q ≠ none
  | 0, r, hr, hf => by
    have : r = [] := List.eq_nil_of_length_eq_zero hr
    subst this
    rwa [List.append_nil] at hf
  | m + 1, r, hr, hf => by
    have hne : r ≠ [] := by rintro rfl; cases hr
    rw [← List.dropLast_concat_getLast hne, ← List.append_assoc] at hf
    exact h.pre q m r.dropLast (by rw [List.length_dropLast]; omega) (h _ _ hf)
theorem Closed.prefix {F : Ns} (h : Closed F) {q x : Path} (hx : q <+: x) (hf : F x ≠ none) : F q ≠ none := by
  obtain ⟨r, rfl⟩ := hx
  exact h.pre q _ r rfl hf
/-- The tree of these texts. -/
structure Of (F : Ns) (L : List (List UInt8)) : Prop where
  root : F [] ≠ none
  closed : Closed F
  rootl : isLeaf F [] = false
  leaf : ∀ q, isLeaf F q = true ↔ ∃ s ∈ L, Nm.pt s = q
  live : ∀ q, q ≠ [] → F q ≠ none → ∃ s ∈ L, q <+: Nm.pt s
theorem Of.there {F : Ns} {L : List (List UInt8)} (h : Of F L) {q : Path} {s : List UInt8} (hs : s ∈ L) (hq : q <+: Nm.pt s) : F q ≠ none :=
  h.closed.prefix hq (isLeaf_in ((h.leaf _).2 ⟨s, hs, rfl⟩))
theorem Of.iff {F : Ns} {L : List (List UInt8)} (h : Of F L) {q : Path} (hq : q ≠ []) : F q ≠ none ↔ ∃ s ∈ L, q <+: Nm.pt s := ⟨h.live q hq, fun ⟨_, hs, hp⟩ => h.there hs hp⟩
theorem Of.congr {F : Ns} {L L' : List (List UInt8)} (h : Of F L) (hL : ∀ s, s ∈ L ↔ s ∈ L') : Of F L' :=
  ⟨h.root, h.closed, h.rootl, fun q => (h.leaf q).trans (exists_congr fun s => and_congr_left fun _ => hL s), fun q hq hf => by
    obtain ⟨s, hs, hp⟩ := h.live q hq hf
    exact ⟨s, (hL s).1 hs, hp⟩⟩
theorem Of.empty {F : Ns} (h0 : F [] ≠ none) (h1 : isLeaf F [] = false) (h : ∀ q, q ≠ [] → F q = none) : Of F [] :=
  ⟨h0, fun q k hf => absurd (h _ (by simp)) hf, h1, fun q => ⟨fun hl => by
      by_cases e : q = []
      · subst e; rw [h1] at hl; cases hl
      · exact absurd (h q e) (isLeaf_in hl), fun ⟨_, hs, _⟩ => by cases hs⟩, fun q hq hf => absurd (h q hq) hf⟩
theorem Of.is_leaf {F : Ns} {L : List (List UInt8)} (h : Of F L) (s : List UInt8) : isLeaf F (Nm.pt s) = true ↔ s ∈ L := by
  rw [h.leaf]
  exact ⟨fun ⟨t, ht, e⟩ => by rw [← pt_inj e]; exact ht, fun hs => ⟨s, hs, rfl⟩⟩

/-- One text more: its path is there, its end is a leaf; all else as it was. -/
structure More (F F' : Ns) (q : Path) : Prop where
  dom : ∀ x, F' x ≠ none ↔ F x ≠ none ∨ x <+: q
  leaf : ∀ x, isLeaf F' x = true ↔ isLeaf F x = true ∨ x = q
theorem prefix_snoc {x q : Path} {k : List UInt8} (h : x ++ [k] <+: q) : x <+: q := (List.prefix_append x [k]).trans h
theorem Of.more {F F' : Ns} {L : List (List UInt8)} {s : List UInt8} (h : Of F L) (m : More F F' (Nm.pt s)) : Of F' (s :: L) where
  root := (m.dom []).2 (.inl h.root)
  closed q k hf := by
    rcases (m.dom _).1 hf with h1 | h1
    · exact (m.dom q).2 (.inl (h.closed q k h1))
    · exact (m.dom q).2 (.inr (prefix_snoc h1))
  rootl := by
    cases e : isLeaf F' [] with
    | false => rfl
    | true =>
      rcases (m.leaf []).1 e with h1 | h1
      · rw [h.rootl] at h1; cases h1
      · exact absurd h1.symm (Nm.pt_ne s)
  leaf q := by
    rw [m.leaf, h.leaf]
    constructor
    · rintro (⟨t, ht, e⟩ | e)
      · exact ⟨t, List.mem_cons_of_mem _ ht, e⟩
      · exact ⟨s, List.mem_cons_self .., e.symm⟩
    · rintro ⟨t, ht, e⟩
      rcases List.mem_cons.1 ht with rfl | ht
      · exact .inr e.symm
      · exact .inl ⟨t, ht, e⟩
  live q hq hf := by
    rcases (m.dom q).1 hf with h1 | h1
    · obtain ⟨t, ht, hp⟩ := h.live q hq h1
      exact ⟨t, List.mem_cons_of_mem _ ht, hp⟩
    · exact ⟨s, List.mem_cons_self .., h1⟩
/-- One text less: its end is no leaf any more, what leads to nothing else is gone. -/
structure Less (F F' : Ns) (q : Path) : Prop where
  dom : ∀ x, F' x ≠ none ↔ F x ≠ none ∧ (x = [] ∨ ∃ r, r ≠ q ∧ isLeaf F r = true ∧ x <+: r)
  leaf : ∀ x, isLeaf F' x = true ↔ isLeaf F x = true ∧ x ≠ q
theorem Of.less {F F' : Ns} {L L' : List (List UInt8)} {s : List UInt8} (h : Of F L) (m : Less F F' (Nm.pt s)) (hL : ∀ t, t ∈ L' ↔ t ∈ L ∧ t ≠ s) : Of F' L' where
  root := (m.dom []).2 ⟨h.root, .inl rfl⟩
  closed q k hf := by
    obtain ⟨h1, h2⟩ := (m.dom _).1 hf
    refine (m.dom q).2 ⟨h.closed q k h1, ?_⟩
    rcases h2 with h2 | ⟨r, hr, hl, hp⟩
    · simp at h2
    · exact .inr ⟨r, hr, hl, prefix_snoc hp⟩
  rootl := by
    cases e : isLeaf F' [] with
    | false => rfl
    | true =>
      have := ((m.leaf []).1 e).1
      rw [h.rootl] at this; cases this
  leaf q := by
    rw [m.leaf, h.leaf]
    constructor
    · rintro ⟨⟨t, ht, rfl⟩, hn⟩
      exact ⟨t, (hL t).2 ⟨ht, fun e => hn (by rw [e])⟩, rfl⟩
    · rintro ⟨t, ht, rfl⟩
      obtain ⟨h1, h2⟩ := (hL t).1 ht
      exact ⟨⟨t, h1, rfl⟩, fun e => h2 (pt_inj e)⟩
  live q hq hf := by
    obtain ⟨h1, h2⟩ := (m.dom q).1 hf
    rcases h2 with h2 | ⟨r, hr, hl, hp⟩
    · exact absurd h2 hq
    · obtain ⟨t, ht, rfl⟩ := (h.leaf r).1 hl
      exact ⟨t, (hL t).2 ⟨ht, fun e => hr (by rw [e])⟩, hp⟩

/-! What is found. -/
def Found (F : Ns) (T : List (List UInt8)) (q : Path) : Prop := F q ≠ none ∧ q ≠ [] ∧ ∃ t ∈ T, mtch (Nm.pt t) q = true
theorem hits_are {F : Ns} {L T : List (List UInt8)} (h : Of F L) {qs : List Path} (hs : qs.Pairwise (fun a b => ltP a b = true)) (hq : ∀ q, q ∈ qs ↔ Found F T q) (hb : ∀ q ∈ qs, Nm.pt (Nm.jn q) = q) :
    hitsAll (isBr F) (isLeaf F) qs = findD (T.map Nm.pt) L := by
  refine hits_uniq (hitsAll_sorted _ _ qs hb hs) (findD_sorted _ _) fun y => ?_
  rw [mem_hitsAll, mem_findD]
  constructor
  · rintro ⟨q, hqq, hy, hk⟩
    obtain ⟨hf, hne, t, ht, hm⟩ := (hq q).1 hqq
    have hlen := mtch_len hm
    refine ⟨Nm.pt t, List.mem_map.2 ⟨t, ht, rfl⟩, ?_⟩
    rcases hk with ⟨h1, h2⟩ | ⟨h1, h2⟩
    · obtain ⟨k, hk⟩ := isBr_iff.1 h2
      obtain ⟨s, hs, hp⟩ := h.live _ (by simp) hk
      obtain ⟨r, hr⟩ := hp
      refine ⟨s, hs, ?_⟩
      have e1 : (Nm.pt s).take (Nm.pt t).length = q := by rw [← hr, hlen, List.append_assoc]; exact List.take_left
      have e2 : (Nm.pt s).length = q.length + 1 + r.length := by rw [← hr]; simp; omega
      unfold hit
      rw [e1, if_pos ⟨by omega, hm⟩, decide_eq_false (by omega)]
      obtain ⟨n, b⟩ := y
      simp only at hy h1
      rw [hy, h1]
    · obtain ⟨s, hs, hp⟩ := (h.leaf q).1 h2
      refine ⟨s, hs, ?_⟩
      have e1 : (Nm.pt s).take (Nm.pt t).length = q := by rw [hp, hlen, List.take_length]
      unfold hit
      rw [e1, if_pos ⟨by rw [hp]; omega, hm⟩, decide_eq_true (by rw [hp]; omega)]
      obtain ⟨n, b⟩ := y
      simp only at hy h1
      rw [hy, h1]
  · rintro ⟨p, hp, s, hs, he⟩
    obtain ⟨t, ht, rfl⟩ := List.mem_map.1 hp
    unfold hit at he
    split at he
    · rename_i hc
      obtain ⟨hle, hm⟩ := hc
      have hy := Option.some.inj he
      have hlen := mtch_len hm
      have hne : (Nm.pt s).take (Nm.pt t).length ≠ [] := by
        intro e
        rw [e] at hlen
        exact Nm.pt_ne t (List.eq_nil_of_length_eq_zero hlen)
      have hpre : (Nm.pt s).take (Nm.pt t).length <+: Nm.pt s := List.take_prefix _ _
      refine ⟨(Nm.pt s).take (Nm.pt t).length, (hq _).2 ⟨h.there hs hpre, hne, t, ht, hm⟩, by rw [← hy], ?_⟩
      by_cases hll : (Nm.pt s).length = (Nm.pt t).length
      · refine .inr ⟨by rw [← hy]; exact decide_eq_true hll, ?_⟩
        rw [← hll, List.take_length]
        exact (h.leaf _).2 ⟨s, hs, rfl⟩
      · refine .inl ⟨by rw [← hy]; exact decide_eq_false hll, isBr_iff.2 ⟨(Nm.pt s)[(Nm.pt t).length]'(by omega), h.there hs ?_⟩⟩
        rw [← List.take_succ_eq_append_getElem (by omega)]
        exact List.take_prefix _ _
    · cases he

/-! Where patterns have come to. -/
/-- The nodes of patterns that have matched a path. -/
def At (G : Ns) (p : Path) (x : Path) : Prop := G x ≠ none ∧ mtch x p = true
theorem At.start {G : Ns} (h : G [] ≠ none) (x : Path) : At G [] x ↔ x = [] := by
  unfold At
  constructor
  · rintro ⟨_, hm⟩
    exact List.eq_nil_of_length_eq_zero (by rw [mtch_len hm]; rfl)
  · rintro rfl; exact ⟨h, rfl⟩
theorem At.snoc {G : Ns} (hc : Closed G) (p : Path) (k : List UInt8) (x : Path) : At G (p ++ [k]) x ↔ ∃ y a, x = y ++ [a] ∧ At G p y ∧ G (y ++ [a]) ≠ none ∧ Gl.gm a k = true := by
  unfold At
  constructor
  · rintro ⟨hf, hm⟩
    have hl := mtch_len hm
    have hne : x ≠ [] := by rintro rfl; simp at hl
    have e := (List.dropLast_concat_getLast hne).symm
    generalize x.dropLast = y at e
    generalize x.getLast hne = a at e
    subst e
    rw [mtch_snoc y p a k (by simpa using hl)] at hm
    obtain ⟨h1, h2⟩ := Bool.and_eq_true_iff.1 hm
    exact ⟨y, a, rfl, ⟨hc y a hf, h1⟩, hf, h2⟩
  · rintro ⟨y, a, rfl, ⟨_, hm⟩, hf, hg⟩
    exact ⟨hf, by rw [mtch_snoc y p a k (mtch_len hm), hm, hg]; rfl⟩
/-- Nothing has come so far: nothing comes further. -/
theorem At.none {G : Ns} (hc : Closed G) {p : Path} (h : ∀ x, ¬ At G p x) (r : Path) (x : Path) : ¬ At G (p ++ r) x := by
  rintro ⟨hf, hm⟩
  have hl := mtch_len hm
  rw [List.length_append] at hl
  have e : x = x.take p.length ++ x.drop p.length := (List.take_append_drop _ _).symm
  rw [e, mtch_app _ _ (by rw [List.length_take]; omega)] at hm
  rw [e] at hf
  exact h _ ⟨hc.prefix (List.prefix_append _ _) hf, (Bool.and_eq_true_iff.1 hm).1⟩
theorem At.found {G : Ns} {T : List (List UInt8)} (hG : Of G T) (q : Path) : (∃ x, At G q x ∧ isLeaf G x = true) ↔ ∃ t ∈ T, mtch (Nm.pt t) q = true := by
  constructor
  · rintro ⟨x, ⟨_, hm⟩, hl⟩
    obtain ⟨t, ht, rfl⟩ := (hG.leaf x).1 hl
    exact ⟨t, ht, hm⟩
  · rintro ⟨t, ht, hm⟩
    have hl := (hG.leaf (Nm.pt t)).2 ⟨t, ht, rfl⟩
    exact ⟨Nm.pt t, ⟨isLeaf_in hl, hm⟩, hl⟩
end Tr
end Go.Proofs.YtiolkiikgjedcaaGreatDoor

namespace Go.Proofs.YtiolkiikgjedcaaGreatDoor
open Go.RowKit
namespace Me

/-- Outside of the set O all is as it was; blocks may have been laid. -/
structure Kp (O : Nat → Prop) (w w' : World) : Prop where
  os : w'.os = w.os
  tape : w'.tape = w.tape
  output : w'.output = w.output
  size : w.heap.size ≤ w'.heap.size
  block : ∀ k, k < w.heap.size → ¬ O k → w'.heap[k]? = w.heap[k]?

theorem Kp.refl (O : Nat → Prop) (w : World) : Kp O w w := ⟨rfl, rfl, rfl, Nat.le_refl _, fun _ _ _ => rfl⟩
theorem Kp.trans {O O' : Nat → Prop} {a b c : World} (h : Kp O a b) (k : Kp O' b c) (hO : ∀ i, i < a.heap.size → O' i → O i) : Kp O a c :=
  ⟨k.os.trans h.os, k.tape.trans h.tape, k.output.trans h.output, Nat.le_trans h.size k.size,
    fun i hi hn => (k.block i (Nat.lt_of_lt_of_le hi h.size) (fun x => hn (hO i hi x))).trans (h.block i hi hn)⟩
theorem Kp.mono {O O' : Nat → Prop} {a b : World} (h : Kp O a b) (hO : ∀ i, i < a.heap.size → O i → O' i) : Kp O' a b :=
  ⟨h.os, h.tape, h.output, h.size, fun i hi hn => h.block i hi (fun x => hn (hO i hi x))⟩
theorem Kp.of_below {O : Nat → Prop} {a b : World} (h : Below a.heap.size a b) : Kp O a b := ⟨h.os, h.tape, h.output, h.size, fun i hi _ => h.block i hi⟩
theorem Kp.below {O : Nat → Prop} {a b : World} {B : Nat} (h : Kp O a b) (hB : B ≤ a.heap.size) (hO : ∀ i, i < B → ¬ O i) : Below B a b :=
  ⟨h.os, h.tape, h.output, h.size, fun i hi => h.block i (Nat.lt_of_lt_of_le hi hB) (hO i hi)⟩
theorem Kp.alloc {O : Nat → Prop} {a w : World} (h : Kp O a w) (o : Obj) : Kp O a (w.alloc o) :=
  ⟨h.os, h.tape, h.output, Nat.le_trans h.size (by simp), fun i hi hn => (Below.heap_alloc w o i (Nat.lt_of_lt_of_le hi h.size)).trans (h.block i hi hn)⟩
theorem Kp.drew {O : Nat → Prop} {a w : World} (h : Kp O a w) : Kp O a w.drew := ⟨h.os, h.tape, h.output, h.size, h.block⟩
theorem Kp.drewN {O : Nat → Prop} {a w : World} (h : Kp O a w) (n : Nat) : Kp O a (w.drewN n) := ⟨h.os, h.tape, h.output, h.size, h.block⟩
theorem Kp.setCell {O : Nat → Prop} {a w : World} (h : Kp O a w) (p : Addr) (hp : a.heap.size ≤ p.block ∨ O p.block) (u : Value) : Kp O a (w.setCell p u) :=
  ⟨h.os, h.tape, h.output, by simpa [World.setCell] using h.size, fun i hi hn => (Below.heap_setCell w p u i (by
    rintro rfl
    rcases hp with hp | hp
    · omega
    · exact hn hp)).trans (h.block i hi hn)⟩
theorem Kp.grown {O : Nat → Prop} {a w w' : World} {row : Option Nat} (h : Kp O a w) (hg : w.grownBy w' row) (hr : ∀ g, row = some g → a.heap.size ≤ g ∨ O g) : Kp O a w' :=
  ⟨hg.os.trans h.os, hg.tape.trans h.tape, hg.output.trans h.output, Nat.le_trans h.size hg.size, fun i hi hn => (hg.block i (Nat.lt_of_lt_of_le hi h.size) (by
    intro e
    rcases hr i e.symm with h1 | h1
    · omega
    · exact hn h1)).trans (h.block i hi hn)⟩
theorem Kp.cell {O : Nat → Prop} {a w : World} (h : Kp O a w) {p : Addr} (hp : p.block < a.heap.size) (hO : ¬ O p.block) : w.cell? p = a.cell? p := World.cell?_of_block (h.block _ hp hO)
theorem Kp.frozen {O : Nat → Prop} {a w : World} (h : Kp O a w) {p : Addr} (hp : p.block < a.heap.size) (hO : ¬ O p.block) : w.frozen? p = a.frozen? p := World.frozen?_of_block (h.block _ hp hO)

theorem block_add (a : Addr) (n : Nat) : (a.add n).block = a.block := by unfold Addr.add; split <;> rfl
theorem add_add (a : Addr) (i j : Nat) : (a.add i).add j = a.add (i + j) := by
  unfold Addr.add
  by_cases hi : i = 0 <;> by_cases hj : j = 0 <;> simp [hi, hj, Nat.add_assoc]

/-- The cells at an address read as these values; the block is one of G. -/
def Rd (w : World) (G : Nat → Prop) (A : Option Addr) (xs : List Value) : Prop :=
  xs ≠ [] → ∃ ad, A = some ad ∧ ad.block < w.heap.size ∧ G ad.block ∧ ∀ j u, xs[j]? = some u → w.cell? (ad.add j) = some u
theorem Rd.none_ (w : World) (G : Nat → Prop) (A : Option Addr) : Rd w G A [] := fun h => absurd rfl h
theorem Rd.keep {w w' : World} {G : Nat → Prop} {A : Option Addr} {xs : List Value} (h : Rd w G A xs) (hs : w.heap.size ≤ w'.heap.size) (hk : ∀ i, i < w.heap.size → G i → w'.heap[i]? = w.heap[i]?) : Rd w' G A xs := fun hn => by
  obtain ⟨ad, e, hl, hg, hc⟩ := h hn
  refine ⟨ad, e, Nat.lt_of_lt_of_le hl hs, hg, fun j u hu => ?_⟩
  exact (World.cell?_of_block (w := w) (w' := w') (a := ad.add j) (by rw [block_add]; exact hk _ hl hg)).trans (hc j u hu)
theorem Rd.mono {w : World} {G G' : Nat → Prop} {A : Option Addr} {xs : List Value} (h : Rd w G A xs) (hG : ∀ i, i < w.heap.size → G i → G' i) : Rd w G' A xs := fun hn => by
  obtain ⟨ad, e, hl, hg, hc⟩ := h hn
  exact ⟨ad, e, hl, hG _ hl hg, hc⟩
theorem Rd.kp {w w' : World} {G O : Nat → Prop} {A : Option Addr} {xs : List Value} (h : Rd w G A xs) (k : Kp O w w') (hd : ∀ i, i < w.heap.size → G i → ¬ O i) : Rd w' G A xs :=
  h.keep k.size fun i hi hg => k.block i hi (hd i hi hg)
theorem Rd.below {w w' : World} {G : Nat → Prop} {A : Option Addr} {xs : List Value} (h : Rd w G A xs) (b : Below w.heap.size w w') : Rd w' G A xs :=
  h.keep b.size fun i hi _ => b.block i hi
theorem Rd.at_ {w : World} {G : Nat → Prop} {A : Option Addr} {xs : List Value} (h : Rd w G A xs) (k : Nat) (hk : k < xs.length) : ∃ ad, A = some ad ∧ ad.block < w.heap.size ∧ G ad.block ∧ ∀ j u, xs[j]? = some u → w.cell? (ad.add j) = some u :=
  h (by intro e; rw [e] at hk; cases hk)
/-- The address written out: a cell that is there has no inner spot. -/
theorem Rd.lit {w : World} {G : Nat → Prop} {A : Option Addr} {xs : List Value} (h : Rd w G A xs) (k : Nat) (hk : k < xs.length) : ∃ b o, A = some ⟨b, o, none⟩ ∧ b < w.heap.size ∧ G b ∧ ∀ j u, xs[j]? = some u → w.cell? ⟨b, o + j, none⟩ = some u := by
  obtain ⟨⟨b, o, s⟩, e, hl, hg, hc⟩ := h.at_ k hk
  have h0 := hc 0 _ (List.getElem?_eq_getElem (by omega : 0 < xs.length))
  have hs : s = none := by
    cases s with
    | none => rfl
    | some s =>
      exfalso
      have e0 : (⟨b, o, some s⟩ : Addr).add 0 = ⟨b, o, some s⟩ := by unfold Addr.add; simp
      rw [e0] at h0
      unfold World.cell? at h0
      split at h0 <;> simp at h0
  subst hs
  exact ⟨b, o, e, hl, hg, fun j u hu => by have := hc j u hu; rwa [Addr.add_lit] at this⟩
theorem Rd.sub {w : World} {G : Nat → Prop} {ad : Addr} {xs : List Value} (h : Rd w G (some ad) xs) (lo n : Nat) : Rd w G (some (ad.add lo)) ((xs.drop lo).take n) := fun hn => by
  have hx : xs ≠ [] := by rintro rfl; exact hn (by simp)
  obtain ⟨ad', e, hl, hg, hc⟩ := h hx
  obtain rfl := Option.some.inj e
  refine ⟨_, rfl, by rw [block_add]; exact hl, by rw [block_add]; exact hg, fun j u hu => ?_⟩
  rw [add_add]
  rw [List.getElem?_take] at hu
  split at hu
  · rw [List.getElem?_drop] at hu
    exact hc _ u hu
  · cases hu
theorem Rd.own {w : World} {base : Nat} {e : TypeId} {size n c : Nat} {A : Option Addr} {xs : List Value} (h : w.ownsRow base e size (.slice A n c) n xs) : Rd w (fun i => (Value.slice A n c).ownBlock = some i) A xs := fun hn => by
  rcases h.2 with ⟨hv, h0⟩ | ⟨g, cap, cur, hv, hb, hg, hnc, hcm, hcs, ht⟩
  · have hz : xs = [] := List.eq_nil_of_length_eq_zero (by rw [h.1, h0]; simp)
    exact absurd hz hn
  · injection hv with hv
    subst hv
    refine ⟨_, rfl, (Array.getElem?_eq_some_iff.1 hg).1, rfl, fun j u hu => ?_⟩
    have e1 : (⟨g, 0, none⟩ : Addr).add j = ⟨g, j, none⟩ := by unfold Addr.add; by_cases h0 : j = 0 <;> simp [h0]
    rw [e1, cell_of_row w g j cur e (0, 0) hg]
    rw [← ht] at hu
    rw [List.getElem?_take] at hu
    split at hu
    · simpa using hu
    · cases hu

/-! ## lists of things, each of some cells -/
def Els {α : Type} (E : α → List Value → Prop) : List α → List Value → Prop
  | [], xs => xs = []
  | a :: r, xs => ∃ cs rest, xs = cs ++ rest ∧ E a cs ∧ Els E r rest
theorem Els.mono {α : Type} {E E' : α → List Value → Prop} (h : ∀ a cs, E a cs → E' a cs) : ∀ {l : List α} {xs : List Value}, Els E l xs → Els E' l xs
  | [], _, hx => hx
  | _ :: _, _, ⟨cs, rest, e, ha, hr⟩ => ⟨cs, rest, e, h _ _ ha, hr.mono h⟩
theorem Els.append {α : Type} {E : α → List Value → Prop} : ∀ {l m : List α} {xs ys : List Value}, Els E l xs → Els E m ys → Els E (l ++ m) (xs ++ ys)
  | [], _, _, _, hx, hm => by subst hx; exact hm
  | _ :: _, _, _, _, ⟨cs, rest, e, ha, hr⟩, hm => ⟨cs, rest ++ _, by rw [e, List.append_assoc], ha, hr.append hm⟩
theorem Els.one {α : Type} {E : α → List Value → Prop} {a : α} {cs : List Value} (h : E a cs) : Els E [a] cs := ⟨cs, [], by simp, h, rfl⟩
theorem Els.length {α : Type} {E : α → List Value → Prop} {s : Nat} (hs : ∀ a cs, E a cs → cs.length = s) : ∀ {l : List α} {xs : List Value}, Els E l xs → xs.length = l.length * s
  | [], _, hx => by subst hx; simp
  | _ :: _, _, ⟨cs, rest, e, ha, hr⟩ => by rw [e, List.length_append, hs _ _ ha, hr.length hs, List.length_cons, Nat.add_mul]; omega
theorem Els.get {α : Type} {E : α → List Value → Prop} {s : Nat} (hs : ∀ a cs, E a cs → cs.length = s) : ∀ {l : List α} {xs : List Value} (_ : Els E l xs) (i : Nat) (hi : i < l.length), ∃ cs, E l[i] cs ∧ ∀ j, j < s → xs[i * s + j]? = cs[j]?
  | a :: r, _, ⟨cs, rest, e, ha, hr⟩, 0, _ => ⟨cs, ha, fun j hj => by rw [e, Nat.zero_mul, Nat.zero_add, List.getElem?_append_left (by rw [hs _ _ ha]; exact hj)]⟩
  | a :: r, _, ⟨cs, rest, e, ha, hr⟩, i + 1, hi => by
    obtain ⟨cs', h1, h2⟩ := hr.get hs i (by simpa using hi)
    refine ⟨cs', h1, fun j hj => ?_⟩
    have hl : (i + 1) * s + j = cs.length + (i * s + j) := by rw [hs _ _ ha, Nat.add_mul]; omega
    rw [e, hl, List.getElem?_append_right (by omega), Nat.add_sub_cancel_left]
    exact h2 j hj

/-- Bytes as cells. -/
def by8 (l : List UInt8) : List Value := l.map fun c => .int .u8 (c.toNat : Int)
theorem by8_len (l : List UInt8) : (by8 l).length = l.length := by unfold by8; simp
theorem by8_append (a b : List UInt8) : by8 (a ++ b) = by8 a ++ by8 b := by unfold by8; simp
theorem by8_get (l : List UInt8) (j : Nat) (h : j < l.length) : (by8 l)[j]? = some (.int .u8 (l[j].toNat : Int)) := by unfold by8; simp [h]
theorem by8_one (l : List UInt8) : ∀ u ∈ by8 l, u.oneCell' = true := by
  intro u hu
  unfold by8 at hu
  obtain ⟨c, _, rfl⟩ := List.mem_map.1 hu
  rfl
/-- A slice of bytes that reads as a list. -/
def Bs (w : World) (G : Nat → Prop) (v : Value) (l : List UInt8) : Prop := ∃ A c, v = .slice A l.length c ∧ l.length ≤ c ∧ c ≤ maxLen ∧ Rd w G A (by8 l)
theorem Bs.keep {w w' : World} {G : Nat → Prop} {v : Value} {l : List UInt8} (h : Bs w G v l) (hs : w.heap.size ≤ w'.heap.size) (hk : ∀ i, i < w.heap.size → G i → w'.heap[i]? = w.heap[i]?) : Bs w' G v l := by
  obtain ⟨A, c, e, h1, h2, h3⟩ := h
  exact ⟨A, c, e, h1, h2, h3.keep hs hk⟩
theorem Bs.mono {w : World} {G G' : Nat → Prop} {v : Value} {l : List UInt8} (h : Bs w G v l) (hG : ∀ i, i < w.heap.size → G i → G' i) : Bs w G' v l := by
  obtain ⟨A, c, e, h1, h2, h3⟩ := h
  exact ⟨A, c, e, h1, h2, h3.mono hG⟩
theorem Bs.below {w w' : World} {G : Nat → Prop} {v : Value} {l : List UInt8} (h : Bs w G v l) (b : Below w.heap.size w w') : Bs w' G v l := h.keep b.size fun i hi _ => b.block i hi
end Me
end Go.Proofs.YtiolkiikgjedcaaGreatDoor
