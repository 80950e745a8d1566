/-
  VpPure: THE PLAIN MATHEMATICS of files: what is undone against what is played again.
  VpHist: THE PLAIN MATHEMATICS of files: each act of the program's, and what it leaves to be undone.
  VpLib: MEMORY, for every seat: copy and make of bytes, with a word on what else has turned.
  Shelf: LAID BY THE SHELF's COMMAND: the library's own contracts of internal/stringslite.Clone, at this seat's numbers.
  VpFill: CONTRACTS: the program's files (chapter 3): small helpers.
-/
import Derived.Test.YtbakngbmfgnmcaaDoorJ2
import Derived.Laws.CopyOwn
import Derived.Laws.MakeOwn
import Derived.Deep.OwnRows
import Derived.Shelf.LaysM
import Derived.Shelf.Strconv.Clone
import Derived.Test.YtbakngbmfgnmcaaDoorProg
import Derived.Lib.LazyBuf

namespace Go.Proofs.YtbakngbmfgnmcaaDoor
namespace Vp
open Vf

def look : List Fl → List UInt8 → Option (List UInt8)
  | [], _ => none
  | f :: r, n => if f.name = n then some f.b else look r n
def Uniq (l : List Fl) : Prop := l.Pairwise (fun f g => f.name ≠ g.name)

theorem ixFrom_look (n : List UInt8) : ∀ (l : List Fl) (k : Nat), (look l n = none ∧ ixFrom n k l = -1) ∨ ∃ j, ∃ h : j < l.length, ixFrom n k l = ((k + j : Nat) : Int) ∧ look l n = some l[j].b ∧ l[j].name = n
  | [], _ => .inl ⟨rfl, rfl⟩
  | f :: r, k => by
    by_cases e : f.name = n
    · refine .inr ⟨0, by simp, ?_, ?_, e⟩
      · rw [ixFrom, if_pos (by simpa using e)]; simp
      · rw [look, if_pos e]; rfl
    · have e1 : ixFrom n k (f :: r) = ixFrom n (k + 1) r := by rw [ixFrom, if_neg (by simpa using e)]
      have e2 : look (f :: r) n = look r n := by rw [look, if_neg e]
      rw [e1, e2]
      rcases ixFrom_look n r (k + 1) with h | ⟨j, hj, h1, h2, h3⟩
      · exact .inl h
      · exact .inr ⟨j + 1, by simpa using hj, by rw [h1]; congr 1; omega, by simpa using h2, by simpa using h3⟩
theorem ix_none {l : List Fl} {n : List UInt8} (h : look l n = none) : ix l n = -1 := by
  rcases ixFrom_look n l 0 with h1 | ⟨j, hj, h1, h2, h3⟩
  · exact h1.2
  · rw [h] at h2; cases h2
theorem ix_some {l : List Fl} {n b : List UInt8} (h : look l n = some b) : ¬ ix l n < 0 ∧ bytesAt l n = b := by
  rcases ixFrom_look n l 0 with h1 | ⟨j, hj, h1, h2, h3⟩
  · rw [h] at h1; cases h1.1
  · have e : ix l n = (j : Int) := by rw [ix, h1]; congr 1; omega
    rw [h] at h2
    refine ⟨by omega, ?_⟩
    unfold bytesAt
    rw [e]
    simp [hj]
    exact (Option.some.inj h2).symm
theorem look_mem {l : List Fl} {n b : List UInt8} (h : look l n = some b) : ∃ f ∈ l, f.name = n ∧ f.b = b := by
  induction l with
  | nil => cases h
  | cons f r ih =>
    by_cases e : f.name = n
    · rw [look, if_pos e] at h; exact ⟨f, by simp, e, Option.some.inj h⟩
    · rw [look, if_neg e] at h
      obtain ⟨g, hg, h1⟩ := ih h
      exact ⟨g, by simp [hg], h1⟩
theorem look_used {l : List Fl} {n b : List UInt8} (h : look l n = some b) : b.length ≤ Vf.used l := by
  obtain ⟨f, hf, _, rfl⟩ := look_mem h
  exact used_mem hf

theorem look_append (l m : List Fl) (n : List UInt8) : look (l ++ m) n = (look l n).or (look m n) := by
  induction l with
  | nil => simp [look]
  | cons f r ih =>
    rw [List.cons_append, look, look]
    split
    · simp
    · exact ih
def wr (n : List UInt8) (o : Nat) (b : List UInt8) (f : Fl) : Fl := if f.name = n then ⟨f.name, upd f.b o b⟩ else f
theorem wr_name (n : List UInt8) (o : Nat) (b : List UInt8) (f : Fl) : (wr n o b f).name = f.name := by unfold wr; split <;> rfl
theorem look_wr (n : List UInt8) (o : Nat) (b : List UInt8) (l : List Fl) (m : List UInt8) : look (l.map (wr n o b)) m = if m = n then (look l m).map (fun x => upd x o b) else look l m := by
  induction l with
  | nil => simp [look]
  | cons f r ih =>
    rw [List.map_cons, look, look, wr_name]
    by_cases e : f.name = m
    · rw [if_pos e, if_pos e]
      by_cases e2 : m = n
      · subst e; subst e2; simp [wr]
      · rw [if_neg e2]; unfold wr; rw [if_neg (by rw [e]; exact e2)]
    · rw [if_neg e, if_neg e, ih]
theorem look_out (n : List UInt8) (l : List Fl) (m : List UInt8) : look (l.filter (fun f => decide (f.name ≠ n))) m = if m = n then none else look l m := by
  induction l with
  | nil => simp [look]
  | cons f r ih =>
    rw [List.filter_cons]
    by_cases e : f.name = n
    · simp only [e, ne_eq, not_true_eq_false, decide_false, Bool.false_eq_true, if_false]
      rw [ih, look]
      by_cases e2 : m = n
      · rw [if_pos e2, if_pos e2]
      · rw [if_neg e2, if_neg e2, if_neg (by rw [e]; exact fun h => e2 h.symm)]
    · simp only [ne_eq, e, not_false_eq_true, decide_true, if_true]
      rw [look, look, ih]
      by_cases e2 : f.name = m
      · rw [if_pos e2, if_pos e2, if_neg (by rw [← e2]; exact e)]
      · rw [if_neg e2, if_neg e2]
theorem look_absent {l : List Fl} {n : List UInt8} (h : ∀ f ∈ l, f.name ≠ n) : look l n = none := by
  cases hl : look l n with
  | none => rfl
  | some b =>
    obtain ⟨f, hf, e, _⟩ := look_mem hl
    exact absurd e (h f hf)
theorem look_none_mem {l : List Fl} {n : List UInt8} (h : look l n = none) : ∀ f ∈ l, f.name ≠ n := by
  induction l with
  | nil => intro f hf; cases hf
  | cons g r ih =>
    by_cases e : g.name = n
    · rw [look, if_pos e] at h; cases h
    · rw [look, if_neg e] at h
      intro f hf
      rcases List.mem_cons.1 hf with rfl | hf
      · exact e
      · exact ih h f hf

/-! what an act does, by its kind -/
theorem goes_past (a : Ac) (i : Int) : ∀ (l : List Fl) (k : Nat), i < (k : Int) → goes a i k l = l
  | [], _, _ => rfl
  | x :: r, k, h => by
    rw [goes, goes_past a i r (k + 1) (by omega)]
    unfold one
    rw [if_neg (fun hh => by omega), if_neg (fun hh => by omega)]
    rfl
theorem goes_one (a : Ac) (h1 : a.kind ≠ 2) (h2 : a.kind ≠ 3) (i : Int) : ∀ (l : List Fl) (k : Nat), goes a i k l = l
  | [], _ => rfl
  | x :: r, k => by
    rw [goes, goes_one a h1 h2 i r (k + 1)]
    unfold one
    rw [if_neg (fun hh => h1 hh.2), if_neg (fun hh => h2 hh.2)]
    rfl
theorem ixFrom_ge (n : List UInt8) (l : List Fl) (k : Nat) : ixFrom n k l = -1 ∨ (k : Int) ≤ ixFrom n k l := by
  rcases ixFrom_look n l k with h | ⟨j, _, h, _⟩
  · exact .inl h.2
  · exact .inr (by omega)
theorem goes_two (a : Ac) (h2 : a.kind = 2) : ∀ (l : List Fl) (k : Nat), Uniq l → goes a (ixFrom a.name k l) k l = l.map (wr a.name a.off a.p)
  | [], _, _ => rfl
  | x :: r, k, hu => by
    obtain ⟨hx, hr⟩ := List.pairwise_cons.1 hu
    by_cases e : x.name = a.name
    · have e1 : ixFrom a.name k (x :: r) = (k : Int) := by rw [ixFrom, if_pos (by simpa using e)]
      rw [e1, goes, goes_past a _ r (k + 1) (by omega), List.map_cons]
      have er : r.map (wr a.name a.off a.p) = r := by
        conv => rhs; rw [← List.map_id r]
        apply List.map_congr_left
        intro f hf
        unfold wr
        rw [if_neg (fun h => hx f hf (by rw [e, h]))]
        rfl
      rw [er]
      unfold one wr
      rw [if_pos ⟨rfl, h2⟩, if_pos e]
      rfl
    · have e1 : ixFrom a.name k (x :: r) = ixFrom a.name (k + 1) r := by rw [ixFrom, if_neg (by simpa using e)]
      have hg := ixFrom_ge a.name r (k + 1)
      rw [e1, goes, goes_two a h2 r (k + 1) hr, List.map_cons]
      unfold one
      rw [if_neg (fun hh => by omega), if_neg (fun hh => by omega)]
      unfold wr
      rw [if_neg e]
      rfl
theorem goes_three (a : Ac) (h3 : a.kind = 3) : ∀ (l : List Fl) (k : Nat), Uniq l → goes a (ixFrom a.name k l) k l = l.filter (fun f => decide (f.name ≠ a.name))
  | [], _, _ => rfl
  | x :: r, k, hu => by
    obtain ⟨hx, hr⟩ := List.pairwise_cons.1 hu
    by_cases e : x.name = a.name
    · have e1 : ixFrom a.name k (x :: r) = (k : Int) := by rw [ixFrom, if_pos (by simpa using e)]
      rw [e1, goes, goes_past a _ r (k + 1) (by omega), List.filter_cons]
      have er : r.filter (fun f => decide (f.name ≠ a.name)) = r := by
        apply List.filter_eq_self.2
        intro f hf
        simp only [ne_eq, decide_eq_true_eq]
        exact fun h => hx f hf (by rw [e, h])
      rw [er]
      unfold one
      rw [if_neg (fun hh => by have := hh.2; omega), if_pos ⟨rfl, h3⟩]
      simp [e]
    · have e1 : ixFrom a.name k (x :: r) = ixFrom a.name (k + 1) r := by rw [ixFrom, if_neg (by simpa using e)]
      have hg := ixFrom_ge a.name r (k + 1)
      rw [e1, goes, goes_three a h3 r (k + 1) hr, List.filter_cons]
      unfold one
      rw [if_neg (fun hh => by omega), if_neg (fun hh => by omega)]
      simp [e]
theorem does_one (l : List Fl) (n : List UInt8) (o : Nat) (b : List UInt8) : does l ⟨1, n, o, b⟩ = l ++ [⟨n, b⟩] := by
  unfold does
  rw [goes_one _ (show (1 : Int) ≠ 2 by decide) (show (1 : Int) ≠ 3 by decide)]
  rfl
theorem does_two (l : List Fl) (hu : Uniq l) (n : List UInt8) (o : Nat) (b : List UInt8) : does l ⟨2, n, o, b⟩ = l.map (wr n o b) := by
  unfold does ix
  rw [goes_two ⟨2, n, o, b⟩ rfl l 0 hu]
  simp
theorem does_three (l : List Fl) (hu : Uniq l) (n : List UInt8) (o : Nat) (b : List UInt8) : does l ⟨3, n, o, b⟩ = l.filter (fun f => decide (f.name ≠ n)) := by
  unfold does ix
  rw [goes_three ⟨3, n, o, b⟩ rfl l 0 hu]
  simp
theorem uniq_one {l : List Fl} (hu : Uniq l) {n b : List UInt8} (h : look l n = none) : Uniq (l ++ [⟨n, b⟩]) := by
  refine List.pairwise_append.2 ⟨hu, by simp, fun f hf g hg => ?_⟩
  rw [List.mem_singleton] at hg
  subst hg
  exact look_none_mem h f hf
theorem uniq_two {l : List Fl} (hu : Uniq l) (n : List UInt8) (o : Nat) (b : List UInt8) : Uniq (l.map (wr n o b)) := by
  refine List.pairwise_map.2 (hu.imp fun {f g} h => ?_)
  rw [wr_name, wr_name]
  exact h
theorem uniq_three {l : List Fl} (hu : Uniq l) (n : List UInt8) : Uniq (l.filter (fun f => decide (f.name ≠ n))) := List.Pairwise.filter _ hu
theorem used_two (n : List UInt8) (o : Nat) (b : List UInt8) : ∀ (l : List Fl), Uniq l → (∀ x, look l n = some x → o + b.length ≤ x.length) → Vf.used (l.map (wr n o b)) = Vf.used l
  | [], _, _ => rfl
  | f :: r, hu, h => by
    obtain ⟨hx, hr⟩ := List.pairwise_cons.1 hu
    rw [List.map_cons, used_cons, used_cons]
    by_cases e : f.name = n
    · have h1 := h f.b (by rw [look, if_pos e])
      have er : r.map (wr n o b) = r := by
        conv => rhs; rw [← List.map_id r]
        apply List.map_congr_left
        intro g hg
        unfold wr
        rw [if_neg (fun h => hx g hg (by rw [e, h]))]
        rfl
      rw [er]
      unfold wr
      rw [if_pos e]
      show (upd f.b o b).length + _ = _
      rw [upd_len h1]
    · rw [used_two n o b r hr (fun x hx => h x (by rw [look, if_neg e]; exact hx))]
      unfold wr
      rw [if_neg e]
theorem used_three (n : List UInt8) : ∀ (l : List Fl), Uniq l → Vf.used (l.filter (fun f => decide (f.name ≠ n))) + ((look l n).getD []).length = Vf.used l
  | [], _ => rfl
  | f :: r, hu => by
    obtain ⟨hx, hr⟩ := List.pairwise_cons.1 hu
    rw [List.filter_cons, used_cons, look]
    by_cases e : f.name = n
    · have er : r.filter (fun f => decide (f.name ≠ n)) = r := by
        apply List.filter_eq_self.2
        intro g hg
        simp only [ne_eq, decide_eq_true_eq]
        exact fun h => hx g hg (by rw [e, h])
      rw [er]
      simp [e]
      omega
    · have := used_three n r hr
      simp [e, used_cons] at this ⊢
      omega

/-! the program's own files -/
structure Op where
  kind : Int
  on : Nat
  at_ : Nat
  old : List UInt8
structure Co where
  map : List UInt8 → Option Nat
  sto : Nat → Fl
  used : Int
def setM (m : List UInt8 → Option Nat) (n : List UInt8) (v : Option Nat) : List UInt8 → Option Nat := fun x => if x = n then v else m x
def setS (s : Nat → Fl) (i : Nat) (f : Fl) : Nat → Fl := fun x => if x = i then f else s x
theorem setM_same (m : List UInt8 → Option Nat) (n : List UInt8) (v : Option Nat) : setM m n v n = v := by simp [setM]
theorem setM_back (m : List UInt8 → Option Nat) (n : List UInt8) (v u : Option Nat) (h : m n = u) : setM (setM m n v) n u = m := by
  funext x
  unfold setM
  by_cases e : x = n
  · rw [if_pos e, e, h]
  · rw [if_neg e, if_neg e]
theorem setS_same (s : Nat → Fl) (i : Nat) (f : Fl) : setS s i f i = f := by simp [setS]
theorem setS_back (s : Nat → Fl) (i : Nat) (f : Fl) : setS (setS s i f) i (s i) = s := by
  funext x
  unfold setS
  by_cases e : x = i
  · rw [if_pos e, e]
  · rw [if_neg e, if_neg e]
theorem setS_twice (s : Nat → Fl) (i : Nat) (f g : Fl) : setS (setS s i f) i g = setS s i g := by
  funext x
  unfold setS
  by_cases e : x = i
  · rw [if_pos e, if_pos e]
  · rw [if_neg e, if_neg e, if_neg e]
def Co.put (c : Co) (id : Nat) : Co := ⟨setM c.map (c.sto id).name (some id), c.sto, c.used + (c.sto id).b.length⟩
def Co.drop (c : Co) (id : Nat) : Co := ⟨setM c.map (c.sto id).name none, c.sto, c.used - (c.sto id).b.length⟩
def Co.lay (c : Co) (id : Nat) (f : Fl) : Co := ⟨c.map, setS c.sto id f, c.used⟩
def Co.over (c : Co) (id : Nat) (o : Nat) (b : List UInt8) : Co := c.lay id ⟨(c.sto id).name, upd (c.sto id).b o b⟩
def stay (o : Op) (m : Int) : Nat := (min (max m 0) (o.old.length : Int)).toNat
def Co.undo (c : Co) (o : Op) (m : Int) : Co := if o.kind = 1 then c.drop o.on else if o.kind = 2 then c.over o.on (o.at_ + stay o m) (o.old.drop (stay o m)) else c.put o.on

structure View (c : Co) (l : List Fl) : Prop where
  look : ∀ n, (c.map n).map (fun id => (c.sto id).b) = look l n
  name : ∀ n id, c.map n = some id → (c.sto id).name = n
  used : c.used = (Vf.used l : Int)
  uniq : Uniq l
theorem View.agree {c : Co} {l : List Fl} (h : View c l) {I : Nat → Prop} (hI : ∀ n id, c.map n = some id → I id) {s : Nat → Fl} (hs : ∀ id, I id → s id = c.sto id) : View ⟨c.map, s, c.used⟩ l := by
  refine ⟨fun n => ?_, fun n id e => ?_, h.used, h.uniq⟩
  · rw [← h.look n]
    show (c.map n).map (fun id => (s id).b) = _
    cases e : c.map n with
    | none => rfl
    | some id => simp [hs id (hI n id e)]
  · show (s id).name = n
    rw [hs id (hI n id e)]
    exact h.name n id e
theorem View.none_ {c : Co} {l : List Fl} (h : View c l) {n : List UInt8} (e : c.map n = none) : Vp.look l n = none := by rw [← h.look n, e]; rfl
theorem View.some_ {c : Co} {l : List Fl} (h : View c l) {n : List UInt8} {id : Nat} (e : c.map n = some id) : Vp.look l n = some (c.sto id).b := by rw [← h.look n, e]; rfl
theorem View.make {c : Co} {l : List Fl} (h : View c l) {n b : List UInt8} {id : Nat} (hn : c.map n = none) (hid : ∀ m i, c.map m = some i → i ≠ id) : View ((c.lay id ⟨n, b⟩).put id) (does l ⟨1, n, 0, b⟩) := by
  have e0 : (c.lay id ⟨n, b⟩).sto id = ⟨n, b⟩ := setS_same _ _ _
  have hl := h.none_ hn
  rw [does_one]
  refine ⟨fun m => ?_, fun m i e => ?_, ?_, uniq_one h.uniq hl⟩
  · rw [look_append]
    show (setM c.map ((c.lay id ⟨n, b⟩).sto id).name (some id) m).map (fun i => ((c.lay id ⟨n, b⟩).sto i).b) = _
    rw [e0]
    unfold setM
    by_cases e : m = n
    · subst e
      simp [e0, hl, Vp.look]
    · simp only [e, if_false]
      have e2 : Vp.look [⟨n, b⟩] m = none := by rw [Vp.look, if_neg (fun h => e h.symm)]; rfl
      rw [e2, Option.or_none, ← h.look m]
      cases e3 : c.map m with
      | none => rfl
      | some i =>
        have : (c.lay id ⟨n, b⟩).sto i = c.sto i := by show setS c.sto id ⟨n, b⟩ i = _; unfold setS; rw [if_neg (hid m i e3)]
        simp [this]
  · have e : setM c.map ((c.lay id ⟨n, b⟩).sto id).name (some id) m = some i := e
    show ((c.lay id ⟨n, b⟩).sto i).name = m
    rw [e0] at e
    unfold setM at e
    by_cases e1 : m = n
    · subst e1
      simp at e
      subst e
      rw [e0]
    · simp only [e1, if_false] at e
      have : (c.lay id ⟨n, b⟩).sto i = c.sto i := by show setS c.sto id ⟨n, b⟩ i = _; unfold setS; rw [if_neg (hid m i e)]
      rw [this]
      exact h.name m i e
  · rw [used_append]
    show c.used + (((c.lay id ⟨n, b⟩).sto id).b.length : Int) = _
    rw [e0, h.used]
    simp [Vf.used]
theorem View.inj {c : Co} {l : List Fl} (h : View c l) {m n : List UInt8} {id : Nat} (e : c.map m = some id) (e2 : c.map n = some id) : m = n := (h.name m id e).symm.trans (h.name n id e2)
theorem View.over {c : Co} {l : List Fl} (h : View c l) {n b : List UInt8} {o id : Nat} (hn : c.map n = some id) (hf : o + b.length ≤ (c.sto id).b.length) : View (c.over id o b) (does l ⟨2, n, o, b⟩) := by
  rw [does_two l h.uniq]
  have hs : ∀ i, i ≠ id → (c.over id o b).sto i = c.sto i := fun i hi => by show setS c.sto id _ i = _; unfold setS; rw [if_neg hi]
  have h0 : (c.over id o b).sto id = ⟨(c.sto id).name, upd (c.sto id).b o b⟩ := setS_same _ _ _
  refine ⟨fun m => ?_, fun m i e => ?_, ?_, uniq_two h.uniq _ _ _⟩
  · rw [look_wr, ← h.look m]
    show (c.map m).map (fun i => ((c.over id o b).sto i).b) = _
    cases e : c.map m with
    | none => simp
    | some i =>
      by_cases e1 : m = n
      · subst e1
        rw [hn] at e
        obtain rfl := Option.some.inj e
        simp [h0]
      · have hi : i ≠ id := fun e2 => e1 (h.inj (e2 ▸ e) hn)
        simp [hs i hi, e1]
  · have e : c.map m = some i := e
    by_cases hi : i = id
    · subst hi
      rw [h0]
      exact h.name m i e
    · rw [hs i hi]
      exact h.name m i e
  · show c.used = _
    rw [h.used, used_two n o b l h.uniq (fun x hx => by rw [h.some_ hn] at hx; obtain rfl := Option.some.inj hx; exact hf)]
theorem View.drop {c : Co} {l : List Fl} (h : View c l) {n : List UInt8} {id : Nat} (hn : c.map n = some id) (o : Nat) (b : List UInt8) : View (c.drop id) (does l ⟨3, n, o, b⟩) := by
  rw [does_three l h.uniq]
  have hnm := h.name n id hn
  refine ⟨fun m => ?_, fun m i e => ?_, ?_, uniq_three h.uniq _⟩
  · rw [look_out, ← h.look m]
    show (setM c.map (c.sto id).name none m).map (fun i => (c.sto i).b) = _
    rw [hnm]
    unfold setM
    by_cases e : m = n
    · simp [e]
    · simp [e]
  · have e : setM c.map (c.sto id).name none m = some i := e
    rw [hnm] at e
    unfold setM at e
    by_cases e1 : m = n
    · simp [e1] at e
    · simp only [e1, if_false] at e
      exact h.name m i e
  · show c.used - ((c.sto id).b.length : Int) = _
    have := used_three n l h.uniq
    rw [h.some_ hn] at this
    have t2 : ((some (c.sto id).b).getD []).length = (c.sto id).b.length := rfl
    rw [t2] at this
    rw [h.used]
    omega

/-- What is pending, the latest first: undone one after another it leaves what was there. -/
inductive Hist (was : List Fl) : Co → List Op → List Ac → Prop
  | nil {c : Co} : View c was → Hist was c [] []
  | snoc {c : Co} {j : List Op} {l : List Ac} {o : Op} {a : Ac} : View c (rep was (l.reverse ++ [a])) → Hist was (c.undo o 0) j l → o.kind = a.kind → (o.kind = 1 ∨ o.kind = 2 ∨ o.kind = 3) →
      (o.kind = 2 → o.at_ + o.old.length ≤ (c.sto o.on).b.length ∧ o.old.length = a.p.length) → (o.kind = 2 → ∀ m, View (c.undo o m) (does (rep was l.reverse) (cut a m))) → Hist was c (o :: j) (a :: l)
theorem Hist.view {was : List Fl} {c : Co} {j : List Op} {l : List Ac} (h : Hist was c j l) : View c (rep was l.reverse) := by
  cases h with
  | nil h => exact h
  | snoc h _ _ _ _ _ => rw [List.reverse_cons]; exact h
theorem Hist.len {was : List Fl} {c : Co} {j : List Op} {l : List Ac} (h : Hist was c j l) : j.length = l.length := by
  induction h with
  | nil _ => rfl
  | snoc _ _ _ _ _ _ ih => simp [ih]
def Live (I : Nat → Prop) (c : Co) (j : List Op) : Prop := (∀ n id, c.map n = some id → I id) ∧ ∀ o ∈ j, I o.on
theorem Live.undo {I : Nat → Prop} {c : Co} {o : Op} {j : List Op} (h : Live I c (o :: j)) (m : Int) : Live I (c.undo o m) j := by
  refine ⟨fun n id e => ?_, fun o' ho => h.2 o' (by simp [ho])⟩
  unfold Co.undo at e
  split at e
  · have e : setM c.map (c.sto o.on).name none n = some id := e
    unfold setM at e
    split at e
    · cases e
    · exact h.1 n id e
  · split at e
    · exact h.1 n id e
    · have e : setM c.map (c.sto o.on).name (some o.on) n = some id := e
      unfold setM at e
      split at e
      · obtain rfl := Option.some.inj e
        exact h.2 o (by simp)
      · exact h.1 n id e
/-- The stores may part outside of what lives. -/
theorem Co.undo_agree {I : Nat → Prop} {c : Co} {o : Op} {s : Nat → Fl} (ho : I o.on) (hs : ∀ id, I id → s id = c.sto id) (m : Int) :
    ∃ s', (Co.undo ⟨c.map, s, c.used⟩ o m) = ⟨(c.undo o m).map, s', (c.undo o m).used⟩ ∧ ∀ id, I id → s' id = (c.undo o m).sto id := by
  have e := hs o.on ho
  unfold Co.undo
  split
  · exact ⟨s, by simp only [Co.drop, e], hs⟩
  · split
    · refine ⟨setS s o.on ⟨(s o.on).name, upd (s o.on).b (o.at_ + stay o m) (o.old.drop (stay o m))⟩, rfl, fun id hid => ?_⟩
      show setS s o.on _ id = setS c.sto o.on _ id
      unfold setS
      by_cases e2 : id = o.on
      · rw [if_pos e2, if_pos e2, e]
      · rw [if_neg e2, if_neg e2, hs id hid]
    · exact ⟨s, by simp only [Co.put, e], hs⟩
theorem Hist.agree {was : List Fl} {I : Nat → Prop} {c : Co} {j : List Op} {l : List Ac} (h : Hist was c j l) (hL : Live I c j) : ∀ {s : Nat → Fl}, (∀ id, I id → s id = c.sto id) → Hist was ⟨c.map, s, c.used⟩ j l := by
  induction h with
  | nil h => intro s hs; exact .nil (h.agree hL.1 hs)
  | @snoc c j l o a h1 h2 h3 h4 h5 h6 ih =>
    intro s hs
    have ho := hL.2 o (by simp)
    obtain ⟨s', e', hs'⟩ := Co.undo_agree ho hs 0
    refine .snoc (h1.agree hL.1 hs) ?_ h3 h4 (fun hk => ?_) (fun hk m => ?_)
    · rw [e']
      exact ih (hL.undo 0) hs'
    · show o.at_ + o.old.length ≤ (s o.on).b.length ∧ _
      rw [hs o.on ho]
      exact h5 hk
    · obtain ⟨s2, e2, hs2⟩ := Co.undo_agree ho hs m
      rw [e2]
      exact (h6 hk m).agree (hL.undo m).1 hs2

theorem upd_back {b p : List UInt8} {o s : Nat} (h : o + p.length ≤ b.length) (hs : s ≤ p.length) : upd (upd b o p) (o + s) (((b.drop o).take p.length).drop s) = upd b o (p.take s) := by
  have hl : (upd b o p).length = b.length := upd_len h
  have hd : (((b.drop o).take p.length).drop s).length = p.length - s := by simp; omega
  apply List.ext_getElem?
  intro i
  unfold upd at *
  simp only [List.getElem?_append, List.length_append, List.length_take, List.length_drop, List.getElem?_take, List.getElem?_drop]
  rcases Nat.lt_or_ge i o with h1 | h1
  · simp (disch := omega) only [if_pos]
    repeat (first | rw [if_pos (by omega)] | rfl)
  · rcases Nat.lt_or_ge i (o + s) with h2 | h2
    · have e1 : i < min (o + s) (min o b.length + p.length + (b.length - (o + p.length))) := by omega
      repeat (first | rw [if_pos (by omega)] | rw [if_neg (by omega)] | rfl)
    · rcases Nat.lt_or_ge i (o + p.length) with h3 | h3
      · repeat (first | rw [if_pos (by omega)] | rw [if_neg (by omega)] | rfl | (congr 1; omega))
      · repeat (first | rw [if_pos (by omega)] | rw [if_neg (by omega)] | rfl | (congr 1; omega))
theorem upd_nil (b : List UInt8) (o : Nat) : upd b o [] = b := by unfold upd; simp
end Vp
end Go.Proofs.YtbakngbmfgnmcaaDoor

namespace Go.Proofs.YtbakngbmfgnmcaaDoor
namespace Vp
open Vf

theorem undo_one {c : Co} {o : Op} (h : o.kind = 1) (m : Int) : c.undo o m = c.drop o.on := by unfold Co.undo; rw [if_pos h]
theorem undo_two {c : Co} {o : Op} (h : o.kind = 2) (m : Int) : c.undo o m = c.over o.on (o.at_ + stay o m) (o.old.drop (stay o m)) := by
  unfold Co.undo
  rw [if_neg (by omega), if_pos h]
theorem undo_three {c : Co} {o : Op} (h : o.kind = 3) (m : Int) : c.undo o m = c.put o.on := by
  unfold Co.undo
  rw [if_neg (by omega), if_neg (by omega)]
theorem undo_other {c : Co} {o : Op} (h : o.kind ≠ 2) (m : Int) : c.undo o m = c.undo o 0 := by
  unfold Co.undo
  by_cases h1 : o.kind = 1
  · rw [if_pos h1, if_pos h1]
  · rw [if_neg h1, if_neg h1, if_neg h, if_neg h]

theorem Hist.create {was : List Fl} {I : Nat → Prop} {c : Co} {j : List Op} {l : List Ac} (h : Hist was c j l) (hL : Live I c j) {n b : List UInt8} {id : Nat} (hn : c.map n = none) (hid : ¬ I id) :
    Hist was ((c.lay id ⟨n, b⟩).put id) (⟨1, id, 0, []⟩ :: j) (⟨1, n, 0, b⟩ :: l) := by
  refine .snoc ?_ ?_ rfl (.inl rfl) (fun hk => absurd (show (1 : Int) = 2 from hk) (by decide)) (fun hk => absurd (show (1 : Int) = 2 from hk) (by decide))
  · rw [rep_append]
    exact h.view.make hn (fun m i e e2 => hid (e2 ▸ hL.1 m i e))
  · rw [undo_one rfl]
    have e : ((c.lay id ⟨n, b⟩).put id).drop id = ⟨c.map, setS c.sto id ⟨n, b⟩, c.used⟩ := by
      have e0 : (c.lay id ⟨n, b⟩).sto id = ⟨n, b⟩ := setS_same _ _ _
      have e1 : ((c.lay id ⟨n, b⟩).put id).sto id = ⟨n, b⟩ := e0
      unfold Co.drop
      rw [e1]
      have e2 : ((c.lay id ⟨n, b⟩).put id).map = setM c.map n (some id) := by show setM c.map ((c.lay id ⟨n, b⟩).sto id).name (some id) = _; rw [e0]
      have e3 : ((c.lay id ⟨n, b⟩).put id).used = c.used + (b.length : Int) := by show c.used + (((c.lay id ⟨n, b⟩).sto id).b.length : Int) = _; rw [e0]
      rw [e2, e3]
      have e4 : setM (setM c.map n (some id)) n none = c.map := setM_back _ _ _ _ hn
      show (⟨setM (setM c.map n (some id)) n none, _, _⟩ : Co) = _
      rw [e4]
      congr 1
      show c.used + (b.length : Int) - (b.length : Int) = _
      omega
    show Hist was (((c.lay id ⟨n, b⟩).put id).drop id) j l
    rw [e]
    refine h.agree hL (fun i hi => ?_)
    unfold setS
    rw [if_neg (show ¬ i = id from fun e2 => hid (e2 ▸ hi))]

theorem take_drop_len {b : List UInt8} {o n : Nat} (h : o + n ≤ b.length) : ((b.drop o).take n).length = n := by rw [List.length_take, List.length_drop]; omega
theorem over_over (c : Co) (id o : Nat) (b : List UInt8) (o2 : Nat) (b2 : List UInt8) : (c.over id o b).over id o2 b2 = c.lay id ⟨(c.sto id).name, upd (upd (c.sto id).b o b) o2 b2⟩ := by
  have h0 : (c.over id o b).sto id = ⟨(c.sto id).name, upd (c.sto id).b o b⟩ := setS_same _ _ _
  unfold Co.over at h0 ⊢
  rw [h0]
  unfold Co.lay
  simp only
  rw [setS_twice]
theorem lay_same (c : Co) (id : Nat) : c.lay id ⟨(c.sto id).name, (c.sto id).b⟩ = c := by
  unfold Co.lay
  have : setS c.sto id ⟨(c.sto id).name, (c.sto id).b⟩ = c.sto := by
    funext x
    unfold setS
    by_cases e : x = id
    · rw [if_pos e, e]
    · rw [if_neg e]
  rw [this]
theorem Hist.write {was : List Fl} {c : Co} {j : List Op} {l : List Ac} (h : Hist was c j l) {n b : List UInt8} {o id : Nat} (hn : c.map n = some id) (hf : o + b.length ≤ (c.sto id).b.length) :
    Hist was (c.over id o b) (⟨2, id, o, ((c.sto id).b.drop o).take b.length⟩ :: j) (⟨2, n, o, b⟩ :: l) := by
  have hlen := take_drop_len hf
  have h0 : (c.over id o b).sto id = ⟨(c.sto id).name, upd (c.sto id).b o b⟩ := setS_same _ _ _
  have key : ∀ m : Int, (c.over id o b).undo ⟨2, id, o, ((c.sto id).b.drop o).take b.length⟩ m = c.over id o (b.take (stay ⟨2, id, o, ((c.sto id).b.drop o).take b.length⟩ m)) := fun m => by
    rw [undo_two rfl]
    have hs : stay ⟨2, id, o, ((c.sto id).b.drop o).take b.length⟩ m ≤ b.length := by unfold stay; simp only [hlen]; omega
    show (c.over id o b).over id (o + _) ((((c.sto id).b.drop o).take b.length).drop _) = _
    rw [over_over, upd_back hf hs]
    rfl
  refine .snoc ?_ ?_ rfl (.inr (.inl rfl)) (fun _ => ⟨?_, hlen⟩) (fun _ m => ?_)
  · rw [rep_append]
    exact h.view.over hn hf
  · rw [key 0]
    have e : stay ⟨2, id, o, ((c.sto id).b.drop o).take b.length⟩ 0 = 0 := by unfold stay; omega
    rw [e, List.take_zero]
    have e2 : c.over id o [] = c := by unfold Co.over; rw [upd_nil, lay_same]
    rw [e2]
    exact h
  · show o + (((c.sto id).b.drop o).take b.length).length ≤ ((c.over id o b).sto id).b.length
    rw [h0, hlen]
    show _ ≤ (upd (c.sto id).b o b).length
    rw [upd_len hf]
    exact hf
  · rw [key m]
    have e : stay ⟨2, id, o, ((c.sto id).b.drop o).take b.length⟩ m = torn ⟨2, n, o, b⟩ m := by unfold stay torn; simp only [hlen]; omega
    rw [e]
    have hl : (b.take (torn ⟨2, n, o, b⟩ m)).length ≤ b.length := by rw [List.length_take]; omega
    exact h.view.over hn (by omega)

theorem Hist.remove {was : List Fl} {c : Co} {j : List Op} {l : List Ac} (h : Hist was c j l) {n : List UInt8} {id : Nat} (hn : c.map n = some id) :
    Hist was (c.drop id) (⟨3, id, 0, []⟩ :: j) (⟨3, n, 0, []⟩ :: l) := by
  refine .snoc ?_ ?_ rfl (.inr (.inr rfl)) (fun hk => absurd (show (3 : Int) = 2 from hk) (by decide)) (fun hk => absurd (show (3 : Int) = 2 from hk) (by decide))
  · rw [rep_append]
    exact h.view.drop hn 0 []
  · rw [undo_three rfl]
    have hnm := h.view.name n id hn
    have e : (c.drop id).put id = c := by
      unfold Co.put Co.drop
      simp only [hnm]
      rw [setM_back _ _ _ _ hn]
      have : c.used - ((c.sto id).b.length : Int) + ((c.sto id).b.length : Int) = c.used := by omega
      rw [this]
    show Hist was ((c.drop id).put id) j l
    rw [e]
    exact h

/-- On the way of a crash: either there is more to undo, or it is as the document says. -/
def Cr (S : Sv) (n m : Int) (c : Co) (j : List Op) : Prop := ∃ l, j.length = l.length ∧ l.reverse = S.l.take l.length ∧ (n.toNat < j.length → Hist S.was c j l) ∧ (j.length ≤ n.toNat → View c (crash S n m))
theorem Cr.start {S : Sv} {c : Co} {j : List Op} (h : Hist S.was c j S.l.reverse) (n m : Int) : Cr S n m c j := by
  have hl := h.len
  refine ⟨S.l.reverse, hl, ?_, fun _ => h, fun hn => ?_⟩
  · rw [List.reverse_reverse, List.length_reverse, List.take_length]
  · rw [crash_all (by rw [List.length_reverse] at hl; omega)]
    have := h.view
    rwa [List.reverse_reverse] at this
theorem Cr.step {S : Sv} {n m : Int} {c : Co} {o : Op} {j : List Op} (h : Cr S n m c (o :: j)) (hn : n.toNat < (o :: j).length) : Cr S n m (c.undo o (if j.length = n.toNat then m else 0)) j := by
  obtain ⟨l, h1, h2, h3, _⟩ := h
  have hh := h3 hn
  cases hh with
  | @snoc _ _ l' _ a g1 g2 g3 g4 g5 g6 =>
    rw [List.reverse_cons] at h2
    simp only [List.length_cons] at h1 h2 hn
    have hlS : l'.length + 1 ≤ S.l.length := by
      have := congrArg List.length h2
      rw [List.length_append, List.length_reverse, List.length_singleton, List.length_take] at this
      omega
    have hlt : l'.length < S.l.length := by omega
    rw [List.take_succ_eq_append_getElem hlt] at h2
    obtain ⟨e1, e2⟩ := List.append_inj h2 (by rw [List.length_reverse, List.length_take]; omega)
    have ea : a = S.l[l'.length] := by simpa using e2
    refine ⟨l', by omega, e1, fun hj => ?_, fun hj => ?_⟩
    · rw [if_neg (by omega)]
      exact g2
    · have hjn : j.length = n.toNat := by omega
      rw [if_pos hjn]
      have hk : n.toNat = l'.length := by omega
      by_cases hk2 : o.kind = 2
      · rw [crash_torn hk hlt (by rw [← ea, ← g3]; exact hk2)]
        have := g6 hk2 m
        rw [e1, ea] at this
        exact this
      · rw [crash_clean hk hlt (by rw [← ea, ← g3]; exact hk2), undo_other hk2, ← e1]
        exact g2.view
/-- What is undone next is fit for it. -/
theorem Cr.fit {S : Sv} {n m : Int} {c : Co} {o : Op} {j : List Op} (h : Cr S n m c (o :: j)) (hn : n.toNat < (o :: j).length) : (o.kind = 1 ∨ o.kind = 2 ∨ o.kind = 3) ∧ (o.kind = 2 → o.at_ + o.old.length ≤ (c.sto o.on).b.length) := by
  obtain ⟨l, h1, h2, h3, _⟩ := h
  have hh := h3 hn
  cases hh with
  | snoc g1 g2 g3 g4 g5 g6 => exact ⟨g4, fun hk => (g5 hk).1⟩
theorem Cr.done {S : Sv} {n m : Int} {c : Co} {j : List Op} (h : Cr S n m c j) (hn : j.length ≤ n.toNat) : View c (crash S n m) := by
  obtain ⟨l, _, _, _, h4⟩ := h
  exact h4 hn

/-! what is answered -/
theorem create_bad {S : Sv} {n b : List UInt8} (hi : is n = false) : Vf.create S n b = (S, 1) := by unfold Vf.create; rw [if_pos hi]
theorem create_has {S : Sv} {c : Co} {n b : List UInt8} {id : Nat} (hv : View c S.now) (hi : is n = true) (hn : c.map n = some id) : Vf.create S n b = (S, 6) := by
  have := (ix_some (hv.some_ hn)).1
  unfold Vf.create
  rw [if_neg (by simp [hi]), if_pos (by omega)]
theorem create_full {S : Sv} {c : Co} {n b : List UInt8} (hv : View c S.now) (hi : is n = true) (hn : c.map n = none) (hb : S.room - c.used < b.length) : Vf.create S n b = (S, 4) := by
  have := ix_none (hv.none_ hn)
  unfold Vf.create
  rw [if_neg (by simp [hi]), if_neg (by omega), if_pos (by rw [← hv.used]; exact hb)]
theorem create_ok {S : Sv} {c : Co} {n b : List UInt8} (hv : View c S.now) (hi : is n = true) (hn : c.map n = none) (hb : ¬ S.room - c.used < b.length) : Vf.create S n b = (S.act ⟨1, n, 0, b⟩, 0) := by
  have := ix_none (hv.none_ hn)
  unfold Vf.create
  rw [if_neg (by simp [hi]), if_neg (by omega), if_neg (by rw [← hv.used]; exact hb)]
theorem lenAt_some {l : List Fl} {n b : List UInt8} (h : look l n = some b) : lenAt l n = b.length := by
  have := (ix_some h).2
  unfold bytesAt at this
  unfold lenAt
  rw [this]
theorem write_bad {S : Sv} {n b : List UInt8} {t : Int} (hi : is n = false) : Vf.write S n t b = (S, 1) := by unfold Vf.write; rw [if_pos hi]
theorem write_none {S : Sv} {c : Co} {n b : List UInt8} {t : Int} (hv : View c S.now) (hi : is n = true) (hn : c.map n = none) : Vf.write S n t b = (S, 5) := by
  have := ix_none (hv.none_ hn)
  unfold Vf.write
  rw [if_neg (by simp [hi]), if_pos (by omega)]
theorem write_off {S : Sv} {c : Co} {n b : List UInt8} {t : Int} {id : Nat} (hv : View c S.now) (hi : is n = true) (hn : c.map n = some id) (hb : t < 0 ∨ ((c.sto id).b.length : Int) - t < b.length) : Vf.write S n t b = (S, 1) := by
  have h1 := (ix_some (hv.some_ hn)).1
  have h2 := lenAt_some (hv.some_ hn)
  unfold Vf.write
  rw [if_neg (by simp [hi]), if_neg h1, if_pos (by rw [h2]; omega)]
theorem write_ok {S : Sv} {c : Co} {n b : List UInt8} {t : Nat} {id : Nat} (hv : View c S.now) (hi : is n = true) (hn : c.map n = some id) (hb : t + b.length ≤ (c.sto id).b.length) : Vf.write S n (t : Int) b = (S.act ⟨2, n, t, b⟩, 0) := by
  have h1 := (ix_some (hv.some_ hn)).1
  have h2 := lenAt_some (hv.some_ hn)
  unfold Vf.write
  rw [if_neg (by simp [hi]), if_neg h1, if_neg (by rw [h2]; omega)]
  simp
theorem remove_bad {S : Sv} {n : List UInt8} (hi : is n = false) : Vf.remove S n = (S, 1) := by unfold Vf.remove; rw [if_pos hi]
theorem remove_none {S : Sv} {c : Co} {n : List UInt8} (hv : View c S.now) (hi : is n = true) (hn : c.map n = none) : Vf.remove S n = (S, 5) := by
  have := ix_none (hv.none_ hn)
  unfold Vf.remove
  rw [if_neg (by simp [hi]), if_pos (by omega)]
theorem remove_ok {S : Sv} {c : Co} {n : List UInt8} {id : Nat} (hv : View c S.now) (hi : is n = true) (hn : c.map n = some id) : Vf.remove S n = (S.act ⟨3, n, 0, []⟩, 0) := by
  have h1 := (ix_some (hv.some_ hn)).1
  unfold Vf.remove
  rw [if_neg (by simp [hi]), if_neg h1]
theorem read_bad {l : List Fl} {n : List UInt8} {t m : Int} (hi : is n = false) : Vf.read l n t m = ([], 1) := by unfold Vf.read; rw [if_pos hi]
theorem read_none {l : List Fl} {c : Co} {n : List UInt8} {t m : Int} (hv : View c l) (hi : is n = true) (hn : c.map n = none) : Vf.read l n t m = ([], 5) := by
  have := ix_none (hv.none_ hn)
  unfold Vf.read
  rw [if_neg (by simp [hi]), if_pos (by omega)]
theorem read_off {l : List Fl} {c : Co} {n : List UInt8} {t m : Int} {id : Nat} (hv : View c l) (hi : is n = true) (hn : c.map n = some id) (hb : t < 0 ∨ m < 0 ∨ ((c.sto id).b.length : Int) - t < m) : Vf.read l n t m = ([], 1) := by
  obtain ⟨h1, h2⟩ := ix_some (hv.some_ hn)
  unfold Vf.read
  rw [if_neg (by simp [hi]), if_neg h1, if_pos (by rw [h2]; omega)]
theorem read_ok {l : List Fl} {c : Co} {n : List UInt8} {t m : Nat} {id : Nat} (hv : View c l) (hi : is n = true) (hn : c.map n = some id) (hb : t + m ≤ (c.sto id).b.length) : Vf.read l n (t : Int) (m : Int) = ((((c.sto id).b).drop t).take m, 0) := by
  obtain ⟨h1, h2⟩ := ix_some (hv.some_ hn)
  unfold Vf.read
  rw [if_neg (by simp [hi]), if_neg h1, if_neg (by rw [h2]; omega), h2]
  simp
theorem size_bad {l : List Fl} {n : List UInt8} (hi : is n = false) : Vf.size l n = (0, 1) := by unfold Vf.size; rw [if_pos hi]
theorem size_none {l : List Fl} {c : Co} {n : List UInt8} (hv : View c l) (hi : is n = true) (hn : c.map n = none) : Vf.size l n = (0, 5) := by
  have := ix_none (hv.none_ hn)
  unfold Vf.size
  rw [if_neg (by simp [hi]), if_pos (by omega)]
theorem size_ok {l : List Fl} {c : Co} {n : List UInt8} {id : Nat} (hv : View c l) (hi : is n = true) (hn : c.map n = some id) : Vf.size l n = (((c.sto id).b.length : Int), 0) := by
  obtain ⟨h1, h2⟩ := ix_some (hv.some_ hn)
  unfold bytesAt at h2
  unfold Vf.size
  rw [if_neg (by simp [hi]), if_neg h1, h2]
end Vp
end Go.Proofs.YtbakngbmfgnmcaaDoor

namespace Go.Proofs.YtbakngbmfgnmcaaDoor
open Go.RowKit
open Me Vf

namespace Me
theorem by8_upd (b : List UInt8) (o : Nat) (p : List UInt8) : by8 (upd b o p) = (by8 b).take o ++ (by8 p ++ (by8 b).drop (o + (by8 p).length)) := by
  unfold upd by8
  simp [List.map_take, List.map_drop]
theorem Kp.setRow {O : Nat → Prop} {a w : World} (h : Kp O a w) (g : Nat) (hg : a.heap.size ≤ g ∨ O g) (cs : Array Value) : Kp O a (w.setRow g cs) :=
  ⟨h.os, h.tape, h.output, by simpa [World.setRow] using h.size, fun i hi hn => (setRow_other w g i cs (by
    rintro rfl
    rcases hg with hg | hg
    · omega
    · exact hn hg)).trans (h.block i hi hn)⟩
theorem row_size (w : World) (g : Nat) (cs : Array Value) : (w.setRow g cs).heap.size = w.heap.size := by simp [World.setRow]
section
variable {P : Program} {w : World}
theorem run_copy_bs (dT sT ty elem : TypeId) (hu : P.underlying dT = some (.slice elem)) (hsz : (P.info? elem).map (·.size) = some 1)
    (dp sp : Option Addr) (dLen dCap sLen sCap g off : Nat) (cur p : List UInt8) (t : TypeId) (hg : w.heap[g]? = some (.cells (by8 cur).toArray t (0, 0))) (hp : p.length = Nat.min sLen dLen)
    (hpos : 0 < p.length → dp = some ⟨g, off, none⟩) (G : Nat → Prop) (hr : Rd w G sp (by8 p)) (hfit : off + p.length ≤ cur.length) :
    ∃ w', (Builtin.copy_ #[dT, sT] ty #[.slice dp dLen dCap, .slice sp sLen sCap]).run P w = .ok (goInt p.length) w' ∧
      w'.heap[g]? = some (.cells (by8 (upd cur off p)).toArray t (0, 0)) ∧ Kp (fun b => b = g) w w' ∧ w'.heap.size = w.heap.size := by
  by_cases h0 : p.length = 0
  · obtain rfl : p = [] := List.eq_nil_of_length_eq_zero h0
    refine ⟨w, run_copy_none (P := P) w dT sT ty elem dp sp dLen dCap sLen sCap hu hsz (by simpa using hp.symm), ?_, Kp.refl _ _, rfl⟩
    rw [Vp.upd_nil]
    exact hg
  · obtain rfl := hpos (by omega)
    obtain ⟨ad, rfl, _, _, hc⟩ := hr (by intro e; apply h0; rw [← by8_len, e]; rfl)
    have hrun := run_copy_row (P := P) w dT sT ty elem g off dLen dCap ad sLen sCap (by8 cur).toArray t (by8 p) hu hsz hg (by rw [by8_len]; exact hp) hc (by simpa [by8_len] using hfit) (by8_one _)
    rw [by8_len] at hrun
    refine ⟨_, hrun, ?_, (Kp.refl (fun b => b = g) w).setRow g (.inr rfl) _, row_size _ _ _⟩
    rw [setRow_heap w g _ _ t _ hg, by8_upd, by8_len, List.append_assoc]
theorem wpList_copy_bs {ops : Array Oper} {rest : List Oper} {o : Oper} {a : Act} {Q : Exit → Act → World → Prop} (hgd : o.guard = none) (d s : Operand) (dT sT : TypeId)
    (ho : o.op = .call { callee := .builtin .copy, args := #[d, s], argTypes := #[dT, sT] }) (elem : TypeId) (hu : P.underlying dT = some (.slice elem)) (hsz : (P.info? elem).map (·.size) = some 1)
    (dp sp : Option Addr) (dLen dCap sLen sCap : Nat) (hd : a.eval d = .slice dp dLen dCap) (hs : a.eval s = .slice sp sLen sCap)
    (g off : Nat) (cur p : List UInt8) (t : TypeId) (hg : w.heap[g]? = some (.cells (by8 cur).toArray t (0, 0))) (hp : p.length = Nat.min sLen dLen)
    (hpos : 0 < p.length → dp = some ⟨g, off, none⟩) (G : Nat → Prop) (hr : Rd w G sp (by8 p)) (hfit : off + p.length ≤ cur.length)
    (h : ∀ w', Hid (w'.heap[g]? = some (.cells (by8 (upd cur off p)).toArray t (0, 0))) → Kp (fun b => b = g) w w' → Hid (w'.heap.size = w.heap.size) → wpList P ops Q rest (a.put o.dst (goInt p.length)) w') :
    wpList P ops Q (o :: rest) a w := by
  refine wpList_plain hgd fun K hK => ?_
  obtain ⟨w', hrun, h1, h2, h3⟩ := run_copy_bs (P := P) (w := w) dT sT o.type elem hu hsz dp sp dLen dCap sLen sCap g off cur p t hg hp hpos G hr hfit
  unfold Oper.wp
  simp [execOp, ho, resolve, invoke, builtin, hd, hs, hrun, Result.andThen]
  exact hK _ _ (h w' (Lib.hid h1) h2 (Lib.hid h3))
theorem wp_copy_bs {o : Oper} {a : Act} {K : Act → World → Prop} {Q : Exit → Act → World → Prop} (d s : Operand) (dT sT : TypeId)
    (ho : o.op = .call { callee := .builtin .copy, args := #[d, s], argTypes := #[dT, sT] }) (elem : TypeId) (hu : P.underlying dT = some (.slice elem)) (hsz : (P.info? elem).map (·.size) = some 1)
    (dp sp : Option Addr) (dLen dCap sLen sCap : Nat) (hd : a.eval d = .slice dp dLen dCap) (hs : a.eval s = .slice sp sLen sCap)
    (g off : Nat) (cur p : List UInt8) (t : TypeId) (hg : w.heap[g]? = some (.cells (by8 cur).toArray t (0, 0))) (hp : p.length = Nat.min sLen dLen)
    (hpos : 0 < p.length → dp = some ⟨g, off, none⟩) (G : Nat → Prop) (hr : Rd w G sp (by8 p)) (hfit : off + p.length ≤ cur.length)
    (h : ∀ w', Hid (w'.heap[g]? = some (.cells (by8 (upd cur off p)).toArray t (0, 0))) → Kp (fun b => b = g) w w' → Hid (w'.heap.size = w.heap.size) → K (a.put o.dst (goInt p.length)) w') :
    Oper.wp P o a w K Q := by
  obtain ⟨w', hrun, h1, h2, h3⟩ := run_copy_bs (P := P) (w := w) dT sT o.type elem hu hsz dp sp dLen dCap sLen sCap g off cur p t hg hp hpos G hr hfit
  unfold Oper.wp
  simp [execOp, ho, resolve, invoke, builtin, hd, hs, hrun, Result.andThen]
  exact h w' (Lib.hid h1) h2 (Lib.hid h3)
end
def noughts (n : Nat) : List UInt8 := List.replicate n 0
theorem noughts_len (n : Nat) : (noughts n).length = n := by simp [noughts]
theorem made_noughts (n : Nat) : madeCells #[.int .u8 0] n = (by8 (noughts n)).toArray := by
  apply Array.ext
  · rw [size_madeCells]; simp [by8_len, noughts_len]
  · intro i h1 h2
    simp [madeCells, by8, noughts, Nat.mod_one]
theorem upd_upd {cur a b : List UInt8} {off : Nat} (h : off + a.length + b.length ≤ cur.length) : upd (upd cur off a) (off + a.length) b = upd cur off (a ++ b) := by
  have h1 : (upd cur off a).take (off + a.length) = cur.take off ++ a := by
    unfold upd
    rw [List.take_append_of_le_length (by simp; omega)]
    exact List.take_of_length_le (by simp; omega)
  have h2 : (upd cur off a).drop (off + a.length + b.length) = cur.drop (off + (a ++ b).length) := by
    unfold upd
    rw [List.drop_append, List.drop_eq_nil_of_le (by simp; omega), List.nil_append, List.drop_drop]
    congr 1
    simp
    omega
  have h3 : upd (upd cur off a) (off + a.length) b = (upd cur off a).take (off + a.length) ++ b ++ (upd cur off a).drop (off + a.length + b.length) := rfl
  rw [h3, h1, h2]
  unfold upd
  simp
theorem upd_all {cur p : List UInt8} (h : p.length = cur.length) : upd cur 0 p = p := by
  unfold upd
  rw [List.drop_eq_nil_of_le (by omega)]
  simp
end Me

theorem make_bytes (n : Nat) (hn : n ≤ 4294967296) (W : World) : (Instr.makeSlice 52 (.int .i64 (n : Int)) (.int .i64 (n : Int))).run Tryd.prog W = .ok (.slice (some ⟨W.heap.size, 0, none⟩) n n) (W.alloc (.cells (by8 (noughts n)).toArray 5)) := by
  obtain ⟨i0, hi0, hz0, hz1, hz2⟩ := info_parts u8info
  have h := run_make (P := Tryd.prog) W 52 5 i0 (.int .u8 0) Tryd.underlying52 hi0 hz0 .i64 .i64 (n : Int) (n : Int) (by omega) (by omega) (by rw [hz2]; omega) (by omega)
  rw [hz1, show (Value.int .u8 0).cells = #[.int .u8 0] from rfl, Nat.mul_one, Int.toNat_natCast, made_noughts] at h
  exact h

set_option maxHeartbeats 400000 in
theorem isName_any (n : List UInt8) (w : World) :
    Calls Tryd.prog 26 #[.string ⟨n.toArray⟩] w fun e w' => e = .returned (.bool (Vf.is n)) ∧ w = w' := by
  cases n with
  | nil =>
    go_enter Tryd.func26, Tryd.ntmps26
    go_wp2
    go_ret
    exact ⟨rfl, rfl⟩
  | cons x r =>
    by_cases h2 : ((x :: r).length : Int) ≤ 255
    · have H : Hid (Vf.is (x :: r) = true) := Lib.hid (by unfold Vf.is; simp at h2 ⊢; omega)
      go_enter Tryd.func26, Tryd.ntmps26
      go_wp2
      go_ret
      exact ⟨ret_bool (by rw [H.out]; simp at h2 ⊢; try omega), rfl⟩
    · have H : Hid (Vf.is (x :: r) = false) := Lib.hid (by unfold Vf.is; simp at h2 ⊢; omega)
      go_enter Tryd.func26, Tryd.ntmps26
      go_wp2
      go_ret
      exact ⟨ret_bool (by rw [H.out]; simp at h2 ⊢; try omega), rfl⟩

set_option maxHeartbeats 400000 in
theorem length_any (ps : List (List UInt8)) (v : Value) (G : Nat → Prop) (w : World) (hp : Vf.Ps w G v ps) (hl : ps.length ≤ 1048576) (ht : ps.flatten.length ≤ 4294967296) :
    Calls Tryd.prog 27 #[v] w fun e w' => e = .returned (.int .i64 (ps.flatten.length : Int)) ∧ w = w' := by
  obtain ⟨A, c, xs, rfl, hc, hcm, hrd, hels⟩ := hp
  unfold maxLen at hcm
  have HR := Lib.hid hrd
  have HE := Lib.hid hels
  have hl' : (ps.length : Int) ≤ 1048576 := by omega
  generalize hT : ps.flatten.length = T at *
  have HT := Lib.hid hT
  clear hrd hels hT
  go_enter Tryd.func27, Tryd.ntmps27
  go_wp2_with fail
  go_loop [3, 8] (fun n i => ∃ (k : Nat) (x : Int), k ≤ ps.length ∧ i = .int .i64 k ∧ n = .int .i64 x ∧ 0 ≤ x ∧ x ≤ 4294967296 ∧ Hid (x = ((ps.take k).flatten.length : Int))) (fun _ i => ps.length - (intOf i).toNat)
  case atStart => exact ⟨0, 0, Nat.zero_le _, rfl, rfl, by omega, by omega, Lib.hid rfl⟩
  case round =>
    obtain ⟨k, x, hk, rfl, rfl, x0, x1, hx⟩ := hrel
    by_cases hlt : k < ps.length
    · obtain ⟨cs, ⟨v, rfl, hbs⟩, hxx⟩ := HE.out.get Vf.BsC.one k hlt
      have hxl := HE.out.length Vf.BsC.one
      obtain ⟨rb, ro, rfl, hlt2, hg, hcell⟩ := HR.out.lit (k * 1) (by omega)
      obtain ⟨A2, cc, rfl, hc2, hcm2, hrd2⟩ := hbs
      have hcl2 : w.cell? ⟨rb, ro + k, none⟩ = some (.slice A2 (ps[k]).length cc) := by have := hcell _ _ (hxx 0 (by omega)); simpa using this
      have hs := Lib.hid (Vf.flat_take ps k hlt)
      have hle := Vf.flat_le ps (k + 1)
      have hb : x + (ps[k]).length ≤ 4294967296 := by have := hs.out; have := hx.out; have h2 := HT.out; rw [hs.out, List.length_append] at hle; omega
      clear hxx hxl hcell hrd2 hle
      generalize hm : (ps[k]).length = m at *
      have HM := Lib.hid hm
      clear hm
      go_wp2_with fail
      go_round
      case rel => exact ⟨k + 1, _, by omega, by go_num, rfl, by omega, by omega, Lib.hid (by rw [hs.out, List.length_append, HM.out]; have := hx.out; omega)⟩
      case measure => simp [intOf]; omega
    · obtain rfl : k = ps.length := by omega
      rw [List.take_length] at hx
      go_wp2_with fail
      go_ret
      exact ⟨ret_i64 (by rw [hx.out, HT.out]), rfl⟩

end Go.Proofs.YtbakngbmfgnmcaaDoor

namespace Go.Proofs
open Go.Shelf
def Tryd.laysM316_ren : Go.Shelf.Ren := ⟨fun | 316 => 44 | n => n, fun | 9 => 9 | 3 => 3 | 4 => 4 | 37 => 52 | 0 => 0 | 127 => 111 | 5 => 5 | n => n, fun | n => n⟩
theorem Tryd.laysM316 : Go.Proofs.LaysM.n316 Tryd.prog Tryd.laysM316_ren := {
  mixed := by kernel_rfl
  f316 := Tryd.func44.trans (congrArg some (by kernel_rfl))
  t0 := Tryd.underlying0
  a0 := Tryd.isAgg0
  z0 := Tryd.sizeOf0
  v0 := Tryd.zeroValue0
  t3 := Tryd.underlying3
  a3 := Tryd.isAgg3
  z3 := Tryd.sizeOf3
  v3 := Tryd.zeroValue3
  t4 := Tryd.underlying4
  a4 := Tryd.isAgg4
  z4 := Tryd.sizeOf4
  v4 := Tryd.zeroValue4
  t9 := Tryd.underlying9
  a9 := Tryd.isAgg9
  z9 := Tryd.sizeOf9
  v9 := Tryd.zeroValue9
  t37 := Tryd.underlying52
  a37 := Tryd.isAgg52
  z37 := Tryd.sizeOf52
  v37 := Tryd.zeroValue52
  t127 := Tryd.underlying111
  a127 := Tryd.isAgg111
  z127 := Tryd.sizeOf111
  v127 := Tryd.zeroValue111
  t5 := Tryd.underlying5
  a5 := Tryd.isAgg5
  z5 := Tryd.sizeOf5
  v5 := Tryd.zeroValue5
  i0 := by kernel_rfl
  i3 := by kernel_rfl
  i4 := by kernel_rfl
  i5 := by kernel_rfl
  i9 := by kernel_rfl
  i37 := by kernel_rfl
  i127 := by kernel_rfl }
open Go.RowKit in
theorem Tryd.stringslite_Clone (s : ByteArray) (w : World) (hlim : s.size ≤ 281474976710656) :
    Calls Tryd.prog 44 #[.string s] w fun e w' => e = .returned (.string s) ∧ Below w.heap.size w w' := Any.stringslite_Clone Tryd.laysM316 s w hlim
end Go.Proofs

namespace Go.Proofs.YtbakngbmfgnmcaaDoor
open Go.RowKit
open Me Vf

theorem vsizeU8 : (Tryd.prog.info? 5).map (·.size) = some 1 := by kernel_rfl

/-- What fill leaves. -/
def Vp.Filled (w : World) (db : Nat) (b : List UInt8) (e : Ending) (w' : World) : Prop :=
  e = .returned (.tuple #[]) ∧ w'.heap[db]? = some (.cells (by8 b).toArray 5 (0, 0)) ∧ Kp (fun b => b = db) w w' ∧ w'.heap.size = w.heap.size

set_option maxHeartbeats 1000000 in
theorem fill_any (ps : List (List UInt8)) (pv : Value) (G : Nat → Prop) (w : World) (db off n cc : Nat) (cur : List UInt8) (hdb : w.heap[db]? = some (.cells (by8 cur).toArray 5 (0, 0)))
    (hp : Vf.Ps w G pv ps) (hG : ∀ b, G b → b ≠ db) (hn : ps.flatten.length = n) (hoff : off + n ≤ cur.length) (hcc : n ≤ cc) (hcm : cc ≤ 4294967296) (hl : ps.length ≤ 1048576) :
    Calls Tryd.prog 28 #[.slice (some ⟨db, off, none⟩) n cc, pv] w (Vp.Filled w db (upd cur off ps.flatten)) := by
  obtain ⟨A, c, xs, rfl, hc, hcm', hrd, hels⟩ := hp
  unfold maxLen at hcm'
  have HR := Lib.hid hrd
  have HE := Lib.hid hels
  have HN := Lib.hid hn
  have HG := Lib.hid hG
  have hl' : (ps.length : Int) ≤ 1048576 := by omega
  have HD := Lib.hid hdb
  clear hrd hels hn hG hdb
  go_enter Tryd.func28, Tryd.ntmps28
  go_wp2_with fail
  go_loopw [0, 8] (fun pl i wr => ∃ (k o t r c : Nat), k ≤ ps.length ∧ i = .int .i64 k ∧ .slice (some ⟨db, o, none⟩) r c = pl ∧ t + r = n ∧ t + c = cc ∧ Hid (t = ((ps.take k).flatten).length) ∧ Hid (t < cc → o = off + t) ∧
    Hid (wr.heap[db]? = some (.cells (by8 (upd cur off (ps.take k).flatten)).toArray 5 (0, 0))) ∧ Kp (fun b => b = db) w wr ∧ Hid (wr.heap.size = w.heap.size)) (fun _ i _ => ps.length - (intOf i).toNat)
  case atStart => exact ⟨0, off, 0, n, cc, Nat.zero_le _, rfl, rfl, by omega, by omega, Lib.hid rfl, Lib.hid (fun _ => rfl), Lib.hid (by rw [List.take_zero, List.flatten_nil, Vp.upd_nil]; exact HD.out), Kp.refl _ _, Lib.hid rfl⟩
  case round =>
    obtain ⟨k, o, t, r, c, hk, rfl, rfl, htr, htc, ht, ho, hdb, hkp, hsz⟩ := hrel
    by_cases hlt : k < ps.length
    · have hR := HR.out.kp hkp (fun i _ hi => HG.out i hi)
      have hE : Els (Vf.BsC wr G) ps xs := HE.out.mono fun b cs hb => hb.keep hkp.size (fun i hi hg => hkp.block i hi (HG.out i hg))
      obtain ⟨cs, ⟨v, rfl, hbs⟩, hx⟩ := hE.get Vf.BsC.one k hlt
      have hxl := hE.length Vf.BsC.one
      obtain ⟨rb, ro, rfl, hlt2, hg, hcell⟩ := hR.lit (k * 1) (by omega)
      have hcl : wr.cell? ⟨rb, ro + k, none⟩ = some v := by have := hcell _ _ (hx 0 (by omega)); simpa using this
      obtain ⟨A2, c2, rfl, hc2, hcm2, hrd2⟩ := hbs
      have HRD := Lib.hid hrd2
      have HF := Lib.hid (Vf.flat_take ps k hlt)
      have hle := Vf.flat_le ps (k + 1)
      rw [HF.out, List.length_append, HN.out, ← ht.out] at hle
      have hpk : t + (ps[k]).length ≤ n := hle
      have HU : Hid (upd (upd cur off (ps.take k).flatten) (off + t) ps[k] = upd cur off (ps.take (k + 1)).flatten) := Lib.hid (by rw [HF.out, ht.out]; exact upd_upd (by rw [← ht.out]; omega))
      have HL : Hid ((upd cur off (ps.take k).flatten).length = cur.length) := Lib.hid (upd_len (by rw [← ht.out]; omega))
      have HP : Hid (0 < (ps[k]).length → some (⟨db, o, none⟩ : Addr) = some ⟨db, off + t, none⟩) := Lib.hid (fun h => by rw [ho.out (by omega)])
      have HB : Hid (0 < (ps[k]).length → o = off + t) := Lib.hid (fun h => ho.out (by omega))
      have HT1 : Hid (t + (ps[k]).length = ((ps.take (k + 1)).flatten).length) := Lib.hid (by rw [HF.out, List.length_append, ← ht.out])
      unfold maxLen at hcm2
      clear hR hE hx hxl hcell hrd2 hle
      generalize hpp : ps[k] = p at *
      clear hpp
      have hpl : p.length ≤ r := by omega
      have hpc : p.length ≤ c := by omega
      have hmin : Hid (p.length = Nat.min p.length r) := Lib.hid (Nat.min_eq_left hpl).symm
      have hfit : Hid (off + t + p.length ≤ (upd cur off (ps.take k).flatten).length) := Lib.hid (by rw [HL.out]; omega)
      have hpl' : (p.length : Int) ≤ (r : Int) := by omega
      have hpc' : (p.length : Int) ≤ (c : Int) := by omega
      go_wp2_with (with_reducible refine wpList_copy_bs rfl (.tmp 13) (.tmp 14) 52 52 rfl 5 Tryd.underlying52 vsizeU8 (some ⟨db, o, none⟩) A2 r c p.length c2 rfl rfl db (off + t) _ p 5 hdb.out hmin.out HP.out G HRD.out hfit.out ?_; intro w1 hd1 hk1 hs1)
      all_goals
        go_roundw
        case rel =>
          refine ⟨k + 1, if c = p.length then o else o + p.length, t + p.length, r - p.length, c - p.length, by omega, by go_num, by split <;> rfl, by omega, by omega, HT1, Lib.hid (fun h => ?_), Lib.hid (by rw [← HU.out]; exact hd1.out), hkp.trans hk1 (fun i _ h => h), Lib.hid (hs1.out.trans hsz.out)⟩
          rw [if_neg (by omega)]
          by_cases h0 : 0 < p.length
          · have := HB.out h0; omega
          · have := ho.out (by omega); omega
        case measure => simp [intOf]; omega
    · obtain rfl : k = ps.length := by omega
      rw [List.take_length] at hdb
      go_wp2_with fail
      ((try simp only [Exit.inBlock, Exit.then]); first | (refine bodyPost_ret (results_none rfl _ _ _) rfl ?_) | (refine bodyPost_end (results_none rfl _ _ _) rfl ?_))
      exact ⟨rfl, hdb.out, hkp, hsz.out⟩

theorem strClone_any (n : List UInt8) (w : World) (hn : n.length ≤ 1048576) :
    Calls Tryd.prog 20 #[.string ⟨n.toArray⟩] w fun e w' => e = .returned (.string ⟨n.toArray⟩) ∧ Below w.heap.size w w' := by
  have HC := Lib.hid (Tryd.stringslite_Clone ⟨n.toArray⟩ w (by show n.toArray.size ≤ _; simp; omega))
  go_enter Tryd.func20, Tryd.ntmps20
  go_wp2_with (go_at_call 44; ((with_reducible refine (HC.out).mono ?_); rintro e w' ⟨rfl, hb⟩))
  go_ret
  exact ⟨rfl, hb⟩

set_option maxRecDepth 100000 in
/-- slices.Clone of bytes that are not nil. -/
theorem slcClone_any (l : List UInt8) (g o c : Nat) (G : Nat → Prop) (w : World) (hr : Rd w G (some ⟨g, o, none⟩) (by8 l)) (hl : l.length ≤ 4294967296) :
    Calls Tryd.prog 68 #[.slice (some ⟨g, o, none⟩) l.length c] w (Vf.Made w l) := by
  obtain ⟨i0, hi0, hz0, hz1, hz2⟩ := info_parts u8info
  have HI := Lib.hid hi0
  have HZ := Lib.hid (And.intro hz0 (And.intro hz1 hz2))
  clear hi0 hz0 hz1 hz2
  have HR := Lib.hid (hr.keep (w' := w.alloc (.cells #[] 5)) (by simp) (fun b hb _ => Below.heap_alloc w _ b hb))
  clear hr
  have qT : ∀ (w : World) (a : Addr) (n c : Nat), (binOp .eql 52 (.slice (some a) n c) (.slice none 0 0)).run Tryd.prog w = .ok (.bool false) w := fun w a n c => Lib.run_eql_slice_nil w _ _ (some a) n c _ _ Tryd.underlying52
  go_enter Tryd.func68, Tryd.ntmps68
  go_wp2_with (at_builtin; refine wpList_app _ rfl (.tmp 5) (.tmp 6) 52 rfl w.heap.size 5 i0 (.int .u8 0) 1 1 Tryd.underlying52 HI.out HZ.out.1 HZ.out.2.1 HZ.out.2.2 rfl (by decide) (.slice (some ⟨w.heap.size, 0, none⟩) 0 0) 0 [] rfl (owns_empty _ _ _ rfl) G (some ⟨g, o, none⟩) l.length c (by8 l) rfl (by rw [by8_len]; omega) HR.out (by8_one _) (by unfold maxLen; omega) (by omega) (by simp) ?_; intro v1 w1 hown1 hg1 hat1 hnil1)
  go_ret
  rw [Nat.zero_add, List.nil_append] at hown1
  exact ⟨v1, rfl, Bs.own hown1, ((Below.refl _ _).alloc (Nat.le_refl _) _).grown hg1 (by simp) (fun g hg => by simp [Value.ownBlock] at hg; omega)⟩

end Go.Proofs.YtbakngbmfgnmcaaDoor
