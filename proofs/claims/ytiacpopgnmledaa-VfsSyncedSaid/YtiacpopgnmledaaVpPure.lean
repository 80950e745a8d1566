/-
  THE PLAIN MATHEMATICS of files: what is undone against what is played again.
-/
import Derived.Test.YtiacpopgnmledaaVrSound
import Derived.Test.YtiacpopgnmledaaVrRead
namespace Go.Proofs.Ytiacpopgnmledaa
namespace Vp
open Vf

def look : List Fl → List UInt8 → Option (List UInt8)
  | [], _ => none
  | f :: r, n => if f.name = n then some f.b else look r n
def Uniq (l : List Fl) : Prop := l.Pairwise (fun f g => f.name ≠ g.name)

theorem ixFrom_look (n : List UInt8) : ∀ (l : List Fl) (k : Nat), (look l n = none ∧ ixFrom n k l = -1) ∨ ∃ j, ∃ h : j < l.length, ixFrom n k l = ((k + j : Nat) : Int) ∧ look l n = some l[j].b ∧ l[j].name = n
  | [], _ => .inl ⟨rfl, rfl⟩
  | f :: r, k => by
    by_cases e : f.name = n
    · refine .inr ⟨0, by simp, ?_, ?_, e⟩
      · rw [ixFrom, if_pos (by simpa using e)]; simp
      · rw [look, if_pos e]; rfl
    · have e1 : ixFrom n k (f :: r) = ixFrom n (k + 1) r := by rw [ixFrom, if_neg (by simpa using e)]
      have e2 : look (f :: r) n = look r n := by rw [look, if_neg e]
      rw [e1, e2]
      rcases ixFrom_look n r (k + 1) with h | ⟨j, hj, h1, h2, h3⟩
      · exact .inl h
      · exact .inr ⟨j + 1, by simpa using hj, by rw [h1]; congr 1; omega, by simpa using h2, by simpa using h3⟩
theorem ix_none {l : List Fl} {n : List UInt8} (h : look l n = none) : ix l n = -1 := by
  rcases ixFrom_look n l 0 with h1 | ⟨j, hj, h1, h2, h3⟩
  · exact h1.2
  · rw [h] at h2; cases h2
theorem ix_some {l : List Fl} {n b : List UInt8} (h : look l n = some b) : ¬ ix l n < 0 ∧ bytesAt l n = b := by
  rcases ixFrom_look n l 0 with h1 | ⟨j, hj, h1, h2, h3⟩
  · rw [h] at h1; cases h1.1
  · have e : ix l n = (j : Int) := by rw [ix, h1]; congr 1; omega
    rw [h] at h2
    refine ⟨by omega, ?_⟩
    unfold bytesAt
    rw [e]
    simp [hj]
    exact (Option.some.inj h2).symm
theorem look_mem {l : List Fl} {n b : List UInt8} (h : look l n = some b) : ∃ f ∈ l, f.name = n ∧ f.b = b := by
  induction l with
  | nil => cases h
  | cons f r ih =>
    by_cases e : f.name = n
    · rw [look, if_pos e] at h; exact ⟨f, by simp, e, Option.some.inj h⟩
    · rw [look, if_neg e] at h
      obtain ⟨g, hg, h1⟩ := ih h
      exact ⟨g, by simp [hg], h1⟩
theorem look_used {l : List Fl} {n b : List UInt8} (h : look l n = some b) : b.length ≤ Vf.used l := by
  obtain ⟨f, hf, _, rfl⟩ := look_mem h
  exact used_mem hf

theorem look_append (l m : List Fl) (n : List UInt8) : look (l ++ m) n = (look l n).or (look m n) := by
  induction l with
  | nil => simp [look]
  | cons f r ih =>
    rw [List.cons_append, look, look]
    split
    · simp
    · exact ih
def wr (n : List UInt8) (o : Nat) (b : List UInt8) (f : Fl) : Fl := if f.name = n then ⟨f.name, upd f.b o b⟩ else f
theorem wr_name (n : List UInt8) (o : Nat) (b : List UInt8) (f : Fl) : (wr n o b f).name = f.name := by unfold wr; split <;> rfl
theorem look_wr (n : List UInt8) (o : Nat) (b : List UInt8) (l : List Fl) (m : List UInt8) : look (l.map (wr n o b)) m = if m = n then (look l m).map (fun x => upd x o b) else look l m := by
  induction l with
  | nil => simp [look]
  | cons f r ih =>
    rw [List.map_cons, look, look, wr_name]
    by_cases e : f.name = m
    · rw [if_pos e, if_pos e]
      by_cases e2 : m = n
      · subst e; subst e2; simp [wr]
      · rw [if_neg e2]; unfold wr; rw [if_neg (by rw [e]; exact e2)]
    · rw [if_neg e, if_neg e, ih]
theorem look_out (n : List UInt8) (l : List Fl) (m : List UInt8) : look (l.filter (fun f => decide (f.name ≠ n))) m = if m = n then none else look l m := by
  induction l with
  | nil => simp [look]
  | cons f r ih =>
    rw [List.filter_cons]
    by_cases e : f.name = n
    · simp only [e, ne_eq, not_true_eq_false, decide_false, Bool.false_eq_true, if_false]
      rw [ih, look]
      by_cases e2 : m = n
      · rw [if_pos e2, if_pos e2]
      · rw [if_neg e2, if_neg e2, if_neg (by rw [e]; exact fun h => e2 h.symm)]
    · simp only [ne_eq, e, not_false_eq_true, decide_true, if_true]
      rw [look, look, ih]
      by_cases e2 : f.name = m
      · rw [if_pos e2, if_pos e2, if_neg (by rw [← e2]; exact e)]
      · rw [if_neg e2, if_neg e2]
theorem look_absent {l : List Fl} {n : List UInt8} (h : ∀ f ∈ l, f.name ≠ n) : look l n = none := by
  cases hl : look l n with
  | none => rfl
  | some b =>
    obtain ⟨f, hf, e, _⟩ := look_mem hl
    exact absurd e (h f hf)
theorem look_none_mem {l : List Fl} {n : List UInt8} (h : look l n = none) : ∀ f ∈ l, f.name ≠ n := by
  induction l with
  | nil => intro f hf; cases hf
  | cons g r ih =>
    by_cases e : g.name = n
    · rw [look, if_pos e] at h; cases h
    · rw [look, if_neg e] at h
      intro f hf
      rcases List.mem_cons.1 hf with rfl | hf
      · exact e
      · exact ih h f hf

/-! what an act does, by its kind -/
theorem goes_past (a : Ac) (i : Int) : ∀ (l : List Fl) (k : Nat), i < (k : Int) → goes a i k l = l
  | [], _, _ => rfl
  | x :: r, k, h => by
    rw [goes, goes_past a i r (k + 1) (by omega)]
    unfold one
    rw [if_neg (fun hh => by omega), if_neg (fun hh => by omega)]
    rfl
theorem goes_one (a : Ac) (h1 : a.kind ≠ 2) (h2 : a.kind ≠ 3) (i : Int) : ∀ (l : List Fl) (k : Nat), goes a i k l = l
  | [], _ => rfl
  | x :: r, k => by
    rw [goes, goes_one a h1 h2 i r (k + 1)]
    unfold one
    rw [if_neg (fun hh => h1 hh.2), if_neg (fun hh => h2 hh.2)]
    rfl
theorem ixFrom_ge (n : List UInt8) (l : List Fl) (k : Nat) : ixFrom n k l = -1 ∨ (k : Int) ≤ ixFrom n k l := by
  rcases ixFrom_look n l k with h | ⟨j, _, h, _⟩
  · exact .inl h.2
  · exact .inr (by omega)
theorem goes_two (a : Ac) (h2 : a.kind = 2) : ∀ (l : List Fl) (k : Nat), Uniq l → goes a (ixFrom a.name k l) k l = l.map (wr a.name a.off a.p)
  | [], _, _ => rfl
  | x :: r, k, hu => by
    obtain ⟨hx, hr⟩ := List.pairwise_cons.1 hu
    by_cases e : x.name = a.name
    · have e1 : ixFrom a.name k (x :: r) = (k : Int) := by rw [ixFrom, if_pos (by simpa using e)]
      rw [e1, goes, goes_past a _ r (k + 1) (by omega), List.map_cons]
      have er : r.map (wr a.name a.off a.p) = r := by
        conv => rhs; rw [← List.map_id r]
        apply List.map_congr_left
        intro f hf
        unfold wr
        rw [if_neg (fun h => hx f hf (by rw [e, h]))]
        rfl
      rw [er]
      unfold one wr
      rw [if_pos ⟨rfl, h2⟩, if_pos e]
      rfl
    · have e1 : ixFrom a.name k (x :: r) = ixFrom a.name (k + 1) r := by rw [ixFrom, if_neg (by simpa using e)]
      have hg := ixFrom_ge a.name r (k + 1)
      rw [e1, goes, goes_two a h2 r (k + 1) hr, List.map_cons]
      unfold one
      rw [if_neg (fun hh => by omega), if_neg (fun hh => by omega)]
      unfold wr
      rw [if_neg e]
      rfl
theorem goes_three (a : Ac) (h3 : a.kind = 3) : ∀ (l : List Fl) (k : Nat), Uniq l → goes a (ixFrom a.name k l) k l = l.filter (fun f => decide (f.name ≠ a.name))
  | [], _, _ => rfl
  | x :: r, k, hu => by
    obtain ⟨hx, hr⟩ := List.pairwise_cons.1 hu
    by_cases e : x.name = a.name
    · have e1 : ixFrom a.name k (x :: r) = (k : Int) := by rw [ixFrom, if_pos (by simpa using e)]
      rw [e1, goes, goes_past a _ r (k + 1) (by omega), List.filter_cons]
      have er : r.filter (fun f => decide (f.name ≠ a.name)) = r := by
        apply List.filter_eq_self.2
        intro f hf
        simp only [ne_eq, decide_eq_true_eq]
        exact fun h => hx f hf (by rw [e, h])
      rw [er]
      unfold one
      rw [if_neg (fun hh => by have := hh.2; omega), if_pos ⟨rfl, h3⟩]
      simp [e]
    · have e1 : ixFrom a.name k (x :: r) = ixFrom a.name (k + 1) r := by rw [ixFrom, if_neg (by simpa using e)]
      have hg := ixFrom_ge a.name r (k + 1)
      rw [e1, goes, goes_three a h3 r (k + 1) hr, List.filter_cons]
      unfold one
      rw [if_neg (fun hh => by omega), if_neg (fun hh => by omega)]
      simp [e]
theorem does_one (l : List Fl) (n : List UInt8) (o : Nat) (b : List UInt8) : does l ⟨1, n, o, b⟩ = l ++ [⟨n, b⟩] := by
  unfold does
  rw [goes_one _ (show (1 : Int) ≠ 2 by decide) (show (1 : Int) ≠ 3 by decide)]
  rfl
theorem does_two (l : List Fl) (hu : Uniq l) (n : List UInt8) (o : Nat) (b : List UInt8) : does l ⟨2, n, o, b⟩ = l.map (wr n o b) := by
  unfold does ix
  rw [goes_two ⟨2, n, o, b⟩ rfl l 0 hu]
  simp
theorem does_three (l : List Fl) (hu : Uniq l) (n : List UInt8) (o : Nat) (b : List UInt8) : does l ⟨3, n, o, b⟩ = l.filter (fun f => decide (f.name ≠ n)) := by
  unfold does ix
  rw [goes_three ⟨3, n, o, b⟩ rfl l 0 hu]
  simp
theorem uniq_one {l : List Fl} (hu : Uniq l) {n b : List UInt8} (h : look l n = none) : Uniq (l ++ [⟨n, b⟩]) := by
  refine List.pairwise_append.2 ⟨hu, by simp, fun f hf g hg => ?_⟩
  rw [List.mem_singleton] at hg
  subst hg
  exact look_none_mem h f hf
theorem uniq_two {l : List Fl} (hu : Uniq l) (n : List UInt8) (o : Nat) (b : List UInt8) : Uniq (l.map (wr n o b)) := by
  refine List.pairwise_map.2 (hu.imp fun {f g} h => ?_)
  rw [wr_name, wr_name]
  exact h
theorem uniq_three {l : List Fl} (hu : Uniq l) (n : List UInt8) : Uniq (l.filter (fun f => decide (f.name ≠ n))) := List.Pairwise.filter _ hu
theorem used_two (n : List UInt8) (o : Nat) (b : List UInt8) : ∀ (l : List Fl), Uniq l → (∀ x, look l n = some x → o + b.length ≤ x.length) → Vf.used (l.map (wr n o b)) = Vf.used l
  | [], _, _ => rfl
  | f :: r, hu, h => by
    obtain ⟨hx, hr⟩ := List.pairwise_cons.1 hu
    rw [List.map_cons, used_cons, used_cons]
    by_cases e : f.name = n
    · have h1 := h f.b (by rw [look, if_pos e])
      have er : r.map (wr n o b) = r := by
        conv => rhs; rw [← List.map_id r]
        apply List.map_congr_left
        intro g hg
        unfold wr
        rw [if_neg (fun h => hx g hg (by rw [e, h]))]
        rfl
      rw [er]
      unfold wr
      rw [if_pos e]
      show (upd f.b o b).length + _ = _
      rw [upd_len h1]
    · rw [used_two n o b r hr (fun x hx => h x (by rw [look, if_neg e]; exact hx))]
      unfold wr
      rw [if_neg e]
theorem used_three (n : List UInt8) : ∀ (l : List Fl), Uniq l → Vf.used (l.filter (fun f => decide (f.name ≠ n))) + ((look l n).getD []).length = Vf.used l
  | [], _ => rfl
  | f :: r, hu => by
    obtain ⟨hx, hr⟩ := List.pairwise_cons.1 hu
    rw [List.filter_cons, used_cons, look]
    by_cases e : f.name = n
    · have er : r.filter (fun f => decide (f.name ≠ n)) = r := by
        apply List.filter_eq_self.2
        intro g hg
        simp only [ne_eq, decide_eq_true_eq]
        exact fun h => hx g hg (by rw [e, h])
      rw [er]
      simp [e]
      omega
    · have := used_three n r hr
      simp [e, used_cons] at this ⊢
      omega

/-! the program's own files -/
structure Op where
  kind : Int
  on : Nat
  at_ : Nat
  old : List UInt8
structure Co where
  map : List UInt8 → Option Nat
  sto : Nat → Fl
  used : Int
def setM (m : List UInt8 → Option Nat) (n : List UInt8) (v : Option Nat) : List UInt8 → Option Nat := fun x => if x = n then v else m x
def setS (s : Nat → Fl) (i : Nat) (f : Fl) : Nat → Fl := fun x => if x = i then f else s x
theorem setM_same (m : List UInt8 → Option Nat) (n : List UInt8) (v : Option Nat) : setM m n v n = v := by simp [setM]
theorem setM_back (m : List UInt8 → Option Nat) (n : List UInt8) (v u : Option Nat) (h : m n = u) : setM (setM m n v) n u = m := by
  funext x
  unfold setM
  by_cases e : x = n
  · rw [if_pos e, e, h]
  · rw [if_neg e, if_neg e]
theorem setS_same (s : Nat → Fl) (i : Nat) (f : Fl) : setS s i f i = f := by simp [setS]
theorem setS_back (s : Nat → Fl) (i : Nat) (f : Fl) : setS (setS s i f) i (s i) = s := by
  funext x
  unfold setS
  by_cases e : x = i
  · rw [if_pos e, e]
  · rw [if_neg e, if_neg e]
theorem setS_twice (s : Nat → Fl) (i : Nat) (f g : Fl) : setS (setS s i f) i g = setS s i g := by
  funext x
  unfold setS
  by_cases e : x = i
  · rw [if_pos e, if_pos e]
  · rw [if_neg e, if_neg e, if_neg e]
def Co.put (c : Co) (id : Nat) : Co := ⟨setM c.map (c.sto id).name (some id), c.sto, c.used + (c.sto id).b.length⟩
def Co.drop (c : Co) (id : Nat) : Co := ⟨setM c.map (c.sto id).name none, c.sto, c.used - (c.sto id).b.length⟩
def Co.lay (c : Co) (id : Nat) (f : Fl) : Co := ⟨c.map, setS c.sto id f, c.used⟩
def Co.over (c : Co) (id : Nat) (o : Nat) (b : List UInt8) : Co := c.lay id ⟨(c.sto id).name, upd (c.sto id).b o b⟩
def stay (o : Op) (m : Int) : Nat := (min (max m 0) (o.old.length : Int)).toNat
def Co.undo (c : Co) (o : Op) (m : Int) : Co := if o.kind = 1 then c.drop o.on else if o.kind = 2 then c.over o.on (o.at_ + stay o m) (o.old.drop (stay o m)) else c.put o.on

structure View (c : Co) (l : List Fl) : Prop where
  look : ∀ n, (c.map n).map (fun id => (c.sto id).b) = look l n
  name : ∀ n id, c.map n = some id → (c.sto id).name = n
  used : c.used = (Vf.used l : Int)
  uniq : Uniq l
theorem View.agree {c : Co} {l : List Fl} (h : View c l) {I : Nat → Prop} (hI : ∀ n id, c.map n = some id → I id) {s : Nat → Fl} (hs : ∀ id, I id → s id = c.sto id) : View ⟨c.map, s, c.used⟩ l := by
  refine ⟨fun n => ?_, fun n id e => ?_, h.used, h.uniq⟩
  · rw [← h.look n]
    show (c.map n).map (fun id => (s id).b) = _
    cases e : c.map n with
    | none => rfl
    | some id => simp [hs id (hI n id e)]
  · show (s id).name = n
    rw [hs id (hI n id e)]
    exact h.name n id e
theorem View.none_ {c : Co} {l : List Fl} (h : View c l) {n : List UInt8} (e : c.map n = none) : Vp.look l n = none := by rw [← h.look n, e]; rfl
theorem View.some_ {c : Co} {l : List Fl} (h : View c l) {n : List UInt8} {id : Nat} (e : c.map n = some id) : Vp.look l n = some (c.sto id).b := by rw [← h.look n, e]; rfl
theorem View.make {c : Co} {l : List Fl} (h : View c l) {n b : List UInt8} {id : Nat} (hn : c.map n = none) (hid : ∀ m i, c.map m = some i → i ≠ id) : View ((c.lay id ⟨n, b⟩).put id) (does l ⟨1, n, 0, b⟩) := by
  have e0 : (c.lay id ⟨n, b⟩).sto id = ⟨n, b⟩ := setS_same _ _ _
  have hl := h.none_ hn
  rw [does_one]
  refine ⟨fun m => ?_, fun m i e => ?_, ?_, uniq_one h.uniq hl⟩
  · rw [look_append]
    show (setM c.map ((c.lay id ⟨n, b⟩).sto id).name (some id) m).map (fun i => ((c.lay id ⟨n, b⟩).sto i).b) = _
    rw [e0]
    unfold setM
    by_cases e : m = n
    · subst e
      simp [e0, hl, Vp.look]
    · simp only [e, if_false]
      have e2 : Vp.look [⟨n, b⟩] m = none := by rw [Vp.look, if_neg (fun h => e h.symm)]; rfl
      rw [e2, Option.or_none, ← h.look m]
      cases e3 : c.map m with
      | none => rfl
      | some i =>
        have : (c.lay id ⟨n, b⟩).sto i = c.sto i := by show setS c.sto id ⟨n, b⟩ i = _; unfold setS; rw [if_neg (hid m i e3)]
        simp [this]
  · have e : setM c.map ((c.lay id ⟨n, b⟩).sto id).name (some id) m = some i := e
    show ((c.lay id ⟨n, b⟩).sto i).name = m
    rw [e0] at e
    unfold setM at e
    by_cases e1 : m = n
    · subst e1
      simp at e
      subst e
      rw [e0]
    · simp only [e1, if_false] at e
      have : (c.lay id ⟨n, b⟩).sto i = c.sto i := by show setS c.sto id ⟨n, b⟩ i = _; unfold setS; rw [if_neg (hid m i e)]
      rw [this]
      exact h.name m i e
  · rw [used_append]
    show c.used + (((c.lay id ⟨n, b⟩).sto id).b.length : Int) = _
    rw [e0, h.used]
    simp [Vf.used]
theorem View.inj {c : Co} {l : List Fl} (h : View c l) {m n : List UInt8} {id : Nat} (e : c.map m = some id) (e2 : c.map n = some id) : m = n := (h.name m id e).symm.trans (h.name n id e2)
theorem View.over {c : Co} {l : List Fl} (h : View c l) {n b : List UInt8} {o id : Nat} (hn : c.map n = some id) (hf : o + b.length ≤ (c.sto id).b.length) : View (c.over id o b) (does l ⟨2, n, o, b⟩) := by
  rw [does_two l h.uniq]
  have hs : ∀ i, i ≠ id → (c.over id o b).sto i = c.sto i := fun i hi => by show setS c.sto id _ i = _; unfold setS; rw [if_neg hi]
  have h0 : (c.over id o b).sto id = ⟨(c.sto id).name, upd (c.sto id).b o b⟩ := setS_same _ _ _
  refine ⟨fun m => ?_, fun m i e => ?_, ?_, uniq_two h.uniq _ _ _⟩
  · rw [look_wr, ← h.look m]
    show (c.map m).map (fun i => ((c.over id o b).sto i).b) = _
    cases e : c.map m with
    | none => simp
    | some i =>
      by_cases e1 : m = n
      · subst e1
        rw [hn] at e
        obtain rfl := Option.some.inj e
        simp [h0]
      · have hi : i ≠ id := fun e2 => e1 (h.inj (e2 ▸ e) hn)
        simp [hs i hi, e1]
  · have e : c.map m = some i := e
    by_cases hi : i = id
    · subst hi
      rw [h0]
      exact h.name m i e
    · rw [hs i hi]
      exact h.name m i e
  · show c.used = _
    rw [h.used, used_two n o b l h.uniq (fun x hx => by rw [h.some_ hn] at hx; obtain rfl := Option.some.inj hx; exact hf)]
theorem View.drop {c : Co} {l : List Fl} (h : View c l) {n : List UInt8} {id : Nat} (hn : c.map n = some id) (o : Nat) (b : List UInt8) : View (c.drop id) (does l ⟨3, n, o, b⟩) := by
  rw [does_three l h.uniq]
  have hnm := h.name n id hn
  refine ⟨fun m => ?_, fun m i e => ?_, ?_, uniq_three h.uniq _⟩
  · rw [look_out, ← h.look m]
    show (setM c.map (c.sto id).name none m).map (fun i => (c.sto i).b) = _
    rw [hnm]
    unfold setM
    by_cases e : m = n
    · simp [e]
    · simp [e]
  · have e : setM c.map (c.sto id).name none m = some i := e
    rw [hnm] at e
    unfold setM at e
    by_cases e1 : m = n
    · simp [e1] at e
    · simp only [e1, if_false] at e
      exact h.name m i e
  · show c.used - ((c.sto id).b.length : Int) = _
    have := used_three n l h.uniq
    rw [h.some_ hn] at this
    have t2 : ((some (c.sto id).b).getD []).length = (c.sto id).b.length := rfl
    rw [t2] at this
    rw [h.used]
    omega

/-- What is pending, the latest first: undone one after another it leaves what was there. -/
inductive Hist (was : List Fl) : Co → List Op → List Ac → Prop
  | nil {c : Co} : View c was → Hist was c [] []
  | snoc {c : Co} {j : List Op} {l : List Ac} {o : Op} {a : Ac} : View c (rep was (l.reverse ++ [a])) → Hist was (c.undo o 0) j l → o.kind = a.kind → (o.kind = 1 ∨ o.kind = 2 ∨ o.kind = 3) →
      (o.kind = 2 → o.at_ + o.old.length ≤ (c.sto o.on).b.length ∧ o.old.length = a.p.length) → (o.kind = 2 → ∀ m, View (c.undo o m) (does (rep was l.reverse) (cut a m))) → Hist was c (o :: j) (a :: l)
theorem Hist.view {was : List Fl} {c : Co} {j : List Op} {l : List Ac} (h : Hist was c j l) : View c (rep was l.reverse) := by
  cases h with
  | nil h => exact h
  | snoc h _ _ _ _ _ => rw [List.reverse_cons]; exact h
theorem Hist.len {was : List Fl} {c : Co} {j : List Op} {l : List Ac} (h : Hist was c j l) : j.length = l.length := by
  induction h with
  | nil _ => rfl
  | snoc _ _ _ _ _ _ ih => simp [ih]
def Live (I : Nat → Prop) (c : Co) (j : List Op) : Prop := (∀ n id, c.map n = some id → I id) ∧ ∀ o ∈ j, I o.on
theorem Live.undo {I : Nat → Prop} {c : Co} {o : Op} {j : List Op} (h : Live I c (o :: j)) (m : Int) : Live I (c.undo o m) j := by
  refine ⟨fun n id e => ?_, fun o' ho => h.2 o' (by simp [ho])⟩
  unfold Co.undo at e
  split at e
  · have e : setM c.map (c.sto o.on).name none n = some id := e
    unfold setM at e
    split at e
    · cases e
    · exact h.1 n id e
  · split at e
    · exact h.1 n id e
    · have e : setM c.map (c.sto o.on).name (some o.on) n = some id := e
      unfold setM at e
      split at e
      · obtain rfl := Option.some.inj e
        exact h.2 o (by simp)
      · exact h.1 n id e
/-- The stores may part outside of what lives. -/
theorem Co.undo_agree {I : Nat → Prop} {c : Co} {o : Op} {s : Nat → Fl} (ho : I o.on) (hs : ∀ id, I id → s id = c.sto id) (m : Int) :
    ∃ s', (Co.undo ⟨c.map, s, c.used⟩ o m) = ⟨(c.undo o m).map, s', (c.undo o m).used⟩ ∧ ∀ id, I id → s' id = (c.undo o m).sto id := by
  have e := hs o.on ho
  unfold Co.undo
  split
  · exact ⟨s, by simp only [Co.drop, e], hs⟩
  · split
    · refine ⟨setS s o.on ⟨(s o.on).name, upd (s o.on).b (o.at_ + stay o m) (o.old.drop (stay o m))⟩, rfl, fun id hid => ?_⟩
      show setS s o.on _ id = setS c.sto o.on _ id
      unfold setS
      by_cases e2 : id = o.on
      · rw [if_pos e2, if_pos e2, e]
      · rw [if_neg e2, if_neg e2, hs id hid]
    · exact ⟨s, by simp only [Co.put, e], hs⟩
theorem Hist.agree {was : List Fl} {I : Nat → Prop} {c : Co} {j : List Op} {l : List Ac} (h : Hist was c j l) (hL : Live I c j) : ∀ {s : Nat → Fl}, (∀ id, I id → s id = c.sto id) → Hist was ⟨c.map, s, c.used⟩ j l := by
  induction h with
  | nil h => intro s hs; exact .nil (h.agree hL.1 hs)
  | @snoc c j l o a h1 h2 h3 h4 h5 h6 ih =>
    intro s hs
    have ho := hL.2 o (by simp)
    obtain ⟨s', e', hs'⟩ := Co.undo_agree ho hs 0
    refine .snoc (h1.agree hL.1 hs) ?_ h3 h4 (fun hk => ?_) (fun hk m => ?_)
    · rw [e']
      exact ih (hL.undo 0) hs'
    · show o.at_ + o.old.length ≤ (s o.on).b.length ∧ _
      rw [hs o.on ho]
      exact h5 hk
    · obtain ⟨s2, e2, hs2⟩ := Co.undo_agree ho hs m
      rw [e2]
      exact (h6 hk m).agree (hL.undo m).1 hs2

theorem upd_back {b p : List UInt8} {o s : Nat} (h : o + p.length ≤ b.length) (hs : s ≤ p.length) : upd (upd b o p) (o + s) (((b.drop o).take p.length).drop s) = upd b o (p.take s) := by
  have hl : (upd b o p).length = b.length := upd_len h
  have hd : (((b.drop o).take p.length).drop s).length = p.length - s := by simp; omega
  apply List.ext_getElem?
  intro i
  unfold upd at *
  simp only [List.getElem?_append, List.length_append, List.length_take, List.length_drop, List.getElem?_take, List.getElem?_drop]
  rcases Nat.lt_or_ge i o with h1 | h1
  · simp (disch := omega) only [if_pos]
    repeat (first | rw [if_pos (by omega)] | rfl)
  · rcases Nat.lt_or_ge i (o + s) with h2 | h2
    · have e1 : i < min (o + s) (min o b.length + p.length + (b.length - (o + p.length))) := by omega
      repeat (first | rw [if_pos (by omega)] | rw [if_neg (by omega)] | rfl)
    · rcases Nat.lt_or_ge i (o + p.length) with h3 | h3
      · repeat (first | rw [if_pos (by omega)] | rw [if_neg (by omega)] | rfl | (congr 1; omega))
      · repeat (first | rw [if_pos (by omega)] | rw [if_neg (by omega)] | rfl | (congr 1; omega))
theorem upd_nil (b : List UInt8) (o : Nat) : upd b o [] = b := by unfold upd; simp
end Vp
end Go.Proofs.Ytiacpopgnmledaa
