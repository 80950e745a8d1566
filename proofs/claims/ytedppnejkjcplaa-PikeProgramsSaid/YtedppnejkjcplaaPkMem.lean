/-
  CHAPTER 12, MEMORY: rows of one's own side by side; the search's object.
-/
import Derived.Test.YtedppnejkjcplaaPkTurn
import Derived.Test.YtedppnejkjcplaaOwnB
import Derived.WalkSmall
import Derived.Laws.OwnMore
namespace Go.Proofs.Ytedppnejkjcplaa
open Go.RowKit
open Me
namespace Pk
open Rx (In)

def iv (l : List Int) : List Value := l.map fun n => .int .i64 n
theorem iv_len (l : List Int) : (iv l).length = l.length := by unfold iv; simp
theorem iv_append (a b : List Int) : iv (a ++ b) = iv a ++ iv b := by unfold iv; simp
theorem iv_get (l : List Int) (j : Nat) (h : j < l.length) : (iv l)[j]? = some (.int .i64 l[j]) := by unfold iv; simp [h]
theorem iv_set (l : List Int) (j : Nat) (n : Int) : (iv l).set j (.int .i64 n) = iv (l.set j n) := by unfold iv; rw [List.map_set]
theorem iv_one (l : List Int) : ∀ u ∈ iv l, u.oneCell' = true := by
  intro u hu
  obtain ⟨n, _, rfl⟩ := List.mem_map.1 hu
  rfl
/-- An instruction's cells. -/
def icell (x : In) : List Value := [.int .i64 x.op, .int .i64 x.x, .int .i64 x.y, .string ⟨x.p.toArray⟩]
def icells (l : List In) : List Value := l.flatMap icell
theorem flat_at {α : Type} (f : α → List Value) (k : Nat) (hf : ∀ a, (f a).length = k) (l : List α) (i j : Nat) (hi : i < l.length) (hj : j < k) : (l.flatMap f)[i * k + j]? = (f l[i])[j]? := by
  induction l generalizing i with
  | nil => cases hi
  | cons a l ih =>
    rw [List.flatMap_cons]
    cases i with
    | zero =>
      rw [Nat.zero_mul, Nat.zero_add, List.getElem?_append_left (by rw [hf]; exact hj)]
      rfl
    | succ i =>
      have e : (i + 1) * k + j = (f a).length + (i * k + j) := by rw [hf, Nat.add_mul, Nat.one_mul]; omega
      rw [e, List.getElem?_append_right (by omega), Nat.add_sub_cancel_left]
      exact ih i (by simpa using hi)
theorem flat_len {α : Type} (f : α → List Value) (k : Nat) (hf : ∀ a, (f a).length = k) (l : List α) : (l.flatMap f).length = l.length * k := by
  induction l with
  | nil => simp
  | cons a l ih => rw [List.flatMap_cons, List.length_append, hf, ih, List.length_cons, Nat.add_mul, Nat.one_mul]; omega
/-- A turn's cells. -/
def tcell (a : Tn) : List Value := [.int .i64 a.head, .bool a.back, .int .i64 a.num, .int .i64 a.off]
def tcells (l : List Tn) : List Value := l.flatMap tcell
theorem tcells_len (l : List Tn) : (tcells l).length = l.length * 4 := flat_len tcell 4 (fun _ => rfl) l
theorem tcells_append (l m : List Tn) : tcells (l ++ m) = tcells l ++ tcells m := by unfold tcells; rw [List.flatMap_append]
theorem tcells_one (a : Tn) : ∀ u ∈ tcell a, u.oneCell' = true := by
  intro u hu
  unfold tcell at hu
  simp at hu
  rcases hu with rfl | rfl | rfl | rfl <;> rfl

/-! ## rows of one's own, side by side -/
structure Ow where
  e : TypeId
  size : Nat
  v : Value
  n : Nat
  xs : List Value
def Ow.at_ (o : Ow) (w : World) (base : Nat) : Prop := w.ownsRow base o.e o.size o.v o.n o.xs
def Apart (a b : Value) : Prop := ∀ g, a.ownBlock = some g → b.ownBlock ≠ some g
structure Own (w : World) (base sb : Nat) (l : List Ow) : Prop where
  each : ∀ o ∈ l, o.at_ w base
  apart : l.Pairwise fun a b => Apart a.v b.v
  ne : ∀ o ∈ l, o.v.ownBlock ≠ some sb
  le : base ≤ sb
theorem Own.keep {w w' : World} {base sb : Nat} {l : List Ow} (h : Own w base sb l) (hk : ∀ g, base ≤ g → g < w.heap.size → g ≠ sb → w'.heap[g]? = w.heap[g]?) : Own w' base sb l :=
  ⟨fun o ho => owns_keep (h.each o ho) fun g hg => hk g (World.ownsRow.lt (h.each o ho) g hg).1 (World.ownsRow.lt (h.each o ho) g hg).2 (fun e => h.ne o ho (by rw [hg, e])), h.apart, h.ne, h.le⟩
theorem Own.step {w w' : World} {base sb : Nat} {l1 l2 : List Ow} {x : Ow} (x' : Ow) (h : Own w base sb (l1 ++ x :: l2)) (hsb : sb < w.heap.size) (hk : ∀ g, base ≤ g → g < w.heap.size → g ≠ sb → x.v.ownBlock ≠ some g → w'.heap[g]? = w.heap[g]?) (hx : x'.at_ w' base)
    (hb : ∀ g, x'.v.ownBlock = some g → x.v.ownBlock = some g ∨ w.heap.size ≤ g) : Own w' base sb (l1 ++ x' :: l2) := by
  have hp := List.pairwise_append.1 h.apart
  have hp2 := List.pairwise_cons.1 hp.2.1
  have hlt : ∀ o ∈ l1 ++ x :: l2, ∀ g, o.v.ownBlock = some g → base ≤ g ∧ g < w.heap.size := fun o ho g hg => World.ownsRow.lt (h.each o ho) g hg
  have m1 : ∀ o ∈ l1, o ∈ l1 ++ x :: l2 := fun o ho => List.mem_append_left _ ho
  have m2 : ∀ o ∈ l2, o ∈ l1 ++ x :: l2 := fun o ho => List.mem_append_right _ (List.mem_cons_of_mem _ ho)
  have m3 : x ∈ l1 ++ x :: l2 := List.mem_append_right _ List.mem_cons_self
  have a1 : ∀ o ∈ l1, ∀ g, o.v.ownBlock = some g → x.v.ownBlock ≠ some g := fun o ho g hg => hp.2.2 o ho x List.mem_cons_self g hg
  have a2 : ∀ o ∈ l2, ∀ g, o.v.ownBlock = some g → x.v.ownBlock ≠ some g := fun o ho g hg e => hp2.1 o ho g e hg
  have keep : ∀ o, o ∈ l1 ++ x :: l2 → (∀ g, o.v.ownBlock = some g → x.v.ownBlock ≠ some g) → o.at_ w' base := fun o ho ha => owns_keep (h.each o ho) fun g hg => hk g (hlt o ho g hg).1 (hlt o ho g hg).2 (fun e => h.ne o ho (by rw [hg, e])) (ha g hg)
  refine ⟨?_, List.pairwise_append.2 ⟨hp.1, List.pairwise_cons.2 ⟨?_, hp2.2⟩, ?_⟩, ?_, h.le⟩
  · intro o ho
    rcases List.mem_append.1 ho with ho | ho
    · exact keep o (m1 o ho) (a1 o ho)
    · rcases List.mem_cons.1 ho with rfl | ho
      · exact hx
      · exact keep o (m2 o ho) (a2 o ho)
  · intro o ho g hg he
    rcases hb g hg with h1 | h1
    · exact a2 o ho g he h1
    · have := (hlt o (m2 o ho) g he).2; omega
  · intro o ho y hy g hg he
    rcases List.mem_cons.1 hy with rfl | hy
    · rcases hb g he with h1 | h1
      · exact a1 o ho g hg h1
      · have := (hlt o (m1 o ho) g hg).2; omega
    · exact hp.2.2 o ho y (List.mem_cons_of_mem _ hy) g hg he
  · intro o ho
    rcases List.mem_append.1 ho with ho | ho
    · exact h.ne o (m1 o ho)
    · rcases List.mem_cons.1 ho with rfl | ho
      · intro e
        rcases hb sb e with h1 | h1
        · exact h.ne x m3 h1
        · omega
      · exact h.ne o (m2 o ho)

/-! ## the search's object -/
structure Cs where
  b0 : Nat
  pa : Option Addr
  pc : Nat
  dv : Value
  bv : Value
  no : Value
  nh : Value
  xo : Value
  xh : Value
  tv : Value
  fv : Value
  L : List In
  t : List UInt8
  wd : Nat
  dn : List Int
  bl : List Int
  nofs : List Int
  nhds : List Int
  xofs : List Int
  xhds : List Int
  ts : List Tn
  fl : List Int
def intT : TypeId := 3
def turnT : TypeId := 111
def oi (v : Value) (l : List Int) : Ow := ⟨intT, 1, v, l.length, iv l⟩
def Cs.cells (c : Cs) : Array Value := #[.slice c.pa c.L.length c.pc, .string ⟨c.t.toArray⟩, c.dv, c.bv, .int .i64 c.wd, c.no, c.nh, .int .i64 c.wd, c.xo, c.xh, c.tv, c.fv]
def Cs.own (c : Cs) : List Ow := [oi c.dv c.dn, oi c.bv c.bl, oi c.no c.nofs, oi c.nh c.nhds, oi c.xo c.xofs, oi c.xh c.xhds, ⟨turnT, 4, c.tv, c.ts.length, tcells c.ts.reverse⟩, oi c.fv c.fl]
/-- The search in memory: sb its own block, what it owns in other blocks from b0 on, the program ahead of them. -/
structure Se (W : World) (sb : Nat) (c : Cs) : Prop where
  row : RowAt W sb 71 c.cells
  own : Own W c.b0 sb c.own
  prog : Rd W (fun i => i < c.b0) c.pa (icells c.L)
  dlen : c.dn.length = c.L.length
  bL : c.L.length ≤ 4096
  bt : c.t.length ≤ 1048576
  bw : c.wd ≤ 4096
  tw : 2 ≤ c.wd
  fit : Fit c.wd c.ts
theorem Rd.lower {W W' : World} {sb : Nat} {A : Option Addr} {xs : List Value} (h : Rd W (fun i => i < sb) A xs) (hb : Below sb W W') : Rd W' (fun i => i < sb) A xs :=
  h.keep hb.size fun i _ hi => hb.block i hi
def exe (dn : List Int) (k : Nat) : Nat → Bool := fun p => decide (dn[p]? = some ((k : Int) + 1))
theorem exe_set (dn : List Int) (k p : Nat) (hp : p < dn.length) : exe (dn.set p ((k : Int) + 1)) k = mark (exe dn k) p := by
  funext q
  unfold exe mark
  rw [List.getElem?_set]
  by_cases e : p = q
  · subst e
    simp [hp]
  · have : ¬ q = p := fun h => e h.symm
    simp [e, this]
theorem own_form {w : World} {base : Nat} {e : TypeId} {size n : Nat} {v : Value} {xs : List Value} (h : w.ownsRow base e size v n xs) : ∃ A c, v = .slice A n c := by
  rcases h.2 with ⟨rfl, h0⟩ | ⟨g', cap, cur, rfl, _⟩
  · exact ⟨none, 0, by rw [h0]⟩
  · exact ⟨_, _, rfl⟩
/-- A row that has something lies in a block. -/
theorem own_some {w : World} {base : Nat} {e : TypeId} {size n : Nat} {v : Value} {xs : List Value} (h : w.ownsRow base e size v n xs) (hn : 0 < n) : ∃ g c, v = .slice (some ⟨g, 0, none⟩) n c ∧ base ≤ g ∧ g < w.heap.size := by
  rcases h.2 with ⟨rfl, h0⟩ | ⟨g', cap, cur, rfl, hb, hg, _⟩
  · omega
  · exact ⟨_, _, rfl, hb, (Array.getElem?_eq_some_iff.1 hg).1⟩
section
variable {W W' : World} {sb : Nat} {c : Cs}
theorem Se.odn (h : Se W sb c) : W.ownsRow c.b0 intT 1 c.dv c.dn.length (iv c.dn) := h.own.each (oi c.dv c.dn) (by unfold Cs.own; simp)
theorem Se.obl (h : Se W sb c) : W.ownsRow c.b0 intT 1 c.bv c.bl.length (iv c.bl) := h.own.each (oi c.bv c.bl) (by unfold Cs.own; simp)
theorem Se.ono (h : Se W sb c) : W.ownsRow c.b0 intT 1 c.no c.nofs.length (iv c.nofs) := h.own.each (oi c.no c.nofs) (by unfold Cs.own; simp)
theorem Se.onh (h : Se W sb c) : W.ownsRow c.b0 intT 1 c.nh c.nhds.length (iv c.nhds) := h.own.each (oi c.nh c.nhds) (by unfold Cs.own; simp)
theorem Se.oxo (h : Se W sb c) : W.ownsRow c.b0 intT 1 c.xo c.xofs.length (iv c.xofs) := h.own.each (oi c.xo c.xofs) (by unfold Cs.own; simp)
theorem Se.oxh (h : Se W sb c) : W.ownsRow c.b0 intT 1 c.xh c.xhds.length (iv c.xhds) := h.own.each (oi c.xh c.xhds) (by unfold Cs.own; simp)
theorem Se.otv (h : Se W sb c) : W.ownsRow c.b0 turnT 4 c.tv c.ts.length (tcells c.ts.reverse) := h.own.each ⟨turnT, 4, c.tv, c.ts.length, tcells c.ts.reverse⟩ (by unfold Cs.own; simp)
theorem Se.ofv (h : Se W sb c) : W.ownsRow c.b0 intT 1 c.fv c.fl.length (iv c.fl) := h.own.each (oi c.fv c.fl) (by unfold Cs.own; simp)
theorem Se.le (h : Se W sb c) : c.b0 ≤ sb := h.own.le
theorem Se.dvne (h : Se W sb c) : c.dv.ownBlock ≠ some sb := h.own.ne (oi c.dv c.dn) (by unfold Cs.own; simp)
theorem Se.bvne (h : Se W sb c) : c.bv.ownBlock ≠ some sb := h.own.ne (oi c.bv c.bl) (by unfold Cs.own; simp)
theorem Se.none_ (h : Se W sb c) : c.no.ownBlock ≠ some sb := h.own.ne (oi c.no c.nofs) (by unfold Cs.own; simp)
theorem Se.nhne (h : Se W sb c) : c.nh.ownBlock ≠ some sb := h.own.ne (oi c.nh c.nhds) (by unfold Cs.own; simp)
theorem Se.xone (h : Se W sb c) : c.xo.ownBlock ≠ some sb := h.own.ne (oi c.xo c.xofs) (by unfold Cs.own; simp)
theorem Se.xhne (h : Se W sb c) : c.xh.ownBlock ≠ some sb := h.own.ne (oi c.xh c.xhds) (by unfold Cs.own; simp)
theorem Se.tvne (h : Se W sb c) : c.tv.ownBlock ≠ some sb := h.own.ne ⟨turnT, 4, c.tv, c.ts.length, tcells c.ts.reverse⟩ (by unfold Cs.own; simp)
theorem Se.fvne (h : Se W sb c) : c.fv.ownBlock ≠ some sb := h.own.ne (oi c.fv c.fl) (by unfold Cs.own; simp)
theorem Se.lt (h : Se W sb c) : sb < W.heap.size := h.row.lt
theorem Se.cell (h : Se W sb c) (i : Nat) : W.cell? ⟨sb, i, none⟩ = c.cells[i]? := h.row.cell i
/-- New blocks change nothing. -/
theorem Se.keep (h : Se W sb c) (hb : Below W.heap.size W W') : Se W' sb c :=
  ⟨h.row.below hb h.lt, h.own.keep fun g _ hg _ => hb.block g hg, h.prog.keep hb.size (fun i hi _ => hb.block i hi), h.dlen, h.bL, h.bt, h.bw, h.tw, h.fit⟩
/-- What was executed is marked. -/
theorem Se.mark (h : Se W sb c) {g cap : Nat} (hv : c.dv = .slice (some ⟨g, 0, none⟩) c.dn.length cap) (p : Nat) (n : Int) : Se (W.setCell ⟨g, p, none⟩ (.int .i64 n)) sb { c with dn := c.dn.set p n } := by
  have ho := h.odn
  have hg := World.ownsRow.lt ho g (by rw [hv]; rfl)
  have hgn : g ≠ sb := fun e => h.dvne (by rw [hv, ← e]; rfl)
  have hb : Below c.b0 W (W.setCell ⟨g, p, none⟩ (.int .i64 n)) := (Below.refl c.b0 W).setCell (by show c.b0 ≤ g; omega) _
  refine ⟨h.row.far (by show sb ≠ g; omega) _, ?_, Rd.lower h.prog hb, by rw [← h.dlen]; simp, h.bL, h.bt, h.bw, h.tw, h.fit⟩
  refine Own.step (l1 := []) (x := oi c.dv c.dn) (oi c.dv (c.dn.set p n)) h.own h.lt ?_ ?_ (fun g h => .inl h)
  · intro g' _ _ _ hne
    refine Below.heap_setCell W _ _ g' ?_
    intro e
    apply hne
    show c.dv.ownBlock = some g'
    rw [hv, e]
    rfl
  · show World.ownsRow _ c.b0 intT 1 c.dv (c.dn.set p n).length (iv (c.dn.set p n))
    rw [List.length_set, ← iv_set, hv]
    rw [hv] at ho
    exact (World.ownsRow.stored ho p (.int .i64 n)).1
end
end Pk
end Go.Proofs.Ytedppnejkjcplaa
