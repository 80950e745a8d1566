/-
  CHAPTER 12, MEMORY: the state between two offsets.
-/
import Derived.Test.YtedppnejkjcplaaPkFol
namespace Go.Proofs.Ytedppnejkjcplaa
open Go.RowKit Go.Sort
open Me
namespace Pk
open Rx (In)
theorem apart_symm {a b : Value} (h : Apart a b) : Apart b a := fun g hb ha => h g ha hb
theorem Own.perm {w : World} {base sb : Nat} {l l' : List Ow} (h : Own w base sb l) (p : l.Perm l') : Own w base sb l' :=
  ⟨fun o ho => h.each o (p.symm.subset ho), (p.pairwise_iff (fun h => apart_symm h)).1 h.apart, fun o ho => h.ne o (p.symm.subset ho), h.le⟩
/-- This offset's list and the next one's change places. -/
theorem Se.swapped {W : World} {sb : Nat} {c : Cs} (h : Se W sb c) {W2 : World} (hr : RowAt W2 sb 71 ({ c with no := c.xo, nh := c.xh, nofs := c.xofs, nhds := c.xhds, xo := c.no, xh := c.nh, xofs := c.nofs, xhds := c.nhds } : Cs).cells)
    (hk : ∀ g, g ≠ sb → W2.heap[g]? = W.heap[g]?) (hs : W2.heap.size = W.heap.size) : Se W2 sb { c with no := c.xo, nh := c.xh, nofs := c.xofs, nhds := c.xhds, xo := c.no, xh := c.nh, xofs := c.nofs, xhds := c.nhds } := by
  refine ⟨hr, ?_, ?_, h.dlen, h.bL, h.bt, h.bw, h.tw, h.fit⟩
  · have h1 := h.own.keep (w' := W2) fun g _ _ hg => hk g hg
    refine h1.perm ?_
    unfold Cs.own
    refine .cons _ (.cons _ ?_)
    have p : ∀ (a b x y : Ow) (r : List Ow), (a :: b :: x :: y :: r).Perm (x :: y :: a :: b :: r) := fun a b x y r => by
      have := List.perm_append_comm (l₁ := [a, b]) (l₂ := [x, y])
      exact this.append_right r
    exact p _ _ _ _ _
  · refine h.prog.keep (by omega) fun i hi hg => hk i (by have := h.le; have hg : i < c.b0 := hg; omega)
theorem set6 (a0 a1 a2 a3 a4 a5 a6 a7 a8 a9 a10 a11 v4 v5 v6 v7 v8 v9 : Value) : ((((((#[a0, a1, a2, a3, a4, a5, a6, a7, a8, a9, a10, a11].setIfInBounds 4 v4).setIfInBounds 5 v5).setIfInBounds 6 v6).setIfInBounds 7 v7).setIfInBounds 8 v8).setIfInBounds 9 v9) = #[a0, a1, a2, a3, v4, v5, v6, v7, v8, v9, a10, a11] := by
  simp [Array.setIfInBounds]
theorem Se.swap6 {W : World} {sb : Nat} {c : Cs} (h : Se W sb c) : Se ((((((W.setCell ⟨sb, 4, none⟩ (.int .i64 c.wd)).setCell ⟨sb, 5, none⟩ c.xo).setCell ⟨sb, 6, none⟩ c.xh).setCell ⟨sb, 7, none⟩ (.int .i64 c.wd)).setCell ⟨sb, 8, none⟩ c.no).setCell ⟨sb, 9, none⟩ c.nh).drew sb { c with no := c.xo, nh := c.xh, nofs := c.xofs, nhds := c.xhds, xo := c.no, xh := c.nh, xofs := c.nofs, xhds := c.nhds } ∧
    Below c.b0 W ((((((W.setCell ⟨sb, 4, none⟩ (.int .i64 c.wd)).setCell ⟨sb, 5, none⟩ c.xo).setCell ⟨sb, 6, none⟩ c.xh).setCell ⟨sb, 7, none⟩ (.int .i64 c.wd)).setCell ⟨sb, 8, none⟩ c.no).setCell ⟨sb, 9, none⟩ c.nh).drew := by
  have hb : Below c.b0 W ((((((W.setCell ⟨sb, 4, none⟩ (.int .i64 c.wd)).setCell ⟨sb, 5, none⟩ c.xo).setCell ⟨sb, 6, none⟩ c.xh).setCell ⟨sb, 7, none⟩ (.int .i64 c.wd)).setCell ⟨sb, 8, none⟩ c.no).setCell ⟨sb, 9, none⟩ c.nh) :=
    ((((((Below.refl c.b0 W).setCell h.le _).setCell h.le _).setCell h.le _).setCell h.le _).setCell h.le _).setCell h.le _
  have hr := (((((h.row.set_ 4 (.int .i64 c.wd)).set_ 5 c.xo).set_ 6 c.xh).set_ 7 (.int .i64 c.wd)).set_ 8 c.no).set_ 9 c.nh
  have hg : ∀ g, g ≠ sb → ((((((W.setCell ⟨sb, 4, none⟩ (.int .i64 c.wd)).setCell ⟨sb, 5, none⟩ c.xo).setCell ⟨sb, 6, none⟩ c.xh).setCell ⟨sb, 7, none⟩ (.int .i64 c.wd)).setCell ⟨sb, 8, none⟩ c.no).setCell ⟨sb, 9, none⟩ c.nh).heap[g]? = W.heap[g]? := fun g hg => by
    rw [Below.heap_setCell _ _ _ g hg, Below.heap_setCell _ _ _ g hg, Below.heap_setCell _ _ _ g hg, Below.heap_setCell _ _ _ g hg, Below.heap_setCell _ _ _ g hg, Below.heap_setCell _ _ _ g hg]
  have hs : ((((((W.setCell ⟨sb, 4, none⟩ (.int .i64 c.wd)).setCell ⟨sb, 5, none⟩ c.xo).setCell ⟨sb, 6, none⟩ c.xh).setCell ⟨sb, 7, none⟩ (.int .i64 c.wd)).setCell ⟨sb, 8, none⟩ c.no).setCell ⟨sb, 9, none⟩ c.nh).heap.size = W.heap.size := by simp [World.setCell]
  generalize ((((((W.setCell ⟨sb, 4, none⟩ (.int .i64 c.wd)).setCell ⟨sb, 5, none⟩ c.xo).setCell ⟨sb, 6, none⟩ c.xh).setCell ⟨sb, 7, none⟩ (.int .i64 c.wd)).setCell ⟨sb, 8, none⟩ c.no).setCell ⟨sb, 9, none⟩ c.nh) = X at *
  unfold Cs.cells at hr
  rw [set6] at hr
  exact ⟨(h.swapped hr hg hs).drew, hb.drew⟩
/-- The best path is kept. -/
theorem Se.kept {W W2 : World} {sb : Nat} {c : Cs} (h : Se W sb c) (hb : Below W.heap.size W W2) {v : Value} {r : List Int} (ho : W2.ownsRow W.heap.size intT 1 v r.length (iv r)) : Se (W2.setCell ⟨sb, 11, none⟩ v) sb { c with fv := v, fl := r } ∧ Below c.b0 W (W2.setCell ⟨sb, 11, none⟩ v) := by
  have hl := h.lt
  have hle := h.le
  have ho2 : W2.ownsRow c.b0 intT 1 v r.length (iv r) := by
    refine ⟨ho.1, ?_⟩
    rcases ho.2 with hn | ⟨g, cap, cur, hv, hb, rest⟩
    · exact .inl hn
    · exact .inr ⟨g, cap, cur, hv, by omega, rest⟩
  refine ⟨Se.swap (W2 := W2) h _ 11 (l1 := [oi c.dv c.dn, oi c.bv c.bl, oi c.no c.nofs, oi c.nh c.nhds, oi c.xo c.xofs, oi c.xh c.xhds, ⟨turnT, 4, c.tv, c.ts.length, tcells c.ts.reverse⟩]) (l2 := []) (x := oi c.fv c.fl) (oi v r) rfl rfl rfl hb.size (fun g hg _ => hb.block g hg) ho2 (fun g hg => .inr (World.ownsRow.lt ho g hg).1) rfl rfl rfl rfl rfl h.fit, (hb.mono (by omega)).setCell h.le _⟩
/-- Between two offsets. -/
structure Sv (c : Cs) (W : World) (sb k : Nat) (l : List (Int × Row)) (f : Option Row) : Prop where
  se : Se W sb c
  nofs : c.nofs = l.flatMap (·.2)
  nhds : c.nhds = l.map (·.1)
  rows : ∀ e ∈ l, e.2.length = c.wd
  cnt : l.length ≤ c.L.length
  xofs : c.xofs = []
  xhds : c.xhds = []
  bl : c.bl = blank c.wd
  dle : ∀ n ∈ c.dn, n ≤ (k : Int)
  fnd : match f with
    | none => c.fl = [] ∧ c.fv = .slice none 0 0
    | some r => c.fl = r ∧ r.length = c.wd
theorem exe_none {dn : List Int} {k : Nat} (h : ∀ n ∈ dn, n ≤ (k : Int)) : exe dn k = fun _ => false := by
  funext p
  unfold exe
  apply decide_eq_false
  intro e
  have := h _ (List.mem_of_getElem? e)
  omega
/-- Within an offset: i paths are followed. -/
structure Sp (c : Cs) (l : List (Int × Row)) (k : Nat) (W : World) (sb i : Nat) (dn : List Int) (tv : Value) (ts : List Tn) (xo xh : Value) (q : List (Int × Row)) (P : List Int) : Prop where
  se : Se W sb (c.up P ((l.drop i).flatMap (·.2)) dn tv ts [] xo xh q)
  pl : P.length = i * c.wd
  ql : ∀ e ∈ q, e.2.length = c.wd
  qn : q.length + free c.L.length (exe dn k) ≤ c.L.length
  dle : ∀ n ∈ dn, n ≤ (k : Int) + 1
theorem Sp.st {c : Cs} {l : List (Int × Row)} {k : Nat} {W : World} {sb i : Nat} {dn : List Int} {tv : Value} {ts : List Tn} {xo xh : Value} {q : List (Int × Row)} {P : List Int} (h : Sp c l k W sb i dn tv ts xo xh q P) (hl : ∀ e ∈ l, e.2.length = c.wd) (hi : i < l.length) :
    St c P ((l.drop (i + 1)).flatMap (·.2)) k (ts.length + free c.L.length (exe dn k)) W sb dn tv ts l[i].2 xo xh q := by
  refine ⟨?_, hl _ (List.getElem_mem hi), h.ql, h.qn, Nat.le_refl _, h.dle⟩
  have h1 := h.se
  rw [List.drop_eq_getElem_cons hi, List.flatMap_cons] at h1
  unfold Cs.up at h1 ⊢
  simpa using h1
theorem St.sp {c : Cs} {l : List (Int × Row)} {k : Nat} {W : World} {sb i : Nat} {dn : List Int} {tv : Value} {ts : List Tn} {r : Row} {xo xh : Value} {q : List (Int × Row)} {P : List Int} (h : St c P ((l.drop (i + 1)).flatMap (·.2)) k 100000 W sb dn tv ts r xo xh q) (hP : P.length = i * c.wd) :
    Sp c l k W sb (i + 1) dn tv ts xo xh q (P ++ r) := by
  refine ⟨?_, by rw [List.length_append, hP, h.rl, Nat.add_mul, Nat.one_mul], h.ql, h.qn, h.dle⟩
  have h1 := h.se
  unfold Cs.up at h1 ⊢
  simpa using h1
/-- What step leaves. -/
def Stepped (c : Cs) (sb k : Nat) (l : List (Int × Row)) (f : Option Row) (W' : World) : Prop :=
  ∃ c', Sv c' W' sb (k + 1) (lev c.L c.t k (fun _ => false) (l ++ if f.isNone then [(0, blank c.wd)] else [])).2.1 (((lev c.L c.t k (fun _ => false) (l ++ if f.isNone then [(0, blank c.wd)] else [])).2.2).or f) ∧ c'.L = c.L ∧ c'.t = c.t ∧ c'.wd = c.wd ∧ c'.b0 = c.b0
end Pk
end Go.Proofs.Ytedppnejkjcplaa
