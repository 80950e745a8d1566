/-
  CHAPTER 12, MEMORY: what a store or an append leaves of the search's object.
-/
import Derived.Test.YtedppnejkjcplaaPkEnter
namespace Go.Proofs.Ytedppnejkjcplaa
open Go.RowKit
open Me
namespace Pk
open Rx (In)
section
variable {W W2 : World} {sb : Nat} {c : Cs}
/-- A field of the object gets another row of one's own: laid anew, grown or cut. -/
theorem Se.swap (h : Se W sb c) (c' : Cs) (pos : Nat) {l1 l2 : List Ow} {x : Ow} (x' : Ow) (hc : c'.cells = c.cells.setIfInBounds pos x'.v) (ho : c.own = l1 ++ x :: l2) (ho' : c'.own = l1 ++ x' :: l2)
    (hs : W.heap.size ≤ W2.heap.size) (hk : ∀ g, g < W.heap.size → x.v.ownBlock ≠ some g → W2.heap[g]? = W.heap[g]?) (hx : x'.at_ W2 c.b0) (hv : ∀ g, x'.v.ownBlock = some g → x.v.ownBlock = some g ∨ W.heap.size ≤ g)
    (hpa : c'.pa = c.pa) (hL : c'.L = c.L) (hd : c'.dn.length = c.dn.length) (ht : c'.t = c.t) (hw : c'.wd = c.wd) (hf : Fit c.wd c'.ts) (hb0 : c'.b0 = c.b0 := by rfl) : Se (W2.setCell ⟨sb, pos, none⟩ x'.v) sb c' := by
  have hxm : x ∈ c.own := by rw [ho]; exact List.mem_append_right _ List.mem_cons_self
  have hxl := fun g hg => World.ownsRow.lt (h.own.each x hxm) g hg
  have hle := h.le
  have hsl := h.lt
  have hsb : W2.heap[sb]? = W.heap[sb]? := hk sb h.lt fun e => h.own.ne x hxm e
  have hrow : RowAt W2 sb 71 c.cells := hsb.trans h.row
  refine ⟨?_, ?_, ?_, by rw [hd, hL]; exact h.dlen, by rw [hL]; exact h.bL, by rw [ht]; exact h.bt, by rw [hw]; exact h.bw, by rw [hw]; exact h.tw, by rw [hw]; exact hf⟩
  · rw [hc]; exact hrow.set_ pos _
  · rw [ho', hb0]
    have h0 := h.own
    rw [ho] at h0
    refine Own.step x' h0 h.lt ?_ ?_ hv
    · intro g hg1 hg2 hg3 hne
      exact (Below.heap_setCell W2 ⟨sb, pos, none⟩ _ g hg3).trans (hk g hg2 hne)
    · exact owns_keep hx fun g hg => Below.heap_setCell W2 ⟨sb, pos, none⟩ _ g (by
        show g ≠ sb
        intro e
        subst e
        rcases hv g hg with h1 | h1
        · exact h.own.ne x hxm h1
        · omega)
  · rw [hpa, hL, hb0]
    refine h.prog.keep (by simpa [World.setCell] using hs) fun i hi hg => ?_
    exact (Below.heap_setCell W2 ⟨sb, pos, none⟩ _ i (by show i ≠ sb; omega)).trans (hk i hi fun e => by have := (hxl i e).1; omega)
/-- A row's cell is stored to. -/
theorem Se.store (h : Se W sb c) (c' : Cs) {l1 l2 : List Ow} {v : Value} {l : List Int} {g cap : Nat} (hv : v = .slice (some ⟨g, 0, none⟩) l.length cap) (p : Nat) (n : Int) (hc : c'.cells = c.cells) (ho : c.own = l1 ++ oi v l :: l2) (ho' : c'.own = l1 ++ oi v (l.set p n) :: l2)
    (hpa : c'.pa = c.pa) (hL : c'.L = c.L) (hd : c'.dn.length = c.dn.length) (ht : c'.t = c.t) (hw : c'.wd = c.wd) (hf : Fit c.wd c'.ts) (hb0 : c'.b0 = c.b0 := by rfl) : Se (W.setCell ⟨g, p, none⟩ (.int .i64 n)) sb c' ∧ Below c.b0 W (W.setCell ⟨g, p, none⟩ (.int .i64 n)) := by
  have hxm : oi v l ∈ c.own := by rw [ho]; exact List.mem_append_right _ List.mem_cons_self
  have hO : W.ownsRow c.b0 intT 1 v l.length (iv l) := h.own.each _ hxm
  have hg := World.ownsRow.lt hO g (by rw [hv]; rfl)
  have hgn : g ≠ sb := fun e => h.own.ne _ hxm (by show v.ownBlock = some sb; rw [hv, ← e]; rfl)
  have hb : Below c.b0 W (W.setCell ⟨g, p, none⟩ (.int .i64 n)) := (Below.refl c.b0 W).setCell (by show c.b0 ≤ g; omega) _
  refine ⟨⟨?_, ?_, ?_, by rw [hd, hL]; exact h.dlen, by rw [hL]; exact h.bL, by rw [ht]; exact h.bt, by rw [hw]; exact h.bw, by rw [hw]; exact h.tw, by rw [hw]; exact hf⟩, hb⟩
  · rw [hc]; exact h.row.far (by show sb ≠ g; omega) _
  · rw [ho', hb0]
    have h0 := h.own
    rw [ho] at h0
    refine Own.step (oi v (l.set p n)) h0 h.lt ?_ ?_ (fun g h => .inl h)
    · intro g' _ _ _ hne
      refine Below.heap_setCell W _ _ g' ?_
      intro e
      apply hne
      show v.ownBlock = some g'
      rw [hv, e]
      rfl
    · show World.ownsRow _ c.b0 intT 1 v (l.set p n).length (iv (l.set p n))
      rw [List.length_set, ← iv_set, hv]
      rw [hv] at hO
      exact (World.ownsRow.stored hO p (.int .i64 n)).1
  · rw [hpa, hL, hb0]; exact Rd.lower h.prog hb
theorem oi_app {w : World} {base : Nat} {v : Value} {l r : List Int} (h : w.ownsRow base intT 1 v (l.length + r.length) (iv l ++ iv r)) : (oi v (l ++ r)).at_ w base := by
  show w.ownsRow base intT 1 v (l ++ r).length (iv (l ++ r))
  rw [List.length_append, iv_append]
  exact h
theorem alloc_size (w : World) (o : Obj) : (w.alloc o).heap.size = w.heap.size + 1 := by simp
/-- A field's row is grown by an append. -/
theorem Se.grow (h : Se W sb c) (c' : Cs) (pos : Nat) {B : World} (hB : Below W.heap.size W B) {l1 l2 : List Ow} {x : Ow} (x' : Ow) (hc : c'.cells = c.cells.setIfInBounds pos x'.v) (ho : c.own = l1 ++ x :: l2) (ho' : c'.own = l1 ++ x' :: l2)
    (hx : x'.at_ W2 c.b0) (hg : B.grownBy W2 x.v.ownBlock) (ha : x'.v.ownBlock = x.v.ownBlock ∨ x'.v.ownBlock = some B.heap.size)
    (hpa : c'.pa = c.pa) (hL : c'.L = c.L) (hd : c'.dn.length = c.dn.length) (ht : c'.t = c.t) (hw : c'.wd = c.wd) (hf : Fit c.wd c'.ts) (hb0 : c'.b0 = c.b0 := by rfl) : Se (W2.setCell ⟨sb, pos, none⟩ x'.v) sb c' ∧ Below c.b0 W (W2.setCell ⟨sb, pos, none⟩ x'.v) := by
  have hxm : x ∈ c.own := by rw [ho]; exact List.mem_append_right _ List.mem_cons_self
  have htn := World.ownsRow.lt (h.own.each x hxm)
  have hs1 := hB.size
  have hs2 := hg.size
  refine ⟨?_, ?_⟩
  · refine Se.swap (W2 := W2) h c' pos x' hc ho ho' (by omega) ?_ hx ?_ hpa hL hd ht hw hf hb0
    · intro b hb hne
      exact (hg.block b (by omega) fun e => hne e.symm).trans (hB.block b hb)
    · intro b hb
      rcases ha with e | e
      · exact .inl (e.symm.trans hb)
      · refine .inr ?_
        have e2 : some b = some _ := hb.symm.trans e
        have := Option.some.inj e2
        omega
  · have hlt := h.lt
    have hle := h.le
    refine Below.setCell ?_ hle _
    refine Below.trans (b := B) (hB.mono (by omega)) ?_
    exact ⟨hg.os, hg.tape, hg.output, hg.size, fun b hb => hg.block b (by omega) fun e => by
      have := (htn b e.symm).1
      omega⟩
/-- A turn is laid (behind those that are kept). -/
theorem Se.push (h : Se W sb c) (lit : Obj) {A2 : Option Addr} {c2 n2 : Nat} {ts2 : List Tn} (hn : n2 = ts2.length) (ho : W2.ownsRow c.b0 turnT 4 (.slice A2 n2 c2) n2 (tcells ts2.reverse)) (hg : (W.alloc lit).grownBy W2 c.tv.ownBlock)
    (ha : (Value.slice A2 n2 c2).ownBlock = c.tv.ownBlock ∨ (Value.slice A2 n2 c2).ownBlock = some (W.alloc lit).heap.size) (hf : Fit c.wd ts2) :
    Se (W2.setCell ⟨sb, 10, none⟩ (.slice A2 n2 c2)) sb { c with tv := .slice A2 n2 c2, ts := ts2 } ∧ Below c.b0 W (W2.setCell ⟨sb, 10, none⟩ (.slice A2 n2 c2)) := by
  subst hn
  exact Se.grow (W2 := W2) h { c with tv := .slice A2 ts2.length c2, ts := ts2 } 10 ((Below.refl _ W).alloc (Nat.le_refl _) lit) (l1 := [oi c.dv c.dn, oi c.bv c.bl, oi c.no c.nofs, oi c.nh c.nhds, oi c.xo c.xofs, oi c.xh c.xhds]) (l2 := [oi c.fv c.fl]) (x := ⟨turnT, 4, c.tv, c.ts.length, tcells c.ts.reverse⟩) ⟨turnT, 4, .slice A2 ts2.length c2, ts2.length, tcells ts2.reverse⟩ rfl rfl rfl ho hg ha rfl rfl rfl rfl rfl hf
theorem Se.drew (h : Se W sb c) : Se W.drew sb c := ⟨h.row, ⟨h.own.each, h.own.apart, h.own.ne, h.own.le⟩, h.prog, h.dlen, h.bL, h.bt, h.bw, h.tw, h.fit⟩
/-- The row of now's that is worked on. -/
theorem Se.rowcell (h : Se W sb c) {g cap : Nat} (hv : c.no = .slice (some ⟨g, 0, none⟩) c.nofs.length cap) (i : Nat) (hi : i < c.nofs.length) : W.cell? ⟨g, i, none⟩ = some (.int .i64 c.nofs[i]) ∧ W.frozen? ⟨g, i, none⟩ = false := by
  have ho := h.ono
  rw [hv] at ho
  exact ⟨by rw [World.ownsRow.cellAt ho _ (by omega), iv_get _ _ hi], World.ownsRow.frozenAt ho _⟩
end
theorem int_info : (Try.prog.info? 3).map (fun i => (i.zero, i.size, i.bytes)) = some (some (.int .i64 0), 1, 8) := by kernel_rfl
theorem turn_info : (Try.prog.info? 111).map (fun i => (i.zero, i.size, i.bytes)) = some (some (.agg #[.int .i64 0, .bool false, .int .i64 0, .int .i64 0]), 4, 32) := by kernel_rfl
end Pk
end Go.Proofs.Ytedppnejkjcplaa
