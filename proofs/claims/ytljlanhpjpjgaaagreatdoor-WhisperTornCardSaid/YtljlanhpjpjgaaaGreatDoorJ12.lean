/- QtTail FxAdd FxMdPure AgPure -/
import Derived.Test.YtljlanhpjpjgaaaGreatDoorJ1
import Derived.Lib.QuietBelow
import Derived.Test.YtljlanhpjpjgaaaGreatDoorJ11
import Derived.Test.YtljlanhpjpjgaaaGreatDoorJ4
namespace Go.Proofs.YtljlanhpjpjgaaaGreatDoor
set_option maxRecDepth 100000
set_option maxHeartbeats 8000000
section
open Go Go.Sort
namespace Qt
section
variable {P : Program} {md : Region.Mode} {C : World → Prop} {A : Array Oper} {o : Oper} {Q : Exit → Act → World → Prop}
structure Fits (md : Region.Mode) (A : Array Oper) (o : Oper) : Prop where
 back : ∀ (j : Nat) (oj : Oper), A[j]? = some oj → ∀ e ∈ oj.after, Region.binds md e = true → e.on < j
 guarded : ∀ (j : Nat) (oj : Oper), A[j]? = some oj → ∀ (g : Nat) (b : Bool), oj.guard = some (g, b) → g < A.size
 waits : ∀ i, i < A.size → ∃ e ∈ o.after, Region.binds md e = true ∧ e.on = i
 last : ∀ e ∈ o.after, Region.binds md e = true → e.on < A.size
def fitsB (md : Region.Mode) (A : Array Oper) (o : Oper) : Bool :=
 ((List.range A.size).all fun j => match A[j]? with
   | some oj => (oj.after.all fun e => !Region.binds md e || decide (e.on < j)) && (match oj.guard with | some (g, _) => decide (g < A.size) | none => true)
   | none => true) &&
 ((List.range A.size).all fun i => o.after.any fun e => Region.binds md e && e.on == i) &&
 (o.after.all fun e => !Region.binds md e || decide (e.on < A.size))
theorem fits_of (h : fitsB md A o = true) : Fits md A o := by
 simp only [fitsB, Bool.and_eq_true, List.all_eq_true, List.mem_range] at h
 obtain ⟨⟨h1, h2⟩, h3⟩ := h
 refine ⟨fun j oj hj e he hb => ?_, fun j oj hj g b hg => ?_, fun i hi => ?_, fun e he hb => ?_⟩
 ·have hlt : j < A.size := (Array.getElem?_eq_some_iff.1 hj).1
  have := h1 j hlt
  simp only [hj, Bool.and_eq_true] at this
  have h4 := Array.all_eq_true_iff_forall_mem.1 this.1 e he
  simpa [hb] using h4
 ·have hlt : j < A.size := (Array.getElem?_eq_some_iff.1 hj).1
  have := h1 j hlt
  simp only [hj, Bool.and_eq_true, hg, decide_eq_true_eq] at this
  exact this.2
 ·obtain ⟨e, he, hb⟩ := Array.any_eq_true'.1 (h2 i hi)
  simp only [Bool.and_eq_true, beq_iff_eq] at hb
  exact ⟨e, he, hb.1, hb.2⟩
 ·have h4 := Array.all_eq_true_iff_forall_mem.1 h3 e he
  simpa [hb] using h4
theorem get_push_lt {j : Nat} (h : j < A.size) : (A.push o)[j]? = A[j]? := by
 rw [Array.getElem?_push, if_neg (by omega)]
theorem getD_push_false (L : Array Bool) (j : Nat) : (L.push false).getD j false = L.getD j false := by
 simp only [Array.getD_eq_getD_getElem?, Array.getElem?_push]
 split
 ·rename_i h; subst h; simp
 ·rfl
theorem getD_push_true {L : Array Bool} {j : Nat} (h : j ≠ L.size) : (L.push false).getD j true = L.getD j true := by
 simp only [Array.getD_eq_getD_getElem?, Array.getElem?_push]
 rw [if_neg h]
theorem getD_two {L : Array Bool} {j : Nat} (h : j < L.size) : L.getD j true = L.getD j false := by
 simp [Array.getD_eq_getD_getElem?, h]
theorem some_ready (F : Fits md A o) {L : Array Bool} (hL : L.size = A.size) : ∀ (m j : Nat), j < m → j < A.size → L.getD j true = false → ∃ i, i ∈ Region.ready md A L := by
 intro m
 induction m with
 | zero => intro j h; omega
 | succ m ih =>
   intro j hjm hj hu
   by_cases hall : ∀ e ∈ (A[j]).after, Region.binds md e = true → L.getD e.on false = true
   ·exact ⟨j, mem_ready.2 ⟨hu, A[j], by simp [hj], hall⟩⟩
   ·simp only [Classical.not_forall] at hall
    obtain ⟨e, he, hb, hne⟩ := hall
    have hlt := F.back j A[j] (by simp [hj]) e he hb
    have hlt2 : e.on < A.size := Nat.lt_trans hlt hj
    exact ih e.on (by omega) hlt2 (by rw [getD_two (by omega)]; simpa using hne)
theorem ready_push {L : Array Bool} (hL : L.size = A.size) {j : Nat} (hj : j < A.size) : j ∈ Region.ready md (A.push o) (L.push false) ↔ j ∈ Region.ready md A L := by
 rw [mem_ready, mem_ready, get_push_lt hj, getD_push_true (by omega)]
 simp only [getD_push_false]
theorem wanted_push (F : Fits md A o) {j : Nat} {oj : Oper} (hj : A[j]? = some oj) (tmps : Array Value) : Region.wanted oj (yielded (A.push o) tmps) = Region.wanted oj (yielded A tmps) := by
 unfold Region.wanted
 cases hg : oj.guard with
 | none => rfl
 | some gb =>
   obtain ⟨g, b⟩ := gb
   have hlt := F.guarded j oj hj g b hg
   have e : yielded (A.push o) tmps g = yielded A tmps g := by unfold yielded; rw [get_push_lt hlt]
   simp only [e]
theorem qOp_push (F : Fits md A o) {j : Nat} (hj : j < A.size) {K : Act → Prop} {a : Act} (h : qOp P A C j K a) : qOp P (A.push o) C j K a := by
 unfold qOp at *
 rw [get_push_lt hj]
 have hs : A[j]? = some A[j] := by simp [hj]
 rw [hs] at h ⊢
 simp only at h ⊢
 rw [wanted_push F hs]
 exact h
theorem set_push {L : Array Bool} {j : Nat} (hj : j < L.size) : (L.push false).setIfInBounds j true = (L.setIfInBounds j true).push false := by
 apply Array.ext_getElem?
 intro i
 simp only [Array.getElem?_setIfInBounds, Array.getElem?_push, Array.size_push, Array.size_setIfInBounds]
 by_cases h1 : i = L.size
 ·subst h1; rw [if_neg (by omega), if_pos rfl, if_pos rfl]
 ·by_cases h2 : j = i
  ·subst h2; rw [if_pos rfl, if_pos (by omega), if_neg h1, if_pos rfl, if_pos hj]
  ·rw [if_neg h2, if_neg h1, if_neg h1, if_neg h2]
theorem last_up (F : Fits md A o) {L : Array Bool} (hL : L.size = A.size) (hall : ∀ j, j < A.size → L.getD j true = true) {a : Act} {w : World}
 (h : wpList P (A.push o) Q [o] a w) (k : Nat) : wpAny P md (A.push o) Q (k + 1) (L.push false) a w := by
 have hn : A.size ∈ Region.ready md (A.push o) (L.push false) := by
  rw [mem_ready]
  refine ⟨by rw [← hL]; simp [Array.getD_eq_getD_getElem?], o, by simp, fun e he hb => ?_⟩
  rw [getD_push_false, ← getD_two (by rw [hL]; exact F.last e he hb)]
  exact hall _ (F.last e he hb)
 have hdone : Region.ready md (A.push o) ((L.push false).setIfInBounds A.size true) = [] := by
  apply List.eq_nil_iff_forall_not_mem.2
  intro j hj
  rw [mem_ready] at hj
  obtain ⟨h1, oj, h2, _⟩ := hj
  have hlt : j < A.size + 1 := by have := (Array.getElem?_eq_some_iff.1 h2).1; simpa using this
  simp only [Array.getD_eq_getD_getElem?, Array.getElem?_setIfInBounds, Array.size_push, hL] at h1
  by_cases hj : A.size = j
  ·subst hj; simp at h1
  ·rw [if_neg hj] at h1
   have h3 := hall j (by omega)
   rw [← getD_push_true (by omega)] at h3
   rw [Array.getD_eq_getD_getElem?] at h3
   rw [h3] at h1
   cases h1
 refine ⟨fun h0 => (by rw [h0] at hn; cases hn), fun i hi => ?_⟩
 have hin : i = A.size := by
  rw [mem_ready] at hi
  obtain ⟨h1, oj, h2, _⟩ := hi
  have hlt : i < A.size + 1 := by have := (Array.getElem?_eq_some_iff.1 h2).1; simpa using this
  by_cases hj : i = A.size
  ·exact hj
  ·rw [getD_push_true (by omega), hall i (by omega)] at h1
   cases h1
 subst hin
 have hK : ∀ a' w', Q .normal a' w' → wpAny P md (A.push o) Q k ((L.push false).setIfInBounds A.size true) a' w' := fun a' w' q => by
  cases k with
  | zero => exact ⟨hdone, q⟩
  | succ k => exact ⟨fun _ => q, fun i hi => (by rw [hdone] at hi; cases hi)⟩
 unfold wpOp
 rw [show (A.push o)[A.size]? = some o by simp]
 unfold wpList at h
 simp only
 split
 ·rename_i hw
  rw [if_pos hw] at h
  exact h.imp (Oper.wp_mono hK) id
 ·rename_i hw
  rw [if_neg hw] at h
  exact hK _ _ h
theorem any_tail (F : Fits md A o) {QQ : Act → Prop} (hQ : ∀ a w, C w → QQ a → wpList P (A.push o) Q [o] a w) :
 ∀ (fuel : Nat) (L : Array Bool) (a : Act) (w : World), L.size = A.size → C w → wpAnyQ P md A C QQ fuel L a → wpAny P md (A.push o) Q (fuel + 1) (L.push false) a w := by
 have all_of : ∀ {L : Array Bool}, L.size = A.size → Region.ready md A L = [] → ∀ j, j < A.size → L.getD j true = true := fun {L} hL h0 j hj => by
  cases hu : L.getD j true with
  | true => rfl
  | false =>
    obtain ⟨i, hi⟩ := some_ready F hL (j + 1) j (by omega) hj hu
    rw [h0] at hi
    cases hi
 intro fuel
 induction fuel with
 | zero => intro L a w hL hC h; exact last_up F hL (all_of hL h.1) (hQ a w hC h.2) 0
 | succ fuel ih =>
   intro L a w hL hC h
   by_cases h0 : Region.ready md A L = []
   ·exact last_up F hL (all_of hL h0) (hQ a w hC (h.1 h0)) (fuel + 1)
   ·obtain ⟨i0, hi0⟩ := List.exists_mem_of_ne_nil _ h0
    have hi0' := hi0
    have notlast : A.size ∉ Region.ready md (A.push o) (L.push false) := fun hn => by
     rw [mem_ready] at hn hi0'
     obtain ⟨hu, oj, hoj, _⟩ := hi0'
     have hlt := (Array.getElem?_eq_some_iff.1 hoj).1
     obtain ⟨_, o', ho', hw⟩ := hn
     rw [show (A.push o)[A.size]? = some o by simp] at ho'
     cases ho'
     obtain ⟨e, he, hb, hon⟩ := F.waits i0 hlt
     have h2 := hw e he hb
     rw [getD_push_false, hon, ← getD_two (by omega), hu] at h2
     cases h2
    have up : ∀ i, i ∈ Region.ready md (A.push o) (L.push false) → i < A.size ∧ i ∈ Region.ready md A L := fun i hi => by
     have hlt : i < A.size := by
      have h2 := (mem_ready.1 hi).2
      obtain ⟨oj, h2, _⟩ := h2
      have h3 : i < A.size + 1 := by have := (Array.getElem?_eq_some_iff.1 h2).1; simpa using this
      by_cases hj : i = A.size
      ·subst hj; exact absurd hi notlast
      ·omega
     exact ⟨hlt, (ready_push hL hlt).1 hi⟩
    refine ⟨fun he => ?_, fun i hi => ?_⟩
    ·have hlt : i0 < A.size := by
      obtain ⟨oj, h2, _⟩ := (mem_ready.1 hi0).2
      exact (Array.getElem?_eq_some_iff.1 h2).1
     have := (ready_push (o := o) hL hlt).2 hi0
     rw [he] at this
     cases this
    ·obtain ⟨hlt, hi2⟩ := up i hi
     rw [set_push (by omega)]
     exact wpOp_of_qOp (K := wpAnyQ P md A C QQ fuel (L.setIfInBounds i true)) hC (fun a' w' hC' hK => ih _ a' w' (by simpa using hL) hC' hK) (qOp_push F hlt (h.2 i hi2))
theorem wp_region_quiet_tail {id : Nat} {a : Act} {w : World} (l : List Oper) (o : Oper) (hm : P.follows .mixedOrders = true) (hB : Region.lexB .any l.toArray = true) (hF : fitsB .any l.toArray o = true) (hC : C { w with drawn := w.drawn + 1 })
 (h : wpQuiet P l.toArray C (fun a' => ∀ w', C w' → wpList P (l.toArray.push o) Q [o] a' w') l a) : (Code.region id (l.toArray.push o) true).wp P Q a w := by
 simp only [Region.lexB, Bool.and_eq_true] at hB
 refine wp_region_any hm ?_
 have hq := wpAnyQ_lex (C := C) (md := .any) hB.1 l 0 (Array.replicate l.toArray.size false) a (by simp) (by simpa using hB.2) h
 have hs : Array.replicate (l.toArray.push o).size false = (Array.replicate l.toArray.size false).push false := by
  rw [Array.size_push, Array.replicate_succ]
 rw [hs]
 have := any_tail (fits_of hF) (QQ := fun a' => ∀ w', C w' → wpList P (l.toArray.push o) Q [o] a' w') (fun a w hw hq => hq w hw) l.length (Array.replicate l.toArray.size false) a _ (by simp) hC hq
 simpa using this
theorem wp_region_below_tail {id : Nat} {a : Act} {w : World} (l : List Oper) (o : Oper) (hm : P.follows .mixedOrders = true) (hB : Region.lexB .any l.toArray = true) (hF : fitsB .any l.toArray o = true)
 (h : wpQuiet P l.toArray (fun w' => ∃ p : Regrown, w' = grow (redrawn w p.d) p.os) (fun a' => ∀ w', (∃ p : Regrown, w' = grow (redrawn w p.d) p.os) → wpList P (l.toArray.push o) Q [o] a' w') l a) : (Code.region id (l.toArray.push o) true).wp P Q a w :=
 wp_region_quiet_tail (C := fun w' => ∃ p : Regrown, w' = grow (redrawn w p.d) p.os) l o hm hB hF ⟨⟨w.drawn + 1, #[]⟩, by rw [grow_empty]; rfl⟩ h
theorem wp_region_below_tail_at {id : Nat} {a : Act} {w : World} {l : List Oper} {o : Oper} (n : Nat) (hl : l.drop n = [o]) (hm : P.follows .mixedOrders = true) (hB : Region.lexB .any (l.take n).toArray = true) (hF : fitsB .any (l.take n).toArray o = true)
 (h : wpQuiet P (l.take n).toArray (fun w' => ∃ p : Regrown, w' = grow (redrawn w p.d) p.os) (fun a' => ∀ w', (∃ p : Regrown, w' = grow (redrawn w p.d) p.os) → wpList P l.toArray Q [o] a' w') (l.take n) a) : (Code.region id l.toArray true).wp P Q a w := by
 have e : l = l.take n ++ [o] := by rw [← hl, List.take_append_drop]
 have e2 : l.toArray = (l.take n).toArray.push o := by rw [List.push_toArray, ← e]
 rw [e2] at h ⊢
 exact wp_region_below_tail (l.take n) o hm hB hF h
end
end Qt
end
section
open Go.RowKit Go.Sort
open Fx (Vl)
def sum (l : List Vl) : Vl := l.foldl Fx.plus ⟨true, 0⟩
theorem sum_take (l : List Vl) (k : Nat) (h : k < l.length) : sum (l.take (k + 1)) = Fx.plus (sum (l.take k)) l[k] := by
 unfold sum
 rw [List.take_succ_eq_append_getElem h, List.foldl_append]
 rfl
structure Vals (w : World) (b off : Nat) (l : List Vl) : Prop where
 lt : b < w.heap.size
 ok : ∀ i (h : i < l.length), w.cell? ⟨b, off + i * 2, none⟩ = some (.bool l[i].ok)
 n : ∀ i (h : i < l.length), w.cell? ⟨b, off + i * 2 + 1, none⟩ = some (.int .i64 l[i].n)
theorem Vals.below {w w' : World} {b off : Nat} {l : List Vl} (h : Vals w b off l) (hb : Below w.heap.size w w') : Vals w' b off l :=
 ⟨Nat.lt_of_lt_of_le h.lt hb.size, fun i hi => (hb.cell (p := ⟨b, off + i * 2, none⟩) h.lt).trans (h.ok i hi), fun i hi => (hb.cell (p := ⟨b, off + i * 2 + 1, none⟩) h.lt).trans (h.n i hi)⟩
structure AddRel (w wr : World) (r s : Nat) (v : Vl) : Prop where
 below : Below w.heap.size w wr
 r0 : w.heap.size ≤ r
 rs : r < s
 sz : s < wr.heap.size
 rc0 : wr.cell? ⟨r, 0, none⟩ = some (.bool false)
 rc1 : wr.cell? ⟨r, 1, none⟩ = some (.int .i64 0)
 rf0 : wr.frozen? ⟨r, 0, none⟩ = false
 rf1 : wr.frozen? ⟨r, 1, none⟩ = false
 sc0 : wr.cell? ⟨s, 0, none⟩ = some (.bool v.ok)
 sc1 : wr.cell? ⟨s, 1, none⟩ = some (.int .i64 v.n)
 sf0 : wr.frozen? ⟨s, 0, none⟩ = false
 sf1 : wr.frozen? ⟨s, 1, none⟩ = false
theorem AddRel.step {w wr wp : World} {r s : Nat} {v : Vl} (h : AddRel w wr r s v) (hb : Below wr.heap.size wr wp) (ok : Bool) (n : Int) :
 AddRel w ((wp.setCell ⟨s, 0, none⟩ (.bool ok)).setCell ⟨s, 1, none⟩ (.int .i64 n)) r s ⟨ok, n⟩ := by
 have hs1 := h.sz
 have hrs := h.rs
 have hr0 := h.r0
 have hbz := hb.size
 have hc : ∀ b f, b < wr.heap.size → wp.cell? ⟨b, f, none⟩ = wr.cell? ⟨b, f, none⟩ := fun b f hlt => hb.cell (p := ⟨b, f, none⟩) hlt
 have hf : ∀ b f, b < wr.heap.size → wp.frozen? ⟨b, f, none⟩ = wr.frozen? ⟨b, f, none⟩ := fun b f hlt => hb.frozen (p := ⟨b, f, none⟩) hlt
 have hne : r ≠ s := by omega
 have c0 := (hc s 0 hs1).trans h.sc0
 have c1 := (hc s 1 hs1).trans h.sc1
 have d0 := (hc r 0 (by omega)).trans h.rc0
 have d1 := (hc r 1 (by omega)).trans h.rc1
 have f0 := (hf s 0 hs1).trans h.sf0
 have f1 := (hf s 1 hs1).trans h.sf1
 have g0 := (hf r 0 (by omega)).trans h.rf0
 have g1 := (hf r 1 (by omega)).trans h.rf1
 clear hc hf
 refine ⟨?_, hr0, hrs, by simp; omega, ?_, ?_, ?_, ?_, ?_, ?_, ?_, ?_⟩
 ·exact Below.setCell (Below.setCell (h.below.trans (hb.mono (by omega))) (by show _ ≤ s; omega) _) (by show _ ≤ s; omega) _
 all_goals simp [go_sem, *]
theorem AddRel.start {w w' : World} {T : TypeId} (hb : Below (w.alloc (.cells #[.bool false, .int .i64 0] T)).heap.size (w.alloc (.cells #[.bool false, .int .i64 0] T)) w') :
 AddRel w (w'.alloc (.cells #[.bool true, .int .i64 0] T)) w.heap.size w'.heap.size ⟨true, 0⟩ := by
 have hz := hb.size
 have hsz : (w.alloc (.cells #[.bool false, .int .i64 0] T)).heap.size = w.heap.size + 1 := by simp
 rw [hsz] at hz
 have hc : ∀ f, w'.cell? ⟨w.heap.size, f, none⟩ = (w.alloc (.cells #[.bool false, .int .i64 0] T)).cell? ⟨w.heap.size, f, none⟩ := fun f => hb.cell (p := ⟨w.heap.size, f, none⟩) (by rw [hsz]; show w.heap.size < _; omega)
 have hf : ∀ f, w'.frozen? ⟨w.heap.size, f, none⟩ = (w.alloc (.cells #[.bool false, .int .i64 0] T)).frozen? ⟨w.heap.size, f, none⟩ := fun f => hb.frozen (p := ⟨w.heap.size, f, none⟩) (by rw [hsz]; show w.heap.size < _; omega)
 have hlt : w.heap.size < w'.heap.size := by omega
 refine ⟨?_, Nat.le_refl _, by omega, by simp, ?_, ?_, ?_, ?_, ?_, ?_, ?_, ?_⟩
 ·exact (((Below.refl w.heap.size w).alloc (Nat.le_refl _) _).trans (hb.mono (by omega))).alloc (by omega) _
 all_goals simp [go_sem, *]
theorem add_some (l : List Vl) (hl : l.length ≤ 4611686018427387904) (b off cap : Nat) (w : World) (hv : Vals w b off l) :
 Calls Tryz.prog 137 #[.slice (some ⟨b, off, none⟩) l.length cap] w fun e w' => e = .returned (.agg #[.bool (sum l).ok, .int .i64 (sum l).n]) ∧ Below w.heap.size w w' := by
 have O0 : Hid (∀ W, Calls Tryz.prog 72 #[.int .i64 0] W fun e w' => e = .returned (.agg #[.bool true, .int .i64 0]) ∧ Below W.heap.size W w') := Lib.hid fun W => of_any 0 W
 go_enter Tryz.func137, Tryz.ntmps137
 go_wp2_with (go_at_call 72; go_must (refine (O0.out _).mono ?_; rintro e w' ⟨rfl, hb⟩; obtain ⟨hc, hf⟩ := bcell hb; (try have hz0 : w.heap.size < w'.heap.size := Bz hb); (try have hz1 : w.heap.size + 1 < w'.heap.size := Bz hb); (try have hz2 : w.heap.size + 1 + 1 < w'.heap.size := Bz hb); have hz := hb.size; (try simp at hz)))
 go_loopw [9] (fun i wr => ∃ k : Nat, k ≤ l.length ∧ i = .int .i64 k ∧ AddRel w wr w.heap.size w'.heap.size (sum (l.take k))) (fun i _ => l.length - (intOf i).toNat)
 case atStart => exact ⟨0, Nat.zero_le _, rfl, AddRel.start hb⟩
 case round =>
  obtain ⟨k, hk, rfl, hR⟩ := hrel
  have hsz := hR.sz
  have rc0 := hR.rc0
  have rc1 := hR.rc1
  have rf0 := hR.rf0
  have rf1 := hR.rf1
  have sc0 := hR.sc0
  have sc1 := hR.sc1
  have sf0 := hR.sf0
  have sf1 := hR.sf1
  by_cases hlt : k < l.length
  ·have hvr := hv.below hR.below
   have ec0 := hvr.ok k hlt
   have ec1 := hvr.n k hlt
   have hst := Lib.hid (sum_take l k hlt)
   have HR := Lib.hid hR
   clear hR hvr
   generalize l[k] = ek at *
   generalize sum (l.take k) = sk at *
   obtain ⟨eo, en⟩ := ek
   obtain ⟨so, sn⟩ := sk
   go_wp2_with (go_at_call 148; go_must (refine (plus_any _ _ _ _ _).mono ?_; rintro e w' ⟨rfl, hb⟩; obtain ⟨hc, hf⟩ := bcell hb; (try have hz0 : w.heap.size < w'.heap.size := Bz hb); (try have hz1 : w.heap.size + 1 < w'.heap.size := Bz hb); (try have hz2 : w.heap.size + 1 + 1 < w'.heap.size := Bz hb); have hz := hb.size; (try simp at hz)))
   go_roundw
   case rel =>
    refine ⟨k + 1, by omega, by go_num, ?_⟩
    rw [hst.out]
    exact AddRel.step HR.out (((Below.refl _ _).alloc (Nat.le_refl _) _).trans (hb.mono (by simp))) _ _
   case measure => simp [intOf]; omega
  ·obtain rfl : k = l.length := by omega
   have hbb := hR.below
   have hr0 := hR.r0
   rw [List.take_length] at *
   clear hR
   go_wp2
   exact bodyPost_ret (v := (.agg #[.bool (sum l).ok, .int .i64 (sum l).n])) (by simp [results, Tryz.results137, go_sem, *]) rfl ⟨rfl, Bq⟩
theorem refAdd_some (l : List Vl) (hl : l.length ≤ 4611686018427387904) (b off cap : Nat) (w : World) (hv : Vals w b off l) :
 Calls Tryz.prog 131 #[.slice (some ⟨b, off, none⟩) l.length cap] w fun e w' => e = .returned (.agg #[.bool (sum l).ok, .int .i64 (sum l).n]) ∧ Below w.heap.size w w' := by
 have O0 : Hid (∀ W, Calls Tryz.prog 111 #[.int .i64 0] W fun e w' => e = .returned (.agg #[.bool true, .int .i64 0]) ∧ Below W.heap.size W w') := Lib.hid fun W => refOf_any 0 W
 go_enter Tryz.func131, Tryz.ntmps131
 go_wp2_with (go_at_call 111; go_must (refine (O0.out _).mono ?_; rintro e w' ⟨rfl, hb⟩; obtain ⟨hc, hf⟩ := bcell hb; (try have hz0 : w.heap.size < w'.heap.size := Bz hb); (try have hz1 : w.heap.size + 1 < w'.heap.size := Bz hb); (try have hz2 : w.heap.size + 1 + 1 < w'.heap.size := Bz hb); have hz := hb.size; (try simp at hz)))
 go_loopw [4] (fun i wr => ∃ k : Nat, k ≤ l.length ∧ i = .int .i64 k ∧ AddRel w wr w.heap.size w'.heap.size (sum (l.take k))) (fun i _ => l.length - (intOf i).toNat)
 case atStart => exact ⟨0, Nat.zero_le _, rfl, AddRel.start hb⟩
 case round =>
  obtain ⟨k, hk, rfl, hR⟩ := hrel
  have hsz := hR.sz
  have rc0 := hR.rc0
  have rc1 := hR.rc1
  have rf0 := hR.rf0
  have rf1 := hR.rf1
  have sc0 := hR.sc0
  have sc1 := hR.sc1
  have sf0 := hR.sf0
  have sf1 := hR.sf1
  by_cases hlt : k < l.length
  ·have hvr := hv.below hR.below
   have ec0 := hvr.ok k hlt
   have ec1 := hvr.n k hlt
   have hbr := hvr.lt
   have hst := Lib.hid (sum_take l k hlt)
   have HR := Lib.hid hR
   clear hR hvr
   generalize l[k] = ek at *
   generalize sum (l.take k) = sk at *
   obtain ⟨eo, en⟩ := ek
   obtain ⟨so, sn⟩ := sk
   have hkl : (k : Int) < (l.length : Int) := by omega
   go_wp2_with fail
   refine Qt.wp_region_below_tail_at 6 rfl (by kernel_rfl) (by kernel_rfl) (by kernel_rfl) ?_
   simp only [List.take_succ_cons, List.take_zero]
   obtain ⟨kc, kf⟩ := kgrown wr
   repeat (quiet_step ((go_at_call 142; exact Calls.regrown_of (refPlus_any _ _ _ _ _))))
   refine wpQuiet_nil ?_
   intro _ hw'
   obtain ⟨⟨dq, osq⟩, hw''⟩ := hw'
   subst hw''
   go_wp2_with fail
   go_roundw
   case rel =>
    refine ⟨k + 1, by omega, by go_num, ?_⟩
    rw [hst.out]
    exact AddRel.step HR.out (below_regrown wr dq osq) _ _
   case measure => simp [intOf]; omega
  ·obtain rfl : k = l.length := by omega
   have hbb := hR.below
   have hr0 := hR.r0
   rw [List.take_length] at *
   clear hR
   go_wp2
   exact bodyPost_ret (v := (.agg #[.bool (sum l).ok, .int .i64 (sum l).n])) (by simp [results, Tryz.results131, go_sem, *]) rfl ⟨rfl, Bq⟩
end
section
namespace Fx
def rnd (p d : Nat) : Nat := if d ≤ 2 * (p % d) then p / d + 1 else p / d
def mdq (a b c : Int) : Nat := rnd (mag a * mag b) (mag c)
def mdok (a b c : Int) : Bool := decide (c ≠ 0 ∧ mdq a b c ≤ 4611686018427387904)
def neg3 (a b c : Int) : Bool := ((decide (a < 0) != decide (b < 0)) != decide (c < 0))
def mdn (a b c : Int) : Int := if mdok a b c then (if neg3 a b c then -(mdq a b c : Int) else (mdq a b c : Int)) else 0
theorem rnd_up {p d : Nat} (h : d ≤ 2 * (p % d)) : rnd p d = p / d + 1 := by unfold rnd; rw [if_pos h]
theorem rnd_down {p d : Nat} (h : 2 * (p % d) < d) : rnd p d = p / d := by unfold rnd; rw [if_neg (by omega)]
theorem rnd_ge (p d : Nat) : p / d ≤ rnd p d := by unfold rnd; split <;> omega
theorem mdok_zero {a b c : Int} (h : c = 0) : mdok a b c = false := by unfold mdok; simp [h]
theorem mdok_yes {a b c : Int} (h : c ≠ 0) (hq : mdq a b c ≤ 4611686018427387904) : mdok a b c = true := by unfold mdok; simp [h, hq]
theorem mdok_no {a b c : Int} (hq : 4611686018427387904 < mdq a b c) : mdok a b c = false := by
 unfold mdok; simp only [decide_eq_false_iff_not]; omega
theorem mdn_no {a b c : Int} (h : mdok a b c = false) : mdn a b c = 0 := by unfold mdn; rw [h]; rfl
theorem mdn_neg {a b c : Int} (h : mdok a b c = true) (hn : neg3 a b c = true) : mdn a b c = -(mdq a b c : Int) := by unfold mdn; rw [h, hn]; rfl
theorem mdn_pos {a b c : Int} (h : mdok a b c = true) (hn : neg3 a b c = false) : mdn a b c = (mdq a b c : Int) := by unfold mdn; rw [h, hn]; rfl
theorem mag_le {n : Int} (h1 : -9223372036854775808 ≤ n) (h2 : n ≤ 9223372036854775807) : mag n ≤ 9223372036854775808 := by unfold mag; omega
theorem mag_pos {n : Int} (h : n ≠ 0) : 0 < mag n := by unfold mag; omega
structure Md (a b c : Int) (n : Int) (ok : Bool) : Prop where
 num : n = mdn a b c
 ok : ok = mdok a b c
theorem md_zero {a b c : Int} (h : c = 0) : Md a b c 0 false := ⟨(mdn_no (mdok_zero h)).symm, (mdok_zero h).symm⟩
theorem md_big {a b c : Int} (hq : 4611686018427387904 < mdq a b c) : Md a b c 0 false := ⟨(mdn_no (mdok_no hq)).symm, (mdok_no hq).symm⟩
theorem md_neg {a b c : Int} {q : Int} (h : c ≠ 0) (he : q = (mdq a b c : Int)) (hq : q ≤ 4611686018427387904) (hn : neg3 a b c = true) : Md a b c (-q) true := by
 have h2 := mdok_yes (a := a) (b := b) h (by omega)
 exact ⟨by rw [mdn_neg h2 hn, he], h2.symm⟩
theorem md_pos {a b c : Int} {q : Int} (h : c ≠ 0) (he : q = (mdq a b c : Int)) (hq : q ≤ 4611686018427387904) (hn : neg3 a b c = false) : Md a b c q true := by
 have h2 := mdok_yes (a := a) (b := b) h (by omega)
 exact ⟨by rw [mdn_pos h2 hn, he], h2.symm⟩
def mdv (a b c : Int) : Vl := if mdok a b c then of (mdn a b c) else none
def div (a b : Vl) : Vl := if num a && num b then mdv a.n 1000000 b.n else none
theorem mdv_yes {a b c : Int} (h : mdok a b c = true) : mdv a b c = of (mdn a b c) := by unfold mdv; rw [if_pos h]
theorem mdv_no {a b c : Int} (h : mdok a b c = false) : mdv a b c = none := by unfold mdv; rw [if_neg (by simp [h])]
theorem div_yes {a b : Vl} (h1 : num a = true) (h2 : num b = true) : div a b = mdv a.n 1000000 b.n := by unfold div; simp [h1, h2]
theorem div_no1 {a b : Vl} (h1 : num a = false) : div a b = none := by unfold div; simp [h1]
theorem div_no2 {a b : Vl} (h2 : num b = false) : div a b = none := by unfold div; simp [h2]
theorem words (p d : Nat) (hd : d ≤ p / 18446744073709551616) (h0 : 0 < d) : 18446744073709551616 ≤ p / d := by
 rw [Nat.le_div_iff_mul_le h0]
 have := Nat.div_mul_le_self p 18446744073709551616
 omega
theorem whole (p : Nat) : p / 18446744073709551616 * 18446744073709551616 + p % 18446744073709551616 = p := by omega
structure Rm (N d : Nat) (i : Int) (q r : Int) (o : Bool) : Prop where
 lo : -1 ≤ i
 hi : i ≤ 127
 q0 : 0 ≤ q
 q1 : q ≤ 18446744073709551615
 rest : r = ((N / 2 ^ (i + 1).toNat % d : Nat) : Int)
 quot : if o then 9223372036854775808 ≤ N / 2 ^ (i + 1).toNat / d else q = ((N / 2 ^ (i + 1).toNat / d : Nat) : Int) ∧ q ≤ 9223372036854775807
theorem half_bit (N k : Nat) : N / 2 ^ k = 2 * (N / 2 ^ (k + 1)) + N / 2 ^ k % 2 := by
 rw [Nat.pow_succ, ← Nat.div_div_eq_div_mul]; omega
theorem next_bit (A d β : Nat) (hd : 0 < d) (hβ : β < 2) :
 (if d ≤ 2 * (A % d) + β then (2 * A + β) % d = 2 * (A % d) + β - d ∧ (2 * A + β) / d = 2 * (A / d) + 1 else (2 * A + β) % d = 2 * (A % d) + β ∧ (2 * A + β) / d = 2 * (A / d)) := by
 have h := Nat.div_add_mod A d
 have hm := Nat.mod_lt A hd
 have e : 2 * A + β = (2 * (A % d) + β) + d * (2 * (A / d)) := by
  rw [Nat.mul_left_comm]
  generalize d * (A / d) = x at *
  omega
 rw [e, Nat.add_mul_mod_self_left, Nat.add_mul_div_left _ _ hd]
 split
 ·rename_i hc
  have e2 : 2 * (A % d) + β = (2 * (A % d) + β - d) + d * 1 := by omega
  rw [e2, Nat.add_mul_mod_self_left, Nat.add_mul_div_left _ _ hd, Nat.mod_eq_of_lt (by omega), Nat.div_eq_of_lt (by omega)]
  omega
 ·rename_i hc
  rw [Nat.mod_eq_of_lt (by omega), Nat.div_eq_of_lt (by omega)]
  omega
theorem rm_start (N d : Nat) (h : N < 340282366920938463463374607431768211456) : Rm N d 127 0 0 false := by
 have e : N / 2 ^ (127 + 1 : Int).toNat = 0 := by
  apply Nat.div_eq_of_lt
  show N < 2 ^ 128
  omega
 refine ⟨by omega, by omega, by omega, by omega, ?_, ?_⟩
 ·rw [e, Nat.zero_mod]; rfl
 ·rw [e, Nat.zero_div]; exact ⟨rfl, by omega⟩
theorem rm_rest {N d : Nat} {i q r : Int} {o : Bool} (h : Rm N d i q r o) (hd : 0 < d) : 0 ≤ r ∧ r < d := by
 rw [h.rest]
 have := Nat.mod_lt (N / 2 ^ (i + 1).toNat) hd
 omega
theorem rm_step {N d : Nat} {i q r : Int} {o : Bool} (h : Rm N d i q r o) (hi : 0 ≤ i) (hd : 0 < d) (β : Nat) (hβ : β = N / 2 ^ i.toNat % 2) (q2 : Int) (hq2 : q2 = q * 2 % 18446744073709551616) (s : Int) (hs : s = r * 2 + β) (o2 : Bool) (ho : o2 = (o || decide (4611686018427387904 ≤ q))) :
 ((d : Int) ≤ s → Rm N d (i - 1) (q2 + 1) (s - d) o2) ∧ (s < (d : Int) → Rm N d (i - 1) q2 s o2) := by
 obtain ⟨lo, hi2, q0, q1, hr, hq⟩ := h
 obtain ⟨k, rfl⟩ := Int.eq_ofNat_of_zero_le hi
 have e1 : ((k : Int) + 1).toNat = k + 1 := by omega
 have e2 : ((k : Int) - 1 + 1).toNat = k := by omega
 have hb := half_bit N k
 rw [Int.toNat_natCast] at hβ
 rw [← hβ] at hb
 rw [e1] at hr hq
 have hβ2 : β < 2 := by omega
 have hn := next_bit (N / 2 ^ (k + 1)) d β hd hβ2
 rw [← hb] at hn
 have hm := Nat.mod_lt (N / 2 ^ (k + 1)) hd
 have quot : ∀ δ : Nat, δ < 2 → N / 2 ^ k / d = 2 * (N / 2 ^ (k + 1) / d) + δ → (if o2 = true then 9223372036854775808 ≤ N / 2 ^ k / d else q2 + δ = ((N / 2 ^ k / d : Nat) : Int) ∧ q2 + δ ≤ 9223372036854775807) := by
  intro δ hδ hQ
  rw [hQ]
  generalize N / 2 ^ (k + 1) / d = Q at *
  cases o with
  | true =>
    rw [if_pos rfl] at hq
    rw [ho, Bool.true_or, if_pos rfl]
    omega
  | false =>
    rw [if_neg (by simp)] at hq
    rw [ho, Bool.false_or]
    by_cases hc : 4611686018427387904 ≤ q
    ·rw [if_pos (by simpa using hc)]
     omega
    ·rw [if_neg (by simpa using hc)]
     omega
 have q2b : 0 ≤ q2 ∧ q2 ≤ 18446744073709551614 := by omega
 constructor
 ·intro hds
  rw [if_pos (by omega)] at hn
  refine ⟨by omega, by omega, by omega, by omega, ?_, ?_⟩
  ·rw [e2, hn.1]; omega
  ·rw [e2]; exact quot 1 (by omega) hn.2
 ·intro hds
  rw [if_neg (by omega)] at hn
  refine ⟨by omega, by omega, by omega, by omega, ?_, ?_⟩
  ·rw [e2, hn.1]; omega
  ·rw [e2]; have := quot 0 (by omega) (by rw [hn.2]; rfl); rw [Int.natCast_zero, Int.add_zero] at this; exact this
theorem rm_end {N d : Nat} {i q r : Int} {o : Bool} (h : Rm N d i q r o) (hi : i < 0) : r = ((N % d : Nat) : Int) ∧ (o = true → 9223372036854775808 ≤ N / d) ∧ (o = false → q = ((N / d : Nat) : Int) ∧ q ≤ 9223372036854775807) := by
 obtain ⟨lo, hi2, q0, q1, hr, hq⟩ := h
 have e : (i + 1).toNat = 0 := by omega
 rw [e, Nat.pow_zero, Nat.div_one] at hr hq
 refine ⟨hr, fun ho => ?_, fun ho => ?_⟩
 ·rw [if_pos ho] at hq; exact hq
 ·rw [if_neg (by simp [ho])] at hq; exact hq
theorem bit_low (N m : Nat) (hm : m < 64) : N % 18446744073709551616 / 2 ^ m % 2 = N / 2 ^ m % 2 := by
 have e : (18446744073709551616 : Nat) = 2 ^ m * 2 ^ (64 - m) := by rw [← Nat.pow_add, show m + (64 - m) = 64 by omega]
 rw [e, Nat.mod_mul_right_div_self]
 have e3 : 64 - m = (63 - m) + 1 := by omega
 rw [e3, Nat.pow_succ, Nat.mod_mul_left_mod]
theorem bit_high (N m : Nat) : N / 18446744073709551616 / 2 ^ m % 2 = N / 2 ^ (64 + m) % 2 := by
 rw [Nat.div_div_eq_div_mul, Nat.pow_add]
end Fx
end
section
open Go.RowKit
open Fx (Vl)
namespace Ag
def kn (l : List Vl) : List Vl := l.filter Fx.num
theorem kn_take (l : List Vl) (k : Nat) (h : k < l.length) : kn (l.take (k + 1)) = if Fx.num l[k] = true then kn (l.take k) ++ [l[k]] else kn (l.take k) := by
 unfold kn
 rw [List.take_succ_eq_append_getElem h, List.filter_append]
 by_cases hn : Fx.num l[k] = true
 ·rw [if_pos hn]; simp [hn]
 ·rw [if_neg hn]; simp [hn]
theorem kn_len (l : List Vl) : (kn l).length ≤ l.length := List.length_filter_le _ _
theorem kn_take_len (l : List Vl) (k : Nat) : (kn (l.take k)).length ≤ k := Nat.le_trans (kn_len _) (by rw [List.length_take]; omega)
def mx1 (a b : Vl) : Vl := if a.n < b.n then b else a
def mn1 (a b : Vl) : Vl := if b.n < a.n then b else a
def mx (l : List Vl) : Vl := match l with | [] => Fx.none | x :: r => r.foldl mx1 x
def mn (l : List Vl) : Vl := match l with | [] => Fx.none | x :: r => r.foldl mn1 x
theorem mx_take (l : List Vl) (k : Nat) (h0 : 0 < k) (h : k < l.length) : mx (l.take (k + 1)) = mx1 (mx (l.take k)) l[k] := by
 rw [List.take_succ_eq_append_getElem h]
 cases hl : l.take k with
 | nil => have := congrArg List.length hl; rw [List.length_take, Nat.min_eq_left (Nat.le_of_lt h)] at this; simp at this; omega
 | cons x r => simp [mx, List.foldl_append]
theorem mn_take (l : List Vl) (k : Nat) (h0 : 0 < k) (h : k < l.length) : mn (l.take (k + 1)) = mn1 (mn (l.take k)) l[k] := by
 rw [List.take_succ_eq_append_getElem h]
 cases hl : l.take k with
 | nil => have := congrArg List.length hl; rw [List.length_take, Nat.min_eq_left (Nat.le_of_lt h)] at this; simp at this; omega
 | cons x r => simp [mn, List.foldl_append]
theorem mx_one (l : List Vl) (h : 0 < l.length) : mx (l.take 1) = l[0] := by cases l with | nil => cases h | cons x r => rfl
theorem mn_one (l : List Vl) (h : 0 < l.length) : mn (l.take 1) = l[0] := by cases l with | nil => cases h | cons x r => rfl
theorem mx1_yes {a b : Vl} (h : a.n < b.n) : mx1 a b = b := if_pos h
theorem mx1_no {a b : Vl} (h : ¬ a.n < b.n) : mx1 a b = a := if_neg h
theorem mn1_yes {a b : Vl} (h : b.n < a.n) : mn1 a b = b := if_pos h
theorem mn1_no {a b : Vl} (h : ¬ b.n < a.n) : mn1 a b = a := if_neg h
def tg (kind : Int) (k : List Vl) : Vl :=
 if k.length = 0 then Fx.none
 else if kind = 1 then Fx.div (sum k) (Fx.of ((k.length : Int) * 1000000))
 else if kind = 2 then sum k
 else if kind = 3 then k.getD (k.length - 1) Fx.none
 else if kind = 4 then mx k
 else if kind = 5 then mn k
 else Fx.none
theorem tg_nil (kind : Int) : tg kind [] = Fx.none := rfl
theorem tg_1 {k : List Vl} (h : 0 < k.length) : tg 1 k = Fx.div (sum k) (Fx.of ((k.length : Int) * 1000000)) := by unfold tg; rw [if_neg (Nat.ne_of_gt h), if_pos (Eq.refl (1 : Int))]
theorem tg_2 {k : List Vl} (h : 0 < k.length) : tg 2 k = sum k := by unfold tg; rw [if_neg (Nat.ne_of_gt h), if_neg (by decide), if_pos (Eq.refl (2 : Int))]
theorem tg_3 {k : List Vl} (h : 0 < k.length) : tg 3 k = k[k.length - 1]'(by omega) := by
 unfold tg; rw [if_neg (Nat.ne_of_gt h), if_neg (by decide), if_neg (by decide), if_pos (Eq.refl (3 : Int))]
 rw [List.getD_eq_getElem?_getD, List.getElem?_eq_getElem (by omega)]; rfl
theorem tg_4 {k : List Vl} (h : 0 < k.length) : tg 4 k = mx k := by unfold tg; rw [if_neg (Nat.ne_of_gt h), if_neg (by decide), if_neg (by decide), if_neg (by decide), if_pos (Eq.refl (4 : Int))]
theorem tg_5 {k : List Vl} (h : 0 < k.length) : tg 5 k = mn k := by unfold tg; rw [if_neg (Nat.ne_of_gt h), if_neg (by decide), if_neg (by decide), if_neg (by decide), if_neg (by decide), if_pos (Eq.refl (5 : Int))]
theorem tg_no {kind : Int} {k : List Vl} (h1 : kind ≠ 1) (h2 : kind ≠ 2) (h3 : kind ≠ 3) (h4 : kind ≠ 4) (h5 : kind ≠ 5) : tg kind k = Fx.none := by
 unfold tg; rw [if_neg h1, if_neg h2, if_neg h3, if_neg h4, if_neg h5]; split <;> rfl
def lim (n : Int) : Int := if n < 0 then 0 else if 16777216 < n then 16777216 else n
theorem lim_bd (n : Int) : 0 ≤ lim n ∧ lim n ≤ 16777216 := by
 unfold lim
 split
 ·omega
 ·split <;> omega
def en (xff known all : Int) : Bool := decide (0 < lim known ∧ lim known ≤ lim all ∧ lim xff * lim all ≤ lim known * 1000000)
def put (kind xff : Int) (l : List Vl) : Vl := if en xff ((kn l).length : Int) (l.length : Int) = true then tg kind (kn l) else Fx.none
end Ag
end
end Go.Proofs.YtljlanhpjpjgaaaGreatDoor
