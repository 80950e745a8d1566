/-
  QtTail: A REGION THAT DRAWS ITS ORDER, ALL OF WHOSE OPERATIONS BUT THE LAST ARE QUIET IN A CLASS OF WORLDS, AND WHOSE LAST ONE WAITS FOR ALL THE OTHERS (a store of what was reckoned): walked once, in the order of the text; the last one behind it.
-/
import Derived.Lib.QuietBelow

namespace Go.Proofs.YtfmbbhcjnidcbaaGreatDoor
open Go Go.Sort
namespace Qt

section
variable {P : Program} {md : Region.Mode} {C : World → Prop} {A : Array Oper} {o : Oper} {Q : Exit → Act → World → Prop}

/-- What is asked of the operations: edges lead back; guards too; the last one waits for each other one. -/
structure Fits (md : Region.Mode) (A : Array Oper) (o : Oper) : Prop where
  back : ∀ (j : Nat) (oj : Oper), A[j]? = some oj → ∀ e ∈ oj.after, Region.binds md e = true → e.on < j
  guarded : ∀ (j : Nat) (oj : Oper), A[j]? = some oj → ∀ (g : Nat) (b : Bool), oj.guard = some (g, b) → g < A.size
  waits : ∀ i, i < A.size → ∃ e ∈ o.after, Region.binds md e = true ∧ e.on = i
  last : ∀ e ∈ o.after, Region.binds md e = true → e.on < A.size

def fitsB (md : Region.Mode) (A : Array Oper) (o : Oper) : Bool :=
  ((List.range A.size).all fun j => match A[j]? with
    | some oj => (oj.after.all fun e => !Region.binds md e || decide (e.on < j)) && (match oj.guard with | some (g, _) => decide (g < A.size) | none => true)
    | none => true) &&
  ((List.range A.size).all fun i => o.after.any fun e => Region.binds md e && e.on == i) &&
  (o.after.all fun e => !Region.binds md e || decide (e.on < A.size))

theorem fits_of (h : fitsB md A o = true) : Fits md A o := by
  simp only [fitsB, Bool.and_eq_true, List.all_eq_true, List.mem_range] at h
  obtain ⟨⟨h1, h2⟩, h3⟩ := h
  refine ⟨fun j oj hj e he hb => ?_, fun j oj hj g b hg => ?_, fun i hi => ?_, fun e he hb => ?_⟩
  · have hlt : j < A.size := (Array.getElem?_eq_some_iff.1 hj).1
    have := h1 j hlt
    simp only [hj, Bool.and_eq_true] at this
    have h4 := Array.all_eq_true_iff_forall_mem.1 this.1 e he
    simpa [hb] using h4
  · have hlt : j < A.size := (Array.getElem?_eq_some_iff.1 hj).1
    have := h1 j hlt
    simp only [hj, Bool.and_eq_true, hg, decide_eq_true_eq] at this
    exact this.2
  · obtain ⟨e, he, hb⟩ := Array.any_eq_true'.1 (h2 i hi)
    simp only [Bool.and_eq_true, beq_iff_eq] at hb
    exact ⟨e, he, hb.1, hb.2⟩
  · have h4 := Array.all_eq_true_iff_forall_mem.1 h3 e he
    simpa [hb] using h4

theorem get_push_lt {j : Nat} (h : j < A.size) : (A.push o)[j]? = A[j]? := by
  rw [Array.getElem?_push, if_neg (by omega)]
theorem getD_push_false (L : Array Bool) (j : Nat) : (L.push false).getD j false = L.getD j false := by
  simp only [Array.getD_eq_getD_getElem?, Array.getElem?_push]
  split
  · rename_i h; subst h; simp
  · rfl
theorem getD_push_true {L : Array Bool} {j : Nat} (h : j ≠ L.size) : (L.push false).getD j true = L.getD j true := by
  simp only [Array.getD_eq_getD_getElem?, Array.getElem?_push]
  rw [if_neg h]
theorem getD_two {L : Array Bool} {j : Nat} (h : j < L.size) : L.getD j true = L.getD j false := by
  simp [Array.getD_eq_getD_getElem?, h]

/-- While something has not come up, something may come up. -/
theorem some_ready (F : Fits md A o) {L : Array Bool} (hL : L.size = A.size) : ∀ (m j : Nat), j < m → j < A.size → L.getD j true = false → ∃ i, i ∈ Region.ready md A L := by
  intro m
  induction m with
  | zero => intro j h; omega
  | succ m ih =>
    intro j hjm hj hu
    by_cases hall : ∀ e ∈ (A[j]).after, Region.binds md e = true → L.getD e.on false = true
    · exact ⟨j, mem_ready.2 ⟨hu, A[j], by simp [hj], hall⟩⟩
    · simp only [Classical.not_forall] at hall
      obtain ⟨e, he, hb, hne⟩ := hall
      have hlt := F.back j A[j] (by simp [hj]) e he hb
      have hlt2 : e.on < A.size := Nat.lt_trans hlt hj
      exact ih e.on (by omega) hlt2 (by rw [getD_two (by omega)]; simpa using hne)

/-- Which may come up: the same as without the last one, till all have come up. -/
theorem ready_push {L : Array Bool} (hL : L.size = A.size) {j : Nat} (hj : j < A.size) : j ∈ Region.ready md (A.push o) (L.push false) ↔ j ∈ Region.ready md A L := by
  rw [mem_ready, mem_ready, get_push_lt hj, getD_push_true (by omega)]
  simp only [getD_push_false]

theorem wanted_push (F : Fits md A o) {j : Nat} {oj : Oper} (hj : A[j]? = some oj) (tmps : Array Value) : Region.wanted oj (yielded (A.push o) tmps) = Region.wanted oj (yielded A tmps) := by
  unfold Region.wanted
  cases hg : oj.guard with
  | none => rfl
  | some gb =>
    obtain ⟨g, b⟩ := gb
    have hlt := F.guarded j oj hj g b hg
    have e : yielded (A.push o) tmps g = yielded A tmps g := by unfold yielded; rw [get_push_lt hlt]
    simp only [e]

theorem qOp_push (F : Fits md A o) {j : Nat} (hj : j < A.size) {K : Act → Prop} {a : Act} (h : qOp P A C j K a) : qOp P (A.push o) C j K a := by
  unfold qOp at *
  rw [get_push_lt hj]
  have hs : A[j]? = some A[j] := by simp [hj]
  rw [hs] at h ⊢
  simp only at h ⊢
  rw [wanted_push F hs]
  exact h

theorem set_push {L : Array Bool} {j : Nat} (hj : j < L.size) : (L.push false).setIfInBounds j true = (L.setIfInBounds j true).push false := by
  apply Array.ext_getElem?
  intro i
  simp only [Array.getElem?_setIfInBounds, Array.getElem?_push, Array.size_push, Array.size_setIfInBounds]
  by_cases h1 : i = L.size
  · subst h1; rw [if_neg (by omega), if_pos rfl, if_pos rfl]
  · by_cases h2 : j = i
    · subst h2; rw [if_pos rfl, if_pos (by omega), if_neg h1, if_pos rfl, if_pos hj]
    · rw [if_neg h2, if_neg h1, if_neg h1, if_neg h2]

/-- All have come up but the last one: it comes up, and then the region is done. -/
theorem last_up (F : Fits md A o) {L : Array Bool} (hL : L.size = A.size) (hall : ∀ j, j < A.size → L.getD j true = true) {a : Act} {w : World}
    (h : wpList P (A.push o) Q [o] a w) (k : Nat) : wpAny P md (A.push o) Q (k + 1) (L.push false) a w := by
  have hn : A.size ∈ Region.ready md (A.push o) (L.push false) := by
    rw [mem_ready]
    refine ⟨by rw [← hL]; simp [Array.getD_eq_getD_getElem?], o, by simp, fun e he hb => ?_⟩
    rw [getD_push_false, ← getD_two (by rw [hL]; exact F.last e he hb)]
    exact hall _ (F.last e he hb)
  have hdone : Region.ready md (A.push o) ((L.push false).setIfInBounds A.size true) = [] := by
    apply List.eq_nil_iff_forall_not_mem.2
    intro j hj
    rw [mem_ready] at hj
    obtain ⟨h1, oj, h2, _⟩ := hj
    have hlt : j < A.size + 1 := by have := (Array.getElem?_eq_some_iff.1 h2).1; simpa using this
    simp only [Array.getD_eq_getD_getElem?, Array.getElem?_setIfInBounds, Array.size_push, hL] at h1
    by_cases hj : A.size = j
    · subst hj; simp at h1
    · rw [if_neg hj] at h1
      have h3 := hall j (by omega)
      rw [← getD_push_true (by omega)] at h3
      rw [Array.getD_eq_getD_getElem?] at h3
      rw [h3] at h1
      cases h1
  refine ⟨fun h0 => (by rw [h0] at hn; cases hn), fun i hi => ?_⟩
  have hin : i = A.size := by
    rw [mem_ready] at hi
    obtain ⟨h1, oj, h2, _⟩ := hi
    have hlt : i < A.size + 1 := by have := (Array.getElem?_eq_some_iff.1 h2).1; simpa using this
    by_cases hj : i = A.size
    · exact hj
    · rw [getD_push_true (by omega), hall i (by omega)] at h1
      cases h1
  subst hin
  have hK : ∀ a' w', Q .normal a' w' → wpAny P md (A.push o) Q k ((L.push false).setIfInBounds A.size true) a' w' := fun a' w' q => by
    cases k with
    | zero => exact ⟨hdone, q⟩
    | succ k => exact ⟨fun _ => q, fun i hi => (by rw [hdone] at hi; cases hi)⟩
  unfold wpOp
  rw [show (A.push o)[A.size]? = some o by simp]
  unfold wpList at h
  simp only
  split
  · rename_i hw
    rw [if_pos hw] at h
    exact h.imp (Oper.wp_mono hK) id
  · rename_i hw
    rw [if_neg hw] at h
    exact hK _ _ h

theorem any_tail (F : Fits md A o) {QQ : Act → Prop} (hQ : ∀ a w, C w → QQ a → wpList P (A.push o) Q [o] a w) :
    ∀ (fuel : Nat) (L : Array Bool) (a : Act) (w : World), L.size = A.size → C w → wpAnyQ P md A C QQ fuel L a → wpAny P md (A.push o) Q (fuel + 1) (L.push false) a w := by
  have all_of : ∀ {L : Array Bool}, L.size = A.size → Region.ready md A L = [] → ∀ j, j < A.size → L.getD j true = true := fun {L} hL h0 j hj => by
    cases hu : L.getD j true with
    | true => rfl
    | false =>
      obtain ⟨i, hi⟩ := some_ready F hL (j + 1) j (by omega) hj hu
      rw [h0] at hi
      cases hi
  intro fuel
  induction fuel with
  | zero => intro L a w hL hC h; exact last_up F hL (all_of hL h.1) (hQ a w hC h.2) 0
  | succ fuel ih =>
    intro L a w hL hC h
    by_cases h0 : Region.ready md A L = []
    · exact last_up F hL (all_of hL h0) (hQ a w hC (h.1 h0)) (fuel + 1)
    · obtain ⟨i0, hi0⟩ := List.exists_mem_of_ne_nil _ h0
      have hi0' := hi0
      have notlast : A.size ∉ Region.ready md (A.push o) (L.push false) := fun hn => by
        rw [mem_ready] at hn hi0'
        obtain ⟨hu, oj, hoj, _⟩ := hi0'
        have hlt := (Array.getElem?_eq_some_iff.1 hoj).1
        obtain ⟨_, o', ho', hw⟩ := hn
        rw [show (A.push o)[A.size]? = some o by simp] at ho'
        cases ho'
        obtain ⟨e, he, hb, hon⟩ := F.waits i0 hlt
        have h2 := hw e he hb
        rw [getD_push_false, hon, ← getD_two (by omega), hu] at h2
        cases h2
      have up : ∀ i, i ∈ Region.ready md (A.push o) (L.push false) → i < A.size ∧ i ∈ Region.ready md A L := fun i hi => by
        have hlt : i < A.size := by
          have h2 := (mem_ready.1 hi).2
          obtain ⟨oj, h2, _⟩ := h2
          have h3 : i < A.size + 1 := by have := (Array.getElem?_eq_some_iff.1 h2).1; simpa using this
          by_cases hj : i = A.size
          · subst hj; exact absurd hi notlast
          · omega
        exact ⟨hlt, (ready_push hL hlt).1 hi⟩
      refine ⟨fun he => ?_, fun i hi => ?_⟩
      · have hlt : i0 < A.size := by
          obtain ⟨oj, h2, _⟩ := (mem_ready.1 hi0).2
          exact (Array.getElem?_eq_some_iff.1 h2).1
        have := (ready_push (o := o) hL hlt).2 hi0
        rw [he] at this
        cases this
      · obtain ⟨hlt, hi2⟩ := up i hi
        rw [set_push (by omega)]
        exact wpOp_of_qOp (K := wpAnyQ P md A C QQ fuel (L.setIfInBounds i true)) hC (fun a' w' hC' hK => ih _ a' w' (by simpa using hL) hC' hK) (qOp_push F hlt (h.2 i hi2))

/-- **THE REGION**, its operations written out. -/
theorem wp_region_quiet_tail {id : Nat} {a : Act} {w : World} (l : List Oper) (o : Oper) (hm : P.follows .mixedOrders = true) (hB : Region.lexB .any l.toArray = true) (hF : fitsB .any l.toArray o = true) (hC : C { w with drawn := w.drawn + 1 })
    (h : wpQuiet P l.toArray C (fun a' => ∀ w', C w' → wpList P (l.toArray.push o) Q [o] a' w') l a) : (Code.region id (l.toArray.push o) true).wp P Q a w := by
  simp only [Region.lexB, Bool.and_eq_true] at hB
  refine wp_region_any hm ?_
  have hq := wpAnyQ_lex (C := C) (md := .any) hB.1 l 0 (Array.replicate l.toArray.size false) a (by simp) (by simpa using hB.2) h
  have hs : Array.replicate (l.toArray.push o).size false = (Array.replicate l.toArray.size false).push false := by
    rw [Array.size_push, Array.replicate_succ]
  rw [hs]
  have := any_tail (fits_of hF) (QQ := fun a' => ∀ w', C w' → wpList P (l.toArray.push o) Q [o] a' w') (fun a w hw hq => hq w hw) l.length (Array.replicate l.toArray.size false) a _ (by simp) hC hq
  simpa using this

/-- At the class 'some blocks laid, whatever count of draws'. -/
theorem wp_region_below_tail {id : Nat} {a : Act} {w : World} (l : List Oper) (o : Oper) (hm : P.follows .mixedOrders = true) (hB : Region.lexB .any l.toArray = true) (hF : fitsB .any l.toArray o = true)
    (h : wpQuiet P l.toArray (fun w' => ∃ p : Regrown, w' = grow (redrawn w p.d) p.os) (fun a' => ∀ w', (∃ p : Regrown, w' = grow (redrawn w p.d) p.os) → wpList P (l.toArray.push o) Q [o] a' w') l a) : (Code.region id (l.toArray.push o) true).wp P Q a w :=
  wp_region_quiet_tail (C := fun w' => ∃ p : Regrown, w' = grow (redrawn w p.d) p.os) l o hm hB hF ⟨⟨w.drawn + 1, #[]⟩, by rw [grow_empty]; rfl⟩ h

/-- The same over a list written out: its first n operations, and the last. -/
theorem wp_region_below_tail_at {id : Nat} {a : Act} {w : World} {l : List Oper} {o : Oper} (n : Nat) (hl : l.drop n = [o]) (hm : P.follows .mixedOrders = true) (hB : Region.lexB .any (l.take n).toArray = true) (hF : fitsB .any (l.take n).toArray o = true)
    (h : wpQuiet P (l.take n).toArray (fun w' => ∃ p : Regrown, w' = grow (redrawn w p.d) p.os) (fun a' => ∀ w', (∃ p : Regrown, w' = grow (redrawn w p.d) p.os) → wpList P l.toArray Q [o] a' w') (l.take n) a) : (Code.region id l.toArray true).wp P Q a w := by
  have e : l = l.take n ++ [o] := by rw [← hl, List.take_append_drop]
  have e2 : l.toArray = (l.take n).toArray.push o := by rw [List.push_toArray, ← e]
  rw [e2] at h ⊢
  exact wp_region_below_tail (l.take n) o hm hB hF h
end
end Qt
end Go.Proofs.YtfmbbhcjnidcbaaGreatDoor
