/-
  Inv: A LAW FOR A REGION THAT DRAWS ITS ORDER: what each operation owes by itself, whatever came up before it: one proof an operation, not one an order. No program is named here.
-/
import Derived.Orders
import Derived.Lib.Hide

set_option linter.unusedSimpArgs false
set_option linter.unusedVariables false
namespace Go.Proofs.YtojmcndiooiehaaGreatDoor
open Go
namespace Inv

def dep (o : Oper) (j : Nat) : Bool := o.after.toList.any fun e => Region.binds .any e && e.on == j
/-- The edges point backwards. -/
def ordB (ops : Array Oper) : Bool := ops.toList.zipIdx.all fun p => p.1.after.all fun e => decide (e.on < p.2)
/-- No two operations write one slot, and each slot is there. -/
def dstB (ops : Array Oper) (n : Nat) : Bool :=
  (ops.toList.zipIdx.all fun p => ops.toList.zipIdx.all fun q => p.2 == q.2 || p.1.dst.isNone || p.1.dst != q.1.dst) && ops.toList.all fun o => match o.dst with | some d => decide (d < n) | none => true
/-- Slot s still has what it had when operation i comes up. -/
def fresh (ops : Array Oper) (i s : Nat) : Bool := ops.toList.zipIdx.all fun p => p.1.dst != some s || p.2 == i || dep p.1 i
/-- Slot s is written by no operation. -/
def clean (ops : Array Oper) (s : Nat) : Bool := ops.toList.all fun o => o.dst != some s
def slot (o : Oper) (a : Act) : Value := match o.dst with | some d => a.tmps.getD d undef | none => undef

theorem zip_all {ops : Array Oper} {f : Oper × Nat → Bool} (h : ops.toList.zipIdx.all f = true) {i : Nat} {o : Oper} (ho : ops[i]? = some o) : f (o, i) = true := by
  refine List.all_eq_true.1 h (o, i) ?_
  rw [List.mem_zipIdx_iff_getElem?]
  simpa using ho
theorem ord_lt {ops : Array Oper} (h : ordB ops = true) {i : Nat} {o : Oper} (ho : ops[i]? = some o) {e : Edge} (he : e ∈ o.after) : e.on < i := by
  have := zip_all h ho
  simp only [Array.all_eq_true_iff_forall_mem] at this
  exact of_decide_eq_true (this e he)
theorem dst_ne {ops : Array Oper} {n : Nat} (h : dstB ops n = true) {i j : Nat} {o p : Oper} (ho : ops[i]? = some o) (hp : ops[j]? = some p) (hij : i ≠ j) {d : Tmp} (hd : o.dst = some d) : p.dst ≠ some d := by
  unfold dstB at h
  rw [Bool.and_eq_true] at h
  have := zip_all (zip_all h.1 ho) hp
  simp [hd, hij] at this
  exact fun e => this e.symm
theorem dst_lt {ops : Array Oper} {n : Nat} (h : dstB ops n = true) {i : Nat} {o : Oper} (ho : ops[i]? = some o) {d : Tmp} (hd : o.dst = some d) : d < n := by
  unfold dstB at h
  rw [Bool.and_eq_true] at h
  have := List.all_eq_true.1 h.2 o (Array.mem_toList_iff.2 (Array.mem_of_getElem? ho))
  simpa [hd] using this
theorem fresh_spec {ops : Array Oper} {i s : Nat} (h : fresh ops i s = true) {j : Nat} {p : Oper} (hp : ops[j]? = some p) (hd : p.dst = some s) : j = i ∨ dep p i = true := by
  have := zip_all h hp
  simp [hd] at this
  exact this
theorem clean_spec {ops : Array Oper} {s : Nat} (h : clean ops s = true) {j : Nat} {p : Oper} (hp : ops[j]? = some p) : p.dst ≠ some s := by
  have := List.all_eq_true.1 h p (Array.mem_toList_iff.2 (Array.mem_of_getElem? hp))
  simpa using this

section
variable {P : Program} {ops : Array Oper} {Q : Exit → Act → World → Prop}

theorem count_set (l : Array Bool) (i : Nat) (hf : l.getD i true = false) : (l.setIfInBounds i true).toList.count false + 1 = l.toList.count false := by
  have hi : i < l.size := by
    apply Decidable.byContradiction
    intro h
    simp [Array.getD, h] at hf
  have hl : l.toList[i]'(by simpa using hi) = false := by simpa [Array.getD, hi] using hf
  have h1 : 0 < l.toList.count false := List.count_pos_iff.2 (hl ▸ List.getElem_mem _)
  have h2 := List.count_set (a := true) (b := false) (l := l.toList) (i := i) (by simpa using hi)
  rw [hl] at h2
  have e1 : ((false == false) = true) = True := by simp
  have e2 : ((true == false) = true) = False := by simp
  simp only [e1, e2, if_true, if_false] at h2
  rw [Array.toList_setIfInBounds]
  omega
theorem count_zero {l : Array Bool} (h : l.toList.count false = 0) (i : Nat) : l.getD i true = true := by
  by_cases hi : i < l.size
  · have : l[i] ≠ false := fun e => List.count_eq_zero.1 h (by rw [← e]; simp)
    simpa [Array.getD, hi] using this
  · simp [Array.getD, hi]
/-- Where nothing may come up, all have come up. -/
theorem ready_nil (hord : ordB ops = true) {listed : Array Bool} (h : Region.ready .any ops listed = []) : ∀ i, i < ops.size → listed.getD i true = true := by
  intro i
  induction i using Nat.strongRecOn with
  | _ i ih =>
    intro hi
    apply Decidable.byContradiction
    intro hne
    have hmem : i ∈ Region.ready .any ops listed := by
      unfold Region.ready
      rw [List.mem_filter]
      refine ⟨List.mem_range.2 hi, ?_⟩
      rw [Bool.and_eq_true]
      refine ⟨by simpa using hne, ?_⟩
      have ho : ops[i]? = some ops[i] := Array.getElem?_eq_getElem hi
      rw [ho]
      simp only [Option.map_some, Option.getD_some]
      rw [Array.all_eq_true_iff_forall_mem]
      intro e he
      have hlt := ord_lt hord ho he
      have := ih e.on hlt (by omega)
      rw [Bool.or_eq_true]
      refine .inr ?_
      have hsz : e.on < listed.size ∨ ¬ e.on < listed.size := Nat.lt_or_ge _ _ |>.imp id Nat.not_lt.2
      rcases hsz with hs | hs
      · simpa [Array.getD, hs] using this
      · exfalso
        apply hne
        have : ¬ i < listed.size := by omega
        simp [Array.getD, this]
    rw [h] at hmem
    cases hmem

theorem wpAny_inv (I : Array Bool → Act → World → Prop)
    (step : ∀ listed a w, I listed a w → ∀ i ∈ Region.ready .any ops listed, wpOp P ops Q i (I (listed.setIfInBounds i true)) a w)
    (fin : ∀ listed a w, I listed a w → Region.ready .any ops listed = [] → Q .normal a w) :
    ∀ fuel listed a w, I listed a w → listed.toList.count false ≤ fuel → wpAny P .any ops Q fuel listed a w
  | 0, listed, a, w, h, hc => by
    have hr : Region.ready .any ops listed = [] := by
      refine List.filter_eq_nil_iff.2 fun i _ => ?_
      have := count_zero (Nat.le_zero.1 hc) i
      simp [this]
    exact ⟨hr, fin _ _ _ h hr⟩
  | fuel + 1, listed, a, w, h, hc => by
    refine ⟨fin _ _ _ h, fun i hi => ?_⟩
    have hf : listed.getD i true = false := by
      unfold Region.ready at hi
      rw [List.mem_filter, Bool.and_eq_true] at hi
      simpa using hi.2.1
    have := count_set listed i hf
    exact wpOp_mono (fun a' w' h' => wpAny_inv I step fin fuel _ a' w' h' (by omega)) (step _ _ _ h i hi)

/-- The law. R i: what operation i has left in its slot, in a world; Ext: how worlds may go on. -/
theorem wp_region_inv {id : Nat} {a0 : Act} {w0 : World} (Ext : World → World → Prop) (R : Nat → Value → World → Prop) (hm : P.follows .mixedOrders = true) (hord : ordB ops = true) (hdst : dstB ops a0.tmps.size = true)
    (hrefl : ∀ w, Ext w w) (htr : ∀ a b c, Ext a b → Ext b c → Ext a c) (hR : ∀ i v w w', R i v w → Ext w w' → R i v w')
    (step : ∀ i o, ops[i]? = some o → ∀ a w, Ext w0.drew w → (∀ s, fresh ops i s = true → a.tmps.getD s undef = a0.tmps.getD s undef) → (∀ j p, dep o j = true → ops[j]? = some p → R j (slot p a) w) →
      if Region.wanted o (yielded ops a.tmps) = true then o.wp P a w (fun a' w' => ∃ v, a' = a.put o.dst v ∧ (o.dst = none → v = undef) ∧ R i v w' ∧ Ext w w') Q else R i undef w)
    (fin : ∀ a w, Ext w0.drew w → a.defers = a0.defers → a.tmps.size = a0.tmps.size → (∀ s, clean ops s = true → a.tmps.getD s undef = a0.tmps.getD s undef) → (∀ j p, ops[j]? = some p → R j (slot p a) w) → Q .normal a w) :
    (Code.region id ops true).wp P Q a0 w0 := by
  refine wp_region_any hm ?_
  refine wpAny_inv (fun listed a w => (∀ j o, listed.getD j true = true → ops[j]? = some o → ∀ k, dep o k = true → listed.getD k true = true) ∧ a.defers = a0.defers ∧ a.tmps.size = a0.tmps.size ∧
    (∀ s, (∀ j o, listed.getD j true = true → ops[j]? = some o → o.dst ≠ some s) → a.tmps.getD s undef = a0.tmps.getD s undef) ∧ Ext w0.drew w ∧ (∀ j o, listed.getD j true = true → ops[j]? = some o → R j (slot o a) w)) ?_ ?_ ops.size _ a0 _ ?_ ?_
  · rintro listed a w ⟨h1, h2, h3, h4, h5, h6⟩ i hi
    unfold Region.ready at hi
    rw [List.mem_filter, Bool.and_eq_true] at hi
    obtain ⟨hlt, hnl, haf⟩ := hi
    rw [List.mem_range] at hlt
    have ho : ops[i]? = some ops[i] := Array.getElem?_eq_getElem hlt
    rw [ho] at haf
    simp only [Option.map_some, Option.getD_some, Array.all_eq_true_iff_forall_mem] at haf
    generalize ops[i] = o at *
    have hnl' : listed.getD i true = false := by simpa using hnl
    have hdep : ∀ k, dep o k = true → listed.getD k true = true := fun k hk => by
      unfold dep at hk
      obtain ⟨e, he, hb⟩ := List.any_eq_true.1 hk
      rw [Bool.and_eq_true] at hb
      have hon : e.on = k := by simpa using hb.2
      have := haf e (Array.mem_toList_iff.1 he)
      rw [hb.1] at this
      have hx : listed.getD e.on false = true := by simpa using this
      rw [← hon]
      by_cases hs : e.on < listed.size
      · simpa [Array.getD, hs] using hx
      · simp [Array.getD, hs]
    have hst := step i o ho a w h5 (fun s hs => h4 s fun j p hj hp hd => by
      rcases fresh_spec hs hp hd with rfl | hdj
      · rw [hj] at hnl'; cases hnl'
      · have := h1 j p hj hp i hdj
        rw [this] at hnl'; cases hnl') (fun j p hj hp => h6 j p (hdep j hj) hp)
    -- what stands behind the operation
    have key : ∀ v w', (o.dst = none → v = undef) → R i v w' → Ext w w' → (∀ j p, (listed.setIfInBounds i true).getD j true = true → ops[j]? = some p → ∀ k, dep p k = true → (listed.setIfInBounds i true).getD k true = true) ∧ (a.put o.dst v).defers = a0.defers ∧ (a.put o.dst v).tmps.size = a0.tmps.size ∧
        (∀ s, (∀ j p, (listed.setIfInBounds i true).getD j true = true → ops[j]? = some p → p.dst ≠ some s) → (a.put o.dst v).tmps.getD s undef = a0.tmps.getD s undef) ∧ Ext w0.drew w' ∧ (∀ j p, (listed.setIfInBounds i true).getD j true = true → ops[j]? = some p → R j (slot p (a.put o.dst v)) w') := by
      intro v w' hv hRi hE
      have hset : ∀ j, (listed.setIfInBounds i true).getD j true = true ↔ (j = i ∨ listed.getD j true = true) := fun j => by
        by_cases hji : j = i
        · subst hji
          simp only [true_or, iff_true]
          by_cases hs : j < listed.size <;> simp [Array.getD, hs]
        · have hij : i ≠ j := fun e => hji e.symm
          simp only [hji, false_or]
          by_cases hs : j < listed.size <;> simp [Array.getD, hs, hij]
      have hput : ∀ d, o.dst ≠ some d → (a.put o.dst v).tmps.getD d undef = a.tmps.getD d undef := fun d hd => by
        cases hod : o.dst with
        | none => rfl
        | some e =>
          have hed : e ≠ d := fun x => hd (by rw [hod, x])
          by_cases hs : d < a.tmps.size <;> simp [Act.put, Array.getD, hs, hed]
      refine ⟨fun j p hj hp k hk => ?_, ?_, ?_, fun s hs => ?_, htr _ _ _ h5 hE, fun j p hj hp => ?_⟩
      · rw [hset] at hj ⊢
        rcases hj with rfl | hj
        · rw [ho] at hp
          injection hp with hp
          subst hp
          exact .inr (hdep k hk)
        · exact .inr (h1 j p hj hp k hk)
      · rw [← h2]; cases o.dst <;> rfl
      · rw [← h3]; cases o.dst <;> simp [Act.put]
      · rw [hput s (hs i o ((hset i).2 (.inl rfl)) ho)]
        exact h4 s fun j p hj hp => hs j p ((hset j).2 (.inr hj)) hp
      · rw [hset] at hj
        by_cases hji : j = i
        · subst hji
          rw [ho] at hp
          injection hp with hp
          subst hp
          have : slot o (a.put o.dst v) = v := by
            cases hod : o.dst with
            | none => rw [hv hod]; unfold slot; rw [hod]
            | some d =>
              have hd := dst_lt hdst ho hod
              rw [← h3] at hd
              simp [slot, hod, Act.put, Array.getD, hd]
          rw [this]
          exact hRi
        · have hj' := hj.resolve_left hji
          have : slot p (a.put o.dst v) = slot p a := by
            unfold slot
            cases hpd : p.dst with
            | none => rfl
            | some d => exact hput d (dst_ne hdst hp ho hji hpd)
          rw [this]
          exact hR _ _ _ _ (h6 j p hj' hp) hE
    unfold wpOp
    rw [ho]
    simp only
    split
    · rename_i hw
      rw [if_pos hw] at hst
      refine .inl (Oper.wp_mono ?_ hst)
      rintro a' w' ⟨v, rfl, hv, hRi, hE⟩
      exact key v w' hv hRi hE
    · rename_i hw
      rw [if_neg hw] at hst
      exact key undef w (fun _ => rfl) hst (hrefl w)
  · rintro listed a w ⟨h1, h2, h3, h4, h5, h6⟩ hr
    have hall : ∀ j p, ops[j]? = some p → listed.getD j true = true := fun j p hp => ready_nil hord hr j (Array.getElem?_eq_some_iff.1 hp).1
    exact fin a w h5 h2 h3 (fun s hs => h4 s fun j p _ hp => clean_spec hs hp) (fun j p hp => h6 j p (hall j p hp) hp)
  · have hno : ∀ j o, (Array.replicate ops.size false).getD j true = true → ops[j]? = some o → False := fun j o hj ho => by
      have := (Array.getElem?_eq_some_iff.1 ho).1
      simp [Array.getD, this] at hj
    exact ⟨fun j o hj ho => (hno j o hj ho).elim, rfl, rfl, fun _ _ => rfl, hrefl _, fun j o hj ho => (hno j o hj ho).elim⟩
  · simp

/-! ## One operation -/
theorem want0 {o : Oper} (h : o.guard = none) (y : Nat → Option Bool) : Region.wanted o y = true := by simp [Region.wanted, h]
theorem want {o p : Oper} {j : Nat} {b : Bool} {d : Tmp} {a : Act} (h : o.guard = some (j, b)) (hp : ops[j]? = some p) (hd : p.dst = some d) (hv : a.eval (.tmp d) = .bool b) : Region.wanted o (yielded ops a.tmps) = true := by
  have hv' : a.tmps.getD d undef = .bool b := hv
  have : a.tmps[d]? = some (.bool b) := by
    by_cases hs : d < a.tmps.size
    · simpa [Array.getD, hs] using hv'
    · simp [Array.getD, hs, undef] at hv'
  simp [Region.wanted, h, yielded, hp, hd, this]
theorem unwant {o p : Oper} {j : Nat} {b c : Bool} {d : Tmp} {a : Act} (h : o.guard = some (j, b)) (hp : ops[j]? = some p) (hd : p.dst = some d) (hv : a.eval (.tmp d) = .bool c) (hbc : (c == b) = false) : ¬ Region.wanted o (yielded ops a.tmps) = true := by
  have hv' : a.tmps.getD d undef = .bool c := hv
  have : a.tmps[d]? = some (.bool c) := by
    by_cases hs : d < a.tmps.size
    · simpa [Array.getD, hs] using hv'
    · simp [Array.getD, hs, undef] at hv'
  simp [Region.wanted, h, yielded, hp, hd, this]
  simpa using hbc
theorem val {o : Oper} {a : Act} {w w' : World} {R : Value → World → Prop} {Ext : World → World → Prop} (v : Value) (hrun : (execOp a.eval o).run P w = .ok (.value v) w') (hd : o.dst.isSome = true) (hR : R v w') (hE : Ext w w') :
    o.wp P a w (fun a' w' => ∃ v, a' = a.put o.dst v ∧ (o.dst = none → v = undef) ∧ R v w' ∧ Ext w w') Q := by
  unfold Oper.wp
  rw [hrun]
  exact ⟨v, rfl, fun e => (by rw [e] at hd; cases hd), hR, hE⟩
/-- An operation without a slot: a store, a copy whose number is not asked for. -/
theorem act {o : Oper} {a : Act} {w w' : World} {R : Value → World → Prop} {Ext : World → World → Prop} (v : Value) (hrun : (execOp a.eval o).run P w = .ok (.value v) w') (hd : o.dst = none) (hR : R undef w') (hE : Ext w w') :
    o.wp P a w (fun a' w' => ∃ v, a' = a.put o.dst v ∧ (o.dst = none → v = undef) ∧ R v w' ∧ Ext w w') Q := by
  unfold Oper.wp
  rw [hrun]
  refine ⟨undef, ?_, fun _ => rfl, hR, hE⟩
  rw [hd]
  rfl
theorem go {o : Oper} {a : Act} {w : World} {R : Value → World → Prop} {Ext : World → World → Prop} {f : FuncId} {xs : Array Value} (hrun : (execOp a.eval o).run P w = .ok (.enter f xs) w) (hd : o.dst.isSome = true)
    (hc : Calls P f xs w fun e w' => ∃ v, e = .returned v ∧ R v w' ∧ Ext w w') : o.wp P a w (fun a' w' => ∃ v, a' = a.put o.dst v ∧ (o.dst = none → v = undef) ∧ R v w' ∧ Ext w w') Q := by
  unfold Oper.wp
  rw [hrun, Oper.upon_enter]
  refine hc.mono fun e w' h => ?_
  obtain ⟨v, rfl, hR, hE⟩ := h
  have h2 : ∃ v', a.put o.dst v = a.put o.dst v' ∧ (o.dst = none → v' = undef) ∧ R v' w' ∧ Ext w w' := ⟨v, rfl, fun e => (by rw [e] at hd; cases hd), hR, hE⟩
  exact h2

theorem run_append2 {o : Oper} {a : Act} {w w' : World} {x y : Operand} {t t' : TypeId} {u v r : Value} (ho : o.op = .call { callee := .builtin .append, args := #[x, y], argTypes := #[t, t'] }) (hx : a.eval x = u) (hy : a.eval y = v)
    (hrun : (Builtin.append_ #[t, t'] o.type #[u, v]).run P w = .ok r w') : (execOp a.eval o).run P w = .ok (.value r) w' := by
  unfold execOp
  simp only [ho, resolve, invoke, builtin, Sem.run_bind, Sem.run_pure, Result.andThen_ok, List.map_toArray, List.map_cons, List.map_nil, hx, hy, hrun]
theorem run_copy2 {o : Oper} {a : Act} {w w' : World} {x y : Operand} {t t' : TypeId} {u v r : Value} (ho : o.op = .call { callee := .builtin .copy, args := #[x, y], argTypes := #[t, t'] }) (hx : a.eval x = u) (hy : a.eval y = v)
    (hrun : (Builtin.copy_ #[t, t'] o.type #[u, v]).run P w = .ok r w') : (execOp a.eval o).run P w = .ok (.value r) w' := by
  unfold execOp
  simp only [ho, resolve, invoke, builtin, Sem.run_bind, Sem.run_pure, Result.andThen_ok, List.map_toArray, List.map_cons, List.map_nil, hx, hy, hrun]

/-! ## The slots behind the region -/
theorem fold_size (a : Act) : ∀ (l : List Oper) (b : Act), (l.foldl (fun b o => b.put o.dst (slot o a)) b).tmps.size = b.tmps.size ∧ (l.foldl (fun b o => b.put o.dst (slot o a)) b).defers = b.defers
  | [], _ => ⟨rfl, rfl⟩
  | o :: l, b => by
    rw [List.foldl_cons]
    have := fold_size a l (b.put o.dst (slot o a))
    refine ⟨this.1.trans ?_, this.2.trans ?_⟩
    · cases o.dst <;> simp [Act.put]
    · cases o.dst <;> rfl
theorem fold_get (a : Act) (s : Nat) : ∀ (l : List Oper) (b : Act), s < b.tmps.size → (l.foldl (fun b o => b.put o.dst (slot o a)) b).tmps.getD s undef = if (l.any fun o => o.dst == some s) = true then a.tmps.getD s undef else b.tmps.getD s undef
  | [], _, _ => rfl
  | o :: l, b, h => by
    have hsz : (b.put o.dst (slot o a)).tmps.size = b.tmps.size := by cases o.dst <;> simp [Act.put]
    rw [List.foldl_cons, fold_get a s l _ (by rw [hsz]; exact h), List.any_cons]
    by_cases hl : (l.any fun o => o.dst == some s) = true
    · rw [if_pos hl, if_pos (by rw [hl, Bool.or_true])]
    · rw [if_neg hl]
      cases hod : o.dst with
      | none => simp [Act.put, hl]
      | some d =>
        by_cases hds : d = s
        · subst hds
          simp [slot, hod, Act.put, Array.getD, h]
        · simp [Act.put, Array.getD, h, hds, hl]
theorem back {a0 a : Act} (hdf : a.defers = a0.defers) (hsz : a.tmps.size = a0.tmps.size) (hc : ∀ s, clean ops s = true → a.tmps.getD s undef = a0.tmps.getD s undef) : a = ops.toList.foldl (fun b o => b.put o.dst (slot o a)) a0 := by
  obtain ⟨h1, h2⟩ := fold_size a ops.toList a0
  have hg : ∀ s, s < a0.tmps.size → _ := fun s => fold_get a s ops.toList a0
  generalize ops.toList.foldl (fun b o => b.put o.dst (slot o a)) a0 = r at *
  have ht : a.tmps = r.tmps := by
    refine Array.ext (hsz.trans h1.symm) fun s hs1 hs2 => ?_
    have e := hg s (by omega)
    have e1 : a.tmps.getD s undef = a.tmps[s] := by simp [Array.getD, hs1]
    have e2 : r.tmps.getD s undef = r.tmps[s] := by simp [Array.getD, hs2]
    refine e1.symm.trans (Eq.trans ?_ e2)
    rw [e]
    by_cases hn : (ops.toList.any fun o => o.dst == some s) = true
    · rw [if_pos hn]
    · rw [if_neg hn]
      refine hc s ?_
      unfold clean
      rw [List.all_eq_true]
      intro o ho
      have : (o.dst == some s) = false := by
        cases hb : o.dst == some s
        · rfl
        · exact absurd (List.any_eq_true.2 ⟨o, ho, hb⟩) hn
      simp [bne, this]
  have hd : a.defers = r.defers := hdf.trans h2.symm
  cases a
  cases r
  simp only at ht hd
  rw [ht, hd]

/-! ## All operations, in a row -/
/-- What operation i owes. -/
def Obl (P : Program) (ops : Array Oper) (Q : Exit → Act → World → Prop) (Ext : World → World → Prop) (R : Nat → Value → World → Prop) (a0 : Act) (w0 : World) (i : Nat) (o : Oper) : Prop :=
  ∀ a w, Ext w0 w → (∀ s, fresh ops i s = true → a.eval (.tmp s) = a0.eval (.tmp s)) → (∀ j p, dep o j = true → ops[j]? = some p → R j (slot p a) w) →
      if Region.wanted o (yielded ops a.tmps) = true then o.wp P a w (fun a' w' => ∃ v, a' = a.put o.dst v ∧ (o.dst = none → v = undef) ∧ R i v w' ∧ Ext w w') Q else R i undef w
inductive Obls (P : Program) (ops : Array Oper) (Q : Exit → Act → World → Prop) (Ext : World → World → Prop) (R : Nat → Value → World → Prop) (a0 : Act) (w0 : World) : Nat → List Oper → Prop
  | nil {i : Nat} : Obls P ops Q Ext R a0 w0 i []
  | cons {i : Nat} {o : Oper} {l : List Oper} : Obl P ops Q Ext R a0 w0 i o → Obls P ops Q Ext R a0 w0 (i + 1) l → Obls P ops Q Ext R a0 w0 i (o :: l)
theorem Obls.get {Ext : World → World → Prop} {R : Nat → Value → World → Prop} {a0 : Act} {w0 : World} : ∀ {l : List Oper} {k : Nat}, Obls P ops Q Ext R a0 w0 k l → ∀ i o, l[i]? = some o → Obl P ops Q Ext R a0 w0 (k + i) o
  | _, _, .nil, i, o, h => by cases h
  | _, _, .cons h hs, 0, o, ho => by
    simp at ho
    subst ho
    exact h
  | _, _, .cons h hs, i + 1, o, ho => by
    have := hs.get i o (by simpa using ho)
    rwa [Nat.add_assoc, Nat.add_comm 1 i] at this
theorem region {id : Nat} {a0 : Act} {w0 : World} (Ext : World → World → Prop) (R : Nat → Value → World → Prop) (hm : P.follows .mixedOrders = true) (hord : ordB ops = true) (hdst : dstB ops a0.tmps.size = true)
    (hrefl : ∀ w, Ext w w) (htr : ∀ a b c, Ext a b → Ext b c → Ext a c) (hR : ∀ i v w w', R i v w → Ext w w' → R i v w') (step : Obls P ops Q Ext R a0 w0.drew 0 ops.toList)
    (fin : ∀ a w, Ext w0.drew w → a = ops.toList.foldl (fun b o => b.put o.dst (slot o a)) a0 → (∀ j p, ops[j]? = some p → R j (slot p a) w) → Q .normal a w) :
    (Code.region id ops true).wp P Q a0 w0 :=
  wp_region_inv Ext R hm hord hdst hrefl htr hR (fun i o ho a w hE hf hd => by
    have := step.get i o (by simpa using ho)
    rw [Nat.zero_add] at this
    exact this a w hE hf hd) (fun a w hE hdf hsz hc hall => fin a w hE (back hdf hsz hc) hall)
end
end Inv
end Go.Proofs.YtojmcndiooiehaaGreatDoor
