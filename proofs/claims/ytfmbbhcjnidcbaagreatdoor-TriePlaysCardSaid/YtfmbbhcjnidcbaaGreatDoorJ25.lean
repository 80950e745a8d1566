/-
  InvT: A LAW FOR A REGION THAT DRAWS ITS ORDER, WITH A TAIL: the operations of the tail wait for all that stand before them: they go in their own order, behind the others. No program is named here.
-/
import Derived.Test.YtfmbbhcjnidcbaaGreatDoorJ24
import Derived.Tactics

namespace Go.Proofs.YtfmbbhcjnidcbaaGreatDoor
open Go
namespace Inv

def deps (o : Oper) : List Nat := (o.after.toList.filter fun e => Region.binds .any e).map (·.on)
/-- What must have come up where all of S have. -/
def reach (ops : Array Oper) : Nat → List Nat → List Nat
  | 0, S => S
  | f + 1, S => reach ops f (S ++ (S.flatMap fun i => match ops[i]? with | some o => deps o | none => [])).eraseDups
/-- From m on each operation waits for all before it. -/
def tailB (ops : Array Oper) (m f : Nat) : Bool := ops.toList.zipIdx.all fun p => decide (p.2 < m) || (List.range p.2).all fun i => (reach ops f (deps p.1)).contains i

theorem dep_of {o : Oper} {j : Nat} (h : j ∈ deps o) : dep o j = true := by
  unfold deps at h
  obtain ⟨e, he, rfl⟩ := List.mem_map.1 h
  obtain ⟨h1, h2⟩ := List.mem_filter.1 he
  unfold dep
  exact List.any_eq_true.2 ⟨e, h1, by simp [h2]⟩
theorem reach_in {ops : Array Oper} {T : Nat → Prop} (hT : ∀ j o, T j → ops[j]? = some o → ∀ k, dep o k = true → T k) : ∀ f S, (∀ i ∈ S, T i) → ∀ i ∈ reach ops f S, T i
  | 0, _, h, i, hi => h i hi
  | f + 1, S, h, i, hi => by
    refine reach_in hT f _ (fun j hj => ?_) i hi
    rw [List.mem_eraseDups, List.mem_append, List.mem_flatMap] at hj
    rcases hj with hj | ⟨k, hk, hj⟩
    · exact h j hj
    · cases ho : ops[k]? with
      | none => rw [ho] at hj; cases hj
      | some o => rw [ho] at hj; exact hT k o (h k hk) ho j (dep_of hj)
theorem tail_spec {ops : Array Oper} {m f : Nat} (h : tailB ops m f = true) {t : Nat} {o : Oper} (ho : ops[t]? = some o) (hm : m ≤ t) {T : Nat → Prop} (hT : ∀ j o, T j → ops[j]? = some o → ∀ k, dep o k = true → T k) (hd : ∀ k, dep o k = true → T k) : ∀ i, i < t → T i := by
  intro i hi
  have := zip_all h ho
  simp only [Bool.or_eq_true, decide_eq_true_eq] at this
  rcases this with h1 | h1
  · omega
  · have h2 := List.all_eq_true.1 h1 i (List.mem_range.2 hi)
    exact reach_in hT f (deps o) (fun j hj => hd j (dep_of hj)) i (by simpa using h2)

section
variable {P : Program} {ops : Array Oper} {Q : Exit → Act → World → Prop}

theorem ready_at {listed : Array Bool} {i : Nat} (h : i ∈ Region.ready .any ops listed) : ∃ o, ops[i]? = some o ∧ i < ops.size ∧ listed.getD i true = false ∧ ∀ k, dep o k = true → listed.getD k true = true := by
  unfold Region.ready at h
  rw [List.mem_filter, Bool.and_eq_true] at h
  obtain ⟨hlt, hnl, haf⟩ := h
  rw [List.mem_range] at hlt
  have ho : ops[i]? = some ops[i] := Array.getElem?_eq_getElem hlt
  rw [ho] at haf
  simp only [Option.map_some, Option.getD_some, Array.all_eq_true_iff_forall_mem] at haf
  refine ⟨_, ho, hlt, by simpa using hnl, fun k hk => ?_⟩
  unfold dep at hk
  obtain ⟨e, he, hb⟩ := List.any_eq_true.1 hk
  rw [Bool.and_eq_true] at hb
  have hon : e.on = k := by simpa using hb.2
  have := haf e (Array.mem_toList_iff.1 he)
  rw [hb.1] at this
  have hx : listed.getD e.on false = true := by simpa using this
  rw [← hon]
  by_cases hs : e.on < listed.size
  · simpa [Array.getD, hs] using hx
  · simp [Array.getD, hs]
theorem set_iff {listed : Array Bool} {i : Nat} (j : Nat) : (listed.setIfInBounds i true).getD j true = true ↔ (j = i ∨ listed.getD j true = true) := by
  by_cases hji : j = i
  · subst hji
    simp only [true_or, iff_true]
    by_cases hs : j < listed.size <;> simp [Array.getD, hs]
  · have hij : i ≠ j := fun e => hji e.symm
    simp only [hji, false_or]
    by_cases hs : j < listed.size <;> simp [Array.getD, hs, hij]

theorem wp_region_tail {id : Nat} {a0 : Act} {w0 : World} (m f : Nat) (Ext : World → World → Prop) (R : Nat → Value → World → Prop) (hm : P.follows .mixedOrders = true) (hord : ordB ops = true) (hdst : dstB ops a0.tmps.size = true) (htail : tailB ops m f = true)
    (hrefl : ∀ w, Ext w w) (htr : ∀ a b c, Ext a b → Ext b c → Ext a c) (hR : ∀ i v w w', R i v w → Ext w w' → R i v w')
    (step : ∀ i o, i < m → ops[i]? = some o → Obl P ops Q Ext R a0 w0.drew i o)
    (fin : ∀ a w, Ext w0.drew w → a = (ops.toList.take m).foldl (fun b o => b.put o.dst (slot o a)) a0 → (∀ j p, j < m → ops[j]? = some p → R j (slot p a) w) → wpList P ops Q (ops.toList.drop m) a w) :
    (Code.region id ops true).wp P Q a0 w0 := by
  have hlist : ∀ k, k ≤ ops.size → wpOps P ops Q (List.range' k (ops.size - k)) = wpList P ops Q (ops.toList.drop k) := fun k _ => by
    have := wpOps_eq_wpList (P := P) (ops := ops) (Q := Q) (ops.toList.drop k) k (fun j => by rw [List.getElem?_drop]; simp)
    rw [List.length_drop, Array.length_toList] at this
    exact this
  have hless : ∀ j o, ops[j]? = some o → ∀ k, dep o k = true → k < j := fun j o ho k hk => by
    unfold dep at hk
    obtain ⟨e, he, hb⟩ := List.any_eq_true.1 hk
    rw [Bool.and_eq_true] at hb
    have hon : e.on = k := by simpa using hb.2
    exact hon ▸ ord_lt hord ho (Array.mem_toList_iff.1 he)
  -- what holds ahead of the tail
  let A : Array Bool → Act → World → Prop := fun listed a w => (∀ j, m ≤ j → j < ops.size → listed.getD j true = false) ∧ (∀ j o, listed.getD j true = true → ops[j]? = some o → ∀ k, dep o k = true → listed.getD k true = true) ∧ a.defers = a0.defers ∧ a.tmps.size = a0.tmps.size ∧
    (∀ s, (∀ j o, listed.getD j true = true → ops[j]? = some o → o.dst ≠ some s) → a.tmps.getD s undef = a0.tmps.getD s undef) ∧ Ext w0.drew w ∧ (∀ j o, listed.getD j true = true → ops[j]? = some o → R j (slot o a) w)
  let B : Array Bool → Act → World → Prop := fun listed a w => ∃ k, m < k ∧ k ≤ ops.size ∧ (∀ j, j < k → listed.getD j true = true) ∧ (∀ j, k ≤ j → j < ops.size → listed.getD j true = false) ∧ wpOps P ops Q (List.range' k (ops.size - k)) a w
  have hfinA : ∀ listed a w, A listed a w → (∀ j, j < m → j < ops.size → listed.getD j true = true) → wpOps P ops Q (List.range' (min m ops.size) (ops.size - min m ops.size)) a w := by
    rintro listed a w ⟨h0, h1, h2, h3, h4, h5, h6⟩ hall
    rw [hlist _ (Nat.min_le_right _ _)]
    have hd : ops.toList.drop (min m ops.size) = ops.toList.drop m := by
      rcases Nat.le_total m ops.size with h | h
      · rw [Nat.min_eq_left h]
      · rw [Nat.min_eq_right h, List.drop_eq_nil_of_le (by simp), List.drop_eq_nil_of_le (by simpa using h)]
    rw [hd]
    refine fin a w h5 ?_ fun j p hj hp => h6 j p (hall j hj (Array.getElem?_eq_some_iff.1 hp).1) hp
    have e : ((ops.toList.take m).toArray).toList = ops.toList.take m := by simp
    have := back (ops := (ops.toList.take m).toArray) (a0 := a0) (a := a) h2 h3 (fun s hs => h4 s fun j p hj hp => by
      by_cases hjm : j < m
      · refine clean_spec hs (j := j) ?_
        have hp' : ops.toList[j]? = some p := by simpa using hp
        simp [hjm, hp']
      · have := (Array.getElem?_eq_some_iff.1 hp).1
        rw [h0 j (by omega) this] at hj
        cases hj)
    rw [e] at this
    exact this
  refine wp_region_any hm ?_
  refine wpAny_inv (fun listed a w => A listed a w ∨ B listed a w) ?_ ?_ ops.size _ a0 _ ?_ ?_
  · intro listed a w hI i hi
    obtain ⟨o, ho, hlt, hnl, hdep⟩ := ready_at hi
    rcases hI with hA | ⟨k, hk1, hk2, hB1, hB2, hB3⟩
    · obtain ⟨h0, h1, h2, h3, h4, h5, h6⟩ := hA
      by_cases him : i < m
      · have hst := step i o him ho a w h5 (fun s hs => h4 s fun j p hj hp hd => by
          rcases fresh_spec hs hp hd with rfl | hdj
          · rw [hj] at hnl; cases hnl
          · have := h1 j p hj hp i hdj
            rw [this] at hnl; cases hnl) (fun j p hj hp => h6 j p (hdep j hj) hp)
        have key : ∀ v w', (o.dst = none → v = undef) → R i v w' → Ext w w' → A (listed.setIfInBounds i true) (a.put o.dst v) w' := by
          intro v w' hv hRi hE
          have hput : ∀ d, o.dst ≠ some d → (a.put o.dst v).tmps.getD d undef = a.tmps.getD d undef := fun d hd => by
            cases hod : o.dst with
            | none => rfl
            | some e =>
              have hed : e ≠ d := fun x => hd (by rw [hod, x])
              by_cases hs : d < a.tmps.size <;> simp [Act.put, Array.getD, hs, hed]
          refine ⟨fun j hj1 hj2 => ?_, fun j p hj hp k hk => ?_, ?_, ?_, fun s hs => ?_, htr _ _ _ h5 hE, fun j p hj hp => ?_⟩
          · have := h0 j hj1 hj2
            have hne : ¬ ((listed.setIfInBounds i true).getD j true = true) := fun h => by
              rcases (set_iff j).1 h with e | e
              · omega
              · rw [this] at e; cases e
            simpa using hne
          · rw [set_iff] at hj ⊢
            rcases hj with rfl | hj
            · rw [ho] at hp
              injection hp with hp
              subst hp
              exact .inr (hdep k hk)
            · exact .inr (h1 j p hj hp k hk)
          · rw [← h2]; cases o.dst <;> rfl
          · rw [← h3]; cases o.dst <;> simp [Act.put]
          · rw [hput s (hs i o ((set_iff i).2 (.inl rfl)) ho)]
            exact h4 s fun j p hj hp => hs j p ((set_iff j).2 (.inr hj)) hp
          · rw [set_iff] at hj
            by_cases hji : j = i
            · subst hji
              rw [ho] at hp
              injection hp with hp
              subst hp
              have : slot o (a.put o.dst v) = v := by
                cases hod : o.dst with
                | none => rw [hv hod]; unfold slot; rw [hod]
                | some d =>
                  have hd := dst_lt hdst ho hod
                  rw [← h3] at hd
                  simp [slot, hod, Act.put, Array.getD, hd]
              rw [this]
              exact hRi
            · have hj' := hj.resolve_left hji
              have : slot p (a.put o.dst v) = slot p a := by
                unfold slot
                cases hpd : p.dst with
                | none => rfl
                | some d => exact hput d (dst_ne hdst hp ho hji hpd)
              rw [this]
              exact hR _ _ _ _ (h6 j p hj' hp) hE
        unfold wpOp
        rw [ho]
        simp only
        split
        · rename_i hw
          rw [if_pos hw] at hst
          refine .inl (Oper.wp_mono ?_ hst)
          rintro a' w' ⟨v, rfl, hv, hRi, hE⟩
          exact .inl (key v w' hv hRi hE)
        · rename_i hw
          rw [if_neg hw] at hst
          exact .inl (key undef w (fun _ => rfl) hst (hrefl w))
      · -- the tail begins
        have hall := tail_spec htail ho (by omega) (T := fun j => listed.getD j true = true) (fun j p hj hp k hk => h1 j p hj hp k hk) hdep
        have him' : i = m := by
          apply Decidable.byContradiction
          intro hne
          have := hall m (by omega)
          rw [h0 m (Nat.le_refl _) (by omega)] at this
          cases this
        subst him'
        have hops := hfinA listed a w ⟨h0, h1, h2, h3, h4, h5, h6⟩ (fun j hj _ => hall j hj)
        rw [Nat.min_eq_left (by omega)] at hops
        have e : ops.size - i = (ops.size - (i + 1)) + 1 := by omega
        rw [e, List.range'_succ, wpOps_cons] at hops
        refine wpOp_mono (fun a' w' h' => ?_) hops
        refine .inr ⟨i + 1, by omega, by omega, fun j hj => ?_, fun j hj1 hj2 => ?_, h'⟩
        · rw [set_iff]
          by_cases hji : j = i
          · exact .inl hji
          · exact .inr (hall j (by omega))
        · have := h0 j (by omega) hj2
          have hne : ¬ ((listed.setIfInBounds i true).getD j true = true) := fun h => by
            rcases (set_iff j).1 h with e | e
            · omega
            · rw [this] at e; cases e
          simpa using hne
    · -- within the tail
      have hki : k ≤ i := by
        apply Decidable.byContradiction
        intro h
        have := hB1 i (by omega)
        rw [this] at hnl
        cases hnl
      have hall := tail_spec htail ho (by omega) (T := fun j => listed.getD j true = true) (fun j p hj hp q hq => by
        have hjl : j < k := by
          apply Decidable.byContradiction
          intro h
          have h2 := hB2 j (by omega) (Array.getElem?_eq_some_iff.1 hp).1
          have hj' : listed.getD j true = true := hj
          rw [h2] at hj'
          cases hj'
        exact hB1 q (by have := hless j p hp q hq; omega)) hdep
      have him' : i = k := by
        apply Decidable.byContradiction
        intro hne
        have := hall k (by omega)
        rw [hB2 k (Nat.le_refl _) (by omega)] at this
        cases this
      subst him'
      have e : ops.size - i = (ops.size - (i + 1)) + 1 := by omega
      rw [e, List.range'_succ, wpOps_cons] at hB3
      refine wpOp_mono (fun a' w' h' => ?_) hB3
      refine .inr ⟨i + 1, by omega, by omega, fun j hj => ?_, fun j hj1 hj2 => ?_, h'⟩
      · rw [set_iff]
        by_cases hji : j = i
        · exact .inl hji
        · exact .inr (hB1 j (by omega))
      · have := hB2 j (by omega) hj2
        have hne : ¬ ((listed.setIfInBounds i true).getD j true = true) := fun h => by
          rcases (set_iff j).1 h with e | e
          · omega
          · rw [this] at e; cases e
        simpa using hne
  · intro listed a w hI hr
    have hall := ready_nil hord hr
    rcases hI with hA | ⟨k, hk1, hk2, hB1, hB2, hB3⟩
    · have hms : ops.size ≤ m := by
        apply Decidable.byContradiction
        intro h
        have := hA.1 m (Nat.le_refl _) (by omega)
        rw [hall m (by omega)] at this
        cases this
      have hops := hfinA listed a w hA (fun j _ hj => hall j hj)
      rw [Nat.min_eq_right hms, Nat.sub_self] at hops
      exact hops
    · have : k = ops.size := by
        apply Decidable.byContradiction
        intro h
        have := hB2 k (Nat.le_refl _) (by omega)
        rw [hall k (by omega)] at this
        cases this
      rw [this, Nat.sub_self] at hB3
      exact hB3
  · refine .inl ?_
    have hno : ∀ j, j < ops.size → (Array.replicate ops.size false).getD j true = false := fun j hj => by simp [Array.getD, hj]
    have hno2 : ∀ j o, (Array.replicate ops.size false).getD j true = true → ops[j]? = some o → False := fun j o hj ho => by
      rw [hno j (Array.getElem?_eq_some_iff.1 ho).1] at hj
      cases hj
    exact ⟨fun j _ hj => hno j hj, fun j o hj ho => (hno2 j o hj ho).elim, rfl, rfl, fun _ _ => rfl, hrefl _, fun j o hj ho => (hno2 j o hj ho).elim⟩
  · simp
theorem region_tail {id : Nat} {a0 : Act} {w0 : World} (m f : Nat) (Ext : World → World → Prop) (R : Nat → Value → World → Prop) (hm : P.follows .mixedOrders = true) (hord : ordB ops = true) (hdst : dstB ops a0.tmps.size = true) (htail : tailB ops m f = true)
    (hrefl : ∀ w, Ext w w) (htr : ∀ a b c, Ext a b → Ext b c → Ext a c) (hR : ∀ i v w w', R i v w → Ext w w' → R i v w')
    (step : Obls P ops Q Ext R a0 w0.drew 0 (ops.toList.take m))
    (fin : ∀ a w, Ext w0.drew w → a = (ops.toList.take m).foldl (fun b o => b.put o.dst (slot o a)) a0 → (∀ j p, j < m → ops[j]? = some p → R j (slot p a) w) → wpList P ops Q (ops.toList.drop m) a w) :
    (Code.region id ops true).wp P Q a0 w0 :=
  wp_region_tail m f Ext R hm hord hdst htail hrefl htr hR (fun i o hi ho => by
    have hp' : ops.toList[i]? = some o := by simpa using ho
    have := step.get i o (by rw [List.getElem?_take, if_pos hi]; exact hp')
    rwa [Nat.zero_add] at this) fin
end
end Inv
end Go.Proofs.YtfmbbhcjnidcbaaGreatDoor
