/- InvD -/
import Derived.Test.YtljlanhpjpjgaaaGreatDoorJ1
import Derived.Test.YtljlanhpjpjgaaaGreatDoorJ24
import Derived.Tactics
namespace Go.Proofs.YtljlanhpjpjgaaaGreatDoor
set_option maxRecDepth 100000
set_option maxHeartbeats 8000000
section
open Go
namespace Inv
section
variable {P : Program} {ops : Array Oper} {Q : Exit → Act → World → Prop}
def OblN (P : Program) (ops : Array Oper) (Q : Exit → Act → World → Prop) (Ext : World → World → Prop) (R : Nat → Value → World → Prop) (N : Nat → Value → World → Prop) (a0 : Act) (w0 : World) (i : Nat) (o : Oper) : Prop :=
 ∀ a w, Ext w0 w → (∀ s, fresh ops i s = true → a.eval (.tmp s) = a0.eval (.tmp s)) → (∀ j p, dep o j = true → ops[j]? = some p → R j (slot p a) w) →
  if Region.wanted o (yielded ops a.tmps) = true then o.wp P a w (fun a' w' => ∃ v, a' = a.put o.dst v ∧ (o.dst = none → v = undef) ∧ (R i v w' ∧ N i v w) ∧ Ext w w') Q else R i undef w ∧ N i undef w
theorem OblN.of {Ext : World → World → Prop} {R N : Nat → Value → World → Prop} {a0 : Act} {w0 : World} {i : Nat} {o : Oper} (h : Obl P ops Q Ext R a0 w0 i o) (hN : ∀ v w, N i v w) : OblN P ops Q Ext R N a0 w0 i o := fun a w h1 h2 h3 => by
 have h4 := h a w h1 h2 h3
 split
 ·rename_i hw
  rw [if_pos hw] at h4
  refine Oper.wp_mono ?_ h4
  rintro a' w' ⟨v, rfl, hv, hR, hE⟩
  exact ⟨v, rfl, hv, ⟨hR, hN _ _⟩, hE⟩
 ·rename_i hw
  rw [if_neg hw] at h4
  exact ⟨h4, hN _ _⟩
inductive OblsN (P : Program) (ops : Array Oper) (Q : Exit → Act → World → Prop) (Ext : World → World → Prop) (R : Nat → Value → World → Prop) (N : Nat → Value → World → Prop) (a0 : Act) (w0 : World) : Nat → List Oper → Prop
 | nil {i : Nat} : OblsN P ops Q Ext R N a0 w0 i []
 | cons {i : Nat} {o : Oper} {l : List Oper} : OblN P ops Q Ext R N a0 w0 i o → OblsN P ops Q Ext R N a0 w0 (i + 1) l → OblsN P ops Q Ext R N a0 w0 i (o :: l)
theorem OblsN.get {Ext : World → World → Prop} {R N : Nat → Value → World → Prop} {a0 : Act} {w0 : World} : ∀ {l : List Oper} {k : Nat}, OblsN P ops Q Ext R N a0 w0 k l → ∀ i o, l[i]? = some o → OblN P ops Q Ext R N a0 w0 (k + i) o
 | _, _, .nil, i, o, h => by cases h
 | _, _, .cons h hs, 0, o, ho => by
   simp at ho
   subst ho
   exact h
 | _, _, .cons h hs, i + 1, o, ho => by
   have := hs.get i o (by simpa using ho)
   rwa [Nat.add_assoc, Nat.add_comm 1 i] at this
theorem wp_region_apart {id : Nat} {a0 : Act} {w0 : World} (m f : Nat) (Ext : World → World → Prop) (R : Nat → Value → World → Prop) (hm : P.follows .mixedOrders = true) (hord : ordB ops = true) (hdst : dstB ops a0.tmps.size = true) (htail : tailB ops m f = true)
 (hrefl : ∀ w, Ext w w) (htr : ∀ a b c, Ext a b → Ext b c → Ext a c) (hR : ∀ i v w w', R i v w → Ext w w' → R i v w')
 (N : Nat → Value → World → Prop) (D : Nat → Nat → Value → Value → Prop) (hD : ∀ i j v u w, i ≠ j → N i v w → R j u w → D i j v u ∧ D j i u v)
 (step : ∀ i o, i < m → ops[i]? = some o → OblN P ops Q Ext R N a0 w0.drew i o)
 (fin : ∀ a w, Ext w0.drew w → a = (ops.toList.take m).foldl (fun b o => b.put o.dst (slot o a)) a0 → (∀ j p, j < m → ops[j]? = some p → R j (slot p a) w) → (∀ i j p q, i < m → j < m → i ≠ j → ops[i]? = some p → ops[j]? = some q → D i j (slot p a) (slot q a)) → wpList P ops Q (ops.toList.drop m) a w) :
 (Code.region id ops true).wp P Q a0 w0 := by
 have hlist : ∀ k, k ≤ ops.size → wpOps P ops Q (List.range' k (ops.size - k)) = wpList P ops Q (ops.toList.drop k) := fun k _ => by
  have := wpOps_eq_wpList (P := P) (ops := ops) (Q := Q) (ops.toList.drop k) k (fun j => by rw [List.getElem?_drop]; simp)
  rw [List.length_drop, Array.length_toList] at this
  exact this
 have hless : ∀ j o, ops[j]? = some o → ∀ k, dep o k = true → k < j := fun j o ho k hk => by
  unfold dep at hk
  obtain ⟨e, he, hb⟩ := List.any_eq_true.1 hk
  rw [Bool.and_eq_true] at hb
  have hon : e.on = k := by simpa using hb.2
  exact hon ▸ ord_lt hord ho (Array.mem_toList_iff.1 he)
 let A : Array Bool → Act → World → Prop := fun listed a w => (∀ j, m ≤ j → j < ops.size → listed.getD j true = false) ∧ (∀ j o, listed.getD j true = true → ops[j]? = some o → ∀ k, dep o k = true → listed.getD k true = true) ∧ a.defers = a0.defers ∧ a.tmps.size = a0.tmps.size ∧
  (∀ s, (∀ j o, listed.getD j true = true → ops[j]? = some o → o.dst ≠ some s) → a.tmps.getD s undef = a0.tmps.getD s undef) ∧ Ext w0.drew w ∧ (∀ j o, listed.getD j true = true → ops[j]? = some o → R j (slot o a) w) ∧ (∀ i j p q, i ≠ j → listed.getD i true = true → listed.getD j true = true → ops[i]? = some p → ops[j]? = some q → D i j (slot p a) (slot q a))
 let B : Array Bool → Act → World → Prop := fun listed a w => ∃ k, m < k ∧ k ≤ ops.size ∧ (∀ j, j < k → listed.getD j true = true) ∧ (∀ j, k ≤ j → j < ops.size → listed.getD j true = false) ∧ wpOps P ops Q (List.range' k (ops.size - k)) a w
 have hfinA : ∀ listed a w, A listed a w → (∀ j, j < m → j < ops.size → listed.getD j true = true) → wpOps P ops Q (List.range' (min m ops.size) (ops.size - min m ops.size)) a w := by
  rintro listed a w ⟨h0, h1, h2, h3, h4, h5, h6, h7⟩ hall
  rw [hlist _ (Nat.min_le_right _ _)]
  have hd : ops.toList.drop (min m ops.size) = ops.toList.drop m := by
   rcases Nat.le_total m ops.size with h | h
   ·rw [Nat.min_eq_left h]
   ·rw [Nat.min_eq_right h, List.drop_eq_nil_of_le (by simp), List.drop_eq_nil_of_le (by simpa using h)]
  rw [hd]
  refine fin a w h5 ?_ (fun j p hj hp => h6 j p (hall j hj (Array.getElem?_eq_some_iff.1 hp).1) hp) (fun i j p q hi hj hij hp hq => h7 i j p q hij (hall i hi (Array.getElem?_eq_some_iff.1 hp).1) (hall j hj (Array.getElem?_eq_some_iff.1 hq).1) hp hq)
  have e : ((ops.toList.take m).toArray).toList = ops.toList.take m := by simp
  have := back (ops := (ops.toList.take m).toArray) (a0 := a0) (a := a) h2 h3 (fun s hs => h4 s fun j p hj hp => by
   by_cases hjm : j < m
   ·refine clean_spec hs (j := j) ?_
    have hp' : ops.toList[j]? = some p := by simpa using hp
    simp [hjm, hp']
   ·have := (Array.getElem?_eq_some_iff.1 hp).1
    rw [h0 j (by omega) this] at hj
    cases hj)
  rw [e] at this
  exact this
 refine wp_region_any hm ?_
 refine wpAny_inv (fun listed a w => A listed a w ∨ B listed a w) ?_ ?_ ops.size _ a0 _ ?_ ?_
 ·intro listed a w hI i hi
  obtain ⟨o, ho, hlt, hnl, hdep⟩ := ready_at hi
  rcases hI with hA | ⟨k, hk1, hk2, hB1, hB2, hB3⟩
  ·obtain ⟨h0, h1, h2, h3, h4, h5, h6, h7⟩ := hA
   by_cases him : i < m
   ·have hst := step i o him ho a w h5 (fun s hs => h4 s fun j p hj hp hd => by
     rcases fresh_spec hs hp hd with rfl | hdj
     ·rw [hj] at hnl; cases hnl
     ·have := h1 j p hj hp i hdj
      rw [this] at hnl; cases hnl) (fun j p hj hp => h6 j p (hdep j hj) hp)
    have key : ∀ v w', (o.dst = none → v = undef) → R i v w' → N i v w → Ext w w' → A (listed.setIfInBounds i true) (a.put o.dst v) w' := by
     intro v w' hv hRi hNi hE
     have hput : ∀ d, o.dst ≠ some d → (a.put o.dst v).tmps.getD d undef = a.tmps.getD d undef := fun d hd => by
      cases hod : o.dst with
      | none => rfl
      | some e =>
        have hed : e ≠ d := fun x => hd (by rw [hod, x])
        by_cases hs : d < a.tmps.size <;> simp [Act.put, Array.getD, hs, hed]
     have hself : slot o (a.put o.dst v) = v := by
      cases hod : o.dst with
      | none => rw [hv hod]; unfold slot; rw [hod]
      | some d =>
        have hd := dst_lt hdst ho hod
        rw [← h3] at hd
        simp [slot, hod, Act.put, Array.getD, hd]
     have hoth : ∀ j p, j ≠ i → ops[j]? = some p → slot p (a.put o.dst v) = slot p a := fun j p hji hp => by
      unfold slot
      cases hpd : p.dst with
      | none => rfl
      | some d => exact hput d (dst_ne hdst hp ho hji hpd)
     refine ⟨fun j hj1 hj2 => ?_, fun j p hj hp k hk => ?_, ?_, ?_, fun s hs => ?_, htr _ _ _ h5 hE, fun j p hj hp => ?_, fun x y p q hxy hx hy hp hq => ?_⟩
     ·have := h0 j hj1 hj2
      have hne : ¬ ((listed.setIfInBounds i true).getD j true = true) := fun h => by
       rcases (set_iff j).1 h with e | e
       ·omega
       ·rw [this] at e; cases e
      simpa using hne
     ·rw [set_iff] at hj ⊢
      rcases hj with rfl | hj
      ·rw [ho] at hp
       injection hp with hp
       subst hp
       exact .inr (hdep k hk)
      ·exact .inr (h1 j p hj hp k hk)
     ·rw [← h2]; cases o.dst <;> rfl
     ·rw [← h3]; cases o.dst <;> simp [Act.put]
     ·rw [hput s (hs i o ((set_iff i).2 (.inl rfl)) ho)]
      exact h4 s fun j p hj hp => hs j p ((set_iff j).2 (.inr hj)) hp
     ·rw [set_iff] at hj
      by_cases hji : j = i
      ·subst hji
       rw [ho] at hp
       injection hp with hp
       subst hp
       have : slot o (a.put o.dst v) = v := by
        cases hod : o.dst with
        | none => rw [hv hod]; unfold slot; rw [hod]
        | some d =>
          have hd := dst_lt hdst ho hod
          rw [← h3] at hd
          simp [slot, hod, Act.put, Array.getD, hd]
       rw [this]
       exact hRi
      ·have hj' := hj.resolve_left hji
       have : slot p (a.put o.dst v) = slot p a := by
        unfold slot
        cases hpd : p.dst with
        | none => rfl
        | some d => exact hput d (dst_ne hdst hp ho hji hpd)
       rw [this]
       exact hR _ _ _ _ (h6 j p hj' hp) hE
     ·rw [set_iff] at hx hy
      by_cases hxi : x = i
      ·subst hxi
       rw [ho] at hp
       injection hp with hp
       subst hp
       rw [hself, hoth y q (fun e => hxy e.symm) hq]
       exact (hD x y v _ w hxy hNi (h6 y q (hy.resolve_left fun e => hxy e.symm) hq)).1
      ·by_cases hyi : y = i
       ·subst hyi
        rw [ho] at hq
        injection hq with hq
        subst hq
        rw [hself, hoth x p hxi hp]
        exact (hD y x v _ w (fun e => hxy e.symm) hNi (h6 x p (hx.resolve_left hxi) hp)).2
       ·rw [hoth x p hxi hp, hoth y q hyi hq]
        exact h7 x y p q hxy (hx.resolve_left hxi) (hy.resolve_left hyi) hp hq
    unfold wpOp
    rw [ho]
    simp only
    split
    ·rename_i hw
     rw [if_pos hw] at hst
     refine .inl (Oper.wp_mono ?_ hst)
     rintro a' w' ⟨v, rfl, hv, ⟨hRi, hNi⟩, hE⟩
     exact .inl (key v w' hv hRi hNi hE)
    ·rename_i hw
     rw [if_neg hw] at hst
     exact .inl (key undef w (fun _ => rfl) hst.1 hst.2 (hrefl w))
   ·
    have hall := tail_spec htail ho (by omega) (T := fun j => listed.getD j true = true) (fun j p hj hp k hk => h1 j p hj hp k hk) hdep
    have him' : i = m := by
     apply Decidable.byContradiction
     intro hne
     have := hall m (by omega)
     rw [h0 m (Nat.le_refl _) (by omega)] at this
     cases this
    subst him'
    have hops := hfinA listed a w ⟨h0, h1, h2, h3, h4, h5, h6, h7⟩ (fun j hj _ => hall j hj)
    rw [Nat.min_eq_left (by omega)] at hops
    have e : ops.size - i = (ops.size - (i + 1)) + 1 := by omega
    rw [e, List.range'_succ, wpOps_cons] at hops
    refine wpOp_mono (fun a' w' h' => ?_) hops
    refine .inr ⟨i + 1, by omega, by omega, fun j hj => ?_, fun j hj1 hj2 => ?_, h'⟩
    ·rw [set_iff]
     by_cases hji : j = i
     ·exact .inl hji
     ·exact .inr (hall j (by omega))
    ·have := h0 j (by omega) hj2
     have hne : ¬ ((listed.setIfInBounds i true).getD j true = true) := fun h => by
      rcases (set_iff j).1 h with e | e
      ·omega
      ·rw [this] at e; cases e
     simpa using hne
  ·
   have hki : k ≤ i := by
    apply Decidable.byContradiction
    intro h
    have := hB1 i (by omega)
    rw [this] at hnl
    cases hnl
   have hall := tail_spec htail ho (by omega) (T := fun j => listed.getD j true = true) (fun j p hj hp q hq => by
    have hjl : j < k := by
     apply Decidable.byContradiction
     intro h
     have h2 := hB2 j (by omega) (Array.getElem?_eq_some_iff.1 hp).1
     have hj' : listed.getD j true = true := hj
     rw [h2] at hj'
     cases hj'
    exact hB1 q (by have := hless j p hp q hq; omega)) hdep
   have him' : i = k := by
    apply Decidable.byContradiction
    intro hne
    have := hall k (by omega)
    rw [hB2 k (Nat.le_refl _) (by omega)] at this
    cases this
   subst him'
   have e : ops.size - i = (ops.size - (i + 1)) + 1 := by omega
   rw [e, List.range'_succ, wpOps_cons] at hB3
   refine wpOp_mono (fun a' w' h' => ?_) hB3
   refine .inr ⟨i + 1, by omega, by omega, fun j hj => ?_, fun j hj1 hj2 => ?_, h'⟩
   ·rw [set_iff]
    by_cases hji : j = i
    ·exact .inl hji
    ·exact .inr (hB1 j (by omega))
   ·have := hB2 j (by omega) hj2
    have hne : ¬ ((listed.setIfInBounds i true).getD j true = true) := fun h => by
     rcases (set_iff j).1 h with e | e
     ·omega
     ·rw [this] at e; cases e
    simpa using hne
 ·intro listed a w hI hr
  have hall := ready_nil hord hr
  rcases hI with hA | ⟨k, hk1, hk2, hB1, hB2, hB3⟩
  ·have hms : ops.size ≤ m := by
    apply Decidable.byContradiction
    intro h
    have := hA.1 m (Nat.le_refl _) (by omega)
    rw [hall m (by omega)] at this
    cases this
   have hops := hfinA listed a w hA (fun j _ hj => hall j hj)
   rw [Nat.min_eq_right hms, Nat.sub_self] at hops
   exact hops
  ·have : k = ops.size := by
    apply Decidable.byContradiction
    intro h
    have := hB2 k (Nat.le_refl _) (by omega)
    rw [hall k (by omega)] at this
    cases this
   rw [this, Nat.sub_self] at hB3
   exact hB3
 ·refine .inl ?_
  have hno : ∀ j, j < ops.size → (Array.replicate ops.size false).getD j true = false := fun j hj => by simp [Array.getD, hj]
  have hno2 : ∀ j o, (Array.replicate ops.size false).getD j true = true → ops[j]? = some o → False := fun j o hj ho => by
   rw [hno j (Array.getElem?_eq_some_iff.1 ho).1] at hj
   cases hj
  exact ⟨fun j _ hj => hno j hj, fun j o hj ho => (hno2 j o hj ho).elim, rfl, rfl, fun _ _ => rfl, hrefl _, fun j o hj ho => (hno2 j o hj ho).elim, fun i j p q _ hi _ hp _ => (hno2 i p hi hp).elim⟩
 ·simp
theorem region_apart {id : Nat} {a0 : Act} {w0 : World} (m f : Nat) (Ext : World → World → Prop) (R : Nat → Value → World → Prop) (hm : P.follows .mixedOrders = true) (hord : ordB ops = true) (hdst : dstB ops a0.tmps.size = true) (htail : tailB ops m f = true)
 (hrefl : ∀ w, Ext w w) (htr : ∀ a b c, Ext a b → Ext b c → Ext a c) (hR : ∀ i v w w', R i v w → Ext w w' → R i v w')
 (N : Nat → Value → World → Prop) (D : Nat → Nat → Value → Value → Prop) (hD : ∀ i j v u w, i ≠ j → N i v w → R j u w → D i j v u ∧ D j i u v) (step : OblsN P ops Q Ext R N a0 w0.drew 0 (ops.toList.take m))
 (fin : ∀ a w, Ext w0.drew w → a = (ops.toList.take m).foldl (fun b o => b.put o.dst (slot o a)) a0 → (∀ j p, j < m → ops[j]? = some p → R j (slot p a) w) → (∀ i j p q, i < m → j < m → i ≠ j → ops[i]? = some p → ops[j]? = some q → D i j (slot p a) (slot q a)) → wpList P ops Q (ops.toList.drop m) a w) :
 (Code.region id ops true).wp P Q a0 w0 :=
 wp_region_apart m f Ext R hm hord hdst htail hrefl htr hR N D hD (fun i o hi ho => by
  have hp' : ops.toList[i]? = some o := by simpa using ho
  have := step.get i o (by rw [List.getElem?_take, if_pos hi]; exact hp')
  rwa [Nat.zero_add] at this) fin
end
end Inv
end
end Go.Proofs.YtljlanhpjpjgaaaGreatDoor
