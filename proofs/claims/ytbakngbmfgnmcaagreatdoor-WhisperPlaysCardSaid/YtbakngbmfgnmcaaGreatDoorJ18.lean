/- InvD WqTo WqWr -/
import Derived.Test.YtbakngbmfgnmcaaGreatDoorJ1
import Derived.Test.YtbakngbmfgnmcaaGreatDoorJ12
import Derived.Tactics
import Derived.Test.YtbakngbmfgnmcaaGreatDoorJ17
import Derived.Test.YtbakngbmfgnmcaaGreatDoorJ11
import Derived.Test.YtbakngbmfgnmcaaGreatDoorJ16
import Derived.Test.YtbakngbmfgnmcaaGreatDoorJ7
namespace Go.Proofs.YtbakngbmfgnmcaaGreatDoor
set_option maxRecDepth 100000
set_option maxHeartbeats 8000000
section
open Go
namespace Inv
section
variable {P : Program} {ops : Array Oper} {Q : Exit → Act → World → Prop}
def OblN (P : Program) (ops : Array Oper) (Q : Exit → Act → World → Prop) (Ext : World → World → Prop) (R : Nat → Value → World → Prop) (N : Nat → Value → World → Prop) (a0 : Act) (w0 : World) (i : Nat) (o : Oper) : Prop :=
 ∀ a w, Ext w0 w → (∀ s, fresh ops i s = true → a.eval (.tmp s) = a0.eval (.tmp s)) → (∀ j p, dep o j = true → ops[j]? = some p → R j (slot p a) w) →
  if Region.wanted o (yielded ops a.tmps) = true then o.wp P a w (fun a' w' => ∃ v, a' = a.put o.dst v ∧ (o.dst = none → v = undef) ∧ (R i v w' ∧ N i v w) ∧ Ext w w') Q else R i undef w ∧ N i undef w
theorem OblN.of {Ext : World → World → Prop} {R N : Nat → Value → World → Prop} {a0 : Act} {w0 : World} {i : Nat} {o : Oper} (h : Obl P ops Q Ext R a0 w0 i o) (hN : ∀ v w, N i v w) : OblN P ops Q Ext R N a0 w0 i o := fun a w h1 h2 h3 => by
 have h4 := h a w h1 h2 h3
 split
 ·rename_i hw
  rw [if_pos hw] at h4
  refine Oper.wp_mono ?_ h4
  rintro a' w' ⟨v, rfl, hv, hR, hE⟩
  exact ⟨v, rfl, hv, ⟨hR, hN _ _⟩, hE⟩
 ·rename_i hw
  rw [if_neg hw] at h4
  exact ⟨h4, hN _ _⟩
inductive OblsN (P : Program) (ops : Array Oper) (Q : Exit → Act → World → Prop) (Ext : World → World → Prop) (R : Nat → Value → World → Prop) (N : Nat → Value → World → Prop) (a0 : Act) (w0 : World) : Nat → List Oper → Prop
 | nil {i : Nat} : OblsN P ops Q Ext R N a0 w0 i []
 | cons {i : Nat} {o : Oper} {l : List Oper} : OblN P ops Q Ext R N a0 w0 i o → OblsN P ops Q Ext R N a0 w0 (i + 1) l → OblsN P ops Q Ext R N a0 w0 i (o :: l)
theorem OblsN.get {Ext : World → World → Prop} {R N : Nat → Value → World → Prop} {a0 : Act} {w0 : World} : ∀ {l : List Oper} {k : Nat}, OblsN P ops Q Ext R N a0 w0 k l → ∀ i o, l[i]? = some o → OblN P ops Q Ext R N a0 w0 (k + i) o
 | _, _, .nil, i, o, h => by cases h
 | _, _, .cons h hs, 0, o, ho => by
   simp at ho
   subst ho
   exact h
 | _, _, .cons h hs, i + 1, o, ho => by
   have := hs.get i o (by simpa using ho)
   rwa [Nat.add_assoc, Nat.add_comm 1 i] at this
theorem wp_region_apart {id : Nat} {a0 : Act} {w0 : World} (m f : Nat) (Ext : World → World → Prop) (R : Nat → Value → World → Prop) (hm : P.follows .mixedOrders = true) (hord : ordB ops = true) (hdst : dstB ops a0.tmps.size = true) (htail : tailB ops m f = true)
 (hrefl : ∀ w, Ext w w) (htr : ∀ a b c, Ext a b → Ext b c → Ext a c) (hR : ∀ i v w w', R i v w → Ext w w' → R i v w')
 (N : Nat → Value → World → Prop) (D : Nat → Nat → Value → Value → Prop) (hD : ∀ i j v u w, i ≠ j → N i v w → R j u w → D i j v u ∧ D j i u v)
 (step : ∀ i o, i < m → ops[i]? = some o → OblN P ops Q Ext R N a0 w0.drew i o)
 (fin : ∀ a w, Ext w0.drew w → a = (ops.toList.take m).foldl (fun b o => b.put o.dst (slot o a)) a0 → (∀ j p, j < m → ops[j]? = some p → R j (slot p a) w) → (∀ i j p q, i < m → j < m → i ≠ j → ops[i]? = some p → ops[j]? = some q → D i j (slot p a) (slot q a)) → wpList P ops Q (ops.toList.drop m) a w) :
 (Code.region id ops true).wp P Q a0 w0 := by
 have hlist : ∀ k, k ≤ ops.size → wpOps P ops Q (List.range' k (ops.size - k)) = wpList P ops Q (ops.toList.drop k) := fun k _ => by
  have := wpOps_eq_wpList (P := P) (ops := ops) (Q := Q) (ops.toList.drop k) k (fun j => by rw [List.getElem?_drop]; simp)
  rw [List.length_drop, Array.length_toList] at this
  exact this
 have hless : ∀ j o, ops[j]? = some o → ∀ k, dep o k = true → k < j := fun j o ho k hk => by
  unfold dep at hk
  obtain ⟨e, he, hb⟩ := List.any_eq_true.1 hk
  rw [Bool.and_eq_true] at hb
  have hon : e.on = k := by simpa using hb.2
  exact hon ▸ ord_lt hord ho (Array.mem_toList_iff.1 he)
 let A : Array Bool → Act → World → Prop := fun listed a w => (∀ j, m ≤ j → j < ops.size → listed.getD j true = false) ∧ (∀ j o, listed.getD j true = true → ops[j]? = some o → ∀ k, dep o k = true → listed.getD k true = true) ∧ a.defers = a0.defers ∧ a.tmps.size = a0.tmps.size ∧
  (∀ s, (∀ j o, listed.getD j true = true → ops[j]? = some o → o.dst ≠ some s) → a.tmps.getD s undef = a0.tmps.getD s undef) ∧ Ext w0.drew w ∧ (∀ j o, listed.getD j true = true → ops[j]? = some o → R j (slot o a) w) ∧ (∀ i j p q, i ≠ j → listed.getD i true = true → listed.getD j true = true → ops[i]? = some p → ops[j]? = some q → D i j (slot p a) (slot q a))
 let B : Array Bool → Act → World → Prop := fun listed a w => ∃ k, m < k ∧ k ≤ ops.size ∧ (∀ j, j < k → listed.getD j true = true) ∧ (∀ j, k ≤ j → j < ops.size → listed.getD j true = false) ∧ wpOps P ops Q (List.range' k (ops.size - k)) a w
 have hfinA : ∀ listed a w, A listed a w → (∀ j, j < m → j < ops.size → listed.getD j true = true) → wpOps P ops Q (List.range' (min m ops.size) (ops.size - min m ops.size)) a w := by
  rintro listed a w ⟨h0, h1, h2, h3, h4, h5, h6, h7⟩ hall
  rw [hlist _ (Nat.min_le_right _ _)]
  have hd : ops.toList.drop (min m ops.size) = ops.toList.drop m := by
   rcases Nat.le_total m ops.size with h | h
   ·rw [Nat.min_eq_left h]
   ·rw [Nat.min_eq_right h, List.drop_eq_nil_of_le (by simp), List.drop_eq_nil_of_le (by simpa using h)]
  rw [hd]
  refine fin a w h5 ?_ (fun j p hj hp => h6 j p (hall j hj (Array.getElem?_eq_some_iff.1 hp).1) hp) (fun i j p q hi hj hij hp hq => h7 i j p q hij (hall i hi (Array.getElem?_eq_some_iff.1 hp).1) (hall j hj (Array.getElem?_eq_some_iff.1 hq).1) hp hq)
  have e : ((ops.toList.take m).toArray).toList = ops.toList.take m := by simp
  have := back (ops := (ops.toList.take m).toArray) (a0 := a0) (a := a) h2 h3 (fun s hs => h4 s fun j p hj hp => by
   by_cases hjm : j < m
   ·refine clean_spec hs (j := j) ?_
    have hp' : ops.toList[j]? = some p := by simpa using hp
    simp [hjm, hp']
   ·have := (Array.getElem?_eq_some_iff.1 hp).1
    rw [h0 j (by omega) this] at hj
    cases hj)
  rw [e] at this
  exact this
 refine wp_region_any hm ?_
 refine wpAny_inv (fun listed a w => A listed a w ∨ B listed a w) ?_ ?_ ops.size _ a0 _ ?_ ?_
 ·intro listed a w hI i hi
  obtain ⟨o, ho, hlt, hnl, hdep⟩ := ready_at hi
  rcases hI with hA | ⟨k, hk1, hk2, hB1, hB2, hB3⟩
  ·obtain ⟨h0, h1, h2, h3, h4, h5, h6, h7⟩ := hA
   by_cases him : i < m
   ·have hst := step i o him ho a w h5 (fun s hs => h4 s fun j p hj hp hd => by
     rcases fresh_spec hs hp hd with rfl | hdj
     ·rw [hj] at hnl; cases hnl
     ·have := h1 j p hj hp i hdj
      rw [this] at hnl; cases hnl) (fun j p hj hp => h6 j p (hdep j hj) hp)
    have key : ∀ v w', (o.dst = none → v = undef) → R i v w' → N i v w → Ext w w' → A (listed.setIfInBounds i true) (a.put o.dst v) w' := by
     intro v w' hv hRi hNi hE
     have hput : ∀ d, o.dst ≠ some d → (a.put o.dst v).tmps.getD d undef = a.tmps.getD d undef := fun d hd => by
      cases hod : o.dst with
      | none => rfl
      | some e =>
        have hed : e ≠ d := fun x => hd (by rw [hod, x])
        by_cases hs : d < a.tmps.size <;> simp [Act.put, Array.getD, hs, hed]
     have hself : slot o (a.put o.dst v) = v := by
      cases hod : o.dst with
      | none => rw [hv hod]; unfold slot; rw [hod]
      | some d =>
        have hd := dst_lt hdst ho hod
        rw [← h3] at hd
        simp [slot, hod, Act.put, Array.getD, hd]
     have hoth : ∀ j p, j ≠ i → ops[j]? = some p → slot p (a.put o.dst v) = slot p a := fun j p hji hp => by
      unfold slot
      cases hpd : p.dst with
      | none => rfl
      | some d => exact hput d (dst_ne hdst hp ho hji hpd)
     refine ⟨fun j hj1 hj2 => ?_, fun j p hj hp k hk => ?_, ?_, ?_, fun s hs => ?_, htr _ _ _ h5 hE, fun j p hj hp => ?_, fun x y p q hxy hx hy hp hq => ?_⟩
     ·have := h0 j hj1 hj2
      have hne : ¬ ((listed.setIfInBounds i true).getD j true = true) := fun h => by
       rcases (set_iff j).1 h with e | e
       ·omega
       ·rw [this] at e; cases e
      simpa using hne
     ·rw [set_iff] at hj ⊢
      rcases hj with rfl | hj
      ·rw [ho] at hp
       injection hp with hp
       subst hp
       exact .inr (hdep k hk)
      ·exact .inr (h1 j p hj hp k hk)
     ·rw [← h2]; cases o.dst <;> rfl
     ·rw [← h3]; cases o.dst <;> simp [Act.put]
     ·rw [hput s (hs i o ((set_iff i).2 (.inl rfl)) ho)]
      exact h4 s fun j p hj hp => hs j p ((set_iff j).2 (.inr hj)) hp
     ·rw [set_iff] at hj
      by_cases hji : j = i
      ·subst hji
       rw [ho] at hp
       injection hp with hp
       subst hp
       have : slot o (a.put o.dst v) = v := by
        cases hod : o.dst with
        | none => rw [hv hod]; unfold slot; rw [hod]
        | some d =>
          have hd := dst_lt hdst ho hod
          rw [← h3] at hd
          simp [slot, hod, Act.put, Array.getD, hd]
       rw [this]
       exact hRi
      ·have hj' := hj.resolve_left hji
       have : slot p (a.put o.dst v) = slot p a := by
        unfold slot
        cases hpd : p.dst with
        | none => rfl
        | some d => exact hput d (dst_ne hdst hp ho hji hpd)
       rw [this]
       exact hR _ _ _ _ (h6 j p hj' hp) hE
     ·rw [set_iff] at hx hy
      by_cases hxi : x = i
      ·subst hxi
       rw [ho] at hp
       injection hp with hp
       subst hp
       rw [hself, hoth y q (fun e => hxy e.symm) hq]
       exact (hD x y v _ w hxy hNi (h6 y q (hy.resolve_left fun e => hxy e.symm) hq)).1
      ·by_cases hyi : y = i
       ·subst hyi
        rw [ho] at hq
        injection hq with hq
        subst hq
        rw [hself, hoth x p hxi hp]
        exact (hD y x v _ w (fun e => hxy e.symm) hNi (h6 x p (hx.resolve_left hxi) hp)).2
       ·rw [hoth x p hxi hp, hoth y q hyi hq]
        exact h7 x y p q hxy (hx.resolve_left hxi) (hy.resolve_left hyi) hp hq
    unfold wpOp
    rw [ho]
    simp only
    split
    ·rename_i hw
     rw [if_pos hw] at hst
     refine .inl (Oper.wp_mono ?_ hst)
     rintro a' w' ⟨v, rfl, hv, ⟨hRi, hNi⟩, hE⟩
     exact .inl (key v w' hv hRi hNi hE)
    ·rename_i hw
     rw [if_neg hw] at hst
     exact .inl (key undef w (fun _ => rfl) hst.1 hst.2 (hrefl w))
   ·
    have hall := tail_spec htail ho (by omega) (T := fun j => listed.getD j true = true) (fun j p hj hp k hk => h1 j p hj hp k hk) hdep
    have him' : i = m := by
     apply Decidable.byContradiction
     intro hne
     have := hall m (by omega)
     rw [h0 m (Nat.le_refl _) (by omega)] at this
     cases this
    subst him'
    have hops := hfinA listed a w ⟨h0, h1, h2, h3, h4, h5, h6, h7⟩ (fun j hj _ => hall j hj)
    rw [Nat.min_eq_left (by omega)] at hops
    have e : ops.size - i = (ops.size - (i + 1)) + 1 := by omega
    rw [e, List.range'_succ, wpOps_cons] at hops
    refine wpOp_mono (fun a' w' h' => ?_) hops
    refine .inr ⟨i + 1, by omega, by omega, fun j hj => ?_, fun j hj1 hj2 => ?_, h'⟩
    ·rw [set_iff]
     by_cases hji : j = i
     ·exact .inl hji
     ·exact .inr (hall j (by omega))
    ·have := h0 j (by omega) hj2
     have hne : ¬ ((listed.setIfInBounds i true).getD j true = true) := fun h => by
      rcases (set_iff j).1 h with e | e
      ·omega
      ·rw [this] at e; cases e
     simpa using hne
  ·
   have hki : k ≤ i := by
    apply Decidable.byContradiction
    intro h
    have := hB1 i (by omega)
    rw [this] at hnl
    cases hnl
   have hall := tail_spec htail ho (by omega) (T := fun j => listed.getD j true = true) (fun j p hj hp q hq => by
    have hjl : j < k := by
     apply Decidable.byContradiction
     intro h
     have h2 := hB2 j (by omega) (Array.getElem?_eq_some_iff.1 hp).1
     have hj' : listed.getD j true = true := hj
     rw [h2] at hj'
     cases hj'
    exact hB1 q (by have := hless j p hp q hq; omega)) hdep
   have him' : i = k := by
    apply Decidable.byContradiction
    intro hne
    have := hall k (by omega)
    rw [hB2 k (Nat.le_refl _) (by omega)] at this
    cases this
   subst him'
   have e : ops.size - i = (ops.size - (i + 1)) + 1 := by omega
   rw [e, List.range'_succ, wpOps_cons] at hB3
   refine wpOp_mono (fun a' w' h' => ?_) hB3
   refine .inr ⟨i + 1, by omega, by omega, fun j hj => ?_, fun j hj1 hj2 => ?_, h'⟩
   ·rw [set_iff]
    by_cases hji : j = i
    ·exact .inl hji
    ·exact .inr (hB1 j (by omega))
   ·have := hB2 j (by omega) hj2
    have hne : ¬ ((listed.setIfInBounds i true).getD j true = true) := fun h => by
     rcases (set_iff j).1 h with e | e
     ·omega
     ·rw [this] at e; cases e
    simpa using hne
 ·intro listed a w hI hr
  have hall := ready_nil hord hr
  rcases hI with hA | ⟨k, hk1, hk2, hB1, hB2, hB3⟩
  ·have hms : ops.size ≤ m := by
    apply Decidable.byContradiction
    intro h
    have := hA.1 m (Nat.le_refl _) (by omega)
    rw [hall m (by omega)] at this
    cases this
   have hops := hfinA listed a w hA (fun j _ hj => hall j hj)
   rw [Nat.min_eq_right hms, Nat.sub_self] at hops
   exact hops
  ·have : k = ops.size := by
    apply Decidable.byContradiction
    intro h
    have := hB2 k (Nat.le_refl _) (by omega)
    rw [hall k (by omega)] at this
    cases this
   rw [this, Nat.sub_self] at hB3
   exact hB3
 ·refine .inl ?_
  have hno : ∀ j, j < ops.size → (Array.replicate ops.size false).getD j true = false := fun j hj => by simp [Array.getD, hj]
  have hno2 : ∀ j o, (Array.replicate ops.size false).getD j true = true → ops[j]? = some o → False := fun j o hj ho => by
   rw [hno j (Array.getElem?_eq_some_iff.1 ho).1] at hj
   cases hj
  exact ⟨fun j _ hj => hno j hj, fun j o hj ho => (hno2 j o hj ho).elim, rfl, rfl, fun _ _ => rfl, hrefl _, fun j o hj ho => (hno2 j o hj ho).elim, fun i j p q _ hi _ hp _ => (hno2 i p hi hp).elim⟩
 ·simp
theorem region_apart {id : Nat} {a0 : Act} {w0 : World} (m f : Nat) (Ext : World → World → Prop) (R : Nat → Value → World → Prop) (hm : P.follows .mixedOrders = true) (hord : ordB ops = true) (hdst : dstB ops a0.tmps.size = true) (htail : tailB ops m f = true)
 (hrefl : ∀ w, Ext w w) (htr : ∀ a b c, Ext a b → Ext b c → Ext a c) (hR : ∀ i v w w', R i v w → Ext w w' → R i v w')
 (N : Nat → Value → World → Prop) (D : Nat → Nat → Value → Value → Prop) (hD : ∀ i j v u w, i ≠ j → N i v w → R j u w → D i j v u ∧ D j i u v) (step : OblsN P ops Q Ext R N a0 w0.drew 0 (ops.toList.take m))
 (fin : ∀ a w, Ext w0.drew w → a = (ops.toList.take m).foldl (fun b o => b.put o.dst (slot o a)) a0 → (∀ j p, j < m → ops[j]? = some p → R j (slot p a) w) → (∀ i j p q, i < m → j < m → i ≠ j → ops[i]? = some p → ops[j]? = some q → D i j (slot p a) (slot q a)) → wpList P ops Q (ops.toList.drop m) a w) :
 (Code.region id ops true).wp P Q a0 w0 :=
 wp_region_apart m f Ext R hm hord hdst htail hrefl htr hR N D hD (fun i o hi ho => by
  have hp' : ops.toList[i]? = some o := by simpa using ho
  have := step.get i o (by rw [List.getElem?_take, if_pos hi]; exact hp')
  rwa [Nat.zero_add] at this) fin
end
end Inv
end
section
open Go.RowKit Go.Sort
open Fx (Vl)
open Me
open Wp
theorem together_any {w : World} {V : Nat → Prop} {c fs : Nat} {S : Vf.Sv} {n : List UInt8} {h : Hd} {B : List UInt8} {A : Option Addr} {cap : Nat} (ro : PO w V fs c S) (f : Fits S.now n h B) (hr : Row w A h.l cap) (ix jx : Nat) (hij : jx = ix + 1) (hi : jx < h.l.length) (t : Int) (ht0 : 0 ≤ t) (ht : t ≤ 4294967295) :
 Calls Tryz.prog 94 #[fileV h A cap fs n, .int .i64 (jx : Int), .int .i64 t] w fun e w' => e = .returned (.agg #[.bool (Ag.put h.ag h.xf (vals S.now n h ix t (many h ix))).ok, .int .i64 (Ag.put h.ag h.xf (vals S.now n h ix t (many h ix))).n]) ∧ Below w.heap.size w w' := by
 obtain ⟨⟨n1, n2⟩, n3, n4⟩ := Hd.nums f.val ix (by omega)
 obtain ⟨⟨j1, j2⟩, j3, j4⟩ := Hd.nums f.val jx hi
 obtain ⟨hM0, hM1⟩ := many_bd f.val ix (by omega)
 rw [← hij] at hM0
 have hdv := (step_dvd f.val (i := ix) (by omega)).2.1
 have hcb := cnt_bd f.val ix (by omega)
 have hgb := Sl.al_bd j1 ht0
 have hal := al_fine f.val (i := ix) (by omega) ht0
 rw [← hij] at hdv hal
 obtain ⟨C, hC⟩ : ∃ C : Nat, h.cnt ix = (C : Int) := ⟨(h.cnt ix).toNat, by omega⟩
 obtain ⟨P, hP⟩ : ∃ P : Nat, Sl.pl (h.step ix) (h.cnt ix) (Sl.al t (h.step jx)) = (P : Int) := ⟨(Sl.pl (h.step ix) (h.cnt ix) (Sl.al t (h.step jx))).toNat, by have := Sl.pl_bd n1 n3 hgb.1; omega⟩
 have HVE : Hid (vals S.now n h ix t (many h ix) = held (h.step ix) (Sl.al t (h.step jx)) (round B (h.offs (ix : Int)).toNat C P (many h ix)) (many h ix)) := Lib.hid (by
  have h1 := f.vals_eq (i := ix) (by omega) ht0 hC (P := P) (by rw [← hij]; exact hP)
  rw [← hij] at h1
  exact h1)
 have HVL : Hid ((vals S.now n h ix t (many h ix)).length = many h ix) := Lib.hid (vals_len _ _ _ _ _ _)
 have HVA : Hid (∀ W, Below w.heap.size w W → Calls Tryz.prog 79 #[ringV h ix A cap fs n, .int .i64 (Sl.al t (h.step jx)), .int .i64 (many h ix : Int)] W fun e w' => ∃ v, e = .returned v ∧ OwnV w.heap.size w' v (vals S.now n h ix t (many h ix)) ∧ Below W.heap.size W w') := Lib.hid fun W hb => by
  rw [HVE.out]
  refine (values_any (ro.below hb) f ix (by omega) _ hgb.1 (by omega) (many h ix) C P hC hP (by omega)).mono fun e w' ⟨v, h1, h2, h3⟩ => ⟨v, h1, ?_, h3⟩
  refine ⟨h2.1, ?_⟩
  rcases h2.2 with h | ⟨g, cap, cur, e, hb', rest⟩
  ·exact .inl h
  ·exact .inr ⟨g, cap, cur, e, Nat.le_trans hb.size hb', rest⟩
 have HPU : Hid (∀ W A' c', Sl W (.slice A' (many h ix) c') (vals S.now n h ix t (many h ix)) → Calls Tryz.prog 117 #[.int .i64 h.ag, .int .i64 h.xf, .slice A' (many h ix) c'] W fun e w' => e = .returned (.agg #[.bool (Ag.put h.ag h.xf (vals S.now n h ix t (many h ix))).ok, .int .i64 (Ag.put h.ag h.xf (vals S.now n h ix t (many h ix))).n]) ∧ Below W.heap.size W w') := Lib.hid fun W A' c' hs => put_v _ _ _ (by rw [HVL.out]; omega) _ W hs
 have HRI : Hid (∀ W, Below w.heap.size w W → Calls Tryz.prog 65 #[fileV h A cap fs n, .int .i64 (ix : Int)] W fun e w' => e = .returned (ringV h ix A cap fs n) ∧ Below W.heap.size W w') := Lib.hid fun W hb => ring_any (hr.below hb) f.val ix (by omega)
 have HRJ : Hid (∀ W, Below w.heap.size w W → Calls Tryz.prog 65 #[fileV h A cap fs n, .int .i64 (jx : Int)] W fun e w' => e = .returned (ringV h jx A cap fs n) ∧ Below W.heap.size W w') := Lib.hid fun W hb => ring_any (hr.below hb) f.val jx hi
 have HAL : Hid (∀ W, Calls Tryz.prog 78 #[.int .i64 t, .int .i64 (h.step jx)] W fun e w' => e = .returned (.int .i64 (Sl.al t (h.step jx))) ∧ W = w') := Lib.hid fun W => align_any t _ (by omega) W
 clear HVE hP hC hal hdv
 unfold fileV ringV at *
 generalize Ag.put h.ag h.xf (vals S.now n h ix t (many h ix)) = PV at *
 obtain ⟨po, pn⟩ := PV
 generalize vals S.now n h ix t (many h ix) = vs at *
 generalize many h ix = M at *
 generalize Sl.al t (h.step jx) = g at *
 generalize h.step ix = s at *
 generalize h.cnt ix = k at *
 generalize h.offs (ix : Int) = oi at *
 generalize h.step jx = sj at *
 generalize h.cnt jx = kj at *
 generalize h.offs (jx : Int) = oj at *
 have hjI : (jx : Int) - 1 = (ix : Int) := by omega
 have hwi : IntKind.i64.wrap (ix : Int) = (ix : Int) := IntWalk.i64_in _ (by have := (Hd.len f.val).2; omega)
 have hwM : IntKind.i64.wrap (M : Int) = (M : Int) := IntWalk.i64_in _ (by omega)
 have hs0 : ¬ s = 0 := by omega
 have hs1 : 0 < s := by omega
 have hsj0 : 0 ≤ sj := by omega
 have hM2 : sj.tdiv s = (M : Int) := by rw [Int.tdiv_eq_ediv_of_nonneg hsj0]; exact hM0
 clear hi f ro hr hij
 generalize h.l.length = hln at *
 generalize h.ag = ag at *
 generalize h.xf = xf at *
 generalize (⟨n.toArray⟩ : ByteArray) = nb at *
 obtain ⟨X, hXe⟩ : ∃ X, X = (w.alloc (.cells #[.int .i64 ag, .int .i64 xf, .slice A hln cap, .pointer (some ⟨fs, 0, none⟩), .string nb] 100)).alloc (.cells #[.bool false, .int .i64 0] 105) := ⟨_, rfl⟩
 have HX : Hid (Below w.heap.size w X) := Lib.hid (by rw [hXe]; exact ((Below.refl _ _).alloc (Nat.le_refl _) _).alloc (by simp) _)
 have HXS : Hid (X.heap.size = w.heap.size + 2) := Lib.hid (by rw [hXe]; simp)
 obtain ⟨p, hp⟩ : ∃ p, p = w.heap.size := ⟨_, rfl⟩
 obtain ⟨q, hq⟩ : ∃ q, q = w.heap.size + 1 := ⟨_, rfl⟩
 have HPQ : Hid (p = w.heap.size ∧ q = w.heap.size + 1) := Lib.hid ⟨hp, hq⟩
 have HRP : Hid (RowAt X p 100 #[.int .i64 ag, .int .i64 xf, .slice A hln cap, .pointer (some ⟨fs, 0, none⟩), .string nb]) := Lib.hid (by rw [hXe, hp]; exact (RowAt.new w _ _).alloc _)
 have HRQ : Hid (RowAt X q 105 #[.bool false, .int .i64 0]) := Lib.hid (by rw [hXe, hq]; exact RowAt.new' (by simp))
 have HF : Hid (∀ W, Below X.heap.size X W → W.cell? ⟨p, 0, none⟩ = some (.int .i64 ag) ∧ W.cell? ⟨p, 1, none⟩ = some (.int .i64 xf) ∧ W.cell? ⟨p, 2, none⟩ = some (.slice A hln cap) ∧ W.cell? ⟨p, 3, none⟩ = some (.pointer (some ⟨fs, 0, none⟩)) ∧ W.cell? ⟨p, 4, none⟩ = some (.string nb)) := Lib.hid fun W hb => by
  have k1 := HRP.out.below hb HRP.out.lt
  exact ⟨k1.cell 0, k1.cell 1, k1.cell 2, k1.cell 3, k1.cell 4⟩
 have HXE := Lib.hid hXe
 clear hXe hp hq
 go_enter Tryz.func94, Tryz.ntmps94
 go_wp2_with fail
 rw [← HXE.out, ← HPQ.out.2, ← HPQ.out.1]
 clear HXE
 refine Inv.region_apart 9 8 (fun W W' => Below W.heap.size W W') (fun i v W => match i with
  | 0 => v = .agg #[.int .i64 ag, .int .i64 xf, .slice A hln cap, .pointer (some ⟨fs, 0, none⟩), .string nb]
  | 1 => v = .int .i64 (jx : Int)
  | 2 => v = .int .i64 (ix : Int)
  | 3 => v = .agg #[.int .i64 s, .int .i64 k, .int .i64 ag, .int .i64 xf, .slice A hln cap, .pointer (some ⟨fs, 0, none⟩), .string nb, .int .i64 oi]
  | 4 => v = .agg #[.int .i64 ag, .int .i64 xf, .slice A hln cap, .pointer (some ⟨fs, 0, none⟩), .string nb]
  | 5 => v = .int .i64 (jx : Int)
  | 6 => v = .agg #[.int .i64 sj, .int .i64 kj, .int .i64 ag, .int .i64 xf, .slice A hln cap, .pointer (some ⟨fs, 0, none⟩), .string nb, .int .i64 oj]
  | 7 => ∃ r, v = .pointer (some ⟨r, 0, none⟩) ∧ X.heap.size ≤ r ∧ RowAt W r 137 #[.int .i64 0, .int .i64 0, .int .i64 0, .int .i64 0, .slice none 0 0, .pointer none, .string ⟨#[]⟩, .int .i64 0]
  | 8 => ∃ r, v = .pointer (some ⟨r, 0, none⟩) ∧ X.heap.size ≤ r ∧ RowAt W r 137 #[.int .i64 0, .int .i64 0, .int .i64 0, .int .i64 0, .slice none 0 0, .pointer none, .string ⟨#[]⟩, .int .i64 0]
  | _ => True) (by kernel_rfl) (by kernel_rfl) (by kernel_rfl) (by kernel_rfl) (fun W => Below.refl _ _) (fun a b c h k => h.trans (k.mono h.size)) (fun i v W W' h he => ?stab) (fun i v w => (i = 7 ∨ i = 8) → ∃ r, v = .pointer (some ⟨r, 0, none⟩) ∧ w.heap.size ≤ r) (fun i j v u => (i = 7 ∧ j = 8) ∨ (i = 8 ∧ j = 7) → v ≠ u) ?apart ?obls ?fin
 case stab =>
  match i, h with
  | 0, h => exact h
  | 1, h => exact h
  | 2, h => exact h
  | 3, h => exact h
  | 4, h => exact h
  | 5, h => exact h
  | 6, h => exact h
  | 7, h => exact (by obtain ⟨r, e, h1, h2⟩ := h; exact ⟨r, e, h1, h2.below (show Below _ _ _ from ⟨he.os, he.tape, he.output, he.size, he.block⟩) h2.lt⟩)
  | 8, h => exact (by obtain ⟨r, e, h1, h2⟩ := h; exact ⟨r, e, h1, h2.below (show Below _ _ _ from ⟨he.os, he.tape, he.output, he.size, he.block⟩) h2.lt⟩)
  | _ + 9, h => exact h
 case apart =>
  intro i j v u w hij hN hR
  have key : ∀ r r' : Nat, r ≠ r' → Value.pointer (some (⟨r, 0, none⟩ : Addr)) ≠ .pointer (some ⟨r', 0, none⟩) := fun r r' h e => by
   injection e with e
   injection e with e
   injection e with e
   exact h e
  by_cases h1 : i = 7 ∧ j = 8
  ·obtain ⟨rfl, rfl⟩ := h1
   obtain ⟨r, rfl, hr⟩ := hN (.inl rfl)
   obtain ⟨r', rfl, _, hrow⟩ := hR
   have hlt := RowAt.lt hrow
   exact ⟨fun _ => key _ _ (by omega), fun _ => key _ _ (by omega)⟩
  ·by_cases h2 : i = 8 ∧ j = 7
   ·obtain ⟨rfl, rfl⟩ := h2
    obtain ⟨r, rfl, hr⟩ := hN (.inr rfl)
    obtain ⟨r', rfl, _, hrow⟩ := hR
    have hlt := RowAt.lt hrow
    exact ⟨fun _ => key _ _ (by omega), fun _ => key _ _ (by omega)⟩
   ·exact ⟨fun h => by omega, fun h => by omega⟩
 case obls =>
  refine .cons (Inv.OblN.of ?_ fun _ _ h => by omega) (.cons (Inv.OblN.of ?_ fun _ _ h => by omega) (.cons (Inv.OblN.of ?_ fun _ _ h => by omega) (.cons (Inv.OblN.of ?_ fun _ _ h => by omega) (.cons (Inv.OblN.of ?_ fun _ _ h => by omega) (.cons (Inv.OblN.of ?_ fun _ _ h => by omega) (.cons (Inv.OblN.of ?_ fun _ _ h => by omega) (.cons ?_ (.cons ?_ .nil))))))))
  ·intro ac wx hE hf hd
   have hB : Below X.heap.size X wx := ⟨hE.1,hE.2,hE.3,hE.4,hE.5⟩
   rw [if_pos (Inv.want0 rfl _)]
   have h3 : ac.eval (.tmp 3) = .pointer (some ⟨p, 0, none⟩) := hf 3 (by kernel_rfl)
   clear hf hd
   obtain ⟨a0, a1, a2, a3, a4⟩ := HF.out wx hB
   refine Inv.val (.agg #[.int .i64 ag, .int .i64 xf, .slice A hln cap, .pointer (some ⟨fs, 0, none⟩), .string nb]) ?_ rfl rfl (Below.refl _ _)
   clear hE hB HF HRI HRJ HX
   generalize ac.eval = ev at *
   simp [execOp, go_sem, *]
  ·intro ac wx hE hf hd
   have hB : Below X.heap.size X wx := ⟨hE.1,hE.2,hE.3,hE.4,hE.5⟩
   rw [if_pos (Inv.want0 rfl _)]
   have h1 : ac.eval (.tmp 1) = .int .i64 (jx : Int) := hf 1 (by kernel_rfl)
   clear hf hd
   refine Inv.val (.int .i64 (jx : Int)) ?_ rfl rfl (Below.refl _ _)
   clear hE hB
   generalize ac.eval = ev at *
   simp [execOp, go_sem, *]
  ·intro ac wx hE hf hd
   have hB : Below X.heap.size X wx := ⟨hE.1,hE.2,hE.3,hE.4,hE.5⟩
   rw [if_pos (Inv.want0 rfl _)]
   have h11 := hd 1 _ (by kernel_rfl) rfl
   change ac.eval (.tmp 11) = .int .i64 (jx : Int) at h11
   clear hf hd
   refine Inv.val (.int .i64 (ix : Int)) ?_ rfl rfl (Below.refl _ _)
   clear hE hB HF HRI HRJ HX
   have hcst : ∀ v, ac.eval (.const v) = v := fun _ => rfl
   generalize ac.eval = ev at *
   simp [execOp, go_sem, *]
  ·intro ac wx hE hf hd
   have hB : Below X.heap.size X wx := ⟨hE.1,hE.2,hE.3,hE.4,hE.5⟩
   rw [if_pos (Inv.want0 rfl _)]
   have h10 := hd 0 _ (by kernel_rfl) rfl
   change ac.eval (.tmp 10) = .agg #[.int .i64 ag, .int .i64 xf, .slice A hln cap, .pointer (some ⟨fs, 0, none⟩), .string nb] at h10
   have h12 := hd 2 _ (by kernel_rfl) rfl
   change ac.eval (.tmp 12) = .int .i64 (ix : Int) at h12
   clear hf hd
   refine Inv.go (f := 65) (xs := #[.agg #[.int .i64 ag, .int .i64 xf, .slice A hln cap, .pointer (some ⟨fs, 0, none⟩), .string nb], .int .i64 (ix : Int)]) ?_ rfl ?_
   ·clear hE hB HF HRI HRJ HX
    have hfn : ac.eval (.func 65) = .func (.func 65) #[] #[] := rfl
    generalize ac.eval = ev at *
    simp [execOp, go_sem, *]
   ·exact (HRI.out wx (HX.out.trans (hB.mono HX.out.size))).mono fun e w' ⟨he, hb⟩ => ⟨_, he, rfl, hb⟩
  ·intro ac wx hE hf hd
   have hB : Below X.heap.size X wx := ⟨hE.1,hE.2,hE.3,hE.4,hE.5⟩
   rw [if_pos (Inv.want0 rfl _)]
   have h3 : ac.eval (.tmp 3) = .pointer (some ⟨p, 0, none⟩) := hf 3 (by kernel_rfl)
   clear hf hd
   obtain ⟨a0, a1, a2, a3, a4⟩ := HF.out wx hB
   refine Inv.val (.agg #[.int .i64 ag, .int .i64 xf, .slice A hln cap, .pointer (some ⟨fs, 0, none⟩), .string nb]) ?_ rfl rfl (Below.refl _ _)
   clear hE hB HF HRI HRJ HX
   generalize ac.eval = ev at *
   simp [execOp, go_sem, *]
  ·intro ac wx hE hf hd
   have hB : Below X.heap.size X wx := ⟨hE.1,hE.2,hE.3,hE.4,hE.5⟩
   rw [if_pos (Inv.want0 rfl _)]
   have h1 : ac.eval (.tmp 1) = .int .i64 (jx : Int) := hf 1 (by kernel_rfl)
   clear hf hd
   refine Inv.val (.int .i64 (jx : Int)) ?_ rfl rfl (Below.refl _ _)
   clear hE hB
   generalize ac.eval = ev at *
   simp [execOp, go_sem, *]
  ·intro ac wx hE hf hd
   have hB : Below X.heap.size X wx := ⟨hE.1,hE.2,hE.3,hE.4,hE.5⟩
   rw [if_pos (Inv.want0 rfl _)]
   have h14 := hd 4 _ (by kernel_rfl) rfl
   change ac.eval (.tmp 14) = .agg #[.int .i64 ag, .int .i64 xf, .slice A hln cap, .pointer (some ⟨fs, 0, none⟩), .string nb] at h14
   have h15 := hd 5 _ (by kernel_rfl) rfl
   change ac.eval (.tmp 15) = .int .i64 (jx : Int) at h15
   clear hf hd
   refine Inv.go (f := 65) (xs := #[.agg #[.int .i64 ag, .int .i64 xf, .slice A hln cap, .pointer (some ⟨fs, 0, none⟩), .string nb], .int .i64 (jx : Int)]) ?_ rfl ?_
   ·clear hE hB HF HRI HRJ HX
    have hfn : ac.eval (.func 65) = .func (.func 65) #[] #[] := rfl
    generalize ac.eval = ev at *
    simp [execOp, go_sem, *]
   ·exact (HRJ.out wx (HX.out.trans (hB.mono HX.out.size))).mono fun e w' ⟨he, hb⟩ => ⟨_, he, rfl, hb⟩
  ·intro ac wx hE hf hd
   have hB : Below X.heap.size X wx := ⟨hE.1,hE.2,hE.3,hE.4,hE.5⟩
   rw [if_pos (Inv.want0 rfl _)]
   clear hf hd
   refine Inv.val (.pointer (some ⟨wx.heap.size, 0, none⟩)) (w' := wx.alloc (.cells #[.int .i64 0, .int .i64 0, .int .i64 0, .int .i64 0, .slice none 0 0, .pointer none, .string ⟨#[]⟩, .int .i64 0] 137)) ?_ rfl ⟨⟨_, rfl, hB.size, RowAt.new _ _ _⟩, fun _ => ⟨_, rfl, Nat.le_refl _⟩⟩ ((Below.refl _ _).alloc (Nat.le_refl _) _)
   clear hE hB HF HRI HRJ HX
   generalize ac.eval = ev at *
   simp [execOp, go_sem, *]
  ·intro ac wx hE hf hd
   have hB : Below X.heap.size X wx := ⟨hE.1,hE.2,hE.3,hE.4,hE.5⟩
   rw [if_pos (Inv.want0 rfl _)]
   clear hf hd
   refine Inv.val (.pointer (some ⟨wx.heap.size, 0, none⟩)) (w' := wx.alloc (.cells #[.int .i64 0, .int .i64 0, .int .i64 0, .int .i64 0, .slice none 0 0, .pointer none, .string ⟨#[]⟩, .int .i64 0] 137)) ?_ rfl ⟨⟨_, rfl, hB.size, RowAt.new _ _ _⟩, fun _ => ⟨_, rfl, Nat.le_refl _⟩⟩ ((Below.refl _ _).alloc (Nat.le_refl _) _)
   clear hE hB HF HRI HRJ HX
   generalize ac.eval = ev at *
   simp [execOp, go_sem, *]
 case fin =>
  intro ac wx hE ha hall hap
  have hne78 : ac.eval (.tmp 7) ≠ ac.eval (.tmp 8) := hap 7 8 _ _ (by decide) (by decide) (by decide) rfl rfl (.inl ⟨rfl, rfl⟩)
  clear hap
  have hB : Below X.heap.size X wx := ⟨hE.1,hE.2,hE.3,hE.4,hE.5⟩
  have h10 := hall 0 _ (by decide) rfl
  change ac.eval (.tmp 10) = .agg #[.int .i64 ag, .int .i64 xf, .slice A hln cap, .pointer (some ⟨fs, 0, none⟩), .string nb] at h10
  have h11 := hall 1 _ (by decide) rfl
  change ac.eval (.tmp 11) = .int .i64 (jx : Int) at h11
  have h12 := hall 2 _ (by decide) rfl
  change ac.eval (.tmp 12) = .int .i64 (ix : Int) at h12
  have h13 := hall 3 _ (by decide) rfl
  change (fun v W => v = .agg #[.int .i64 s, .int .i64 k, .int .i64 ag, .int .i64 xf, .slice A hln cap, .pointer (some ⟨fs, 0, none⟩), .string nb, .int .i64 oi]) (ac.eval (.tmp 13)) wx at h13
  try dsimp only at h13
  generalize hv13 : ac.eval (.tmp 13) = v13 at *
  have h14 := hall 4 _ (by decide) rfl
  change ac.eval (.tmp 14) = .agg #[.int .i64 ag, .int .i64 xf, .slice A hln cap, .pointer (some ⟨fs, 0, none⟩), .string nb] at h14
  have h15 := hall 5 _ (by decide) rfl
  change ac.eval (.tmp 15) = .int .i64 (jx : Int) at h15
  have h16 := hall 6 _ (by decide) rfl
  change (fun v W => v = .agg #[.int .i64 sj, .int .i64 kj, .int .i64 ag, .int .i64 xf, .slice A hln cap, .pointer (some ⟨fs, 0, none⟩), .string nb, .int .i64 oj]) (ac.eval (.tmp 16)) wx at h16
  try dsimp only at h16
  generalize hv16 : ac.eval (.tmp 16) = v16 at *
  have h7 := hall 7 _ (by decide) rfl
  change (fun v W => ∃ r, v = .pointer (some ⟨r, 0, none⟩) ∧ X.heap.size ≤ r ∧ RowAt W r 137 #[.int .i64 0, .int .i64 0, .int .i64 0, .int .i64 0, .slice none 0 0, .pointer none, .string ⟨#[]⟩, .int .i64 0]) (ac.eval (.tmp 7)) wx at h7
  try dsimp only at h7
  generalize hv7 : ac.eval (.tmp 7) = v7 at *
  have h8 := hall 8 _ (by decide) rfl
  change (fun v W => ∃ r, v = .pointer (some ⟨r, 0, none⟩) ∧ X.heap.size ≤ r ∧ RowAt W r 137 #[.int .i64 0, .int .i64 0, .int .i64 0, .int .i64 0, .slice none 0 0, .pointer none, .string ⟨#[]⟩, .int .i64 0]) (ac.eval (.tmp 8)) wx at h8
  try dsimp only at h8
  generalize hv8 : ac.eval (.tmp 8) = v8 at *
  simp only [List.take_succ_cons, List.take_zero, List.foldl, Inv.slot, Act.put] at ha
  change ac.tmps.getD 10 undef = _ at h10
  change ac.tmps.getD 11 undef = _ at h11
  change ac.tmps.getD 12 undef = _ at h12
  change ac.tmps.getD 13 undef = _ at hv13
  change ac.tmps.getD 14 undef = _ at h14
  change ac.tmps.getD 15 undef = _ at h15
  change ac.tmps.getD 16 undef = _ at hv16
  change ac.tmps.getD 7 undef = _ at hv7
  change ac.tmps.getD 8 undef = _ at hv8
  simp only [h10, h11, h12, hv13, h14, h15, hv16, hv7, hv8, List.setIfInBounds_toArray, List.set_cons_zero, List.set_cons_succ] at ha
  clear h10 h11 h12 hv13 h14 h15 hv16 hv7 hv8 hall hE
  subst ha
  simp only [List.drop_succ_cons, List.drop_zero]
  subst h13 h16
  obtain ⟨r1, rfl, hr1, hrow1⟩ := h7
  obtain ⟨r2, rfl, hr2, hrow2⟩ := h8
  have hne : r1 ≠ r2 := fun e => hne78 (by rw [e])
  have HR1 := Lib.hid hrow1
  have HR2 := Lib.hid hrow2
  have HBX := Lib.hid hB
  have y0 := hrow1.cell 0
  have y1 := hrow1.cell 1
  have y2 := hrow1.cell 2
  have y3 := hrow1.cell 3
  have y4 := hrow1.cell 4
  have y5 := hrow1.cell 5
  have y6 := hrow1.cell 6
  have y7 := hrow1.cell 7
  have x0 := hrow2.cell 0
  have x1 := hrow2.cell 1
  have x2 := hrow2.cell 2
  have x3 := hrow2.cell 3
  have x4 := hrow2.cell 4
  have x5 := hrow2.cell 5
  have x6 := hrow2.cell 6
  have x7 := hrow2.cell 7
  have fz1 := fun i => hrow1.frozen i
  have fz2 := fun i => hrow2.frozen i
  have hl1 := hrow1.lt
  have hl2 := hrow2.lt
  simp only [List.getElem?_toArray, List.getElem?_cons_succ, List.getElem?_cons_zero] at y0 y1 y2 y3 y4 y5 y6 y7 x0 x1 x2 x3 x4 x5 x6 x7
  have hy1 : RowAt ((((((((((((((((wx.setCell ⟨r1, 0, none⟩ (.int .i64 s)).setCell ⟨r1, 1, none⟩ (.int .i64 k)).setCell ⟨r1, 2, none⟩ (.int .i64 ag)).setCell ⟨r1, 3, none⟩ (.int .i64 xf)).setCell ⟨r1, 4, none⟩ (.slice A hln cap)).setCell ⟨r1, 5, none⟩ (.pointer (some ⟨fs, 0, none⟩))).setCell ⟨r1, 6, none⟩ (.string nb)).setCell ⟨r1, 7, none⟩ (.int .i64 oi)).setCell ⟨r2, 0, none⟩ (.int .i64 sj)).setCell ⟨r2, 1, none⟩ (.int .i64 kj)).setCell ⟨r2, 2, none⟩ (.int .i64 ag)).setCell ⟨r2, 3, none⟩ (.int .i64 xf)).setCell ⟨r2, 4, none⟩ (.slice A hln cap)).setCell ⟨r2, 5, none⟩ (.pointer (some ⟨fs, 0, none⟩))).setCell ⟨r2, 6, none⟩ (.string nb)).setCell ⟨r2, 7, none⟩ (.int .i64 oj)) r1 137 #[.int .i64 s, .int .i64 k, .int .i64 ag, .int .i64 xf, .slice A hln cap, .pointer (some ⟨fs, 0, none⟩), .string nb, .int .i64 oi] := (((((((((row_set8 (b0 := .int .i64 s) (b1 := .int .i64 k) (b2 := .int .i64 ag) (b3 := .int .i64 xf) (b4 := .slice A hln cap) (b5 := .pointer (some ⟨fs, 0, none⟩)) (b6 := .string nb) (b7 := .int .i64 oi) hrow1).far hne _).far hne _).far hne _).far hne _).far hne _).far hne _).far hne _).far hne _)
  have hy2 : RowAt ((((((((((((((((wx.setCell ⟨r1, 0, none⟩ (.int .i64 s)).setCell ⟨r1, 1, none⟩ (.int .i64 k)).setCell ⟨r1, 2, none⟩ (.int .i64 ag)).setCell ⟨r1, 3, none⟩ (.int .i64 xf)).setCell ⟨r1, 4, none⟩ (.slice A hln cap)).setCell ⟨r1, 5, none⟩ (.pointer (some ⟨fs, 0, none⟩))).setCell ⟨r1, 6, none⟩ (.string nb)).setCell ⟨r1, 7, none⟩ (.int .i64 oi)).setCell ⟨r2, 0, none⟩ (.int .i64 sj)).setCell ⟨r2, 1, none⟩ (.int .i64 kj)).setCell ⟨r2, 2, none⟩ (.int .i64 ag)).setCell ⟨r2, 3, none⟩ (.int .i64 xf)).setCell ⟨r2, 4, none⟩ (.slice A hln cap)).setCell ⟨r2, 5, none⟩ (.pointer (some ⟨fs, 0, none⟩))).setCell ⟨r2, 6, none⟩ (.string nb)).setCell ⟨r2, 7, none⟩ (.int .i64 oj)) r2 137 #[.int .i64 sj, .int .i64 kj, .int .i64 ag, .int .i64 xf, .slice A hln cap, .pointer (some ⟨fs, 0, none⟩), .string nb, .int .i64 oj] := row_set8 ((((((((hrow2.far hne.symm _).far hne.symm _).far hne.symm _).far hne.symm _).far hne.symm _).far hne.symm _).far hne.symm _).far hne.symm _)
  have hyB : Below X.heap.size X ((((((((((((((((wx.setCell ⟨r1, 0, none⟩ (.int .i64 s)).setCell ⟨r1, 1, none⟩ (.int .i64 k)).setCell ⟨r1, 2, none⟩ (.int .i64 ag)).setCell ⟨r1, 3, none⟩ (.int .i64 xf)).setCell ⟨r1, 4, none⟩ (.slice A hln cap)).setCell ⟨r1, 5, none⟩ (.pointer (some ⟨fs, 0, none⟩))).setCell ⟨r1, 6, none⟩ (.string nb)).setCell ⟨r1, 7, none⟩ (.int .i64 oi)).setCell ⟨r2, 0, none⟩ (.int .i64 sj)).setCell ⟨r2, 1, none⟩ (.int .i64 kj)).setCell ⟨r2, 2, none⟩ (.int .i64 ag)).setCell ⟨r2, 3, none⟩ (.int .i64 xf)).setCell ⟨r2, 4, none⟩ (.slice A hln cap)).setCell ⟨r2, 5, none⟩ (.pointer (some ⟨fs, 0, none⟩))).setCell ⟨r2, 6, none⟩ (.string nb)).setCell ⟨r2, 7, none⟩ (.int .i64 oj)) := below_set8 (below_set8 hB hr1) hr2
  clear HRI HRJ hne78 hrow1 hrow2 hB
  go_wp2_with fail
  clear y0 y1 y2 y3 y4 y5 y6 y7 x0 x1 x2 x3 x4 x5 x6 x7 fz1 fz2 hl1 hl2 HR1 HR2 HBX
  generalize ((((((((((((((((wx.setCell ⟨r1, 0, none⟩ (.int .i64 s)).setCell ⟨r1, 1, none⟩ (.int .i64 k)).setCell ⟨r1, 2, none⟩ (.int .i64 ag)).setCell ⟨r1, 3, none⟩ (.int .i64 xf)).setCell ⟨r1, 4, none⟩ (.slice A hln cap)).setCell ⟨r1, 5, none⟩ (.pointer (some ⟨fs, 0, none⟩))).setCell ⟨r1, 6, none⟩ (.string nb)).setCell ⟨r1, 7, none⟩ (.int .i64 oi)).setCell ⟨r2, 0, none⟩ (.int .i64 sj)).setCell ⟨r2, 1, none⟩ (.int .i64 kj)).setCell ⟨r2, 2, none⟩ (.int .i64 ag)).setCell ⟨r2, 3, none⟩ (.int .i64 xf)).setCell ⟨r2, 4, none⟩ (.slice A hln cap)).setCell ⟨r2, 5, none⟩ (.pointer (some ⟨fs, 0, none⟩))).setCell ⟨r2, 6, none⟩ (.string nb)).setCell ⟨r2, 7, none⟩ (.int .i64 oj)) = Y at *
  have HY : Hid (Below w.heap.size w Y) := Lib.hid (HX.out.trans (hyB.mono HX.out.size))
  have HFY : Hid (∀ W, Below Y.heap.size Y W → (W.cell? ⟨p, 0, none⟩ = some (.int .i64 ag) ∧ W.cell? ⟨p, 1, none⟩ = some (.int .i64 xf)) ∧ W.cell? ⟨r1, 0, none⟩ = some (.int .i64 s) ∧ W.cell? ⟨r1, 1, none⟩ = some (.int .i64 k) ∧ W.cell? ⟨r1, 2, none⟩ = some (.int .i64 ag) ∧ W.cell? ⟨r1, 3, none⟩ = some (.int .i64 xf) ∧ W.cell? ⟨r1, 4, none⟩ = some (.slice A hln cap) ∧ W.cell? ⟨r1, 5, none⟩ = some (.pointer (some ⟨fs, 0, none⟩)) ∧ W.cell? ⟨r1, 6, none⟩ = some (.string nb) ∧ W.cell? ⟨r1, 7, none⟩ = some (.int .i64 oi) ∧ W.cell? ⟨r2, 0, none⟩ = some (.int .i64 sj)) := Lib.hid fun W hb => by
   have k1 := hy1.below hb hy1.lt
   have k2 := hy2.below hb hy2.lt
   have k3 := HF.out W (hyB.trans (hb.mono hyB.size))
   exact ⟨⟨k3.1, k3.2.1⟩, k1.cell 0, k1.cell 1, k1.cell 2, k1.cell 3, k1.cell 4, k1.cell 5, k1.cell 6, k1.cell 7, k2.cell 0⟩
  have HQY : Hid (RowAt Y q 105 #[.bool false, .int .i64 0]) := Lib.hid (HRQ.out.below hyB HRQ.out.lt)
  have z0 : Y.cell? ⟨r2, 0, none⟩ = some (.int .i64 sj) := hy2.cell 0
  have hl2 := hy2.lt
  clear hy1 hy2 hyB
  go_wp2_with (go_at_call 78; ((with_reducible refine (HAL.out _).mono ?_); rintro e w' ⟨rfl, rfl⟩))
  clear z0 hl2
  refine Inv.region_tail 17 8 (fun W W' => Below W.heap.size W W') (fun i v W => match i with
   | 0 => v = .pointer (some ⟨p, 0, none⟩)
   | 1 => v = .pointer (some ⟨p, 0, none⟩)
   | 2 => v = .int .i64 ag
   | 3 => v = .pointer (some ⟨p, 0, none⟩)
   | 4 => v = .pointer (some ⟨p, 1, none⟩)
   | 5 => v = .int .i64 xf
   | 6 => v = .agg #[.int .i64 s, .int .i64 k, .int .i64 ag, .int .i64 xf, .slice A hln cap, .pointer (some ⟨fs, 0, none⟩), .string nb, .int .i64 oi]
   | 7 => v = .int .i64 g
   | 8 => v = .pointer (some ⟨r2, 0, none⟩)
   | 9 => v = .pointer (some ⟨r2, 0, none⟩)
   | 10 => v = .int .i64 sj
   | 11 => v = .pointer (some ⟨r1, 0, none⟩)
   | 12 => v = .pointer (some ⟨r1, 0, none⟩)
   | 13 => v = .int .i64 s
   | 14 => v = .int .i64 (M : Int)
   | 15 => OwnV w.heap.size W v vs
   | 16 => v = (.agg #[.bool po, .int .i64 pn])
   | _ => True) (by kernel_rfl) (by kernel_rfl) (by kernel_rfl) (by kernel_rfl) (fun W => Below.refl _ _) (fun a b c h k => h.trans (k.mono h.size)) (fun i v W W' h he => ?stab) ?obls ?fin
  case stab =>
   match i, h with
   | 0, h => exact h
   | 1, h => exact h
   | 2, h => exact h
   | 3, h => exact h
   | 4, h => exact h
   | 5, h => exact h
   | 6, h => exact h
   | 7, h => exact h
   | 8, h => exact h
   | 9, h => exact h
   | 10, h => exact h
   | 11, h => exact h
   | 12, h => exact h
   | 13, h => exact h
   | 14, h => exact h
   | 15, h => exact OwnV.below h (by simpa using ⟨he.os, he.tape, he.output, he.size, he.block⟩)
   | 16, h => exact h
   | _ + 17, h => exact h
  case obls =>
   refine .cons ?_ (.cons ?_ (.cons ?_ (.cons ?_ (.cons ?_ (.cons ?_ (.cons ?_ (.cons ?_ (.cons ?_ (.cons ?_ (.cons ?_ (.cons ?_ (.cons ?_ (.cons ?_ (.cons ?_ (.cons ?_ (.cons ?_ .nil))))))))))))))))
   ·intro ac wx hE hf hd
    have hB : Below Y.heap.size Y wx := ⟨hE.1,hE.2,hE.3,hE.4,hE.5⟩
    rw [if_pos (Inv.want0 rfl _)]
    have h3 : ac.eval (.tmp 3) = .pointer (some ⟨p, 0, none⟩) := hf 3 (by kernel_rfl)
    clear hf hd
    refine Inv.val (.pointer (some ⟨p, 0, none⟩)) ?_ rfl rfl (Below.refl _ _)
    clear hE hB HF HX HVA HPU HY HFY
    generalize ac.eval = ev at *
    simp [execOp, go_sem, *]
   ·intro ac wx hE hf hd
    have hB : Below Y.heap.size Y wx := ⟨hE.1,hE.2,hE.3,hE.4,hE.5⟩
    rw [if_pos (Inv.want0 rfl _)]
    have h22 := hd 0 _ (by kernel_rfl) rfl
    change ac.eval (.tmp 22) = .pointer (some ⟨p, 0, none⟩) at h22
    clear hf hd
    refine Inv.val (.pointer (some ⟨p, 0, none⟩)) ?_ rfl rfl (Below.refl _ _)
    clear hE hB HF HX HVA HPU HY HFY
    generalize ac.eval = ev at *
    simp [execOp, go_sem, *]
   ·intro ac wx hE hf hd
    have hB : Below Y.heap.size Y wx := ⟨hE.1,hE.2,hE.3,hE.4,hE.5⟩
    rw [if_pos (Inv.want0 rfl _)]
    have h23 := hd 1 _ (by kernel_rfl) rfl
    change ac.eval (.tmp 23) = .pointer (some ⟨p, 0, none⟩) at h23
    clear hf hd
    obtain ⟨⟨a0, a1⟩, b0, b1, b2, b3, b4, b5, b6, b7, c0⟩ := HFY.out wx hB
    refine Inv.val (.int .i64 ag) ?_ rfl rfl (Below.refl _ _)
    clear hE hB HF HX HVA HPU HY HFY
    generalize ac.eval = ev at *
    simp [execOp, go_sem, *]
   ·intro ac wx hE hf hd
    have hB : Below Y.heap.size Y wx := ⟨hE.1,hE.2,hE.3,hE.4,hE.5⟩
    rw [if_pos (Inv.want0 rfl _)]
    have h3 : ac.eval (.tmp 3) = .pointer (some ⟨p, 0, none⟩) := hf 3 (by kernel_rfl)
    clear hf hd
    refine Inv.val (.pointer (some ⟨p, 0, none⟩)) ?_ rfl rfl (Below.refl _ _)
    clear hE hB HF HX HVA HPU HY HFY
    generalize ac.eval = ev at *
    simp [execOp, go_sem, *]
   ·intro ac wx hE hf hd
    have hB : Below Y.heap.size Y wx := ⟨hE.1,hE.2,hE.3,hE.4,hE.5⟩
    rw [if_pos (Inv.want0 rfl _)]
    have h25 := hd 3 _ (by kernel_rfl) rfl
    change ac.eval (.tmp 25) = .pointer (some ⟨p, 0, none⟩) at h25
    clear hf hd
    refine Inv.val (.pointer (some ⟨p, 1, none⟩)) ?_ rfl rfl (Below.refl _ _)
    clear hE hB HF HX HVA HPU HY HFY
    generalize ac.eval = ev at *
    simp [execOp, go_sem, *]
   ·intro ac wx hE hf hd
    have hB : Below Y.heap.size Y wx := ⟨hE.1,hE.2,hE.3,hE.4,hE.5⟩
    rw [if_pos (Inv.want0 rfl _)]
    have h26 := hd 4 _ (by kernel_rfl) rfl
    change ac.eval (.tmp 26) = .pointer (some ⟨p, 1, none⟩) at h26
    clear hf hd
    obtain ⟨⟨a0, a1⟩, b0, b1, b2, b3, b4, b5, b6, b7, c0⟩ := HFY.out wx hB
    refine Inv.val (.int .i64 xf) ?_ rfl rfl (Below.refl _ _)
    clear hE hB HF HX HVA HPU HY HFY
    generalize ac.eval = ev at *
    simp [execOp, go_sem, *]
   ·intro ac wx hE hf hd
    have hB : Below Y.heap.size Y wx := ⟨hE.1,hE.2,hE.3,hE.4,hE.5⟩
    rw [if_pos (Inv.want0 rfl _)]
    have h7 : ac.eval (.tmp 7) = .pointer (some ⟨r1, 0, none⟩) := hf 7 (by kernel_rfl)
    clear hf hd
    obtain ⟨⟨a0, a1⟩, b0, b1, b2, b3, b4, b5, b6, b7, c0⟩ := HFY.out wx hB
    refine Inv.val (.agg #[.int .i64 s, .int .i64 k, .int .i64 ag, .int .i64 xf, .slice A hln cap, .pointer (some ⟨fs, 0, none⟩), .string nb, .int .i64 oi]) ?_ rfl rfl (Below.refl _ _)
    clear hE hB HF HX HVA HPU HY HFY
    generalize ac.eval = ev at *
    simp [execOp, go_sem, *]
   ·intro ac wx hE hf hd
    have hB : Below Y.heap.size Y wx := ⟨hE.1,hE.2,hE.3,hE.4,hE.5⟩
    rw [if_pos (Inv.want0 rfl _)]
    have h9 : ac.eval (.tmp 9) = .int .i64 g := hf 9 (by kernel_rfl)
    clear hf hd
    refine Inv.val (.int .i64 g) ?_ rfl rfl (Below.refl _ _)
    clear hE hB
    generalize ac.eval = ev at *
    simp [execOp, go_sem, *]
   ·intro ac wx hE hf hd
    have hB : Below Y.heap.size Y wx := ⟨hE.1,hE.2,hE.3,hE.4,hE.5⟩
    rw [if_pos (Inv.want0 rfl _)]
    have h8 : ac.eval (.tmp 8) = .pointer (some ⟨r2, 0, none⟩) := hf 8 (by kernel_rfl)
    clear hf hd
    refine Inv.val (.pointer (some ⟨r2, 0, none⟩)) ?_ rfl rfl (Below.refl _ _)
    clear hE hB HF HX HVA HPU HY HFY
    generalize ac.eval = ev at *
    simp [execOp, go_sem, *]
   ·intro ac wx hE hf hd
    have hB : Below Y.heap.size Y wx := ⟨hE.1,hE.2,hE.3,hE.4,hE.5⟩
    rw [if_pos (Inv.want0 rfl _)]
    have h30 := hd 8 _ (by kernel_rfl) rfl
    change ac.eval (.tmp 30) = .pointer (some ⟨r2, 0, none⟩) at h30
    clear hf hd
    refine Inv.val (.pointer (some ⟨r2, 0, none⟩)) ?_ rfl rfl (Below.refl _ _)
    clear hE hB HF HX HVA HPU HY HFY
    generalize ac.eval = ev at *
    simp [execOp, go_sem, *]
   ·intro ac wx hE hf hd
    have hB : Below Y.heap.size Y wx := ⟨hE.1,hE.2,hE.3,hE.4,hE.5⟩
    rw [if_pos (Inv.want0 rfl _)]
    have h31 := hd 9 _ (by kernel_rfl) rfl
    change ac.eval (.tmp 31) = .pointer (some ⟨r2, 0, none⟩) at h31
    clear hf hd
    obtain ⟨⟨a0, a1⟩, b0, b1, b2, b3, b4, b5, b6, b7, c0⟩ := HFY.out wx hB
    refine Inv.val (.int .i64 sj) ?_ rfl rfl (Below.refl _ _)
    clear hE hB HF HX HVA HPU HY HFY
    generalize ac.eval = ev at *
    simp [execOp, go_sem, *]
   ·intro ac wx hE hf hd
    have hB : Below Y.heap.size Y wx := ⟨hE.1,hE.2,hE.3,hE.4,hE.5⟩
    rw [if_pos (Inv.want0 rfl _)]
    have h7 : ac.eval (.tmp 7) = .pointer (some ⟨r1, 0, none⟩) := hf 7 (by kernel_rfl)
    clear hf hd
    refine Inv.val (.pointer (some ⟨r1, 0, none⟩)) ?_ rfl rfl (Below.refl _ _)
    clear hE hB HF HX HVA HPU HY HFY
    generalize ac.eval = ev at *
    simp [execOp, go_sem, *]
   ·intro ac wx hE hf hd
    have hB : Below Y.heap.size Y wx := ⟨hE.1,hE.2,hE.3,hE.4,hE.5⟩
    rw [if_pos (Inv.want0 rfl _)]
    have h33 := hd 11 _ (by kernel_rfl) rfl
    change ac.eval (.tmp 33) = .pointer (some ⟨r1, 0, none⟩) at h33
    clear hf hd
    refine Inv.val (.pointer (some ⟨r1, 0, none⟩)) ?_ rfl rfl (Below.refl _ _)
    clear hE hB HF HX HVA HPU HY HFY
    generalize ac.eval = ev at *
    simp [execOp, go_sem, *]
   ·intro ac wx hE hf hd
    have hB : Below Y.heap.size Y wx := ⟨hE.1,hE.2,hE.3,hE.4,hE.5⟩
    rw [if_pos (Inv.want0 rfl _)]
    have h34 := hd 12 _ (by kernel_rfl) rfl
    change ac.eval (.tmp 34) = .pointer (some ⟨r1, 0, none⟩) at h34
    clear hf hd
    obtain ⟨⟨a0, a1⟩, b0, b1, b2, b3, b4, b5, b6, b7, c0⟩ := HFY.out wx hB
    refine Inv.val (.int .i64 s) ?_ rfl rfl (Below.refl _ _)
    clear hE hB HF HX HVA HPU HY HFY
    generalize ac.eval = ev at *
    simp [execOp, go_sem, *]
   ·intro ac wx hE hf hd
    have hB : Below Y.heap.size Y wx := ⟨hE.1,hE.2,hE.3,hE.4,hE.5⟩
    rw [if_pos (Inv.want0 rfl _)]
    have h32 := hd 10 _ (by kernel_rfl) rfl
    change ac.eval (.tmp 32) = .int .i64 sj at h32
    have h35 := hd 13 _ (by kernel_rfl) rfl
    change ac.eval (.tmp 35) = .int .i64 s at h35
    clear hf hd
    refine Inv.val (.int .i64 (M : Int)) ?_ rfl rfl (Below.refl _ _)
    clear hE hB HF HX HVA HPU HY HFY
    generalize ac.eval = ev at *
    simp [execOp, go_sem, *]
   ·intro ac wx hE hf hd
    have hB : Below Y.heap.size Y wx := ⟨hE.1,hE.2,hE.3,hE.4,hE.5⟩
    rw [if_pos (Inv.want0 rfl _)]
    have h28 := hd 6 _ (by kernel_rfl) rfl
    change ac.eval (.tmp 28) = .agg #[.int .i64 s, .int .i64 k, .int .i64 ag, .int .i64 xf, .slice A hln cap, .pointer (some ⟨fs, 0, none⟩), .string nb, .int .i64 oi] at h28
    have h29 := hd 7 _ (by kernel_rfl) rfl
    change ac.eval (.tmp 29) = .int .i64 g at h29
    have h36 := hd 14 _ (by kernel_rfl) rfl
    change ac.eval (.tmp 36) = .int .i64 (M : Int) at h36
    clear hf hd
    refine Inv.go (f := 79) (xs := #[.agg #[.int .i64 s, .int .i64 k, .int .i64 ag, .int .i64 xf, .slice A hln cap, .pointer (some ⟨fs, 0, none⟩), .string nb, .int .i64 oi], .int .i64 g, .int .i64 (M : Int)]) ?_ rfl ?_
    ·clear hE hB HF HX HVA HPU HY HFY
     have hfn : ac.eval (.func 79) = .func (.func 79) #[] #[] := rfl
     generalize ac.eval = ev at *
     simp [execOp, go_sem, *]
    ·exact (HVA.out wx (HY.out.trans (hB.mono HY.out.size))).mono fun e w' ⟨u, he, ho, hb⟩ => ⟨u, he, ho, hb⟩
   ·intro ac wx hE hf hd
    have hB : Below Y.heap.size Y wx := ⟨hE.1,hE.2,hE.3,hE.4,hE.5⟩
    rw [if_pos (Inv.want0 rfl _)]
    have h24 := hd 2 _ (by kernel_rfl) rfl
    change ac.eval (.tmp 24) = .int .i64 ag at h24
    have h27 := hd 5 _ (by kernel_rfl) rfl
    change ac.eval (.tmp 27) = .int .i64 xf at h27
    have h37 := hd 15 _ (by kernel_rfl) rfl
    change (fun v W => OwnV w.heap.size W v vs) (ac.eval (.tmp 37)) wx at h37
    try dsimp only at h37
    clear hf hd
    have hsl := h37
    obtain ⟨u37, hu37⟩ : ∃ u, u = ac.eval (.tmp 37) := ⟨_, rfl⟩
    rw [← hu37] at h37
    obtain ⟨A37, c37, hq37⟩ := h37.slice
    rw [HVL.out] at hq37
    have h37' : ac.eval (.tmp 37) = .slice A37 M c37 := by rw [← hu37]; exact hq37
    have hsl : Sl wx (.slice A37 M c37) vs := by rw [← hq37]; exact h37.sl
    refine Inv.go (f := 117) (xs := #[.int .i64 ag, .int .i64 xf, .slice A37 M c37]) ?_ rfl ?_
    ·clear hE hB HF HX HVA HPU HY HFY h37 hu37 hq37 hsl
     have hfn : ac.eval (.func 117) = .func (.func 117) #[] #[] := rfl
     generalize ac.eval = ev at *
     simp [execOp, go_sem, *]
    ·exact (HPU.out wx A37 c37 hsl).mono fun e w' ⟨he, hb⟩ => ⟨_, he, rfl, hb⟩
  case fin =>
   intro ac wx hE ha hall
   have hB : Below Y.heap.size Y wx := ⟨hE.1,hE.2,hE.3,hE.4,hE.5⟩
   have h22 := hall 0 _ (by decide) rfl
   change ac.eval (.tmp 22) = .pointer (some ⟨p, 0, none⟩) at h22
   have h23 := hall 1 _ (by decide) rfl
   change ac.eval (.tmp 23) = .pointer (some ⟨p, 0, none⟩) at h23
   have h24 := hall 2 _ (by decide) rfl
   change ac.eval (.tmp 24) = .int .i64 ag at h24
   have h25 := hall 3 _ (by decide) rfl
   change ac.eval (.tmp 25) = .pointer (some ⟨p, 0, none⟩) at h25
   have h26 := hall 4 _ (by decide) rfl
   change ac.eval (.tmp 26) = .pointer (some ⟨p, 1, none⟩) at h26
   have h27 := hall 5 _ (by decide) rfl
   change ac.eval (.tmp 27) = .int .i64 xf at h27
   have h28 := hall 6 _ (by decide) rfl
   change ac.eval (.tmp 28) = .agg #[.int .i64 s, .int .i64 k, .int .i64 ag, .int .i64 xf, .slice A hln cap, .pointer (some ⟨fs, 0, none⟩), .string nb, .int .i64 oi] at h28
   have h29 := hall 7 _ (by decide) rfl
   change ac.eval (.tmp 29) = .int .i64 g at h29
   have h30 := hall 8 _ (by decide) rfl
   change ac.eval (.tmp 30) = .pointer (some ⟨r2, 0, none⟩) at h30
   have h31 := hall 9 _ (by decide) rfl
   change ac.eval (.tmp 31) = .pointer (some ⟨r2, 0, none⟩) at h31
   have h32 := hall 10 _ (by decide) rfl
   change ac.eval (.tmp 32) = .int .i64 sj at h32
   have h33 := hall 11 _ (by decide) rfl
   change ac.eval (.tmp 33) = .pointer (some ⟨r1, 0, none⟩) at h33
   have h34 := hall 12 _ (by decide) rfl
   change ac.eval (.tmp 34) = .pointer (some ⟨r1, 0, none⟩) at h34
   have h35 := hall 13 _ (by decide) rfl
   change ac.eval (.tmp 35) = .int .i64 s at h35
   have h36 := hall 14 _ (by decide) rfl
   change ac.eval (.tmp 36) = .int .i64 (M : Int) at h36
   have h37 := hall 15 _ (by decide) rfl
   change (fun v W => OwnV w.heap.size W v vs) (ac.eval (.tmp 37)) wx at h37
   try dsimp only at h37
   generalize hv37 : ac.eval (.tmp 37) = v37 at *
   have h38 := hall 16 _ (by decide) rfl
   change (fun v W => v = (.agg #[.bool po, .int .i64 pn])) (ac.eval (.tmp 38)) wx at h38
   try dsimp only at h38
   generalize hv38 : ac.eval (.tmp 38) = v38 at *
   simp only [List.take_succ_cons, List.take_zero, List.foldl, Inv.slot, Act.put] at ha
   change ac.tmps.getD 22 undef = _ at h22
   change ac.tmps.getD 23 undef = _ at h23
   change ac.tmps.getD 24 undef = _ at h24
   change ac.tmps.getD 25 undef = _ at h25
   change ac.tmps.getD 26 undef = _ at h26
   change ac.tmps.getD 27 undef = _ at h27
   change ac.tmps.getD 28 undef = _ at h28
   change ac.tmps.getD 29 undef = _ at h29
   change ac.tmps.getD 30 undef = _ at h30
   change ac.tmps.getD 31 undef = _ at h31
   change ac.tmps.getD 32 undef = _ at h32
   change ac.tmps.getD 33 undef = _ at h33
   change ac.tmps.getD 34 undef = _ at h34
   change ac.tmps.getD 35 undef = _ at h35
   change ac.tmps.getD 36 undef = _ at h36
   change ac.tmps.getD 37 undef = _ at hv37
   change ac.tmps.getD 38 undef = _ at hv38
   simp only [h22, h23, h24, h25, h26, h27, h28, h29, h30, h31, h32, h33, h34, h35, h36, hv37, hv38, List.setIfInBounds_toArray, List.set_cons_zero, List.set_cons_succ] at ha
   clear h22 h23 h24 h25 h26 h27 h28 h29 h30 h31 h32 h33 h34 h35 h36 hv37 hv38 hall hE
   subst ha
   simp only [List.drop_succ_cons, List.drop_zero]
   have HQW := HQY.out.below hB HQY.out.lt
   have HBW : Hid (Below w.heap.size w wx) := Lib.hid (HY.out.trans (hB.mono HY.out.size))
   have u0 := HQW.cell 0
   have u1 := HQW.cell 1
   have u2 := HQW.frozen 0
   have u3 := HQW.frozen 1
   have u4 := HQW.lt
   have HQL : Hid (w.heap.size ≤ q) := Lib.hid (by have := HPQ.out; omega)
   simp only [List.getElem?_toArray, List.getElem?_cons_succ, List.getElem?_cons_zero] at u0 u1
   clear HQW hB HF HX HVA HPU HY HFY HAL
   go_wp2_with fail
   refine bodyPost_ret (v := .agg #[.bool po, .int .i64 pn]) (by simp [results, Tryz.results94, go_sem, *]) rfl ⟨rfl, ?_⟩
   exact (HBW.out.setCell HQL.out _).setCell HQL.out _
end
section
open Go.RowKit Go.Sort
open Fx (Vl)
open Me
open Wp
namespace Wp
structure Gv (w : World) : Prop where
 c0 : w.cell? ⟨0, 0, none⟩ = some (.int .i64 0)
 c1 : w.cell? ⟨0, 1, none⟩ = some (.int .i64 4)
 c2 : w.cell? ⟨0, 2, none⟩ = some (.int .i64 0)
 lt : 0 < w.heap.size
theorem Gv.keep {w w' : World} {V : Nat → Prop} (h : Gv w) (hV : V 0) (k : Kp (fun b => ¬ V b) w w') : Gv w' :=
 ⟨(k.cell (p := ⟨0, 0, none⟩) h.lt (fun o => o hV)).trans h.c0, (k.cell (p := ⟨0, 1, none⟩) h.lt (fun o => o hV)).trans h.c1, (k.cell (p := ⟨0, 2, none⟩) h.lt (fun o => o hV)).trans h.c2, Nat.lt_of_lt_of_le h.lt k.size⟩
theorem Gv.below {w w' : World} (h : Gv w) (k : Below w.heap.size w w') : Gv w' :=
 ⟨(k.cell (p := ⟨0, 0, none⟩) h.lt).trans h.c0, (k.cell (p := ⟨0, 1, none⟩) h.lt).trans h.c1, (k.cell (p := ⟨0, 2, none⟩) h.lt).trans h.c2, Nat.lt_of_lt_of_le h.lt k.size⟩
def rows3 (S : Vf.Sv) (n : List UInt8) (a : Int) (L2 L3 : List UInt8) : Nat → Vf.Sv
 | 0 => S
 | 1 => (Vf.write S n a [0, 0, 0, 0]).1
 | 2 => (Vf.write (Vf.write S n a [0, 0, 0, 0]).1 n (a + 4) L2).1
 | _ => (Vf.write (Vf.write (Vf.write S n a [0, 0, 0, 0]).1 n (a + 4) L2).1 n a L3).1
theorem ps_oneG {g : Nat} {G V : Nat → Prop} {w : World} {v : Value} {L : List UInt8} (h : Bs w G v L) (hg : RowAt w g 49 #[v]) (hV : ∀ i, G i → V i) (hVg : V g) : Vf.Ps w V (.slice (some ⟨g, 0, none⟩) 1 1) [L] := by
 obtain ⟨A, c, e, h1, h2, hr⟩ := h
 refine ⟨some ⟨g, 0, none⟩, 1, [v], rfl, Nat.le_refl _, by unfold maxLen; omega, fun _ => ⟨_, rfl, hg.lt, hVg, fun j u hu => ?_⟩, ⟨[v], [], rfl, ⟨v, rfl, A, c, e, h1, h2, hr.mono fun i _ hb => hV i hb⟩, rfl⟩⟩
 rw [Addr.add_lit, Nat.zero_add, hg.cell]
 simpa using hu
end Wp
theorem write_any7 {w : World} {V : Nat → Prop} {c fs : Nat} {S : Vf.Sv} {n : List UInt8} {h : Hd} {A : Option Addr} {cap : Nat} (ro : PO w V fs c S) (hc : c ≤ 499000) (hg : Gv w) (hV0 : V 0) (hv : h.val = true) (ix : Nat) (hi : ix < h.l.length) (t u : Int) (ht0 : 0 ≤ t) (ht : t ≤ 4294967295) :
 Calls Tryz.prog 93 #[ringV h ix A cap fs n, .agg #[.int .i64 t, .int .i64 u]] w fun e w' => e = .returned (.bool (decide (Sl.al t (h.step ix) ≠ 0))) ∧ PO w' V fs (c + 3) (if Sl.al t (h.step ix) = 0 then S else write S n h ix t u) ∧ Kp (fun b => ¬ V b) w w' := by
 obtain ⟨⟨n1, n2⟩, n3, n4⟩ := Hd.nums hv ix hi
 have hab := Sl.al_bd n1 ht0
 have HAL : Hid (∀ W, Calls Tryz.prog 78 #[.int .i64 t, .int .i64 (h.step ix)] W fun e w' => e = .returned (.int .i64 (Sl.al t (h.step ix))) ∧ W = w') := Lib.hid fun W => align_any t _ (by omega) W
 have HPL : Hid (∀ W, Calls Tryz.prog 107 #[.agg #[.int .i64 (h.step ix), .int .i64 (h.cnt ix)], .int .i64 (Sl.al t (h.step ix))] W fun e w' => e = .returned (.int .i64 (Sl.pl (h.step ix) (h.cnt ix) t)) ∧ Below W.heap.size W w') := Lib.hid fun W => by
  have h := place_any (h.step ix) (h.cnt ix) (Sl.al t (h.step ix)) (by omega) W
  rw [pl_al n1 ht0] at h
  exact h
 have HWS : Hid (∀ W, Calls Tryz.prog 116 #[.agg #[.int .i64 (Sl.al t (h.step ix)), .int .i64 u]] W fun e w' => ∃ v, e = .returned v ∧ Wr3M W.heap.size w' v (Sl.beb u 8) (Sl.beb (Sl.lim (Sl.al t (h.step ix))) 4) ∧ Below W.heap.size W w') := Lib.hid fun W => swrites_anyM _ _ W
 have HQ : Hid (write S n h ix t u = rows3 S n (at_ h ix t) (Sl.beb u 8) (Sl.beb (Sl.lim (Sl.al t (h.step ix))) 4) 3) := Lib.hid rfl
 have HAT : Hid (at_ h ix t = h.offs (ix : Int) + 12 * Sl.pl (h.step ix) (h.cnt ix) t) := Lib.hid rfl
 have hpb := Sl.pl_bd n1 n3 ht0
 have hob := Hd.offs_bd hv (ix : Int)
 have hb8 : (Sl.beb u 8).length = 8 := rfl
 have hb4 : (Sl.beb (Sl.lim (Sl.al t (h.step ix))) 4).length = 4 := rfl
 have HRO := Lib.hid ro
 have HG := Lib.hid hg
 unfold ringV
 clear ro hg
 generalize write S n h ix t u = Q at *
 generalize at_ h ix t = a at *
 generalize Sl.al t (h.step ix) = g at *
 generalize Sl.pl (h.step ix) (h.cnt ix) t = pl at *
 generalize Sl.beb (Sl.lim g) 4 = L3 at *
 generalize Sl.beb u 8 = L2 at *
 generalize h.step ix = s at *
 generalize h.cnt ix = k at *
 generalize h.offs (ix : Int) = of_ at *
 generalize h.l.length = hln at *
 generalize h.ag = ag at *
 generalize h.xf = xf at *
 obtain ⟨m12, hm12⟩ : ∃ m12, 12 * pl = m12 := ⟨_, rfl⟩
 obtain ⟨ad, had⟩ : ∃ ad, of_ + m12 = ad := ⟨_, rfl⟩
 have hw1 : IntKind.i64.wrap m12 = m12 := IntWalk.i64_in _ (by omega)
 have hw2 : IntKind.i64.wrap ad = ad := IntWalk.i64_in _ (by omega)
 have HAD : Hid (a = ad) := Lib.hid (by rw [HAT.out, hm12, had])
 have hadb : 0 ≤ ad ∧ ad ≤ 2300000000 := by omega
 clear HAT
 obtain rfl := HAD.out
 by_cases hg0 : g = 0
 ·have hgz : (g == 0) = true := by simpa using hg0
  obtain ⟨bb, hbb⟩ : ∃ bb, bb = decide (g ≠ 0) := ⟨_, rfl⟩
  have HBB : Hid (bb = false) := Lib.hid (by rw [hbb]; simp [hg0])
  rw [← hbb, if_pos hg0]
  clear hbb hg0
  go_enter Tryz.func93, Tryz.ntmps93
  go_wp2_with (go_at_call 78; ((with_reducible refine (HAL.out _).mono ?_); rintro e w' ⟨rfl, rfl⟩))
  go_ret
  have hB : Below w.heap.size w ((w.alloc (.cells #[.int .i64 s, .int .i64 k, .int .i64 ag, .int .i64 xf, .slice A hln cap, .pointer (some ⟨fs, 0, none⟩), .string ⟨n.toArray⟩, .int .i64 of_] 137)).alloc (.cells #[.int .i64 g, .int .i64 u] 54)) := ((Below.refl _ _).alloc (Nat.le_refl _) _).alloc (by simp) _
  exact ⟨by rw [HBB.out]; rfl, (HRO.out.below hB).more (by omega) (fun _ h => h), Kp.of_below hB⟩
 ·have hgz : (g == 0) = false := by simpa using hg0
  obtain ⟨bb, hbb⟩ : ∃ bb, bb = decide (g ≠ 0) := ⟨_, rfl⟩
  have HBB : Hid (bb = true) := Lib.hid (by rw [hbb]; simp [hg0])
  rw [← hbb, if_neg hg0]
  clear hbb hg0
  go_enter Tryz.func93, Tryz.ntmps93
  go_wp2_with (go_at_call 78; ((with_reducible refine (HAL.out _).mono ?_); rintro e w' ⟨rfl, rfl⟩))
  obtain ⟨X, hXe⟩ : ∃ X, X = (w.alloc (.cells #[.int .i64 s, .int .i64 k, .int .i64 ag, .int .i64 xf, .slice A hln cap, .pointer (some ⟨fs, 0, none⟩), .string ⟨n.toArray⟩, .int .i64 of_] 137)).alloc (.cells #[.int .i64 g, .int .i64 u] 54) := ⟨_, rfl⟩
  have HX : Hid (Below w.heap.size w X) := Lib.hid (by rw [hXe]; exact ((Below.refl _ _).alloc (Nat.le_refl _) _).alloc (by simp) _)
  have HXS : Hid (X.heap.size = w.heap.size + 2) := Lib.hid (by rw [hXe]; simp)
  obtain ⟨p, hp⟩ : ∃ p, p = w.heap.size := ⟨_, rfl⟩
  obtain ⟨q, hq⟩ : ∃ q, q = w.heap.size + 1 := ⟨_, rfl⟩
  have HPQ : Hid (p = w.heap.size ∧ q = w.heap.size + 1) := Lib.hid ⟨hp, hq⟩
  have HRP : Hid (RowAt X p 137 #[.int .i64 s, .int .i64 k, .int .i64 ag, .int .i64 xf, .slice A hln cap, .pointer (some ⟨fs, 0, none⟩), .string ⟨n.toArray⟩, .int .i64 of_]) := Lib.hid (by rw [hXe, hp]; exact (RowAt.new w _ _).alloc _)
  have HRQ : Hid (RowAt X q 54 #[.int .i64 g, .int .i64 u]) := Lib.hid (by rw [hXe, hq]; exact RowAt.new' (by simp))
  rw [← hXe, ← hq, ← hp]
  clear hXe hp hq
  have e0 : X.cell? ⟨p, 0, none⟩ = some (.int .i64 s) := HRP.out.cell 0
  have e1 : X.cell? ⟨p, 1, none⟩ = some (.int .i64 k) := HRP.out.cell 1
  have e7 : X.cell? ⟨p, 7, none⟩ = some (.int .i64 of_) := HRP.out.cell 7
  have f0 : X.cell? ⟨q, 0, none⟩ = some (.int .i64 g) := HRQ.out.cell 0
  have f1 : X.cell? ⟨q, 1, none⟩ = some (.int .i64 u) := HRQ.out.cell 1
  have hpX := HRP.out.lt
  have hqX := HRQ.out.lt
  obtain ⟨kc, kf⟩ := kgrown X
  refine wp_region_quiet_below (by kernel_rfl) (by kernel_rfl) ?_
  repeat (go_big_quiet_step (first
   | (go_at_call 107; exact Calls.regrown_of (HPL.out _))))
  refine wpQuiet_nil ?_
  intro _ hw'
  obtain ⟨⟨dq, osq⟩, hw''⟩ := hw'
  subst hw''
  obtain ⟨wy, hwy⟩ : ∃ wy, wy = Go.Sort.grow (redrawn X dq) osq := ⟨_, rfl⟩
  have hBy : Below X.heap.size X wy := by rw [hwy]; exact below_regrown _ _ _
  rw [← hwy]
  have g0 : wy.cell? ⟨q, 0, none⟩ = some (.int .i64 g) := (hBy.cell (p := ⟨q, 0, none⟩) hqX).trans f0
  have g1 : wy.cell? ⟨q, 1, none⟩ = some (.int .i64 u) := (hBy.cell (p := ⟨q, 1, none⟩) hqX).trans f1
  have hsy := hBy.size
  have HBY : Hid (Below w.heap.size w wy) := Lib.hid (HX.out.trans (hBy.mono HX.out.size))
  have HRPy := Lib.hid (HRP.out.below hBy hpX)
  have HSY : Hid (w.heap.size + 2 ≤ wy.heap.size) := Lib.hid (by have := HXS.out; omega)
  clear hBy hwy e0 e1 e7 f0 f1 kc kf hqX hpX hsy
  go_wp2_with (go_at_call 116; (with_reducible refine (HWS.out _).mono ?_); rintro e w2 ⟨v2, rfl, hw3, hb2⟩; have hbb : Below w.heap.size w w2 := HBY.out.trans (hb2.mono HBY.out.size); have HB2 := Lib.hid hbb; have hs2 := hb2.size; have HRP2 := Lib.hid (HRPy.out.below hb2 HRPy.out.lt); obtain ⟨pr, v1, v2', v3, rfl, hp, hrow, hr1, hr2, hr3⟩ := hw3; have HROW := Lib.hid hrow; have HR1 := Lib.hid hr1; have HR2 := Lib.hid hr2; have HR3 := Lib.hid hr3; obtain ⟨A1, n1, q1, rfl⟩ : ∃ A n q, v1 = .slice A n q := (by obtain ⟨A, c, e, _⟩ := hr1; exact ⟨A, _, c, e⟩); obtain ⟨A2, n2, q2, rfl⟩ : ∃ A n q, v2' = .slice A n q := (by obtain ⟨A, c, e, _⟩ := hr2; exact ⟨A, _, c, e⟩); obtain ⟨A3, n3, q3, rfl⟩ : ∃ A n q, v3 = .slice A n q := (by obtain ⟨A, c, e, _⟩ := hr3; exact ⟨A, _, c, e⟩); clear hb2 hbb hrow hr1 hr2 hr3)
  obtain ⟨V', hV'⟩ : ∃ V' : Nat → Prop, ∀ i, V' i ↔ (V i ∨ (w.heap.size ≤ i ∧ i < w2.heap.size)) := ⟨_, fun _ => Iff.rfl⟩
  have HV := Lib.hid hV'
  have HRO2 : Hid (PO w2 V' fs c S) := Lib.hid (HRO.out.add HB2.out fun i hi => (hV' i).1 hi)
  have hpl := HROW.out.lt
  have HVp : Hid (V' p ∧ V' pr ∧ V' 0 ∧ ∀ i, wy.heap.size ≤ i → i < w2.heap.size → V' i) := Lib.hid ⟨(hV' p).2 (.inr (by have := HPQ.out.1; have := HSY.out; omega)), (hV' pr).2 (.inr (by have := HSY.out; omega)), (hV' 0).2 (.inl hV0), fun i h1 h2 => (hV' i).2 (.inr ⟨by have := HSY.out; omega, h2⟩)⟩
  have HG2 := Lib.hid (HG.out.below HB2.out)
  have HT1 : Hid (Bs w2 (fun i => wy.heap.size ≤ i ∧ i < w2.heap.size) (.slice A1 n1 q1) [0, 0, 0, 0]) := Lib.hid (Bs.mono HR1.out fun i hi hb => ⟨hb, hi⟩)
  have HT2 : Hid (Bs w2 (fun i => wy.heap.size ≤ i ∧ i < w2.heap.size) (.slice A2 n2 q2) L2) := Lib.hid (Bs.mono HR2.out fun i hi hb => ⟨hb, hi⟩)
  have HT3 : Hid (Bs w2 (fun i => wy.heap.size ≤ i ∧ i < w2.heap.size) (.slice A3 n3 q3) L3) := Lib.hid (Bs.mono HR3.out fun i hi hb => ⟨hb, hi⟩)
  have HF : Hid (∀ W, Kp (fun b => ¬ V' b) w2 W → (W.cell? ⟨p, 5, none⟩ = some (.pointer (some ⟨fs, 0, none⟩)) ∧ W.cell? ⟨p, 6, none⟩ = some (.string ⟨n.toArray⟩)) ∧ (W.cell? ⟨pr, 0, none⟩ = some (.slice A1 n1 q1) ∧ W.cell? ⟨pr, 1, none⟩ = some (.slice A2 n2 q2) ∧ W.cell? ⟨pr, 2, none⟩ = some (.slice A3 n3 q3)) ∧ Gv W ∧ p < W.heap.size ∧ pr < W.heap.size) := Lib.hid fun W hk =>
   have k1 : RowAt W p 137 #[.int .i64 s, .int .i64 k, .int .i64 ag, .int .i64 xf, .slice A hln cap, .pointer (some ⟨fs, 0, none⟩), .string ⟨n.toArray⟩, .int .i64 of_] := (hk.block p HRP2.out.lt (fun o => o HVp.out.1)).trans HRP2.out
   have k2 : RowAt W pr 49 #[.slice A1 n1 q1, .slice A2 n2 q2, .slice A3 n3 q3] := (hk.block pr HROW.out.lt (fun o => o HVp.out.2.1)).trans HROW.out
   ⟨⟨k1.cell 5, k1.cell 6⟩, ⟨k2.cell 0, k2.cell 1, k2.cell 2⟩, HG2.out.keep HVp.out.2.2.1 hk, k1.lt, k2.lt⟩
  clear hV' g0 g1 hp hs2 hpl
  go_wp2_with fail
  go_loopw [6, 7, 30] (fun _ _ x wr => ∃ kk : Nat, kk ≤ 3 ∧ x = .int .i64 kk ∧ Hid (PO wr V' fs (c + kk) (rows3 S n a L2 L3 kk)) ∧ Hid (Kp (fun b => ¬ V' b) w2 wr)) (fun _ _ x _ => 3 - (intOf x).toNat)
  case atStart => exact ⟨0, by omega, rfl, HRO2, Lib.hid (Kp.refl _ _)⟩
  case round =>
   obtain ⟨kk, hkk, rfl, HROk, HKk⟩ := hrel
   obtain ⟨⟨k5, k6⟩, ⟨r0, r1, r2⟩, ⟨o0, o1, o2, ol⟩, hpw, hprw⟩ := HF.out wr HKk.out
   have HFIN : Hid (∀ W, PO W V' fs (c + 3) (rows3 S n a L2 L3 3) → Kp (fun b => ¬ V' b) w2 W → PO W V fs (c + 3) Q ∧ Kp (fun b => ¬ V b) w W) := Lib.hid fun W h1 h2 => ⟨by rw [HQ.out]; exact h1.more (Nat.le_refl _) (fun i hi => (HV.out i).2 (.inl hi)), (Kp.of_below HB2.out).trans (h2.mono (fun i _ ho hv => ho ((HV.out i).2 (.inl hv)))) (fun _ _ h => h)⟩
   have hcase : kk = 0 ∨ kk = 1 ∨ kk = 2 ∨ kk = 3 := by omega
   rcases hcase with rfl | rfl | rfl | rfl
   ·have HWk : Hid (∀ W b0, Below wr.heap.size wr W → wr.heap.size ≤ b0 → RowAt W b0 49 #[.slice A1 n1 q1] → Calls Tryz.prog 63 #[.pointer (some ⟨fs, 0, none⟩), .string ⟨n.toArray⟩, .int .i64 a, .slice (some ⟨b0, 0, none⟩) 1 1] W fun e w' => ∃ r, e = .returned (.int .i64 r) ∧ PO w' V' fs (c + 0 + 1) (rows3 S n a L2 L3 1) ∧ Kp (fun b => ¬ V' b) wr w') := Lib.hid fun W b0 hb hb0 hg => by
     have hW := hb.size
     obtain ⟨V2, hV2⟩ : ∃ V2 : Nat → Prop, ∀ i, V2 i ↔ (V' i ∨ (wr.heap.size ≤ i ∧ i < W.heap.size)) := ⟨_, fun _ => Iff.rfl⟩
     have hro2 : PO W V2 fs (c + 0) (rows3 S n a L2 L3 0) := HROk.out.add hb fun i hi => (hV2 i).1 hi
     have hbt : Bs W (fun i => wy.heap.size ≤ i ∧ i < w2.heap.size) (.slice A1 n1 q1) [0, 0, 0, 0] := ((HT1.out.keep HKk.out.size (fun i hi hb => HKk.out.block i hi (fun o => o (HVp.out.2.2.2 i hb.1 hb.2)))).keep hb.size (fun i hi _ => hb.block i hi))
     have hsub : ∀ i, V' i → V2 i := fun i hi => (hV2 i).2 (.inl hi)
     have h := powrite hro2 (by omega) n a (by omega) [[0, 0, 0, 0]] _ (ps_oneG hbt hg (fun i hb => hsub i (HVp.out.2.2.2 i hb.1 hb.2)) ((hV2 b0).2 (.inr ⟨hb0, hg.lt⟩))) (by simp) (by rw [one_flat]; simp)
     rw [one_flat] at h
     exact h.mono fun e w' ⟨h1, h2, h3⟩ => ⟨_, h1, h2.more (Nat.le_refl _) hsub, (Kp.of_below hb).trans (h3.mono fun i _ ho hv => ho (hsub i hv)) (fun _ _ h => h)⟩
    have hk1 : ((0 : Nat) : Int) < 3 := by omega
    go_wp2_with fail
    go_region_held3 (fun W => W.cell? ⟨p, 5, none⟩ = some (.pointer (some ⟨fs, 0, none⟩)) ∧ W.cell? ⟨p, 6, none⟩ = some (.string ⟨n.toArray⟩) ∧ W.cell? ⟨0, 0, none⟩ = some (.int .i64 0)) (first | exact ⟨k5, k6, o0⟩ | exact ⟨y5, y6, yo⟩ | go_keep)
     (first | (go_at_call 63; (with_reducible refine (HWk.out _ _ Bqn (by simp) (by first | exact RowAt.new _ _ _ | exact (RowAt.new _ _ _).drew | exact (RowAt.new _ _ _).drewN _)).mono ?_); rintro e w3 ⟨r1x, rfl, ro1, hk1x⟩; have hkk3 : Kp (fun b => ¬ V' b) w2 w3 := HKk.out.trans hk1x (fun _ _ h => h); have HK3 := Lib.hid hkk3; have HRO3 := Lib.hid ro1; obtain ⟨⟨y5, y6⟩, _, ⟨z0, z1, z2, _⟩, yp, ypr⟩ := HF.out w3 hkk3; have yo := z0; clear hk1x hkk3 ro1))
    go_wp2_with fail
    go_roundw
    case rel => exact ⟨1, by omega, by go_num, HRO3, HK3⟩
    case measure => simp [intOf]
   ·obtain ⟨a4, ha4⟩ : ∃ a4, a + 4 = a4 := ⟨_, rfl⟩
    have hw4 : IntKind.i64.wrap a4 = a4 := IntWalk.i64_in _ (by omega)
    have HWk : Hid (∀ W b0, Below wr.heap.size wr W → wr.heap.size ≤ b0 → RowAt W b0 49 #[.slice A2 n2 q2] → Calls Tryz.prog 63 #[.pointer (some ⟨fs, 0, none⟩), .string ⟨n.toArray⟩, .int .i64 a4, .slice (some ⟨b0, 0, none⟩) 1 1] W fun e w' => ∃ r, e = .returned (.int .i64 r) ∧ PO w' V' fs (c + 1 + 1) (rows3 S n a L2 L3 2) ∧ Kp (fun b => ¬ V' b) wr w') := Lib.hid fun W b0 hb hb0 hg => by
     have hW := hb.size
     obtain ⟨V2, hV2⟩ : ∃ V2 : Nat → Prop, ∀ i, V2 i ↔ (V' i ∨ (wr.heap.size ≤ i ∧ i < W.heap.size)) := ⟨_, fun _ => Iff.rfl⟩
     have hro2 : PO W V2 fs (c + 1) (rows3 S n a L2 L3 1) := HROk.out.add hb fun i hi => (hV2 i).1 hi
     have hbt : Bs W (fun i => wy.heap.size ≤ i ∧ i < w2.heap.size) (.slice A2 n2 q2) L2 := ((HT2.out.keep HKk.out.size (fun i hi hb => HKk.out.block i hi (fun o => o (HVp.out.2.2.2 i hb.1 hb.2)))).keep hb.size (fun i hi _ => hb.block i hi))
     have hsub : ∀ i, V' i → V2 i := fun i hi => (hV2 i).2 (.inl hi)
     have h := powrite hro2 (by omega) n (a + 4) (by omega) [L2] _ (ps_oneG hbt hg (fun i hb => hsub i (HVp.out.2.2.2 i hb.1 hb.2)) ((hV2 b0).2 (.inr ⟨hb0, hg.lt⟩))) (by simp) (by rw [one_flat]; omega)
     rw [one_flat] at h
     rw [ha4] at h
     exact h.mono fun e w' ⟨h1, h2, h3⟩ => ⟨_, h1, (show PO w' _ fs (c + 1 + 1) (Vf.write (rows3 S n a L2 L3 1) n (a + 4) L2).1 by rw [ha4]; exact h2).more (Nat.le_refl _) hsub, (Kp.of_below hb).trans (h3.mono fun i _ ho hv => ho (hsub i hv)) (fun _ _ h => h)⟩
    have hk1 : ((1 : Nat) : Int) < 3 := by omega
    go_wp2_with fail
    go_region_held3 (fun W => W.cell? ⟨p, 5, none⟩ = some (.pointer (some ⟨fs, 0, none⟩)) ∧ W.cell? ⟨p, 6, none⟩ = some (.string ⟨n.toArray⟩) ∧ W.cell? ⟨0, 1, none⟩ = some (.int .i64 4)) (first | exact ⟨k5, k6, o1⟩ | exact ⟨y5, y6, yo⟩ | go_keep)
     (first | (go_at_call 63; (with_reducible refine (HWk.out _ _ Bqn (by simp) (by first | exact RowAt.new _ _ _ | exact (RowAt.new _ _ _).drew | exact (RowAt.new _ _ _).drewN _)).mono ?_); rintro e w3 ⟨r1x, rfl, ro1, hk1x⟩; have hkk3 : Kp (fun b => ¬ V' b) w2 w3 := HKk.out.trans hk1x (fun _ _ h => h); have HK3 := Lib.hid hkk3; have HRO3 := Lib.hid ro1; obtain ⟨⟨y5, y6⟩, _, ⟨z0, z1, z2, _⟩, yp, ypr⟩ := HF.out w3 hkk3; have yo := z1; clear hk1x hkk3 ro1))
    go_wp2_with fail
    go_roundw
    case rel => exact ⟨2, by omega, by go_num, HRO3, HK3⟩
    case measure => simp [intOf]
   ·have HWk : Hid (∀ W b0, Below wr.heap.size wr W → wr.heap.size ≤ b0 → RowAt W b0 49 #[.slice A3 n3 q3] → Calls Tryz.prog 63 #[.pointer (some ⟨fs, 0, none⟩), .string ⟨n.toArray⟩, .int .i64 a, .slice (some ⟨b0, 0, none⟩) 1 1] W fun e w' => ∃ r, e = .returned (.int .i64 r) ∧ PO w' V' fs (c + 2 + 1) (rows3 S n a L2 L3 3) ∧ Kp (fun b => ¬ V' b) wr w') := Lib.hid fun W b0 hb hb0 hg => by
     have hW := hb.size
     obtain ⟨V2, hV2⟩ : ∃ V2 : Nat → Prop, ∀ i, V2 i ↔ (V' i ∨ (wr.heap.size ≤ i ∧ i < W.heap.size)) := ⟨_, fun _ => Iff.rfl⟩
     have hro2 : PO W V2 fs (c + 2) (rows3 S n a L2 L3 2) := HROk.out.add hb fun i hi => (hV2 i).1 hi
     have hbt : Bs W (fun i => wy.heap.size ≤ i ∧ i < w2.heap.size) (.slice A3 n3 q3) L3 := ((HT3.out.keep HKk.out.size (fun i hi hb => HKk.out.block i hi (fun o => o (HVp.out.2.2.2 i hb.1 hb.2)))).keep hb.size (fun i hi _ => hb.block i hi))
     have hsub : ∀ i, V' i → V2 i := fun i hi => (hV2 i).2 (.inl hi)
     have h := powrite hro2 (by omega) n a (by omega) [L3] _ (ps_oneG hbt hg (fun i hb => hsub i (HVp.out.2.2.2 i hb.1 hb.2)) ((hV2 b0).2 (.inr ⟨hb0, hg.lt⟩))) (by simp) (by rw [one_flat]; omega)
     rw [one_flat] at h
     exact h.mono fun e w' ⟨h1, h2, h3⟩ => ⟨_, h1, h2.more (Nat.le_refl _) hsub, (Kp.of_below hb).trans (h3.mono fun i _ ho hv => ho (hsub i hv)) (fun _ _ h => h)⟩
    have hk1 : ((2 : Nat) : Int) < 3 := by omega
    go_wp2_with fail
    go_region_held3 (fun W => W.cell? ⟨p, 5, none⟩ = some (.pointer (some ⟨fs, 0, none⟩)) ∧ W.cell? ⟨p, 6, none⟩ = some (.string ⟨n.toArray⟩) ∧ W.cell? ⟨0, 2, none⟩ = some (.int .i64 0)) (first | exact ⟨k5, k6, o2⟩ | exact ⟨y5, y6, yo⟩ | go_keep)
     (first | (go_at_call 63; (with_reducible refine (HWk.out _ _ Bqn (by simp) (by first | exact RowAt.new _ _ _ | exact (RowAt.new _ _ _).drew | exact (RowAt.new _ _ _).drewN _)).mono ?_); rintro e w3 ⟨r1x, rfl, ro1, hk1x⟩; have hkk3 : Kp (fun b => ¬ V' b) w2 w3 := HKk.out.trans hk1x (fun _ _ h => h); have HK3 := Lib.hid hkk3; have HRO3 := Lib.hid ro1; obtain ⟨⟨y5, y6⟩, _, ⟨z0, z1, z2, _⟩, yp, ypr⟩ := HF.out w3 hkk3; have yo := z2; clear hk1x hkk3 ro1))
    go_wp2_with fail
    go_roundw
    case rel => exact ⟨3, by omega, by go_num, HRO3, HK3⟩
    case measure => simp [intOf]
   ·go_wp2_with fail
    go_ret
    exact ⟨by rw [HBB.out]; rfl, HFIN.out _ HROk.out HKk.out⟩
end
end Go.Proofs.YtbakngbmfgnmcaaGreatDoor
