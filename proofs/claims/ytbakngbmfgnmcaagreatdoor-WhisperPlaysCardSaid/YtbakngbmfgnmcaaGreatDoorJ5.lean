/- Inv SlWr FxOps QtTail FxAdd FxMdPure -/
import Derived.Test.YtbakngbmfgnmcaaGreatDoorJ1
import Derived.Orders
import Derived.Lib.Hide
import Derived.Test.YtbakngbmfgnmcaaGreatDoorJ4
import Derived.Deep.DeepCutAuto
import Derived.Test.YtbakngbmfgnmcaaGreatDoorJ2
import Derived.StillTailTactics
import Derived.Deep.RegionWith
import Derived.Lib.QuietBelow
namespace Go.Proofs.YtbakngbmfgnmcaaGreatDoor
set_option maxRecDepth 100000
set_option maxHeartbeats 8000000
section
open Go
namespace Inv
def dep (o : Oper) (j : Nat) : Bool := o.after.toList.any fun e => Region.binds .any e && e.on == j
def ordB (ops : Array Oper) : Bool := ops.toList.zipIdx.all fun p => p.1.after.all fun e => decide (e.on < p.2)
def dstB (ops : Array Oper) (n : Nat) : Bool :=
 (ops.toList.zipIdx.all fun p => ops.toList.zipIdx.all fun q => p.2 == q.2 || p.1.dst.isNone || p.1.dst != q.1.dst) && ops.toList.all fun o => match o.dst with | some d => decide (d < n) | none => true
def fresh (ops : Array Oper) (i s : Nat) : Bool := ops.toList.zipIdx.all fun p => p.1.dst != some s || p.2 == i || dep p.1 i
def clean (ops : Array Oper) (s : Nat) : Bool := ops.toList.all fun o => o.dst != some s
def slot (o : Oper) (a : Act) : Value := match o.dst with | some d => a.tmps.getD d undef | none => undef
theorem zip_all {ops : Array Oper} {f : Oper × Nat → Bool} (h : ops.toList.zipIdx.all f = true) {i : Nat} {o : Oper} (ho : ops[i]? = some o) : f (o, i) = true := by
 refine List.all_eq_true.1 h (o, i) ?_
 rw [List.mem_zipIdx_iff_getElem?]
 simpa using ho
theorem ord_lt {ops : Array Oper} (h : ordB ops = true) {i : Nat} {o : Oper} (ho : ops[i]? = some o) {e : Edge} (he : e ∈ o.after) : e.on < i := by
 have := zip_all h ho
 simp only [Array.all_eq_true_iff_forall_mem] at this
 exact of_decide_eq_true (this e he)
theorem dst_ne {ops : Array Oper} {n : Nat} (h : dstB ops n = true) {i j : Nat} {o p : Oper} (ho : ops[i]? = some o) (hp : ops[j]? = some p) (hij : i ≠ j) {d : Tmp} (hd : o.dst = some d) : p.dst ≠ some d := by
 unfold dstB at h
 rw [Bool.and_eq_true] at h
 have := zip_all (zip_all h.1 ho) hp
 simp [hd, hij] at this
 exact fun e => this e.symm
theorem dst_lt {ops : Array Oper} {n : Nat} (h : dstB ops n = true) {i : Nat} {o : Oper} (ho : ops[i]? = some o) {d : Tmp} (hd : o.dst = some d) : d < n := by
 unfold dstB at h
 rw [Bool.and_eq_true] at h
 have := List.all_eq_true.1 h.2 o (Array.mem_toList_iff.2 (Array.mem_of_getElem? ho))
 simpa [hd] using this
theorem fresh_spec {ops : Array Oper} {i s : Nat} (h : fresh ops i s = true) {j : Nat} {p : Oper} (hp : ops[j]? = some p) (hd : p.dst = some s) : j = i ∨ dep p i = true := by
 have := zip_all h hp
 simp [hd] at this
 exact this
theorem clean_spec {ops : Array Oper} {s : Nat} (h : clean ops s = true) {j : Nat} {p : Oper} (hp : ops[j]? = some p) : p.dst ≠ some s := by
 have := List.all_eq_true.1 h p (Array.mem_toList_iff.2 (Array.mem_of_getElem? hp))
 simpa using this
section
variable {P : Program} {ops : Array Oper} {Q : Exit → Act → World → Prop}
theorem count_set (l : Array Bool) (i : Nat) (hf : l.getD i true = false) : (l.setIfInBounds i true).toList.count false + 1 = l.toList.count false := by
 have hi : i < l.size := by
  apply Decidable.byContradiction
  intro h
  simp [Array.getD, h] at hf
 have hl : l.toList[i]'(by simpa using hi) = false := by simpa [Array.getD, hi] using hf
 have h1 : 0 < l.toList.count false := List.count_pos_iff.2 (hl ▸ List.getElem_mem _)
 have h2 := List.count_set (a := true) (b := false) (l := l.toList) (i := i) (by simpa using hi)
 rw [hl] at h2
 have e1 : ((false == false) = true) = True := by simp
 have e2 : ((true == false) = true) = False := by simp
 simp only [e1, e2, if_true, if_false] at h2
 rw [Array.toList_setIfInBounds]
 omega
theorem count_zero {l : Array Bool} (h : l.toList.count false = 0) (i : Nat) : l.getD i true = true := by
 by_cases hi : i < l.size
 ·have : l[i] ≠ false := fun e => List.count_eq_zero.1 h (by rw [← e]; simp)
  simpa [Array.getD, hi] using this
 ·simp [Array.getD, hi]
theorem ready_nil (hord : ordB ops = true) {listed : Array Bool} (h : Region.ready .any ops listed = []) : ∀ i, i < ops.size → listed.getD i true = true := by
 intro i
 induction i using Nat.strongRecOn with
 | _ i ih =>
   intro hi
   apply Decidable.byContradiction
   intro hne
   have hmem : i ∈ Region.ready .any ops listed := by
    unfold Region.ready
    rw [List.mem_filter]
    refine ⟨List.mem_range.2 hi, ?_⟩
    rw [Bool.and_eq_true]
    refine ⟨by simpa using hne, ?_⟩
    have ho : ops[i]? = some ops[i] := Array.getElem?_eq_getElem hi
    rw [ho]
    simp only [Option.map_some, Option.getD_some]
    rw [Array.all_eq_true_iff_forall_mem]
    intro e he
    have hlt := ord_lt hord ho he
    have := ih e.on hlt (by omega)
    rw [Bool.or_eq_true]
    refine .inr ?_
    have hsz : e.on < listed.size ∨ ¬ e.on < listed.size := Nat.lt_or_ge _ _ |>.imp id Nat.not_lt.2
    rcases hsz with hs | hs
    ·simpa [Array.getD, hs] using this
    ·exfalso
     apply hne
     have : ¬ i < listed.size := by omega
     simp [Array.getD, this]
   rw [h] at hmem
   cases hmem
theorem wpAny_inv (I : Array Bool → Act → World → Prop)
 (step : ∀ listed a w, I listed a w → ∀ i ∈ Region.ready .any ops listed, wpOp P ops Q i (I (listed.setIfInBounds i true)) a w)
 (fin : ∀ listed a w, I listed a w → Region.ready .any ops listed = [] → Q .normal a w) :
 ∀ fuel listed a w, I listed a w → listed.toList.count false ≤ fuel → wpAny P .any ops Q fuel listed a w
 | 0, listed, a, w, h, hc => by
   have hr : Region.ready .any ops listed = [] := by
    refine List.filter_eq_nil_iff.2 fun i _ => ?_
    have := count_zero (Nat.le_zero.1 hc) i
    simp [this]
   exact ⟨hr, fin _ _ _ h hr⟩
 | fuel + 1, listed, a, w, h, hc => by
   refine ⟨fin _ _ _ h, fun i hi => ?_⟩
   have hf : listed.getD i true = false := by
    unfold Region.ready at hi
    rw [List.mem_filter, Bool.and_eq_true] at hi
    simpa using hi.2.1
   have := count_set listed i hf
   exact wpOp_mono (fun a' w' h' => wpAny_inv I step fin fuel _ a' w' h' (by omega)) (step _ _ _ h i hi)
theorem wp_region_inv {id : Nat} {a0 : Act} {w0 : World} (Ext : World → World → Prop) (R : Nat → Value → World → Prop) (hm : P.follows .mixedOrders = true) (hord : ordB ops = true) (hdst : dstB ops a0.tmps.size = true)
 (hrefl : ∀ w, Ext w w) (htr : ∀ a b c, Ext a b → Ext b c → Ext a c) (hR : ∀ i v w w', R i v w → Ext w w' → R i v w')
 (step : ∀ i o, ops[i]? = some o → ∀ a w, Ext w0.drew w → (∀ s, fresh ops i s = true → a.tmps.getD s undef = a0.tmps.getD s undef) → (∀ j p, dep o j = true → ops[j]? = some p → R j (slot p a) w) →
  if Region.wanted o (yielded ops a.tmps) = true then o.wp P a w (fun a' w' => ∃ v, a' = a.put o.dst v ∧ (o.dst = none → v = undef) ∧ R i v w' ∧ Ext w w') Q else R i undef w)
 (fin : ∀ a w, Ext w0.drew w → a.defers = a0.defers → a.tmps.size = a0.tmps.size → (∀ s, clean ops s = true → a.tmps.getD s undef = a0.tmps.getD s undef) → (∀ j p, ops[j]? = some p → R j (slot p a) w) → Q .normal a w) :
 (Code.region id ops true).wp P Q a0 w0 := by
 refine wp_region_any hm ?_
 refine wpAny_inv (fun listed a w => (∀ j o, listed.getD j true = true → ops[j]? = some o → ∀ k, dep o k = true → listed.getD k true = true) ∧ a.defers = a0.defers ∧ a.tmps.size = a0.tmps.size ∧
  (∀ s, (∀ j o, listed.getD j true = true → ops[j]? = some o → o.dst ≠ some s) → a.tmps.getD s undef = a0.tmps.getD s undef) ∧ Ext w0.drew w ∧ (∀ j o, listed.getD j true = true → ops[j]? = some o → R j (slot o a) w)) ?_ ?_ ops.size _ a0 _ ?_ ?_
 ·rintro listed a w ⟨h1, h2, h3, h4, h5, h6⟩ i hi
  unfold Region.ready at hi
  rw [List.mem_filter, Bool.and_eq_true] at hi
  obtain ⟨hlt, hnl, haf⟩ := hi
  rw [List.mem_range] at hlt
  have ho : ops[i]? = some ops[i] := Array.getElem?_eq_getElem hlt
  rw [ho] at haf
  simp only [Option.map_some, Option.getD_some, Array.all_eq_true_iff_forall_mem] at haf
  generalize ops[i] = o at *
  have hnl' : listed.getD i true = false := by simpa using hnl
  have hdep : ∀ k, dep o k = true → listed.getD k true = true := fun k hk => by
   unfold dep at hk
   obtain ⟨e, he, hb⟩ := List.any_eq_true.1 hk
   rw [Bool.and_eq_true] at hb
   have hon : e.on = k := by simpa using hb.2
   have := haf e (Array.mem_toList_iff.1 he)
   rw [hb.1] at this
   have hx : listed.getD e.on false = true := by simpa using this
   rw [← hon]
   by_cases hs : e.on < listed.size
   ·simpa [Array.getD, hs] using hx
   ·simp [Array.getD, hs]
  have hst := step i o ho a w h5 (fun s hs => h4 s fun j p hj hp hd => by
   rcases fresh_spec hs hp hd with rfl | hdj
   ·rw [hj] at hnl'; cases hnl'
   ·have := h1 j p hj hp i hdj
    rw [this] at hnl'; cases hnl') (fun j p hj hp => h6 j p (hdep j hj) hp)
  have key : ∀ v w', (o.dst = none → v = undef) → R i v w' → Ext w w' → (∀ j p, (listed.setIfInBounds i true).getD j true = true → ops[j]? = some p → ∀ k, dep p k = true → (listed.setIfInBounds i true).getD k true = true) ∧ (a.put o.dst v).defers = a0.defers ∧ (a.put o.dst v).tmps.size = a0.tmps.size ∧
   (∀ s, (∀ j p, (listed.setIfInBounds i true).getD j true = true → ops[j]? = some p → p.dst ≠ some s) → (a.put o.dst v).tmps.getD s undef = a0.tmps.getD s undef) ∧ Ext w0.drew w' ∧ (∀ j p, (listed.setIfInBounds i true).getD j true = true → ops[j]? = some p → R j (slot p (a.put o.dst v)) w') := by
   intro v w' hv hRi hE
   have hset : ∀ j, (listed.setIfInBounds i true).getD j true = true ↔ (j = i ∨ listed.getD j true = true) := fun j => by
    by_cases hji : j = i
    ·subst hji
     simp only [true_or, iff_true]
     by_cases hs : j < listed.size <;> simp [Array.getD, hs]
    ·have hij : i ≠ j := fun e => hji e.symm
     simp only [hji, false_or]
     by_cases hs : j < listed.size <;> simp [Array.getD, hs, hij]
   have hput : ∀ d, o.dst ≠ some d → (a.put o.dst v).tmps.getD d undef = a.tmps.getD d undef := fun d hd => by
    cases hod : o.dst with
    | none => rfl
    | some e =>
      have hed : e ≠ d := fun x => hd (by rw [hod, x])
      by_cases hs : d < a.tmps.size <;> simp [Act.put, Array.getD, hs, hed]
   refine ⟨fun j p hj hp k hk => ?_, ?_, ?_, fun s hs => ?_, htr _ _ _ h5 hE, fun j p hj hp => ?_⟩
   ·rw [hset] at hj ⊢
    rcases hj with rfl | hj
    ·rw [ho] at hp
     injection hp with hp
     subst hp
     exact .inr (hdep k hk)
    ·exact .inr (h1 j p hj hp k hk)
   ·rw [← h2]; cases o.dst <;> rfl
   ·rw [← h3]; cases o.dst <;> simp [Act.put]
   ·rw [hput s (hs i o ((hset i).2 (.inl rfl)) ho)]
    exact h4 s fun j p hj hp => hs j p ((hset j).2 (.inr hj)) hp
   ·rw [hset] at hj
    by_cases hji : j = i
    ·subst hji
     rw [ho] at hp
     injection hp with hp
     subst hp
     have : slot o (a.put o.dst v) = v := by
      cases hod : o.dst with
      | none => rw [hv hod]; unfold slot; rw [hod]
      | some d =>
        have hd := dst_lt hdst ho hod
        rw [← h3] at hd
        simp [slot, hod, Act.put, Array.getD, hd]
     rw [this]
     exact hRi
    ·have hj' := hj.resolve_left hji
     have : slot p (a.put o.dst v) = slot p a := by
      unfold slot
      cases hpd : p.dst with
      | none => rfl
      | some d => exact hput d (dst_ne hdst hp ho hji hpd)
     rw [this]
     exact hR _ _ _ _ (h6 j p hj' hp) hE
  unfold wpOp
  rw [ho]
  simp only
  split
  ·rename_i hw
   rw [if_pos hw] at hst
   refine .inl (Oper.wp_mono ?_ hst)
   rintro a' w' ⟨v, rfl, hv, hRi, hE⟩
   exact key v w' hv hRi hE
  ·rename_i hw
   rw [if_neg hw] at hst
   exact key undef w (fun _ => rfl) hst (hrefl w)
 ·rintro listed a w ⟨h1, h2, h3, h4, h5, h6⟩ hr
  have hall : ∀ j p, ops[j]? = some p → listed.getD j true = true := fun j p hp => ready_nil hord hr j (Array.getElem?_eq_some_iff.1 hp).1
  exact fin a w h5 h2 h3 (fun s hs => h4 s fun j p _ hp => clean_spec hs hp) (fun j p hp => h6 j p (hall j p hp) hp)
 ·have hno : ∀ j o, (Array.replicate ops.size false).getD j true = true → ops[j]? = some o → False := fun j o hj ho => by
   have := (Array.getElem?_eq_some_iff.1 ho).1
   simp [Array.getD, this] at hj
  exact ⟨fun j o hj ho => (hno j o hj ho).elim, rfl, rfl, fun _ _ => rfl, hrefl _, fun j o hj ho => (hno j o hj ho).elim⟩
 ·simp
theorem want0 {o : Oper} (h : o.guard = none) (y : Nat → Option Bool) : Region.wanted o y = true := by simp [Region.wanted, h]
theorem want {o p : Oper} {j : Nat} {b : Bool} {d : Tmp} {a : Act} (h : o.guard = some (j, b)) (hp : ops[j]? = some p) (hd : p.dst = some d) (hv : a.eval (.tmp d) = .bool b) : Region.wanted o (yielded ops a.tmps) = true := by
 have hv' : a.tmps.getD d undef = .bool b := hv
 have : a.tmps[d]? = some (.bool b) := by
  by_cases hs : d < a.tmps.size
  ·simpa [Array.getD, hs] using hv'
  ·simp [Array.getD, hs, undef] at hv'
 simp [Region.wanted, h, yielded, hp, hd, this]
theorem unwant {o p : Oper} {j : Nat} {b c : Bool} {d : Tmp} {a : Act} (h : o.guard = some (j, b)) (hp : ops[j]? = some p) (hd : p.dst = some d) (hv : a.eval (.tmp d) = .bool c) (hbc : (c == b) = false) : ¬ Region.wanted o (yielded ops a.tmps) = true := by
 have hv' : a.tmps.getD d undef = .bool c := hv
 have : a.tmps[d]? = some (.bool c) := by
  by_cases hs : d < a.tmps.size
  ·simpa [Array.getD, hs] using hv'
  ·simp [Array.getD, hs, undef] at hv'
 simp [Region.wanted, h, yielded, hp, hd, this]
 simpa using hbc
theorem val {o : Oper} {a : Act} {w w' : World} {R : Value → World → Prop} {Ext : World → World → Prop} (v : Value) (hrun : (execOp a.eval o).run P w = .ok (.value v) w') (hd : o.dst.isSome = true) (hR : R v w') (hE : Ext w w') :
 o.wp P a w (fun a' w' => ∃ v, a' = a.put o.dst v ∧ (o.dst = none → v = undef) ∧ R v w' ∧ Ext w w') Q := by
 unfold Oper.wp
 rw [hrun]
 exact ⟨v, rfl, fun e => (by rw [e] at hd; cases hd), hR, hE⟩
theorem act {o : Oper} {a : Act} {w w' : World} {R : Value → World → Prop} {Ext : World → World → Prop} (v : Value) (hrun : (execOp a.eval o).run P w = .ok (.value v) w') (hd : o.dst = none) (hR : R undef w') (hE : Ext w w') :
 o.wp P a w (fun a' w' => ∃ v, a' = a.put o.dst v ∧ (o.dst = none → v = undef) ∧ R v w' ∧ Ext w w') Q := by
 unfold Oper.wp
 rw [hrun]
 refine ⟨undef, ?_, fun _ => rfl, hR, hE⟩
 rw [hd]
 rfl
theorem go {o : Oper} {a : Act} {w : World} {R : Value → World → Prop} {Ext : World → World → Prop} {f : FuncId} {xs : Array Value} (hrun : (execOp a.eval o).run P w = .ok (.enter f xs) w) (hd : o.dst.isSome = true)
 (hc : Calls P f xs w fun e w' => ∃ v, e = .returned v ∧ R v w' ∧ Ext w w') : o.wp P a w (fun a' w' => ∃ v, a' = a.put o.dst v ∧ (o.dst = none → v = undef) ∧ R v w' ∧ Ext w w') Q := by
 unfold Oper.wp
 rw [hrun, Oper.upon_enter]
 refine hc.mono fun e w' h => ?_
 obtain ⟨v, rfl, hR, hE⟩ := h
 have h2 : ∃ v', a.put o.dst v = a.put o.dst v' ∧ (o.dst = none → v' = undef) ∧ R v' w' ∧ Ext w w' := ⟨v, rfl, fun e => (by rw [e] at hd; cases hd), hR, hE⟩
 exact h2
theorem run_append2 {o : Oper} {a : Act} {w w' : World} {x y : Operand} {t t' : TypeId} {u v r : Value} (ho : o.op = .call { callee := .builtin .append, args := #[x, y], argTypes := #[t, t'] }) (hx : a.eval x = u) (hy : a.eval y = v)
 (hrun : (Builtin.append_ #[t, t'] o.type #[u, v]).run P w = .ok r w') : (execOp a.eval o).run P w = .ok (.value r) w' := by
 unfold execOp
 simp only [ho, resolve, invoke, builtin, Sem.run_bind, Sem.run_pure, Result.andThen_ok, List.map_toArray, List.map_cons, List.map_nil, hx, hy, hrun]
theorem fold_size (a : Act) : ∀ (l : List Oper) (b : Act), (l.foldl (fun b o => b.put o.dst (slot o a)) b).tmps.size = b.tmps.size ∧ (l.foldl (fun b o => b.put o.dst (slot o a)) b).defers = b.defers
 | [], _ => ⟨rfl, rfl⟩
 | o :: l, b => by
   rw [List.foldl_cons]
   have := fold_size a l (b.put o.dst (slot o a))
   refine ⟨this.1.trans ?_, this.2.trans ?_⟩
   ·cases o.dst <;> simp [Act.put]
   ·cases o.dst <;> rfl
theorem fold_get (a : Act) (s : Nat) : ∀ (l : List Oper) (b : Act), s < b.tmps.size → (l.foldl (fun b o => b.put o.dst (slot o a)) b).tmps.getD s undef = if (l.any fun o => o.dst == some s) = true then a.tmps.getD s undef else b.tmps.getD s undef
 | [], _, _ => rfl
 | o :: l, b, h => by
   have hsz : (b.put o.dst (slot o a)).tmps.size = b.tmps.size := by cases o.dst <;> simp [Act.put]
   rw [List.foldl_cons, fold_get a s l _ (by rw [hsz]; exact h), List.any_cons]
   by_cases hl : (l.any fun o => o.dst == some s) = true
   ·rw [if_pos hl, if_pos (by rw [hl, Bool.or_true])]
   ·rw [if_neg hl]
    cases hod : o.dst with
    | none => simp [Act.put, hl]
    | some d =>
      by_cases hds : d = s
      ·subst hds
       simp [slot, hod, Act.put, Array.getD, h]
      ·simp [Act.put, Array.getD, h, hds, hl]
theorem back {a0 a : Act} (hdf : a.defers = a0.defers) (hsz : a.tmps.size = a0.tmps.size) (hc : ∀ s, clean ops s = true → a.tmps.getD s undef = a0.tmps.getD s undef) : a = ops.toList.foldl (fun b o => b.put o.dst (slot o a)) a0 := by
 obtain ⟨h1, h2⟩ := fold_size a ops.toList a0
 have hg : ∀ s, s < a0.tmps.size → _ := fun s => fold_get a s ops.toList a0
 generalize ops.toList.foldl (fun b o => b.put o.dst (slot o a)) a0 = r at *
 have ht : a.tmps = r.tmps := by
  refine Array.ext (hsz.trans h1.symm) fun s hs1 hs2 => ?_
  have e := hg s (by omega)
  have e1 : a.tmps.getD s undef = a.tmps[s] := by simp [Array.getD, hs1]
  have e2 : r.tmps.getD s undef = r.tmps[s] := by simp [Array.getD, hs2]
  refine e1.symm.trans (Eq.trans ?_ e2)
  rw [e]
  by_cases hn : (ops.toList.any fun o => o.dst == some s) = true
  ·rw [if_pos hn]
  ·rw [if_neg hn]
   refine hc s ?_
   unfold clean
   rw [List.all_eq_true]
   intro o ho
   have : (o.dst == some s) = false := by
    cases hb : o.dst == some s
    ·rfl
    ·exact absurd (List.any_eq_true.2 ⟨o, ho, hb⟩) hn
   simp [bne, this]
 have hd : a.defers = r.defers := hdf.trans h2.symm
 cases a
 cases r
 simp only at ht hd
 rw [ht, hd]
def Obl (P : Program) (ops : Array Oper) (Q : Exit → Act → World → Prop) (Ext : World → World → Prop) (R : Nat → Value → World → Prop) (a0 : Act) (w0 : World) (i : Nat) (o : Oper) : Prop :=
 ∀ a w, Ext w0 w → (∀ s, fresh ops i s = true → a.eval (.tmp s) = a0.eval (.tmp s)) → (∀ j p, dep o j = true → ops[j]? = some p → R j (slot p a) w) →
  if Region.wanted o (yielded ops a.tmps) = true then o.wp P a w (fun a' w' => ∃ v, a' = a.put o.dst v ∧ (o.dst = none → v = undef) ∧ R i v w' ∧ Ext w w') Q else R i undef w
inductive Obls (P : Program) (ops : Array Oper) (Q : Exit → Act → World → Prop) (Ext : World → World → Prop) (R : Nat → Value → World → Prop) (a0 : Act) (w0 : World) : Nat → List Oper → Prop
 | nil {i : Nat} : Obls P ops Q Ext R a0 w0 i []
 | cons {i : Nat} {o : Oper} {l : List Oper} : Obl P ops Q Ext R a0 w0 i o → Obls P ops Q Ext R a0 w0 (i + 1) l → Obls P ops Q Ext R a0 w0 i (o :: l)
theorem Obls.get {Ext : World → World → Prop} {R : Nat → Value → World → Prop} {a0 : Act} {w0 : World} : ∀ {l : List Oper} {k : Nat}, Obls P ops Q Ext R a0 w0 k l → ∀ i o, l[i]? = some o → Obl P ops Q Ext R a0 w0 (k + i) o
 | _, _, .nil, i, o, h => by cases h
 | _, _, .cons h hs, 0, o, ho => by
   simp at ho
   subst ho
   exact h
 | _, _, .cons h hs, i + 1, o, ho => by
   have := hs.get i o (by simpa using ho)
   rwa [Nat.add_assoc, Nat.add_comm 1 i] at this
theorem region {id : Nat} {a0 : Act} {w0 : World} (Ext : World → World → Prop) (R : Nat → Value → World → Prop) (hm : P.follows .mixedOrders = true) (hord : ordB ops = true) (hdst : dstB ops a0.tmps.size = true)
 (hrefl : ∀ w, Ext w w) (htr : ∀ a b c, Ext a b → Ext b c → Ext a c) (hR : ∀ i v w w', R i v w → Ext w w' → R i v w') (step : Obls P ops Q Ext R a0 w0.drew 0 ops.toList)
 (fin : ∀ a w, Ext w0.drew w → a = ops.toList.foldl (fun b o => b.put o.dst (slot o a)) a0 → (∀ j p, ops[j]? = some p → R j (slot p a) w) → Q .normal a w) :
 (Code.region id ops true).wp P Q a0 w0 :=
 wp_region_inv Ext R hm hord hdst hrefl htr hR (fun i o ho a w hE hf hd => by
  have := step.get i o (by simpa using ho)
  rw [Nat.zero_add] at this
  exact this a w hE hf hd) (fun a w hE hdf hsz hc hall => fin a w hE (back hdf hsz hc) hall)
end
end Inv
end
section
open Go.RowKit Go.Sort
open Me
def BsT (base : Nat) (w : World) (v : Value) (l : List UInt8) : Prop := Bs w (fun i => base ≤ i) v l
theorem BsT.below {base : Nat} {w w' : World} {v : Value} {l : List UInt8} (h : BsT base w v l) (b : Below w.heap.size w w') : BsT base w' v l := by
 obtain ⟨A, c, e, h1, h2, hr⟩ := h
 exact ⟨A, c, e, h1, h2, hr.below b⟩
theorem BsT.own {w0 : Nat} {w : World} {base : Nat} {v : Value} {l : List UInt8} (h : OwnB base w v l) (hb : w0 ≤ base) : BsT w0 w v l := by
 obtain ⟨A, c, e, h1, h2, hr⟩ := Bs.own h
 exact ⟨A, c, e, h1, h2, hr.mono fun _ _ hi => Nat.le_trans hb hi⟩
def Wr3M (base : Nat) (w : World) (v : Value) (L2 L3 : List UInt8) : Prop := ∃ (g : Nat) (v1 v2 v3 : Value), v = .slice (some ⟨g, 0, none⟩) 3 3 ∧ base ≤ g ∧ RowAt w g 49 #[v1, v2, v3] ∧ BsT base w v1 [0, 0, 0, 0] ∧ BsT base w v2 L2 ∧ BsT base w v3 L3
theorem Wr3M.below {base : Nat} {w w' : World} {v : Value} {L2 L3 : List UInt8} (h : Wr3M base w v L2 L3) (b : Below w.heap.size w w') : Wr3M base w' v L2 L3 := by
 obtain ⟨g, v1, v2, v3, e, hg, hr, h1, h2, h3⟩ := h
 exact ⟨g, v1, v2, v3, e, hg, hr.below b hr.lt, h1.below b, h2.below b, h3.below b⟩
section
variable {w0 w : World} {g : Nat} {lr : Option Nat} {a n : Int} {L : List UInt8}
theorem put0_P (h : Sl.Pst w0 g lr a n L w) (hL : L.length ≤ 100) :
 Calls Tryz.prog 129 #[.pointer (some ⟨g, 0, none⟩), .int .i64 0, .int .i64 4] w fun e w' => e = .returned (.tuple #[]) ∧ Sl.Pst w0 g lr a n (L ++ [0, 0, 0, 0]) w' := by
 have e : Sl.beb 0 4 = [0, 0, 0, 0] := by decide
 have := sput_P h hL 0 4 (by omega)
 rw [e] at this
 exact this
end
theorem swrites_anyM (a n : Int) (w : World) :
 Calls Tryz.prog 116 #[.agg #[.int .i64 a, .int .i64 n]] w fun e w' => ∃ v, e = .returned v ∧ Wr3M w.heap.size w' v (Sl.beb n 8) (Sl.beb (Sl.lim a) 4) ∧ Below w.heap.size w w' := by
 go_enter Tryz.func116, Tryz.ntmps116
 go_wp2_with first
  | (go_at_call 128; (with_reducible refine (pointOf_P a n _).mono ?_); rintro e w1 ⟨g, rfl, hg, hp1, hb1⟩; have HP1 := Lib.hid hp1; have HB1 : Hid (Below w.heap.size w w1) := Lib.hid (lowBox' (hb1.mono (by simp))); have hg1 : w.heap.size ≤ g := Nat.le_trans (by simp) hg; have hz1 : w.heap.size ≤ w1.heap.size := Nat.le_trans (by simp) hb1.size; clear hp1 hb1 hg)
  | (go_at_call 129; (with_reducible refine (put0_P HP1.out (by simp)).mono ?_); rintro e w2 ⟨rfl, hp2⟩; have HP2 := Lib.hid hp2; clear hp2 HP1)
  | (go_at_call 130; (with_reducible refine (stake_P HP2.out).mono ?_); rintro e w3 ⟨v1, rfl, ho3, hk3, hp3, hne1⟩; have HO3 := Lib.hid ho3; have HK3 := Lib.hid hk3; have HP3 := Lib.hid hp3; have HNE1 := Lib.hid hne1; obtain ⟨A1, n1, c1, rfl⟩ := own_slice ho3; clear ho3 hk3 hp3 hne1 HP2)
  | (go_at_call 131; (with_reducible refine (putN_P HP3.out (by simp)).mono ?_); rintro e w4 ⟨rfl, hp4⟩; have HP4 := Lib.hid hp4; clear hp4 HP3)
  | (go_at_call 130; (with_reducible refine (stake_P HP4.out).mono ?_); rintro e w5 ⟨v2, rfl, ho5, hk5, hp5, hne2⟩; have HO5 := Lib.hid ho5; have HK5 := Lib.hid hk5; have HP5 := Lib.hid hp5; have HNE2 := Lib.hid hne2; obtain ⟨A2, n2, c2, rfl⟩ := own_slice ho5; clear ho5 hk5 hp5 hne2 HP4)
  | (go_at_call 132; (with_reducible refine (putAt_P HP5.out (by simp)).mono ?_); rintro e w6 ⟨rfl, hp6⟩; have HP6 := Lib.hid hp6; clear hp6 HP5)
  | (go_at_call 130; (with_reducible refine (stake_P HP6.out).mono ?_); rintro e w7 ⟨v3, rfl, ho7, hk7, hp7, hne3⟩; have HO7 := Lib.hid ho7; have HK7 := Lib.hid hk7; obtain ⟨A3, n3, c3, rfl⟩ := own_slice ho7; clear ho7 hk7 hp7 hne3 HP6)
 go_ret
 have r1 := (HO3.out.kp HK5.out (fun b hb e => HNE1.out (e ▸ hb))).kp HK7.out (fun b hb e => HNE1.out (e ▸ hb))
 have r2 := HO5.out.kp HK7.out (fun b hb e => HNE2.out (e ▸ hb))
 have bel : Below w.heap.size w w7 := HB1.out.trans (((HK3.out.trans HK5.out (fun i _ h => h)).trans HK7.out (fun i _ h => h)).below hz1 (fun i hi e => by omega))
 have ab : ∀ o, Below w7.heap.size w7 (w7.alloc o) := fun o => (Below.refl _ _).alloc (Nat.le_refl _) o
 exact ⟨_, rfl, ⟨_, _, _, _, rfl, bel.size, RowAt.new w7 _ _, (BsT.own r1 hz1).below (ab _), (BsT.own r2 (Nat.le_trans hz1 HK3.out.size)).below (ab _), (BsT.own HO7.out (Nat.le_trans hz1 (Nat.le_trans HK3.out.size HK5.out.size))).below (ab _)⟩, bel.alloc bel.size _⟩
theorem Sl.enc_drop (a n : Int) : (Sl.enc a n).drop 4 = Sl.beb n 8 := rfl
theorem Sl.enc_take (a n : Int) : (Sl.enc a n).take 4 = Sl.beb (Sl.lim a) 4 := rfl
theorem rswrites_anyM (a n : Int) (w : World) :
 Calls Tryz.prog 62 #[.agg #[.int .i64 a, .int .i64 n]] w fun e w' => ∃ v, e = .returned v ∧ Wr3M w.heap.size w' v (Sl.beb n 8) (Sl.beb (Sl.lim a) 4) ∧ Below w.heap.size w w' := by
 have HEn := Lib.hid (fun W => rsencode_any a n W)
 have hl := Sl.enc_len a n
 rw [← Sl.enc_drop a n, ← Sl.enc_take a n]
 generalize Sl.enc a n = E at *
 have hd8 : (E.drop 4).length = 8 := by rw [List.length_drop]; omega
 have ht4 : (E.take 4).length = 4 := by rw [List.length_take]; omega
 have HL := Lib.hid (And.intro hl (And.intro hd8 ht4))
 clear hl hd8 ht4
 go_enter Tryz.func62, Tryz.ntmps62
 go_upto_region 2 with (go_at_call 95; (with_reducible refine (HEn.out _).mono ?_); rintro e w1 ⟨v1, rfl, ho1, hb1⟩; have HB1 : Hid (Below w.heap.size w w1) := Lib.hid (lowBox' (hb1.mono (by simp))); have HR1 := Lib.hid (Reads.own ho1); obtain ⟨A1, c1, rfl, hr1⟩ := ho1.lit; have HRX := Lib.hid hr1; clear ho1 hb1 hr1)
 obtain ⟨hl, hd8, ht4⟩ := HL.out
 obtain ⟨b1, o1, rfl, hby⟩ := By.of HRX.out (by omega)
 rw [hl] at *
 obtain ⟨_, _, e1, hc1, hrd⟩ := HR1.out
 injection e1 with e1 e2 e3
 subst e1 e3
 have hc12 : 12 ≤ c1 := by omega
 have hcI : (12 : Int) ≤ (c1 : Int) := by omega
 have h4c : ¬ c1 = 4 := by omega
 have h4I : ¬ (c1 : Int) < 4 := by omega
 have hrd0 := hrd
 have HRT : Hid (∀ W, Below w1.heap.size w1 W → Rd W (fun _ => True) (some ⟨b1, o1, none⟩) (by8 (E.take 4))) := Lib.hid fun W hb => by
  obtain ⟨A', c', e, _, hr⟩ := (Reads.take (n := 4) (⟨some ⟨b1, o1, none⟩, c1, rfl, by omega, hrd.below hb⟩ : Reads W (.slice (some ⟨b1, o1, none⟩) E.length c1) E) (by omega))
  injection e with e1 e2 e3
  subst e1
  exact hr
 have HRD : Hid (∀ W, Below w1.heap.size w1 W → Rd W (fun _ => True) (some ⟨b1, o1 + 4, none⟩) (by8 (E.drop 4))) := Lib.hid fun W hb => by
  have h := Rd.sub (hrd.below hb) 4 8
  rw [Addr.add_lit] at h
  have e : ((by8 E).drop 4).take 8 = by8 (E.drop 4) := by
   rw [List.take_of_length_le (by rw [List.length_drop, by8_len]; omega)]
   unfold by8
   rw [List.map_drop]
  rw [e] at h
  exact h
 clear hrd hrd0 hby HEn HRX HR1 e2 hl hc1
 refine Inv.region (fun W W' => Below W.heap.size W W') (fun i v W => match i with
  | 0 => BsT w.heap.size W v [0, 0, 0, 0]
  | 1 => ∃ g : Nat, v = .slice (some ⟨g, 0, none⟩) 0 0
  | 2 => v = .slice (some ⟨b1, o1, none⟩) 12 c1
  | 3 => v = .slice (some ⟨b1, o1 + 4, none⟩) 8 (c1 - 4)
  | 4 => BsT w.heap.size W v (E.drop 4)
  | 5 => ∃ g : Nat, v = .slice (some ⟨g, 0, none⟩) 0 0
  | 6 => v = .slice (some ⟨b1, o1, none⟩) 12 c1
  | 7 => v = .slice (some ⟨b1, o1, none⟩) 4 c1
  | 8 => BsT w.heap.size W v (E.take 4)
  | 9 => Wr3M w.heap.size W v (E.drop 4) (E.take 4)
  | 10 => Wr3M w.heap.size W v (E.drop 4) (E.take 4)
  | _ => True) (by kernel_rfl) (by kernel_rfl) (by kernel_rfl) (fun W => Below.refl _ _) (fun a b c h k => h.trans (k.mono h.size)) (fun i v W W' h he => ?stab) ?obls ?fin
 case stab =>
  match i, h with
  | 0, h => exact h.below he
  | 1, h => exact h
  | 2, h => exact h
  | 3, h => exact h
  | 4, h => exact h.below he
  | 5, h => exact h
  | 6, h => exact h
  | 7, h => exact h
  | 8, h => exact h.below he
  | 9, h => exact h.below he
  | 10, h => exact h.below he
  | _ + 11, h => exact h
 case obls =>
  refine .cons ?_ (.cons ?_ (.cons ?_ (.cons ?_ (.cons ?_ (.cons ?_ (.cons ?_ (.cons ?_ (.cons ?_ (.cons ?_ (.cons ?_ .nil))))))))))
  ·intro ac wx hE hf hd
   have hB : Below w1.heap.size w1 wx := ⟨hE.1,hE.2,hE.3,hE.4,hE.5⟩
   rw [if_pos (Inv.want0 rfl _)]
   clear hf hd
   refine Inv.val (.slice (some ⟨wx.heap.size, 0, none⟩) 4 4) (w' := wx.alloc (.cells #[.int .u8 0, .int .u8 0, .int .u8 0, .int .u8 0] 5)) ?_ rfl (BsT.own (base := wx.heap.size) (OwnB.fresh wx [0, 0, 0, 0] _ (Nat.le_refl _) (by decide)) (Nat.le_trans HB1.out.size hB.size)) ((Below.refl _ _).alloc (Nat.le_refl _) _)
   clear hE hB
   have hcst : ∀ v, ac.eval (.const v) = v := fun _ => rfl
   generalize ac.eval = ev at *
   simp [execOp, go_sem, *]
  ·intro ac wx hE hf hd
   have hB : Below w1.heap.size w1 wx := ⟨hE.1,hE.2,hE.3,hE.4,hE.5⟩
   rw [if_pos (Inv.want0 rfl _)]
   clear hf hd
   refine Inv.val (.slice (some ⟨wx.heap.size, 0, none⟩) 0 0) (w' := wx.alloc (.cells #[] 5)) ?_ rfl ⟨_, rfl⟩ ((Below.refl _ _).alloc (Nat.le_refl _) _)
   clear hE hB
   have hcst : ∀ v, ac.eval (.const v) = v := fun _ => rfl
   generalize ac.eval = ev at *
   simp [execOp, go_sem, *]
  ·intro ac wx hE hf hd
   have hB : Below w1.heap.size w1 wx := ⟨hE.1,hE.2,hE.3,hE.4,hE.5⟩
   rw [if_pos (Inv.want0 rfl _)]
   have h3 : ac.eval (.tmp 3) = .slice (some ⟨b1, o1, none⟩) 12 c1 := hf 3 (by kernel_rfl)
   clear hf hd
   refine Inv.val (.slice (some ⟨b1, o1, none⟩) 12 c1) ?_ rfl rfl (Below.refl _ _)
   clear hE hB
   generalize ac.eval = ev at *
   simp [execOp, go_sem, *]
  ·intro ac wx hE hf hd
   have hB : Below w1.heap.size w1 wx := ⟨hE.1,hE.2,hE.3,hE.4,hE.5⟩
   rw [if_pos (Inv.want0 rfl _)]
   have h8 := hd 2 _ (by kernel_rfl) rfl
   change ac.eval (.tmp 8) = .slice (some ⟨b1, o1, none⟩) 12 c1 at h8
   clear hf hd
   refine Inv.val (.slice (some ⟨b1, o1 + 4, none⟩) 8 (c1 - 4)) ?_ rfl rfl (Below.refl _ _)
   clear hE hB
   have hcst : ∀ v, ac.eval (.const v) = v := fun _ => rfl
   generalize ac.eval = ev at *
   simp [execOp, go_sem, *]
  ·intro ac wx hE hf hd
   have hB : Below w1.heap.size w1 wx := ⟨hE.1,hE.2,hE.3,hE.4,hE.5⟩
   rw [if_pos (Inv.want0 rfl _)]
   have h7 := hd 1 _ (by kernel_rfl) rfl
   change (fun v W => ∃ g : Nat, v = .slice (some ⟨g, 0, none⟩) 0 0) (ac.eval (.tmp 7)) wx at h7
   try dsimp only at h7
   have h9 := hd 3 _ (by kernel_rfl) rfl
   change ac.eval (.tmp 9) = .slice (some ⟨b1, o1 + 4, none⟩) 8 (c1 - 4) at h9
   clear hf hd
   obtain ⟨g, hg⟩ := h7
   obtain ⟨cp, W', hrun, ho, hbl⟩ := app_empty (W := wx) ⟨g, 0, none⟩ _ (c1 - 4) (E.drop 4) 49 49 Tryz.underlying49 _ (HRD.out wx hB) (by rw [hd8]; omega) (by rw [hd8]; omega) wx.heap.size (Nat.le_refl _)
   rw [hd8] at hrun ho
   refine Inv.val (.slice (some ⟨wx.heap.size, 0, none⟩) 8 cp) (w' := W') (Inv.run_append2 rfl hg h9 hrun) rfl (BsT.own ho (Nat.le_trans HB1.out.size hB.size)) hbl
  ·intro ac wx hE hf hd
   have hB : Below w1.heap.size w1 wx := ⟨hE.1,hE.2,hE.3,hE.4,hE.5⟩
   rw [if_pos (Inv.want0 rfl _)]
   clear hf hd
   refine Inv.val (.slice (some ⟨wx.heap.size, 0, none⟩) 0 0) (w' := wx.alloc (.cells #[] 5)) ?_ rfl ⟨_, rfl⟩ ((Below.refl _ _).alloc (Nat.le_refl _) _)
   clear hE hB
   have hcst : ∀ v, ac.eval (.const v) = v := fun _ => rfl
   generalize ac.eval = ev at *
   simp [execOp, go_sem, *]
  ·intro ac wx hE hf hd
   have hB : Below w1.heap.size w1 wx := ⟨hE.1,hE.2,hE.3,hE.4,hE.5⟩
   rw [if_pos (Inv.want0 rfl _)]
   have h3 : ac.eval (.tmp 3) = .slice (some ⟨b1, o1, none⟩) 12 c1 := hf 3 (by kernel_rfl)
   clear hf hd
   refine Inv.val (.slice (some ⟨b1, o1, none⟩) 12 c1) ?_ rfl rfl (Below.refl _ _)
   clear hE hB
   generalize ac.eval = ev at *
   simp [execOp, go_sem, *]
  ·intro ac wx hE hf hd
   have hB : Below w1.heap.size w1 wx := ⟨hE.1,hE.2,hE.3,hE.4,hE.5⟩
   rw [if_pos (Inv.want0 rfl _)]
   have h12 := hd 6 _ (by kernel_rfl) rfl
   change ac.eval (.tmp 12) = .slice (some ⟨b1, o1, none⟩) 12 c1 at h12
   clear hf hd
   refine Inv.val (.slice (some ⟨b1, o1, none⟩) 4 c1) ?_ rfl rfl (Below.refl _ _)
   clear hE hB
   have hcst : ∀ v, ac.eval (.const v) = v := fun _ => rfl
   generalize ac.eval = ev at *
   simp [execOp, go_sem, *]
  ·intro ac wx hE hf hd
   have hB : Below w1.heap.size w1 wx := ⟨hE.1,hE.2,hE.3,hE.4,hE.5⟩
   rw [if_pos (Inv.want0 rfl _)]
   have h11 := hd 5 _ (by kernel_rfl) rfl
   change (fun v W => ∃ g : Nat, v = .slice (some ⟨g, 0, none⟩) 0 0) (ac.eval (.tmp 11)) wx at h11
   try dsimp only at h11
   have h13 := hd 7 _ (by kernel_rfl) rfl
   change ac.eval (.tmp 13) = .slice (some ⟨b1, o1, none⟩) 4 c1 at h13
   clear hf hd
   obtain ⟨g, hg⟩ := h11
   obtain ⟨cp, W', hrun, ho, hbl⟩ := app_empty (W := wx) ⟨g, 0, none⟩ _ c1 (E.take 4) 49 49 Tryz.underlying49 _ (HRT.out wx hB) (by rw [ht4]; omega) (by rw [ht4]; omega) wx.heap.size (Nat.le_refl _)
   rw [ht4] at hrun ho
   refine Inv.val (.slice (some ⟨wx.heap.size, 0, none⟩) 4 cp) (w' := W') (Inv.run_append2 rfl hg h13 hrun) rfl (BsT.own ho (Nat.le_trans HB1.out.size hB.size)) hbl
  ·intro ac wx hE hf hd
   have hB : Below w1.heap.size w1 wx := ⟨hE.1,hE.2,hE.3,hE.4,hE.5⟩
   rw [if_pos (Inv.want0 rfl _)]
   have h6 := hd 0 _ (by kernel_rfl) rfl
   change (fun v W => BsT w.heap.size W v [0, 0, 0, 0]) (ac.eval (.tmp 6)) wx at h6
   try dsimp only at h6
   have h10 := hd 4 _ (by kernel_rfl) rfl
   change (fun v W => BsT w.heap.size W v (E.drop 4)) (ac.eval (.tmp 10)) wx at h10
   try dsimp only at h10
   have h14 := hd 8 _ (by kernel_rfl) rfl
   change (fun v W => BsT w.heap.size W v (E.take 4)) (ac.eval (.tmp 14)) wx at h14
   try dsimp only at h14
   clear hf hd
   refine Inv.val (.slice (some ⟨wx.heap.size, 0, none⟩) 3 3) (w' := wx.alloc (.cells #[ac.eval (.tmp 6), ac.eval (.tmp 10), ac.eval (.tmp 14)] 49)) ?_ rfl ⟨_, _, _, _, rfl, Nat.le_trans HB1.out.size hB.size, RowAt.new wx _ _, h6.below ((Below.refl _ _).alloc (Nat.le_refl _) _), h10.below ((Below.refl _ _).alloc (Nat.le_refl _) _), h14.below ((Below.refl _ _).alloc (Nat.le_refl _) _)⟩ ((Below.refl _ _).alloc (Nat.le_refl _) _)
   clear hE hB
   obtain ⟨A6, c6, e6, _, _⟩ := h6
   obtain ⟨A10, c10, e10, _, _⟩ := h10
   obtain ⟨A14, c14, e14, _, _⟩ := h14
   generalize ac.eval = ev at *
   rw [e6, e10, e14]
   simp [execOp, go_sem, *]
  ·intro ac wx hE hf hd
   have hB : Below w1.heap.size w1 wx := ⟨hE.1,hE.2,hE.3,hE.4,hE.5⟩
   rw [if_pos (Inv.want0 rfl _)]
   have h15 := hd 9 _ (by kernel_rfl) rfl
   change (fun v W => Wr3M w.heap.size W v (E.drop 4) (E.take 4)) (ac.eval (.tmp 15)) wx at h15
   try dsimp only at h15
   clear hf hd
   have h15' := h15
   refine Inv.val (ac.eval (.tmp 15)) ?_ rfl h15 (Below.refl _ _)
   clear hE hB
   generalize ac.eval = ev at *
   simp [execOp, go_sem]
 case fin =>
  intro ac wx hE ha hall
  have hB : Below w1.heap.size w1 wx := ⟨hE.1,hE.2,hE.3,hE.4,hE.5⟩
  have h6 := hall 0 _ rfl
  change (fun v W => BsT w.heap.size W v [0, 0, 0, 0]) (ac.eval (.tmp 6)) wx at h6
  try dsimp only at h6
  generalize hv6 : ac.eval (.tmp 6) = v6 at *
  have h7 := hall 1 _ rfl
  change (fun v W => ∃ g : Nat, v = .slice (some ⟨g, 0, none⟩) 0 0) (ac.eval (.tmp 7)) wx at h7
  try dsimp only at h7
  generalize hv7 : ac.eval (.tmp 7) = v7 at *
  have h8 := hall 2 _ rfl
  change ac.eval (.tmp 8) = .slice (some ⟨b1, o1, none⟩) 12 c1 at h8
  have h9 := hall 3 _ rfl
  change ac.eval (.tmp 9) = .slice (some ⟨b1, o1 + 4, none⟩) 8 (c1 - 4) at h9
  have h10 := hall 4 _ rfl
  change (fun v W => BsT w.heap.size W v (E.drop 4)) (ac.eval (.tmp 10)) wx at h10
  try dsimp only at h10
  generalize hv10 : ac.eval (.tmp 10) = v10 at *
  have h11 := hall 5 _ rfl
  change (fun v W => ∃ g : Nat, v = .slice (some ⟨g, 0, none⟩) 0 0) (ac.eval (.tmp 11)) wx at h11
  try dsimp only at h11
  generalize hv11 : ac.eval (.tmp 11) = v11 at *
  have h12 := hall 6 _ rfl
  change ac.eval (.tmp 12) = .slice (some ⟨b1, o1, none⟩) 12 c1 at h12
  have h13 := hall 7 _ rfl
  change ac.eval (.tmp 13) = .slice (some ⟨b1, o1, none⟩) 4 c1 at h13
  have h14 := hall 8 _ rfl
  change (fun v W => BsT w.heap.size W v (E.take 4)) (ac.eval (.tmp 14)) wx at h14
  try dsimp only at h14
  generalize hv14 : ac.eval (.tmp 14) = v14 at *
  have h15 := hall 9 _ rfl
  change (fun v W => Wr3M w.heap.size W v (E.drop 4) (E.take 4)) (ac.eval (.tmp 15)) wx at h15
  try dsimp only at h15
  generalize hv15 : ac.eval (.tmp 15) = v15 at *
  have h2 := hall 10 _ rfl
  change (fun v W => Wr3M w.heap.size W v (E.drop 4) (E.take 4)) (ac.eval (.tmp 2)) wx at h2
  try dsimp only at h2
  generalize hv2 : ac.eval (.tmp 2) = v2 at *
  simp only [List.foldl, Inv.slot, Act.put] at ha
  change ac.tmps.getD 6 undef = _ at hv6
  change ac.tmps.getD 7 undef = _ at hv7
  change ac.tmps.getD 8 undef = _ at h8
  change ac.tmps.getD 9 undef = _ at h9
  change ac.tmps.getD 10 undef = _ at hv10
  change ac.tmps.getD 11 undef = _ at hv11
  change ac.tmps.getD 12 undef = _ at h12
  change ac.tmps.getD 13 undef = _ at h13
  change ac.tmps.getD 14 undef = _ at hv14
  change ac.tmps.getD 15 undef = _ at hv15
  change ac.tmps.getD 2 undef = _ at hv2
  simp only [hv6, hv7, h8, h9, hv10, hv11, h12, h13, hv14, hv15, hv2, List.setIfInBounds_toArray, List.set_cons_zero, List.set_cons_succ] at ha
  clear hv6 hv7 h8 h9 hv10 hv11 h12 h13 hv14 hv15 hv2 hall hE
  subst ha
  go_wp2_with fail
  refine bodyPost_ret (v := v2) ?_ rfl ⟨_, rfl, h2, HB1.out.trans (hB.mono HB1.out.size)⟩
  simp [results, Tryz.results62, go_sem]
end
section
open Go.RowKit
open Fx (Vl)
theorem plus_any (a : Bool) (m : Int) (b : Bool) (n : Int) (w : World) :
 Calls Tryz.prog 157 #[.agg #[.bool a, .int .i64 m], .agg #[.bool b, .int .i64 n]] w fun e w' => e = .returned (.agg #[.bool (Fx.plus ⟨a, m⟩ ⟨b, n⟩).ok, .int .i64 (Fx.plus ⟨a, m⟩ ⟨b, n⟩).n]) ∧ Below w.heap.size w w' := by
 cases h : Fx.num ⟨a, m⟩
 ·rw [Fx.plus_no1 h]
  go_enter Tryz.func157, Tryz.ntmps157
  go_wp2_with (go_at_call 154; go_must (refine (isNumber_any _ _ _).mono ?_; rintro e w' ⟨rfl, hb⟩; obtain ⟨hc, hf⟩ := bcell hb; (try have hz0 : w.heap.size < w'.heap.size := Bz hb); (try have hz1 : w.heap.size + 1 < w'.heap.size := Bz hb); (try have hz2 : w.heap.size + 1 + 1 < w'.heap.size := Bz hb); have hz := hb.size; (try simp at hz)))
  exact bodyPost_ret (v := .agg #[.bool false, .int .i64 0]) (by simp [results, Tryz.results157, go_sem, *]) rfl ⟨rfl, Bq⟩
 ·cases h2 : Fx.num ⟨b, n⟩
  ·rw [Fx.plus_no2 h2]
   go_enter Tryz.func157, Tryz.ntmps157
   go_wp2_with (go_at_call 154; go_must (refine (isNumber_any _ _ _).mono ?_; rintro e w' ⟨rfl, hb⟩; obtain ⟨hc, hf⟩ := bcell hb; (try have hz0 : w.heap.size < w'.heap.size := Bz hb); (try have hz1 : w.heap.size + 1 < w'.heap.size := Bz hb); (try have hz2 : w.heap.size + 1 + 1 < w'.heap.size := Bz hb); have hz := hb.size; (try simp at hz)))
   exact bodyPost_ret (v := .agg #[.bool false, .int .i64 0]) (by simp [results, Tryz.results157, go_sem, *]) rfl ⟨rfl, Bq⟩
  ·rw [Fx.plus_yes h h2]
   obtain ⟨rfl, m1, m2⟩ := Fx.num_iff.1 h
   obtain ⟨rfl, n1, n2⟩ := Fx.num_iff.1 h2
   have HW := Lib.hid (Fx.of_wrap (n := m + n) (by omega) (by omega))
   go_enter Tryz.func157, Tryz.ntmps157
   go_wp2_with first | (go_at_call 154; go_must (refine (isNumber_any _ _ _).mono ?_; rintro e w' ⟨rfl, hb⟩; obtain ⟨hc, hf⟩ := bcell hb; (try have hz0 : w.heap.size < w'.heap.size := Bz hb); (try have hz1 : w.heap.size + 1 < w'.heap.size := Bz hb); (try have hz2 : w.heap.size + 1 + 1 < w'.heap.size := Bz hb); have hz := hb.size; (try simp at hz))) | (go_at_call 91; go_must (refine (of_any _ _).mono ?_; rintro e w' ⟨rfl, hb⟩; obtain ⟨hc, hf⟩ := bcell hb; (try have hz0 : w.heap.size < w'.heap.size := Bz hb); (try have hz1 : w.heap.size + 1 < w'.heap.size := Bz hb); (try have hz2 : w.heap.size + 1 + 1 < w'.heap.size := Bz hb); have hz := hb.size; (try simp at hz)))
   exact bodyPost_ret (v := (.agg #[.bool (Fx.of (wrap64 (m + n))).ok, .int .i64 (Fx.of (wrap64 (m + n))).n])) (by simp [results, Tryz.results157, go_sem, *]) rfl ⟨by rw [HW.out], Bq⟩
theorem refPlus_any (a : Bool) (m : Int) (b : Bool) (n : Int) (w : World) :
 Calls Tryz.prog 151 #[.agg #[.bool a, .int .i64 m], .agg #[.bool b, .int .i64 n]] w fun e w' => e = .returned (.agg #[.bool (Fx.plus ⟨a, m⟩ ⟨b, n⟩).ok, .int .i64 (Fx.plus ⟨a, m⟩ ⟨b, n⟩).n]) ∧ Below w.heap.size w w' := by
 cases h : Fx.num ⟨a, m⟩
 ·rw [Fx.plus_no1 h]
  go_enter Tryz.func151, Tryz.ntmps151
  go_wp2_with (go_at_call 152; go_must (refine (two_any _ _ _ _ _).mono ?_; rintro e w' ⟨rfl, hb⟩; obtain ⟨hc, hf⟩ := bcell hb; (try have hz0 : w.heap.size < w'.heap.size := Bz hb); (try have hz1 : w.heap.size + 1 < w'.heap.size := Bz hb); (try have hz2 : w.heap.size + 1 + 1 < w'.heap.size := Bz hb); have hz := hb.size; (try simp at hz)))
  exact bodyPost_ret (v := .agg #[.bool false, .int .i64 0]) (by simp [results, Tryz.results151, go_sem, *]) rfl ⟨rfl, Bq⟩
 ·cases h2 : Fx.num ⟨b, n⟩
  ·rw [Fx.plus_no2 h2]
   go_enter Tryz.func151, Tryz.ntmps151
   go_wp2_with (go_at_call 152; go_must (refine (two_any _ _ _ _ _).mono ?_; rintro e w' ⟨rfl, hb⟩; obtain ⟨hc, hf⟩ := bcell hb; (try have hz0 : w.heap.size < w'.heap.size := Bz hb); (try have hz1 : w.heap.size + 1 < w'.heap.size := Bz hb); (try have hz2 : w.heap.size + 1 + 1 < w'.heap.size := Bz hb); have hz := hb.size; (try simp at hz)))
   exact bodyPost_ret (v := .agg #[.bool false, .int .i64 0]) (by simp [results, Tryz.results151, go_sem, *]) rfl ⟨rfl, Bq⟩
  ·rw [Fx.plus_yes h h2]
   obtain ⟨rfl, m1, m2⟩ := Fx.num_iff.1 h
   obtain ⟨rfl, n1, n2⟩ := Fx.num_iff.1 h2
   by_cases hp : 0 < n
   ·by_cases hq : 4611686018427387904 - n < m
    ·have HN := Lib.hid (Fx.of_no (Fx.inR_high (by omega : 4611686018427387904 < m + n)))
     go_enter Tryz.func151, Tryz.ntmps151
     go_wp2_with (go_at_call 152; go_must (refine (two_any _ _ _ _ _).mono ?_; rintro e w' ⟨rfl, hb⟩; obtain ⟨hc, hf⟩ := bcell hb; (try have hz0 : w.heap.size < w'.heap.size := Bz hb); (try have hz1 : w.heap.size + 1 < w'.heap.size := Bz hb); (try have hz2 : w.heap.size + 1 + 1 < w'.heap.size := Bz hb); have hz := hb.size; (try simp at hz)))
     exact bodyPost_ret (v := .agg #[.bool false, .int .i64 0]) (by simp [results, Tryz.results151, go_sem, *]) rfl ⟨by rw [HN.out]; rfl, Bq⟩
    ·go_enter Tryz.func151, Tryz.ntmps151
     go_wp2_with first | (go_at_call 152; go_must (refine (two_any _ _ _ _ _).mono ?_; rintro e w' ⟨rfl, hb⟩; obtain ⟨hc, hf⟩ := bcell hb; (try have hz0 : w.heap.size < w'.heap.size := Bz hb); (try have hz1 : w.heap.size + 1 < w'.heap.size := Bz hb); (try have hz2 : w.heap.size + 1 + 1 < w'.heap.size := Bz hb); have hz := hb.size; (try simp at hz))) | (go_at_call 109; go_must (refine (refOf_any _ _).mono ?_; rintro e w' ⟨rfl, hb⟩; obtain ⟨hc, hf⟩ := bcell hb; (try have hz0 : w.heap.size < w'.heap.size := Bz hb); (try have hz1 : w.heap.size + 1 < w'.heap.size := Bz hb); (try have hz2 : w.heap.size + 1 + 1 < w'.heap.size := Bz hb); have hz := hb.size; (try simp at hz)))
     exact bodyPost_ret (v := (.agg #[.bool (Fx.of (m + n)).ok, .int .i64 (Fx.of (m + n)).n])) (by simp [results, Tryz.results151, go_sem, *]) rfl ⟨rfl, Bq⟩
   ·by_cases hn : n < 0
    ·by_cases hq : m < -4611686018427387904 - n
     ·have HN := Lib.hid (Fx.of_no (Fx.inR_low (by omega : m + n < -4611686018427387904)))
      go_enter Tryz.func151, Tryz.ntmps151
      go_wp2_with (go_at_call 152; go_must (refine (two_any _ _ _ _ _).mono ?_; rintro e w' ⟨rfl, hb⟩; obtain ⟨hc, hf⟩ := bcell hb; (try have hz0 : w.heap.size < w'.heap.size := Bz hb); (try have hz1 : w.heap.size + 1 < w'.heap.size := Bz hb); (try have hz2 : w.heap.size + 1 + 1 < w'.heap.size := Bz hb); have hz := hb.size; (try simp at hz)))
      exact bodyPost_ret (v := .agg #[.bool false, .int .i64 0]) (by simp [results, Tryz.results151, go_sem, *]) rfl ⟨by rw [HN.out]; rfl, Bq⟩
     ·go_enter Tryz.func151, Tryz.ntmps151
      go_wp2_with first | (go_at_call 152; go_must (refine (two_any _ _ _ _ _).mono ?_; rintro e w' ⟨rfl, hb⟩; obtain ⟨hc, hf⟩ := bcell hb; (try have hz0 : w.heap.size < w'.heap.size := Bz hb); (try have hz1 : w.heap.size + 1 < w'.heap.size := Bz hb); (try have hz2 : w.heap.size + 1 + 1 < w'.heap.size := Bz hb); have hz := hb.size; (try simp at hz))) | (go_at_call 109; go_must (refine (refOf_any _ _).mono ?_; rintro e w' ⟨rfl, hb⟩; obtain ⟨hc, hf⟩ := bcell hb; (try have hz0 : w.heap.size < w'.heap.size := Bz hb); (try have hz1 : w.heap.size + 1 < w'.heap.size := Bz hb); (try have hz2 : w.heap.size + 1 + 1 < w'.heap.size := Bz hb); have hz := hb.size; (try simp at hz)))
      exact bodyPost_ret (v := (.agg #[.bool (Fx.of (m + n)).ok, .int .i64 (Fx.of (m + n)).n])) (by simp [results, Tryz.results151, go_sem, *]) rfl ⟨rfl, Bq⟩
    ·go_enter Tryz.func151, Tryz.ntmps151
     go_wp2_with first | (go_at_call 152; go_must (refine (two_any _ _ _ _ _).mono ?_; rintro e w' ⟨rfl, hb⟩; obtain ⟨hc, hf⟩ := bcell hb; (try have hz0 : w.heap.size < w'.heap.size := Bz hb); (try have hz1 : w.heap.size + 1 < w'.heap.size := Bz hb); (try have hz2 : w.heap.size + 1 + 1 < w'.heap.size := Bz hb); have hz := hb.size; (try simp at hz))) | (go_at_call 109; go_must (refine (refOf_any _ _).mono ?_; rintro e w' ⟨rfl, hb⟩; obtain ⟨hc, hf⟩ := bcell hb; (try have hz0 : w.heap.size < w'.heap.size := Bz hb); (try have hz1 : w.heap.size + 1 < w'.heap.size := Bz hb); (try have hz2 : w.heap.size + 1 + 1 < w'.heap.size := Bz hb); have hz := hb.size; (try simp at hz)))
     exact bodyPost_ret (v := (.agg #[.bool (Fx.of (m + n)).ok, .int .i64 (Fx.of (m + n)).n])) (by simp [results, Tryz.results151, go_sem, *]) rfl ⟨rfl, Bq⟩
theorem ofQuotient_yes (n : Int) (w : World) :
 Calls Tryz.prog 155 #[.int .i64 n, .bool true] w fun e w' => e = .returned (.agg #[.bool (Fx.of n).ok, .int .i64 (Fx.of n).n]) ∧ Below w.heap.size w w' := by
 go_enter Tryz.func155, Tryz.ntmps155
 go_wp2_with (go_at_call 91; go_must (refine (of_any _ _).mono ?_; rintro e w' ⟨rfl, hb⟩; obtain ⟨hc, hf⟩ := bcell hb; (try have hz0 : w.heap.size < w'.heap.size := Bz hb); (try have hz1 : w.heap.size + 1 < w'.heap.size := Bz hb); (try have hz2 : w.heap.size + 1 + 1 < w'.heap.size := Bz hb); have hz := hb.size; (try simp at hz)))
 exact bodyPost_ret (v := (.agg #[.bool (Fx.of n).ok, .int .i64 (Fx.of n).n])) (by simp [results, Tryz.results155, go_sem, *]) rfl ⟨rfl, Bq⟩
theorem ofQuotient_no (n : Int) (w : World) :
 Calls Tryz.prog 155 #[.int .i64 n, .bool false] w fun e w' => e = .returned (.agg #[.bool false, .int .i64 0]) ∧ Below w.heap.size w w' := by
 go_enter Tryz.func155, Tryz.ntmps155
 go_wp2
 exact bodyPost_ret (v := .agg #[.bool false, .int .i64 0]) (by simp [results, Tryz.results155, go_sem, *]) rfl ⟨rfl, Bq⟩
end
section
open Go Go.Sort
namespace Qt
section
variable {P : Program} {md : Region.Mode} {C : World → Prop} {A : Array Oper} {o : Oper} {Q : Exit → Act → World → Prop}
structure Fits (md : Region.Mode) (A : Array Oper) (o : Oper) : Prop where
 back : ∀ (j : Nat) (oj : Oper), A[j]? = some oj → ∀ e ∈ oj.after, Region.binds md e = true → e.on < j
 guarded : ∀ (j : Nat) (oj : Oper), A[j]? = some oj → ∀ (g : Nat) (b : Bool), oj.guard = some (g, b) → g < A.size
 waits : ∀ i, i < A.size → ∃ e ∈ o.after, Region.binds md e = true ∧ e.on = i
 last : ∀ e ∈ o.after, Region.binds md e = true → e.on < A.size
def fitsB (md : Region.Mode) (A : Array Oper) (o : Oper) : Bool :=
 ((List.range A.size).all fun j => match A[j]? with
   | some oj => (oj.after.all fun e => !Region.binds md e || decide (e.on < j)) && (match oj.guard with | some (g, _) => decide (g < A.size) | none => true)
   | none => true) &&
 ((List.range A.size).all fun i => o.after.any fun e => Region.binds md e && e.on == i) &&
 (o.after.all fun e => !Region.binds md e || decide (e.on < A.size))
theorem fits_of (h : fitsB md A o = true) : Fits md A o := by
 simp only [fitsB, Bool.and_eq_true, List.all_eq_true, List.mem_range] at h
 obtain ⟨⟨h1, h2⟩, h3⟩ := h
 refine ⟨fun j oj hj e he hb => ?_, fun j oj hj g b hg => ?_, fun i hi => ?_, fun e he hb => ?_⟩
 ·have hlt : j < A.size := (Array.getElem?_eq_some_iff.1 hj).1
  have := h1 j hlt
  simp only [hj, Bool.and_eq_true] at this
  have h4 := Array.all_eq_true_iff_forall_mem.1 this.1 e he
  simpa [hb] using h4
 ·have hlt : j < A.size := (Array.getElem?_eq_some_iff.1 hj).1
  have := h1 j hlt
  simp only [hj, Bool.and_eq_true, hg, decide_eq_true_eq] at this
  exact this.2
 ·obtain ⟨e, he, hb⟩ := Array.any_eq_true'.1 (h2 i hi)
  simp only [Bool.and_eq_true, beq_iff_eq] at hb
  exact ⟨e, he, hb.1, hb.2⟩
 ·have h4 := Array.all_eq_true_iff_forall_mem.1 h3 e he
  simpa [hb] using h4
theorem get_push_lt {j : Nat} (h : j < A.size) : (A.push o)[j]? = A[j]? := by
 rw [Array.getElem?_push, if_neg (by omega)]
theorem getD_push_false (L : Array Bool) (j : Nat) : (L.push false).getD j false = L.getD j false := by
 simp only [Array.getD_eq_getD_getElem?, Array.getElem?_push]
 split
 ·rename_i h; subst h; simp
 ·rfl
theorem getD_push_true {L : Array Bool} {j : Nat} (h : j ≠ L.size) : (L.push false).getD j true = L.getD j true := by
 simp only [Array.getD_eq_getD_getElem?, Array.getElem?_push]
 rw [if_neg h]
theorem getD_two {L : Array Bool} {j : Nat} (h : j < L.size) : L.getD j true = L.getD j false := by
 simp [Array.getD_eq_getD_getElem?, h]
theorem some_ready (F : Fits md A o) {L : Array Bool} (hL : L.size = A.size) : ∀ (m j : Nat), j < m → j < A.size → L.getD j true = false → ∃ i, i ∈ Region.ready md A L := by
 intro m
 induction m with
 | zero => intro j h; omega
 | succ m ih =>
   intro j hjm hj hu
   by_cases hall : ∀ e ∈ (A[j]).after, Region.binds md e = true → L.getD e.on false = true
   ·exact ⟨j, mem_ready.2 ⟨hu, A[j], by simp [hj], hall⟩⟩
   ·simp only [Classical.not_forall] at hall
    obtain ⟨e, he, hb, hne⟩ := hall
    have hlt := F.back j A[j] (by simp [hj]) e he hb
    have hlt2 : e.on < A.size := Nat.lt_trans hlt hj
    exact ih e.on (by omega) hlt2 (by rw [getD_two (by omega)]; simpa using hne)
theorem ready_push {L : Array Bool} (hL : L.size = A.size) {j : Nat} (hj : j < A.size) : j ∈ Region.ready md (A.push o) (L.push false) ↔ j ∈ Region.ready md A L := by
 rw [mem_ready, mem_ready, get_push_lt hj, getD_push_true (by omega)]
 simp only [getD_push_false]
theorem wanted_push (F : Fits md A o) {j : Nat} {oj : Oper} (hj : A[j]? = some oj) (tmps : Array Value) : Region.wanted oj (yielded (A.push o) tmps) = Region.wanted oj (yielded A tmps) := by
 unfold Region.wanted
 cases hg : oj.guard with
 | none => rfl
 | some gb =>
   obtain ⟨g, b⟩ := gb
   have hlt := F.guarded j oj hj g b hg
   have e : yielded (A.push o) tmps g = yielded A tmps g := by unfold yielded; rw [get_push_lt hlt]
   simp only [e]
theorem qOp_push (F : Fits md A o) {j : Nat} (hj : j < A.size) {K : Act → Prop} {a : Act} (h : qOp P A C j K a) : qOp P (A.push o) C j K a := by
 unfold qOp at *
 rw [get_push_lt hj]
 have hs : A[j]? = some A[j] := by simp [hj]
 rw [hs] at h ⊢
 simp only at h ⊢
 rw [wanted_push F hs]
 exact h
theorem set_push {L : Array Bool} {j : Nat} (hj : j < L.size) : (L.push false).setIfInBounds j true = (L.setIfInBounds j true).push false := by
 apply Array.ext_getElem?
 intro i
 simp only [Array.getElem?_setIfInBounds, Array.getElem?_push, Array.size_push, Array.size_setIfInBounds]
 by_cases h1 : i = L.size
 ·subst h1; rw [if_neg (by omega), if_pos rfl, if_pos rfl]
 ·by_cases h2 : j = i
  ·subst h2; rw [if_pos rfl, if_pos (by omega), if_neg h1, if_pos rfl, if_pos hj]
  ·rw [if_neg h2, if_neg h1, if_neg h1, if_neg h2]
theorem last_up (F : Fits md A o) {L : Array Bool} (hL : L.size = A.size) (hall : ∀ j, j < A.size → L.getD j true = true) {a : Act} {w : World}
 (h : wpList P (A.push o) Q [o] a w) (k : Nat) : wpAny P md (A.push o) Q (k + 1) (L.push false) a w := by
 have hn : A.size ∈ Region.ready md (A.push o) (L.push false) := by
  rw [mem_ready]
  refine ⟨by rw [← hL]; simp [Array.getD_eq_getD_getElem?], o, by simp, fun e he hb => ?_⟩
  rw [getD_push_false, ← getD_two (by rw [hL]; exact F.last e he hb)]
  exact hall _ (F.last e he hb)
 have hdone : Region.ready md (A.push o) ((L.push false).setIfInBounds A.size true) = [] := by
  apply List.eq_nil_iff_forall_not_mem.2
  intro j hj
  rw [mem_ready] at hj
  obtain ⟨h1, oj, h2, _⟩ := hj
  have hlt : j < A.size + 1 := by have := (Array.getElem?_eq_some_iff.1 h2).1; simpa using this
  simp only [Array.getD_eq_getD_getElem?, Array.getElem?_setIfInBounds, Array.size_push, hL] at h1
  by_cases hj : A.size = j
  ·subst hj; simp at h1
  ·rw [if_neg hj] at h1
   have h3 := hall j (by omega)
   rw [← getD_push_true (by omega)] at h3
   rw [Array.getD_eq_getD_getElem?] at h3
   rw [h3] at h1
   cases h1
 refine ⟨fun h0 => (by rw [h0] at hn; cases hn), fun i hi => ?_⟩
 have hin : i = A.size := by
  rw [mem_ready] at hi
  obtain ⟨h1, oj, h2, _⟩ := hi
  have hlt : i < A.size + 1 := by have := (Array.getElem?_eq_some_iff.1 h2).1; simpa using this
  by_cases hj : i = A.size
  ·exact hj
  ·rw [getD_push_true (by omega), hall i (by omega)] at h1
   cases h1
 subst hin
 have hK : ∀ a' w', Q .normal a' w' → wpAny P md (A.push o) Q k ((L.push false).setIfInBounds A.size true) a' w' := fun a' w' q => by
  cases k with
  | zero => exact ⟨hdone, q⟩
  | succ k => exact ⟨fun _ => q, fun i hi => (by rw [hdone] at hi; cases hi)⟩
 unfold wpOp
 rw [show (A.push o)[A.size]? = some o by simp]
 unfold wpList at h
 simp only
 split
 ·rename_i hw
  rw [if_pos hw] at h
  exact h.imp (Oper.wp_mono hK) id
 ·rename_i hw
  rw [if_neg hw] at h
  exact hK _ _ h
theorem any_tail (F : Fits md A o) {QQ : Act → Prop} (hQ : ∀ a w, C w → QQ a → wpList P (A.push o) Q [o] a w) :
 ∀ (fuel : Nat) (L : Array Bool) (a : Act) (w : World), L.size = A.size → C w → wpAnyQ P md A C QQ fuel L a → wpAny P md (A.push o) Q (fuel + 1) (L.push false) a w := by
 have all_of : ∀ {L : Array Bool}, L.size = A.size → Region.ready md A L = [] → ∀ j, j < A.size → L.getD j true = true := fun {L} hL h0 j hj => by
  cases hu : L.getD j true with
  | true => rfl
  | false =>
    obtain ⟨i, hi⟩ := some_ready F hL (j + 1) j (by omega) hj hu
    rw [h0] at hi
    cases hi
 intro fuel
 induction fuel with
 | zero => intro L a w hL hC h; exact last_up F hL (all_of hL h.1) (hQ a w hC h.2) 0
 | succ fuel ih =>
   intro L a w hL hC h
   by_cases h0 : Region.ready md A L = []
   ·exact last_up F hL (all_of hL h0) (hQ a w hC (h.1 h0)) (fuel + 1)
   ·obtain ⟨i0, hi0⟩ := List.exists_mem_of_ne_nil _ h0
    have hi0' := hi0
    have notlast : A.size ∉ Region.ready md (A.push o) (L.push false) := fun hn => by
     rw [mem_ready] at hn hi0'
     obtain ⟨hu, oj, hoj, _⟩ := hi0'
     have hlt := (Array.getElem?_eq_some_iff.1 hoj).1
     obtain ⟨_, o', ho', hw⟩ := hn
     rw [show (A.push o)[A.size]? = some o by simp] at ho'
     cases ho'
     obtain ⟨e, he, hb, hon⟩ := F.waits i0 hlt
     have h2 := hw e he hb
     rw [getD_push_false, hon, ← getD_two (by omega), hu] at h2
     cases h2
    have up : ∀ i, i ∈ Region.ready md (A.push o) (L.push false) → i < A.size ∧ i ∈ Region.ready md A L := fun i hi => by
     have hlt : i < A.size := by
      have h2 := (mem_ready.1 hi).2
      obtain ⟨oj, h2, _⟩ := h2
      have h3 : i < A.size + 1 := by have := (Array.getElem?_eq_some_iff.1 h2).1; simpa using this
      by_cases hj : i = A.size
      ·subst hj; exact absurd hi notlast
      ·omega
     exact ⟨hlt, (ready_push hL hlt).1 hi⟩
    refine ⟨fun he => ?_, fun i hi => ?_⟩
    ·have hlt : i0 < A.size := by
      obtain ⟨oj, h2, _⟩ := (mem_ready.1 hi0).2
      exact (Array.getElem?_eq_some_iff.1 h2).1
     have := (ready_push (o := o) hL hlt).2 hi0
     rw [he] at this
     cases this
    ·obtain ⟨hlt, hi2⟩ := up i hi
     rw [set_push (by omega)]
     exact wpOp_of_qOp (K := wpAnyQ P md A C QQ fuel (L.setIfInBounds i true)) hC (fun a' w' hC' hK => ih _ a' w' (by simpa using hL) hC' hK) (qOp_push F hlt (h.2 i hi2))
theorem wp_region_quiet_tail {id : Nat} {a : Act} {w : World} (l : List Oper) (o : Oper) (hm : P.follows .mixedOrders = true) (hB : Region.lexB .any l.toArray = true) (hF : fitsB .any l.toArray o = true) (hC : C { w with drawn := w.drawn + 1 })
 (h : wpQuiet P l.toArray C (fun a' => ∀ w', C w' → wpList P (l.toArray.push o) Q [o] a' w') l a) : (Code.region id (l.toArray.push o) true).wp P Q a w := by
 simp only [Region.lexB, Bool.and_eq_true] at hB
 refine wp_region_any hm ?_
 have hq := wpAnyQ_lex (C := C) (md := .any) hB.1 l 0 (Array.replicate l.toArray.size false) a (by simp) (by simpa using hB.2) h
 have hs : Array.replicate (l.toArray.push o).size false = (Array.replicate l.toArray.size false).push false := by
  rw [Array.size_push, Array.replicate_succ]
 rw [hs]
 have := any_tail (fits_of hF) (QQ := fun a' => ∀ w', C w' → wpList P (l.toArray.push o) Q [o] a' w') (fun a w hw hq => hq w hw) l.length (Array.replicate l.toArray.size false) a _ (by simp) hC hq
 simpa using this
theorem wp_region_below_tail {id : Nat} {a : Act} {w : World} (l : List Oper) (o : Oper) (hm : P.follows .mixedOrders = true) (hB : Region.lexB .any l.toArray = true) (hF : fitsB .any l.toArray o = true)
 (h : wpQuiet P l.toArray (fun w' => ∃ p : Regrown, w' = grow (redrawn w p.d) p.os) (fun a' => ∀ w', (∃ p : Regrown, w' = grow (redrawn w p.d) p.os) → wpList P (l.toArray.push o) Q [o] a' w') l a) : (Code.region id (l.toArray.push o) true).wp P Q a w :=
 wp_region_quiet_tail (C := fun w' => ∃ p : Regrown, w' = grow (redrawn w p.d) p.os) l o hm hB hF ⟨⟨w.drawn + 1, #[]⟩, by rw [grow_empty]; rfl⟩ h
theorem wp_region_below_tail_at {id : Nat} {a : Act} {w : World} {l : List Oper} {o : Oper} (n : Nat) (hl : l.drop n = [o]) (hm : P.follows .mixedOrders = true) (hB : Region.lexB .any (l.take n).toArray = true) (hF : fitsB .any (l.take n).toArray o = true)
 (h : wpQuiet P (l.take n).toArray (fun w' => ∃ p : Regrown, w' = grow (redrawn w p.d) p.os) (fun a' => ∀ w', (∃ p : Regrown, w' = grow (redrawn w p.d) p.os) → wpList P l.toArray Q [o] a' w') (l.take n) a) : (Code.region id l.toArray true).wp P Q a w := by
 have e : l = l.take n ++ [o] := by rw [← hl, List.take_append_drop]
 have e2 : l.toArray = (l.take n).toArray.push o := by rw [List.push_toArray, ← e]
 rw [e2] at h ⊢
 exact wp_region_below_tail (l.take n) o hm hB hF h
end
end Qt
end
section
open Go.RowKit Go.Sort
open Fx (Vl)
def sum (l : List Vl) : Vl := l.foldl Fx.plus ⟨true, 0⟩
theorem sum_take (l : List Vl) (k : Nat) (h : k < l.length) : sum (l.take (k + 1)) = Fx.plus (sum (l.take k)) l[k] := by
 unfold sum
 rw [List.take_succ_eq_append_getElem h, List.foldl_append]
 rfl
structure Vals (w : World) (b off : Nat) (l : List Vl) : Prop where
 lt : b < w.heap.size
 ok : ∀ i (h : i < l.length), w.cell? ⟨b, off + i * 2, none⟩ = some (.bool l[i].ok)
 n : ∀ i (h : i < l.length), w.cell? ⟨b, off + i * 2 + 1, none⟩ = some (.int .i64 l[i].n)
theorem Vals.below {w w' : World} {b off : Nat} {l : List Vl} (h : Vals w b off l) (hb : Below w.heap.size w w') : Vals w' b off l :=
 ⟨Nat.lt_of_lt_of_le h.lt hb.size, fun i hi => (hb.cell (p := ⟨b, off + i * 2, none⟩) h.lt).trans (h.ok i hi), fun i hi => (hb.cell (p := ⟨b, off + i * 2 + 1, none⟩) h.lt).trans (h.n i hi)⟩
structure AddRel (w wr : World) (r s : Nat) (v : Vl) : Prop where
 below : Below w.heap.size w wr
 r0 : w.heap.size ≤ r
 rs : r < s
 sz : s < wr.heap.size
 rc0 : wr.cell? ⟨r, 0, none⟩ = some (.bool false)
 rc1 : wr.cell? ⟨r, 1, none⟩ = some (.int .i64 0)
 rf0 : wr.frozen? ⟨r, 0, none⟩ = false
 rf1 : wr.frozen? ⟨r, 1, none⟩ = false
 sc0 : wr.cell? ⟨s, 0, none⟩ = some (.bool v.ok)
 sc1 : wr.cell? ⟨s, 1, none⟩ = some (.int .i64 v.n)
 sf0 : wr.frozen? ⟨s, 0, none⟩ = false
 sf1 : wr.frozen? ⟨s, 1, none⟩ = false
theorem AddRel.step {w wr wp : World} {r s : Nat} {v : Vl} (h : AddRel w wr r s v) (hb : Below wr.heap.size wr wp) (ok : Bool) (n : Int) :
 AddRel w ((wp.setCell ⟨s, 0, none⟩ (.bool ok)).setCell ⟨s, 1, none⟩ (.int .i64 n)) r s ⟨ok, n⟩ := by
 have hs1 := h.sz
 have hrs := h.rs
 have hr0 := h.r0
 have hbz := hb.size
 have hc : ∀ b f, b < wr.heap.size → wp.cell? ⟨b, f, none⟩ = wr.cell? ⟨b, f, none⟩ := fun b f hlt => hb.cell (p := ⟨b, f, none⟩) hlt
 have hf : ∀ b f, b < wr.heap.size → wp.frozen? ⟨b, f, none⟩ = wr.frozen? ⟨b, f, none⟩ := fun b f hlt => hb.frozen (p := ⟨b, f, none⟩) hlt
 have hne : r ≠ s := by omega
 have c0 := (hc s 0 hs1).trans h.sc0
 have c1 := (hc s 1 hs1).trans h.sc1
 have d0 := (hc r 0 (by omega)).trans h.rc0
 have d1 := (hc r 1 (by omega)).trans h.rc1
 have f0 := (hf s 0 hs1).trans h.sf0
 have f1 := (hf s 1 hs1).trans h.sf1
 have g0 := (hf r 0 (by omega)).trans h.rf0
 have g1 := (hf r 1 (by omega)).trans h.rf1
 clear hc hf
 refine ⟨?_, hr0, hrs, by simp; omega, ?_, ?_, ?_, ?_, ?_, ?_, ?_, ?_⟩
 ·exact Below.setCell (Below.setCell (h.below.trans (hb.mono (by omega))) (by show _ ≤ s; omega) _) (by show _ ≤ s; omega) _
 all_goals simp [go_sem, *]
theorem AddRel.start {w w' : World} {T : TypeId} (hb : Below (w.alloc (.cells #[.bool false, .int .i64 0] T)).heap.size (w.alloc (.cells #[.bool false, .int .i64 0] T)) w') :
 AddRel w (w'.alloc (.cells #[.bool true, .int .i64 0] T)) w.heap.size w'.heap.size ⟨true, 0⟩ := by
 have hz := hb.size
 have hsz : (w.alloc (.cells #[.bool false, .int .i64 0] T)).heap.size = w.heap.size + 1 := by simp
 rw [hsz] at hz
 have hc : ∀ f, w'.cell? ⟨w.heap.size, f, none⟩ = (w.alloc (.cells #[.bool false, .int .i64 0] T)).cell? ⟨w.heap.size, f, none⟩ := fun f => hb.cell (p := ⟨w.heap.size, f, none⟩) (by rw [hsz]; show w.heap.size < _; omega)
 have hf : ∀ f, w'.frozen? ⟨w.heap.size, f, none⟩ = (w.alloc (.cells #[.bool false, .int .i64 0] T)).frozen? ⟨w.heap.size, f, none⟩ := fun f => hb.frozen (p := ⟨w.heap.size, f, none⟩) (by rw [hsz]; show w.heap.size < _; omega)
 have hlt : w.heap.size < w'.heap.size := by omega
 refine ⟨?_, Nat.le_refl _, by omega, by simp, ?_, ?_, ?_, ?_, ?_, ?_, ?_, ?_⟩
 ·exact (((Below.refl w.heap.size w).alloc (Nat.le_refl _) _).trans (hb.mono (by omega))).alloc (by omega) _
 all_goals simp [go_sem, *]
theorem add_some (l : List Vl) (hl : l.length ≤ 4611686018427387904) (b off cap : Nat) (w : World) (hv : Vals w b off l) :
 Calls Tryz.prog 146 #[.slice (some ⟨b, off, none⟩) l.length cap] w fun e w' => e = .returned (.agg #[.bool (sum l).ok, .int .i64 (sum l).n]) ∧ Below w.heap.size w w' := by
 have O0 : Hid (∀ W, Calls Tryz.prog 91 #[.int .i64 0] W fun e w' => e = .returned (.agg #[.bool true, .int .i64 0]) ∧ Below W.heap.size W w') := Lib.hid fun W => of_any 0 W
 go_enter Tryz.func146, Tryz.ntmps146
 go_wp2_with (go_at_call 91; go_must (refine (O0.out _).mono ?_; rintro e w' ⟨rfl, hb⟩; obtain ⟨hc, hf⟩ := bcell hb; (try have hz0 : w.heap.size < w'.heap.size := Bz hb); (try have hz1 : w.heap.size + 1 < w'.heap.size := Bz hb); (try have hz2 : w.heap.size + 1 + 1 < w'.heap.size := Bz hb); have hz := hb.size; (try simp at hz)))
 go_loopw [9] (fun i wr => ∃ k : Nat, k ≤ l.length ∧ i = .int .i64 k ∧ AddRel w wr w.heap.size w'.heap.size (sum (l.take k))) (fun i _ => l.length - (intOf i).toNat)
 case atStart => exact ⟨0, Nat.zero_le _, rfl, AddRel.start hb⟩
 case round =>
  obtain ⟨k, hk, rfl, hR⟩ := hrel
  have hsz := hR.sz
  have rc0 := hR.rc0
  have rc1 := hR.rc1
  have rf0 := hR.rf0
  have rf1 := hR.rf1
  have sc0 := hR.sc0
  have sc1 := hR.sc1
  have sf0 := hR.sf0
  have sf1 := hR.sf1
  by_cases hlt : k < l.length
  ·have hvr := hv.below hR.below
   have ec0 := hvr.ok k hlt
   have ec1 := hvr.n k hlt
   have hst := Lib.hid (sum_take l k hlt)
   have HR := Lib.hid hR
   clear hR hvr
   generalize l[k] = ek at *
   generalize sum (l.take k) = sk at *
   obtain ⟨eo, en⟩ := ek
   obtain ⟨so, sn⟩ := sk
   go_wp2_with (go_at_call 157; go_must (refine (plus_any _ _ _ _ _).mono ?_; rintro e w' ⟨rfl, hb⟩; obtain ⟨hc, hf⟩ := bcell hb; (try have hz0 : w.heap.size < w'.heap.size := Bz hb); (try have hz1 : w.heap.size + 1 < w'.heap.size := Bz hb); (try have hz2 : w.heap.size + 1 + 1 < w'.heap.size := Bz hb); have hz := hb.size; (try simp at hz)))
   go_roundw
   case rel =>
    refine ⟨k + 1, by omega, by go_num, ?_⟩
    rw [hst.out]
    exact AddRel.step HR.out (((Below.refl _ _).alloc (Nat.le_refl _) _).trans (hb.mono (by simp))) _ _
   case measure => simp [intOf]; omega
  ·obtain rfl : k = l.length := by omega
   have hbb := hR.below
   have hr0 := hR.r0
   rw [List.take_length] at *
   clear hR
   go_wp2
   exact bodyPost_ret (v := (.agg #[.bool (sum l).ok, .int .i64 (sum l).n])) (by simp [results, Tryz.results146, go_sem, *]) rfl ⟨rfl, Bq⟩
theorem refAdd_some (l : List Vl) (hl : l.length ≤ 4611686018427387904) (b off cap : Nat) (w : World) (hv : Vals w b off l) :
 Calls Tryz.prog 140 #[.slice (some ⟨b, off, none⟩) l.length cap] w fun e w' => e = .returned (.agg #[.bool (sum l).ok, .int .i64 (sum l).n]) ∧ Below w.heap.size w w' := by
 have O0 : Hid (∀ W, Calls Tryz.prog 109 #[.int .i64 0] W fun e w' => e = .returned (.agg #[.bool true, .int .i64 0]) ∧ Below W.heap.size W w') := Lib.hid fun W => refOf_any 0 W
 go_enter Tryz.func140, Tryz.ntmps140
 go_wp2_with (go_at_call 109; go_must (refine (O0.out _).mono ?_; rintro e w' ⟨rfl, hb⟩; obtain ⟨hc, hf⟩ := bcell hb; (try have hz0 : w.heap.size < w'.heap.size := Bz hb); (try have hz1 : w.heap.size + 1 < w'.heap.size := Bz hb); (try have hz2 : w.heap.size + 1 + 1 < w'.heap.size := Bz hb); have hz := hb.size; (try simp at hz)))
 go_loopw [4] (fun i wr => ∃ k : Nat, k ≤ l.length ∧ i = .int .i64 k ∧ AddRel w wr w.heap.size w'.heap.size (sum (l.take k))) (fun i _ => l.length - (intOf i).toNat)
 case atStart => exact ⟨0, Nat.zero_le _, rfl, AddRel.start hb⟩
 case round =>
  obtain ⟨k, hk, rfl, hR⟩ := hrel
  have hsz := hR.sz
  have rc0 := hR.rc0
  have rc1 := hR.rc1
  have rf0 := hR.rf0
  have rf1 := hR.rf1
  have sc0 := hR.sc0
  have sc1 := hR.sc1
  have sf0 := hR.sf0
  have sf1 := hR.sf1
  by_cases hlt : k < l.length
  ·have hvr := hv.below hR.below
   have ec0 := hvr.ok k hlt
   have ec1 := hvr.n k hlt
   have hbr := hvr.lt
   have hst := Lib.hid (sum_take l k hlt)
   have HR := Lib.hid hR
   clear hR hvr
   generalize l[k] = ek at *
   generalize sum (l.take k) = sk at *
   obtain ⟨eo, en⟩ := ek
   obtain ⟨so, sn⟩ := sk
   have hkl : (k : Int) < (l.length : Int) := by omega
   go_wp2_with fail
   refine Qt.wp_region_below_tail_at 6 rfl (by kernel_rfl) (by kernel_rfl) (by kernel_rfl) ?_
   simp only [List.take_succ_cons, List.take_zero]
   obtain ⟨kc, kf⟩ := kgrown wr
   repeat (quiet_step ((go_at_call 151; exact Calls.regrown_of (refPlus_any _ _ _ _ _))))
   refine wpQuiet_nil ?_
   intro _ hw'
   obtain ⟨⟨dq, osq⟩, hw''⟩ := hw'
   subst hw''
   go_wp2_with fail
   go_roundw
   case rel =>
    refine ⟨k + 1, by omega, by go_num, ?_⟩
    rw [hst.out]
    exact AddRel.step HR.out (below_regrown wr dq osq) _ _
   case measure => simp [intOf]; omega
  ·obtain rfl : k = l.length := by omega
   have hbb := hR.below
   have hr0 := hR.r0
   rw [List.take_length] at *
   clear hR
   go_wp2
   exact bodyPost_ret (v := (.agg #[.bool (sum l).ok, .int .i64 (sum l).n])) (by simp [results, Tryz.results140, go_sem, *]) rfl ⟨rfl, Bq⟩
end
section
namespace Fx
def rnd (p d : Nat) : Nat := if d ≤ 2 * (p % d) then p / d + 1 else p / d
def mdq (a b c : Int) : Nat := rnd (mag a * mag b) (mag c)
def mdok (a b c : Int) : Bool := decide (c ≠ 0 ∧ mdq a b c ≤ 4611686018427387904)
def neg3 (a b c : Int) : Bool := ((decide (a < 0) != decide (b < 0)) != decide (c < 0))
def mdn (a b c : Int) : Int := if mdok a b c then (if neg3 a b c then -(mdq a b c : Int) else (mdq a b c : Int)) else 0
theorem rnd_up {p d : Nat} (h : d ≤ 2 * (p % d)) : rnd p d = p / d + 1 := by unfold rnd; rw [if_pos h]
theorem rnd_down {p d : Nat} (h : 2 * (p % d) < d) : rnd p d = p / d := by unfold rnd; rw [if_neg (by omega)]
theorem rnd_ge (p d : Nat) : p / d ≤ rnd p d := by unfold rnd; split <;> omega
theorem mdok_zero {a b c : Int} (h : c = 0) : mdok a b c = false := by unfold mdok; simp [h]
theorem mdok_yes {a b c : Int} (h : c ≠ 0) (hq : mdq a b c ≤ 4611686018427387904) : mdok a b c = true := by unfold mdok; simp [h, hq]
theorem mdok_no {a b c : Int} (hq : 4611686018427387904 < mdq a b c) : mdok a b c = false := by
 unfold mdok; simp only [decide_eq_false_iff_not]; omega
theorem mdn_no {a b c : Int} (h : mdok a b c = false) : mdn a b c = 0 := by unfold mdn; rw [h]; rfl
theorem mdn_neg {a b c : Int} (h : mdok a b c = true) (hn : neg3 a b c = true) : mdn a b c = -(mdq a b c : Int) := by unfold mdn; rw [h, hn]; rfl
theorem mdn_pos {a b c : Int} (h : mdok a b c = true) (hn : neg3 a b c = false) : mdn a b c = (mdq a b c : Int) := by unfold mdn; rw [h, hn]; rfl
theorem mag_le {n : Int} (h1 : -9223372036854775808 ≤ n) (h2 : n ≤ 9223372036854775807) : mag n ≤ 9223372036854775808 := by unfold mag; omega
theorem mag_pos {n : Int} (h : n ≠ 0) : 0 < mag n := by unfold mag; omega
structure Md (a b c : Int) (n : Int) (ok : Bool) : Prop where
 num : n = mdn a b c
 ok : ok = mdok a b c
theorem md_zero {a b c : Int} (h : c = 0) : Md a b c 0 false := ⟨(mdn_no (mdok_zero h)).symm, (mdok_zero h).symm⟩
theorem md_big {a b c : Int} (hq : 4611686018427387904 < mdq a b c) : Md a b c 0 false := ⟨(mdn_no (mdok_no hq)).symm, (mdok_no hq).symm⟩
theorem md_neg {a b c : Int} {q : Int} (h : c ≠ 0) (he : q = (mdq a b c : Int)) (hq : q ≤ 4611686018427387904) (hn : neg3 a b c = true) : Md a b c (-q) true := by
 have h2 := mdok_yes (a := a) (b := b) h (by omega)
 exact ⟨by rw [mdn_neg h2 hn, he], h2.symm⟩
theorem md_pos {a b c : Int} {q : Int} (h : c ≠ 0) (he : q = (mdq a b c : Int)) (hq : q ≤ 4611686018427387904) (hn : neg3 a b c = false) : Md a b c q true := by
 have h2 := mdok_yes (a := a) (b := b) h (by omega)
 exact ⟨by rw [mdn_pos h2 hn, he], h2.symm⟩
def mdv (a b c : Int) : Vl := if mdok a b c then of (mdn a b c) else none
def div (a b : Vl) : Vl := if num a && num b then mdv a.n 1000000 b.n else none
theorem mdv_yes {a b c : Int} (h : mdok a b c = true) : mdv a b c = of (mdn a b c) := by unfold mdv; rw [if_pos h]
theorem mdv_no {a b c : Int} (h : mdok a b c = false) : mdv a b c = none := by unfold mdv; rw [if_neg (by simp [h])]
theorem div_yes {a b : Vl} (h1 : num a = true) (h2 : num b = true) : div a b = mdv a.n 1000000 b.n := by unfold div; simp [h1, h2]
theorem div_no1 {a b : Vl} (h1 : num a = false) : div a b = none := by unfold div; simp [h1]
theorem div_no2 {a b : Vl} (h2 : num b = false) : div a b = none := by unfold div; simp [h2]
theorem words (p d : Nat) (hd : d ≤ p / 18446744073709551616) (h0 : 0 < d) : 18446744073709551616 ≤ p / d := by
 rw [Nat.le_div_iff_mul_le h0]
 have := Nat.div_mul_le_self p 18446744073709551616
 omega
theorem whole (p : Nat) : p / 18446744073709551616 * 18446744073709551616 + p % 18446744073709551616 = p := by omega
structure Rm (N d : Nat) (i : Int) (q r : Int) (o : Bool) : Prop where
 lo : -1 ≤ i
 hi : i ≤ 127
 q0 : 0 ≤ q
 q1 : q ≤ 18446744073709551615
 rest : r = ((N / 2 ^ (i + 1).toNat % d : Nat) : Int)
 quot : if o then 9223372036854775808 ≤ N / 2 ^ (i + 1).toNat / d else q = ((N / 2 ^ (i + 1).toNat / d : Nat) : Int) ∧ q ≤ 9223372036854775807
theorem half_bit (N k : Nat) : N / 2 ^ k = 2 * (N / 2 ^ (k + 1)) + N / 2 ^ k % 2 := by
 rw [Nat.pow_succ, ← Nat.div_div_eq_div_mul]; omega
theorem next_bit (A d β : Nat) (hd : 0 < d) (hβ : β < 2) :
 (if d ≤ 2 * (A % d) + β then (2 * A + β) % d = 2 * (A % d) + β - d ∧ (2 * A + β) / d = 2 * (A / d) + 1 else (2 * A + β) % d = 2 * (A % d) + β ∧ (2 * A + β) / d = 2 * (A / d)) := by
 have h := Nat.div_add_mod A d
 have hm := Nat.mod_lt A hd
 have e : 2 * A + β = (2 * (A % d) + β) + d * (2 * (A / d)) := by
  rw [Nat.mul_left_comm]
  generalize d * (A / d) = x at *
  omega
 rw [e, Nat.add_mul_mod_self_left, Nat.add_mul_div_left _ _ hd]
 split
 ·rename_i hc
  have e2 : 2 * (A % d) + β = (2 * (A % d) + β - d) + d * 1 := by omega
  rw [e2, Nat.add_mul_mod_self_left, Nat.add_mul_div_left _ _ hd, Nat.mod_eq_of_lt (by omega), Nat.div_eq_of_lt (by omega)]
  omega
 ·rename_i hc
  rw [Nat.mod_eq_of_lt (by omega), Nat.div_eq_of_lt (by omega)]
  omega
theorem rm_start (N d : Nat) (h : N < 340282366920938463463374607431768211456) : Rm N d 127 0 0 false := by
 have e : N / 2 ^ (127 + 1 : Int).toNat = 0 := by
  apply Nat.div_eq_of_lt
  show N < 2 ^ 128
  omega
 refine ⟨by omega, by omega, by omega, by omega, ?_, ?_⟩
 ·rw [e, Nat.zero_mod]; rfl
 ·rw [e, Nat.zero_div]; exact ⟨rfl, by omega⟩
theorem rm_rest {N d : Nat} {i q r : Int} {o : Bool} (h : Rm N d i q r o) (hd : 0 < d) : 0 ≤ r ∧ r < d := by
 rw [h.rest]
 have := Nat.mod_lt (N / 2 ^ (i + 1).toNat) hd
 omega
theorem rm_step {N d : Nat} {i q r : Int} {o : Bool} (h : Rm N d i q r o) (hi : 0 ≤ i) (hd : 0 < d) (β : Nat) (hβ : β = N / 2 ^ i.toNat % 2) (q2 : Int) (hq2 : q2 = q * 2 % 18446744073709551616) (s : Int) (hs : s = r * 2 + β) (o2 : Bool) (ho : o2 = (o || decide (4611686018427387904 ≤ q))) :
 ((d : Int) ≤ s → Rm N d (i - 1) (q2 + 1) (s - d) o2) ∧ (s < (d : Int) → Rm N d (i - 1) q2 s o2) := by
 obtain ⟨lo, hi2, q0, q1, hr, hq⟩ := h
 obtain ⟨k, rfl⟩ := Int.eq_ofNat_of_zero_le hi
 have e1 : ((k : Int) + 1).toNat = k + 1 := by omega
 have e2 : ((k : Int) - 1 + 1).toNat = k := by omega
 have hb := half_bit N k
 rw [Int.toNat_natCast] at hβ
 rw [← hβ] at hb
 rw [e1] at hr hq
 have hβ2 : β < 2 := by omega
 have hn := next_bit (N / 2 ^ (k + 1)) d β hd hβ2
 rw [← hb] at hn
 have hm := Nat.mod_lt (N / 2 ^ (k + 1)) hd
 have quot : ∀ δ : Nat, δ < 2 → N / 2 ^ k / d = 2 * (N / 2 ^ (k + 1) / d) + δ → (if o2 = true then 9223372036854775808 ≤ N / 2 ^ k / d else q2 + δ = ((N / 2 ^ k / d : Nat) : Int) ∧ q2 + δ ≤ 9223372036854775807) := by
  intro δ hδ hQ
  rw [hQ]
  generalize N / 2 ^ (k + 1) / d = Q at *
  cases o with
  | true =>
    rw [if_pos rfl] at hq
    rw [ho, Bool.true_or, if_pos rfl]
    omega
  | false =>
    rw [if_neg (by simp)] at hq
    rw [ho, Bool.false_or]
    by_cases hc : 4611686018427387904 ≤ q
    ·rw [if_pos (by simpa using hc)]
     omega
    ·rw [if_neg (by simpa using hc)]
     omega
 have q2b : 0 ≤ q2 ∧ q2 ≤ 18446744073709551614 := by omega
 constructor
 ·intro hds
  rw [if_pos (by omega)] at hn
  refine ⟨by omega, by omega, by omega, by omega, ?_, ?_⟩
  ·rw [e2, hn.1]; omega
  ·rw [e2]; exact quot 1 (by omega) hn.2
 ·intro hds
  rw [if_neg (by omega)] at hn
  refine ⟨by omega, by omega, by omega, by omega, ?_, ?_⟩
  ·rw [e2, hn.1]; omega
  ·rw [e2]; have := quot 0 (by omega) (by rw [hn.2]; rfl); rw [Int.natCast_zero, Int.add_zero] at this; exact this
theorem rm_end {N d : Nat} {i q r : Int} {o : Bool} (h : Rm N d i q r o) (hi : i < 0) : r = ((N % d : Nat) : Int) ∧ (o = true → 9223372036854775808 ≤ N / d) ∧ (o = false → q = ((N / d : Nat) : Int) ∧ q ≤ 9223372036854775807) := by
 obtain ⟨lo, hi2, q0, q1, hr, hq⟩ := h
 have e : (i + 1).toNat = 0 := by omega
 rw [e, Nat.pow_zero, Nat.div_one] at hr hq
 refine ⟨hr, fun ho => ?_, fun ho => ?_⟩
 ·rw [if_pos ho] at hq; exact hq
 ·rw [if_neg (by simp [ho])] at hq; exact hq
theorem bit_low (N m : Nat) (hm : m < 64) : N % 18446744073709551616 / 2 ^ m % 2 = N / 2 ^ m % 2 := by
 have e : (18446744073709551616 : Nat) = 2 ^ m * 2 ^ (64 - m) := by rw [← Nat.pow_add, show m + (64 - m) = 64 by omega]
 rw [e, Nat.mod_mul_right_div_self]
 have e3 : 64 - m = (63 - m) + 1 := by omega
 rw [e3, Nat.pow_succ, Nat.mod_mul_left_mod]
theorem bit_high (N m : Nat) : N / 18446744073709551616 / 2 ^ m % 2 = N / 2 ^ (64 + m) % 2 := by
 rw [Nat.div_div_eq_div_mul, Nat.pow_add]
end Fx
end
end Go.Proofs.YtbakngbmfgnmcaaGreatDoor
